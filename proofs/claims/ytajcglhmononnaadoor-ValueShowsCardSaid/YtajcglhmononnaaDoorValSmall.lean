/- The law's own test of sizes. -/
import Derived.Test.YtajcglhmononnaaDoorVal
namespace Go.Proofs.YtajcglhmononnaaDoor
open Go.RowKit ObjM
namespace ValD
open LabelM LabelD

def smallB (vs : List V) : Bool := vs.all fun v => decide (v.s.size ≤ 1000)
set_option maxRecDepth 100000 in
set_option maxHeartbeats 1000000 in
theorem small2_any (a b : V) (ha : a.s.size ≤ 9223372036854775807) (hb : b.s.size ≤ 9223372036854775807) (w : World) (n : Nat) (hA : Has w n 25 (a.cells.toList ++ b.cells.toList)) :
    Calls Tryd.prog 5 #[.slice (some ⟨n, 0, none⟩) 2 2] w fun e w' => e = .returned (.bool (decide (a.s.size ≤ 1000) && decide (b.s.size ≤ 1000))) ∧ Below w.heap.size w w' := by
  obtain ⟨ak, an, sa, al⟩ := a
  obtain ⟨bk, bn, sb, bl⟩ := b
  have c0 := hA.cell 0
  have c1 := hA.cell 1
  have c2 := hA.cell 2
  have c3 := hA.cell 3
  have c4 := hA.cell 4
  have c5 := hA.cell 5
  have c6 := hA.cell 6
  have c7 := hA.cell 7
  have hlt := hA.lt
  simp [V.cells] at c0 c1 c2 c3 c4 c5 c6 c7
  simp only at ha hb ⊢
  clear hA
  by_cases h1 : 1000 < sa.size
  · have e1 : (decide (sa.size ≤ 1000) && decide (sb.size ≤ 1000)) = false := by simp; omega
    rw [e1]
    clear e1
    go_enter Tryd.func5, Tryd.ntmps5
    go_wp2
    refine wp_loop_rounds 3 ?_
    rw [rounds_succ]
    go_wp2
    go_ret
    exact ⟨rfl, alloc1⟩
  · have h1' : sa.size ≤ 1000 := by omega
    by_cases h2 : 1000 < sb.size
    · have e1 : (decide (sa.size ≤ 1000) && decide (sb.size ≤ 1000)) = false := by simp; omega
      rw [e1]
      clear e1 h1
      go_enter Tryd.func5, Tryd.ntmps5
      go_wp2
      refine wp_loop_rounds 3 ?_
      rw [rounds_succ]
      go_wp2
      rw [rounds_succ]
      go_wp2
      go_ret
      exact ⟨rfl, alloc2⟩
    · have h2' : sb.size ≤ 1000 := by omega
      have e1 : (decide (sa.size ≤ 1000) && decide (sb.size ≤ 1000)) = true := by simp; omega
      rw [e1]
      clear e1 h1 h2
      go_enter Tryd.func5, Tryd.ntmps5
      go_wp2
      refine wp_loop_rounds 3 ?_
      rw [rounds_succ]
      go_wp2
      rw [rounds_succ]
      go_wp2
      rw [rounds_succ]
      go_wp2
      go_ret
      exact ⟨rfl, alloc2⟩

set_option maxRecDepth 100000 in
set_option maxHeartbeats 1000000 in
theorem small1_any (a : V) (ha : a.s.size ≤ 9223372036854775807) (w : World) (n : Nat) (hA : Has w n 25 a.cells.toList) :
    Calls Tryd.prog 5 #[.slice (some ⟨n, 0, none⟩) 1 1] w fun e w' => e = .returned (.bool (decide (a.s.size ≤ 1000))) ∧ Below w.heap.size w w' := by
  obtain ⟨ak, an, sa, al⟩ := a
  have c0 := hA.cell 0
  have c1 := hA.cell 1
  have c2 := hA.cell 2
  have c3 := hA.cell 3
  have hlt := hA.lt
  simp [V.cells] at c0 c1 c2 c3
  simp only at ha ⊢
  clear hA
  by_cases h1 : 1000 < sa.size
  · have e1 : decide (sa.size ≤ 1000) = false := by simp; omega
    rw [e1]
    clear e1
    go_enter Tryd.func5, Tryd.ntmps5
    go_wp2
    refine wp_loop_rounds 2 ?_
    rw [rounds_succ]
    go_wp2
    go_ret
    exact ⟨rfl, alloc1⟩
  · have h1' : sa.size ≤ 1000 := by omega
    have e1 : decide (sa.size ≤ 1000) = true := by simp; omega
    rw [e1]
    clear e1 h1
    go_enter Tryd.func5, Tryd.ntmps5
    go_wp2
    refine wp_loop_rounds 2 ?_
    rw [rounds_succ]
    go_wp2
    rw [rounds_succ]
    go_wp2
    go_ret
    exact ⟨rfl, alloc1⟩

theorem val_fields : ∃ fs, Tryd.prog.underlying 25 = some (.struct fs) ∧ Tryd.prog.cellTypes Tryd.prog.depth 25 = some [3, 2, 9, 23] ∧ Tryd.prog.cellsOf 25 = 4 := ⟨_, Tryd.underlying25, by kernel_rfl, by kernel_rfl⟩
/-- A value by value. -/
theorem open_val {W : World} {r : Reach} {b0 : Nat} {v : Value} (h : Value.okWide Tryd.prog W r b0 25 v) :
    ∃ a : V, v = a.agg ∧ a.l < M64 ∧ a.s.size ≤ 9223372036854775807 ∧ (-9223372036854775808 ≤ a.k ∧ a.k ≤ 9223372036854775807) ∧ (-9223372036854775808 ≤ a.n ∧ a.n ≤ 9223372036854775807) := by
  obtain ⟨fs, h1, h2, h3⟩ := val_fields
  obtain ⟨cs, rfl, hl, hc⟩ := Shell.agg_cells h1 h2 h
  rw [h3] at hl
  match cs, hl, hc with
  | [c0, c1, c2, c3], _, hc =>
    obtain ⟨u0, e0, o0⟩ := hc 0 c0 rfl
    obtain ⟨u1, e1, o1⟩ := hc 1 c1 rfl
    obtain ⟨u2, e2, o2⟩ := hc 2 c2 rfl
    obtain ⟨u3, e3, o3⟩ := hc 3 c3 rfl
    simp at e0 e1 e2 e3
    subst e0 e1 e2 e3
    obtain ⟨k, rfl, hk⟩ := Shell.ok_int Tryd.underlying3 o0
    obtain ⟨n, rfl, hn⟩ := Shell.ok_int Tryd.underlying2 o1
    obtain ⟨s, rfl, hs⟩ := Shell.ok_string Tryd.underlying9 o2
    obtain ⟨l, rfl, hl⟩ := Shell.ok_int Tryd.underlying23 o3
    have hl' := Shell.has_u64 hl
    obtain ⟨m, rfl⟩ : ∃ n : Nat, l = n := ⟨l.toNat, by omega⟩
    exact ⟨⟨k, n, s, m⟩, rfl, by show m < M64; unfold M64; omega, hs, Shell.has_i64 hk, Shell.has_i64 hn⟩
end ValD
end Go.Proofs.YtajcglhmononnaaDoor
