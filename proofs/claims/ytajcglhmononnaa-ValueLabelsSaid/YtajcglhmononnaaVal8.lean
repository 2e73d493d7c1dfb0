/- Do, where something goes wrong: its closure where the frame panics. -/
import Derived.Test.YtajcglhmononnaaVal6
import Derived.Test.YtajcglhmononnaaVal4
namespace Go.Proofs.Ytajcglhmononnaa
open Go.RowKit ObjM
namespace ValD
open NumM LabelM LabelD NumD

set_option maxRecDepth 100000 in
set_option maxHeartbeats 1000000 in
theorem because_any (why : ByteArray) (w : World) :
    Calls Try.prog 27 #[.iface 47 (.agg #[.string why])] w fun e w' => e = .returned (.string why) ∧ Below w.heap.size w w' := by
  have hta : ∀ W, (Instr.typeAssert (.iface 47 (.agg #[.string why])) 20 47 true).run Try.prog W = .ok (.tuple #[.agg #[.string why], .bool true]) W := by intro W; kernel_rfl
  go_enter Try.func27, Try.ntmps27
  go_wp2
  go_ret
  refine ⟨rfl, ?_⟩
  repeat (first | exact Below.refl _ _ | refine Below.alloc ?_ (by simp) _ | refine Below.setCell ?_ (by simp) _)

theorem catch_end {w w1 : World} {Q R B : Nat} {q0 q1 q2 q3 r0 : Value} {why : ByteArray} {x : Int} (hQ : Has w Q 25 [q0, q1, q2, q3]) (hR : Has w R 9 [r0]) (hn : Q ≠ R)
    (hk : KeepsT [] w w1) (hb : Below B w w1) (h1 : B ≤ Q) (h2 : B ≤ R) :
    Below B w (((((w1.setCell ⟨Q, 0, none⟩ (.int .i64 0)).setCell ⟨Q, 1, none⟩ (.int .i64 0)).setCell ⟨Q, 2, none⟩ (.string ⟨#[]⟩)).setCell ⟨Q, 3, none⟩ (.int .u64 x)).setCell ⟨R, 0, none⟩ (.string why)) ∧
    Has (((((w1.setCell ⟨Q, 0, none⟩ (.int .i64 0)).setCell ⟨Q, 1, none⟩ (.int .i64 0)).setCell ⟨Q, 2, none⟩ (.string ⟨#[]⟩)).setCell ⟨Q, 3, none⟩ (.int .u64 x)).setCell ⟨R, 0, none⟩ (.string why)) Q 25 [.int .i64 0, .int .i64 0, .string ⟨#[]⟩, .int .u64 x] ∧
    Has (((((w1.setCell ⟨Q, 0, none⟩ (.int .i64 0)).setCell ⟨Q, 1, none⟩ (.int .i64 0)).setCell ⟨Q, 2, none⟩ (.string ⟨#[]⟩)).setCell ⟨Q, 3, none⟩ (.int .u64 x)).setCell ⟨R, 0, none⟩ (.string why)) R 9 [.string why] := by
  have q := (((((hQ.keepsT hk (by simp)).set 0 (.int .i64 0)).set 1 (.int .i64 0)).set 2 (.string ⟨#[]⟩)).set 3 (.int .u64 x))
  have hr := hR.keepsT hk (by simp)
  refine ⟨((((hb.setCell h1 _).setCell h1 _).setCell h1 _).setCell h1 _).setCell h2 _, ?_, ?_⟩
  · exact q.keeps (Keeps.set _ R 0 _) (by simpa using hn)
  · exact ((((hr.keeps (Keeps.set _ Q 0 _) (by simpa using hn.symm)).keeps (Keeps.set _ Q 1 _) (by simpa using hn.symm)).keeps (Keeps.set _ Q 2 _) (by simpa using hn.symm)).keeps (Keeps.set _ Q 3 _) (by simpa using hn.symm)).set 0 _
set_option maxRecDepth 100000 in
set_option maxHeartbeats 2000000 in
theorem catch_panicking (P Q R B : Nat) (why : ByteArray) (x : Int) (q0 q1 q2 q3 r0 : Value) (w : World)
    (hP : Has w P 23 [.int .u64 x]) (hQ : Has w Q 25 [q0, q1, q2, q3]) (hR : Has w R 9 [r0])
    (hB : B ≤ Q ∧ B ≤ R) :
    CallsD Try.prog 26 #[.pointer (some ⟨P, 0, none⟩), .pointer (some ⟨Q, 0, none⟩), .pointer (some ⟨R, 0, none⟩)] (.panicking (pan why)) w fun e u' w' =>
      e = .returned (.tuple #[]) ∧ u' = .panicking [{ v := .iface 47 (.agg #[.string why]), recovered := true }] ∧ Below B w w' ∧
      Has w' Q 25 [.int .i64 0, .int .i64 0, .string ⟨#[]⟩, .int .u64 x] ∧ Has w' R 9 [.string why] := by
  have HBc := fun W => Lib.hid (because_any why W)
  have nPQ : P ≠ Q := hP.ne hQ (by decide +kernel)
  have nPR : P ≠ R := hP.ne hR (by decide +kernel)
  have nQR : Q ≠ R := hQ.ne hR (by decide +kernel)
  refine callsD_of_wpS Try.func26 rfl fun c₀ cs hu => ?_
  apply wpS_seq
  apply wpS_region
  simp [wpOpsS, go_sem, recoverD, hu, pan, Try.ntmps26, Exit.thenS]
  apply wpS_seq
  apply wpS_region
  simp [wpOpsS, go_sem, Exit.thenS]
  refine wpS_cond (t := true) (by simp [Act.eval, Array.replicate]) ?_
  simp only [if_true]
  refine wpS_of_wp ?_
  have p0 := hP.cell 0
  have z0 := hQ.frozen 0
  have z1 := hQ.frozen 1
  have z2 := hQ.frozen 2
  have z3 := hQ.frozen 3
  have y0 := hQ.cell 0
  have y1 := hQ.cell 1
  have y2 := hQ.cell 2
  have y3 := hQ.cell 3
  have x0 := hR.cell 0
  have u0 := hR.frozen 0
  have lP := hP.lt
  have lQ := hQ.lt
  have lR := hR.lt
  simp at p0 y0 y1 y2 y3 x0
  go_region_with
    (first
      | (go_at_call 27
         go_loud
         (with_reducible refine ((HBc _).out).mono ?_
          rintro e w1 ⟨rfl, hb1⟩
          obtain ⟨hc, hf⟩ := bcell' hb1
          have hKT : KeepsT [] w w1 := (KeepsT.refl [] w).drew.trans (KeepsT.below hb1 []) (by simp)
          have hBB : Below B w w1 := (Below.refl _ w).drew.trans (hb1.mono (by simp; omega))
          clear hb1
          try simp at hc
          try simp at hf)))
  all_goals
    refine ⟨rfl, _, rfl, _, by simp [results, Try.results26, go_sem], rfl, rfl, ?_⟩
    exact catch_end hQ hR nQR hKT hBB hB.1 hB.2
end ValD
end Go.Proofs.Ytajcglhmononnaa
