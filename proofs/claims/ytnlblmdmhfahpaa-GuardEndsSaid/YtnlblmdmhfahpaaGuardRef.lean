/- The document's own guard: Branch. -/
import Derived.Test.YtnlblmdmhfahpaaGuard3
namespace Go.Proofs.Ytnlblmdmhfahpaa
open Go.RowKit ObjM
namespace GuardD
open LabelM LabelD GuardM

theorem infoRegR : (Try.prog.info? 58).map (fun i => (i.zero, i.size, i.bytes)) = some (some (.agg #[.int .i64 0, .int .i64 0, .int .u64 0]), 3, 24) := by kernel_rfl
/-- Block R is the document's own guard. -/
def IsR (w : World) (B R lab : Nat) (rs : List Reg) : Prop :=
  ∃ sv, Has w R 31 [.int .u64 lab, sv] ∧ w.ownsRow B 58 3 sv rs.length (rowV rs) ∧ B ≤ R ∧ lab < M64 ∧ Small rs
def DidR (w : World) (B R lab : Nat) (rs : List Reg) (e : Ending) (w' : World) : Prop :=
  e = .returned (.tuple #[]) ∧ IsR w' B R lab rs ∧ KeepsT [31, 58] w w' ∧ Below B w w'
theorem IsR.keeps {w w' : World} {B R lab : Nat} {rs : List Reg} {ts : List TypeId} (h : IsR w B R lab rs) (k : KeepsT ts w w') (h1 : 31 ∉ ts) (h2 : 58 ∉ ts) : IsR w' B R lab rs := by
  obtain ⟨sv, hG, hO, h3⟩ := h
  exact ⟨sv, hG.keepsT k h1, own_keepsT hO k h2, h3⟩
theorem IsR.alloc {w : World} {B R lab : Nat} {rs : List Reg} (h : IsR w B R lab rs) (o : Go.Obj) : IsR (w.alloc o) B R lab rs := h.keeps (ts := []) ((KeepsT.refl _ w).alloc o) (by simp) (by simp)
theorem IsR.label {w : World} {B R lab : Nat} {rs : List Reg} (h : IsR w B R lab rs) {l : Nat} (hl : l < M64) :
    IsR (w.setCell ⟨R, 0, none⟩ (.int .u64 (l : Int))) B R l rs ∧ KeepsT [31] w (w.setCell ⟨R, 0, none⟩ (.int .u64 (l : Int))) ∧ Below B w (w.setCell ⟨R, 0, none⟩ (.int .u64 (l : Int))) := by
  obtain ⟨sv, hG, hO, h3, h4, h5⟩ := h
  refine ⟨⟨sv, hG.set 0 _, ?_, h3, hl, h5⟩, (KeepsT.refl _ w).set hG (.inl (by simp)) 0 _, (Below.refl B w).setCell (p := ⟨R, 0, none⟩) h3 _⟩
  refine own_keeps hO (Keeps.set _ R 0 _) fun g hg => ?_
  have := own_ne hO hG (by decide) g hg
  simpa using this
/-- What the last region's cells are. -/
theorem last_cells {B e : Nat} {w : World} {sv : Value} {pre : List Reg} {r : Reg} (hown : w.ownsRow B e 3 sv (pre ++ [r]).length (rowV (pre ++ [r]))) :
    ∃ g cap, sv = .slice (some ⟨g, 0, none⟩) (pre.length + 1) cap ∧ pre.length + 1 ≤ cap ∧ cap ≤ maxLen ∧ g < w.heap.size ∧ w.cell? ⟨g, pre.length * 3, none⟩ = some (.int .i64 r.join) ∧ w.cell? ⟨g, pre.length * 3 + 1, none⟩ = some (.int .i64 r.tag) ∧ w.cell? ⟨g, pre.length * 3 + 2, none⟩ = some (.int .u64 (r.was : Int)) := by
  rcases own_shape hown with ⟨_, h, _⟩ | ⟨g, cap, cs, rfl, _, hh, hn, hm, _, _⟩
  · simp at h
  · rw [List.length_append] at hn hown ⊢
    obtain ⟨q0, q1, q2⟩ := rowV_last pre r
    have hc : ∀ (i : Nat) x, (rowV (pre ++ [r]))[i]? = some x → w.cell? ⟨g, i, none⟩ = some x := by
      intro i x hx
      obtain ⟨hi, he⟩ := List.getElem?_eq_some_iff.1 hx
      rw [own_cell hown i hi, he]
    exact ⟨g, cap, rfl, hn, hm, hh.lt, hc _ _ q0, hc _ _ q1, hc _ _ q2⟩

set_option maxRecDepth 100000 in
set_option maxHeartbeats 1000000 in
theorem refBranch_stay (j' : Int) (l : Nat) (hl : l < M64) (t : Int) (B R lab : Nat) (pre : List Reg) (r : Reg) (hrs : pre.length ≤ 1000000) (hrj : r.join = j') (w : World) (h : IsR w B R lab (pre ++ [r])) (ji : Int) (hji : (0 ≤ ji + 1 ∧ j' = ji) ∨ (ji < -1 ∧ j' = -1)) :
    Calls Try.prog 10 #[.pointer (some ⟨R, 0, none⟩), .int .u64 l, .int .i64 ji, .int .i64 t] w (DidR w B R (lab ||| l) (pre ++ [r])) := by
  have HI := Lib.hid h
  obtain ⟨sv, hG, hown, hBR, hlab, hsm⟩ := h
  obtain ⟨g, cap, rfl, hcap, hm, hg, g0, g1, g2⟩ := last_cells hown
  have c0 := hG.cell 0
  have c1 := hG.cell 1
  have hl1 := hG.lt
  have f0 := hG.frozen 0
  simp at c0 c1
  have HJ := fun W => Lib.hid (refJoin_any lab l hlab hl W)
  have w1 : IntKind.i64.wrap ((pre.length : Int) + 1 - 1) = pre.length := by rw [show (pre.length : Int) + 1 - 1 = pre.length by omega]; exact IntWalk.i64_in _ (by omega)
  have w2 : IntKind.i64.wrap (pre.length : Int) = pre.length := IntWalk.i64_in _ (by omega)
  have e0 : (((pre.length : Int) + 1) == 0) = false := by simp; omega
  have e1 : (ji != ji) = false := by simp
  clear hG hown hsm
  rw [hrj] at g0
  rcases hji with ⟨hji, rfl⟩ | ⟨hji, rfl⟩
  all_goals
    go_enter Try.func10, Try.ntmps10
    go_wp2
    go_quiet (fail)
    go_wp2_with fail
    with_reducible refine ((HJ _).out).mono ?_
    rintro e w4 ⟨rfl, hw4⟩
    subst hw4
    go_wp2
    go_end0
    have hI2 := HI.out.keeps ((KeepsT.refl [] w).drewN nq) (by simp) (by simp)
    obtain ⟨q1, q2, q3⟩ := hI2.label (or_lt hlab hl)
    exact ⟨rfl, q1, ((KeepsT.refl _ w).drewN nq).trans q2 (by simp), (below_drewN (Below.refl _ _) nq).trans q3⟩

/-- The append of a region. -/
theorem app_R (B R : Nat) (hBR : B ≤ R) (sv : Value) (lab n : Nat) (xs : List Value) (hn : n ≤ 1000000) (t : Int) (w : World) (hBw : B ≤ w.heap.size) (h : Has w R 31 [.int .u64 lab, sv]) (hown : w.ownsRow B 58 3 sv n xs) (j : Int) :
    ∃ g' cap' w1, (Builtin.append_ #[29, 29] 29 #[sv, .slice (some ⟨w.heap.size, 0, none⟩) 1 1]).run Try.prog ((w.alloc (.cells #[.int .i64 j, .int .i64 t, .int .u64 (lab : Int)] 58)).drew) = .ok (.slice (some ⟨g', 0, none⟩) (n + 1) cap') w1 ∧
      w1.cell? ⟨R, 0, none⟩ = some (.int .u64 lab) ∧ w1.frozen? ⟨R, 0, none⟩ = false ∧ w1.cell? ⟨R, 1, none⟩ = some sv ∧ w1.frozen? ⟨R, 1, none⟩ = false ∧ R < w1.heap.size ∧
      Has (w1.setCell ⟨R, 1, none⟩ (.slice (some ⟨g', 0, none⟩) (n + 1) cap')) R 31 [.int .u64 lab, .slice (some ⟨g', 0, none⟩) (n + 1) cap'] ∧
      (w1.setCell ⟨R, 1, none⟩ (.slice (some ⟨g', 0, none⟩) (n + 1) cap')).ownsRow B 58 3 (.slice (some ⟨g', 0, none⟩) (n + 1) cap') (n + 1) (xs ++ [.int .i64 j, .int .i64 t, .int .u64 (lab : Int)]) ∧
      KeepsT [31, 58] w (w1.setCell ⟨R, 1, none⟩ (.slice (some ⟨g', 0, none⟩) (n + 1) cap')) ∧ Below B w (w1.setCell ⟨R, 1, none⟩ (.slice (some ⟨g', 0, none⟩) (n + 1) cap')) := by
  obtain ⟨i0, hi, hz0, hz1, hz2⟩ := info_parts infoRegR
  have hown1 : ((w.alloc (.cells #[.int .i64 j, .int .i64 t, .int .u64 (lab : Int)] 58)).drew).ownsRow B 58 3 sv n xs := (hown.alloc _).drew
  obtain ⟨v', w1, hrun, hown', hgrow, -⟩ := run_append_own (P := Try.prog) (w := (w.alloc (.cells #[.int .i64 j, .int .i64 t, .int .u64 (lab : Int)] 58)).drew) B 29 29 58 i0 (.agg #[.int .i64 0, .int .i64 0, .int .u64 0]) 3 24 Try.underlying29 hi hz0 hz1 hz2 rfl (by decide) sv n xs hown1 ⟨w.heap.size, 0, none⟩ 1 1 [.int .i64 j, .int .i64 t, .int .u64 (lab : Int)] rfl (by
    intro k u hu
    have hk := (List.getElem?_eq_some_iff.1 hu).1
    match k, hk with
    | 0, _ => simpa [Addr.add, World.cell?_alloc_at] using hu
    | 1, _ => simpa [Addr.add, World.cell?_alloc_at] using hu
    | 2, _ => simpa [Addr.add, World.cell?_alloc_at] using hu) (by simp [Value.oneCell']) (by unfold maxLen; omega) (by omega) (by simp; omega)
  obtain ⟨g', cap', rfl⟩ := ownsRow_succ hown'
  have hk1 : KeepsT [58] w w1 := (((KeepsT.refl _ w).alloc _).drew).grown hgrow (fun g hg => .inr (by
    obtain ⟨cs, hc⟩ := own_row hown1 g hg
    exact ⟨_, cs, hc, by simp⟩))
  have hb1 : Below B w w1 := (((Below.refl B w).alloc (by omega) _).drew).grown hgrow (by simp; omega) (fun g hg => (own_lt hown1 g hg).1)
  have hG1 : Has w1 R 31 [.int .u64 lab, sv] := h.keepsT hk1 (by decide)
  refine ⟨g', cap', w1, hrun, by have := hG1.cell 0; simpa using this, hG1.frozen 0, by have := hG1.cell 1; simpa using this, hG1.frozen 1, hG1.lt, hG1.set 1 _, ?_, (hk1.mono (by simp)).set hG1 (.inl (by simp)) 1 _, hb1.setCell (p := ⟨R, 1, none⟩) hBR _⟩
  exact own_keeps hown' (Keeps.set w1 R 1 _) (fun g hg => by
    have := own_ne hown' hG1 (by decide) g hg
    simpa using this)

set_option maxRecDepth 100000 in
set_option maxHeartbeats 1000000 in
theorem refBranch_push (j' : Int) (l : Nat) (hl : l < M64) (t : Int) (B R lab : Nat) (rs : List Reg) (hrs : rs.length ≤ 1000000) (hrj : rs = [] ∨ ∃ pre r, rs = pre ++ [r] ∧ r.join ≠ j') (w : World) (hBw : B ≤ w.heap.size) (h : IsR w B R lab rs) (ji : Int) (hji : (0 ≤ ji + 1 ∧ j' = ji) ∨ (ji < -1 ∧ j' = -1)) :
    Calls Try.prog 10 #[.pointer (some ⟨R, 0, none⟩), .int .u64 l, .int .i64 ji, .int .i64 t] w (DidR w B R (lab ||| l) (rs ++ [⟨j', t, lab⟩])) := by
  obtain ⟨sv, hG, hown, hBR, hlab, hsm⟩ := h
  have HS : Hid (Small (rs ++ [⟨j', t, lab⟩])) := Lib.hid (by
    intro r hr
    rcases List.mem_append.1 hr with h | h
    · exact hsm r h
    · have : r = ⟨j', t, lab⟩ := by simpa using h
      rw [this]
      exact hlab)
  have HG := Lib.hid hG
  have HO := Lib.hid hown
  have hm : ∃ (m : Nat) (a : Option Addr) (cap : Nat), sv = .slice a m cap ∧ ((m = 0) ∨ ∃ (n g : Nat) (x : Int), m = n + 1 ∧ a = some ⟨g, 0, none⟩ ∧ n ≤ 1000000 ∧ x ≠ j' ∧ w.cell? ⟨g, n * 3, none⟩ = some (.int .i64 x)) := by
    rcases hrj with rfl | ⟨pre, r, rfl, hx⟩
    · rcases own_shape hown with ⟨h, _⟩ | ⟨g, cap, cs, h, _⟩
      · exact ⟨0, none, 0, h, .inl rfl⟩
      · exact ⟨0, _, cap, h, .inl rfl⟩
    · obtain ⟨g, cap, rfl, hcap, hm, hg, g0, g1, g2⟩ := last_cells hown
      exact ⟨_, _, cap, rfl, .inr ⟨pre.length, g, r.join, rfl, rfl, by simp at hrs; omega, hx, g0⟩⟩
  obtain ⟨m, a, cap, rfl, hm⟩ := hm
  have c1 := hG.cell 1
  have hl1 := hG.lt
  simp at c1
  have HJ := fun W => Lib.hid (refJoin_any lab l hlab hl W)
  clear hG hown hsm hrj
  rcases hji with ⟨hji, rfl⟩ | ⟨hji, rfl⟩
  all_goals
    rcases hm with rfl | ⟨n, g, x, rfl, rfl, hn, hx, g0⟩
    all_goals
      try (have e0 : (((n : Int) + 1) == 0) = false := by simp; omega)
      try (have e1 : (x != j') = true := by simpa using hx)
      try (have e1 : (x != -1) = true := by simpa using hx)
      go_enter Try.func10, Try.ntmps10
      go_wp2
      go_quiet (fail)
      go_wp2
      try clear e0
      try clear e1
      have HAf := Lib.hid (app_R B R hBR _ lab rs.length (rowV rs) hrs t (w.drewN nq) hBw (HG.out.keepsT ((KeepsT.refl [] w).drewN nq) (by simp)) (own_keepsT HO.out ((KeepsT.refl [] w).drewN nq) (by simp)))
      have hG2 := HG.out.keepsT ((KeepsT.refl [] w).drewN nq) (by simp)
      clear c1 hl1
      generalize hw2 : w.drewN nq = w2 at HAf hG2 ⊢
      have c0 := hG2.cell 0
      have c1' := hG2.cell 1
      simp at c0 c1'
      have hl2 := hG2.lt
      clear hG2
      have HW := Lib.hid hw2
      clear hw2
      first | (have HA1 := Lib.hid (HAf.out j')) | (have HA1 := Lib.hid (HAf.out (-1)))
      clear HAf
      obtain ⟨g', cap', w1, hrun, d0, fd0, d1, fd1, dl, hG3, hO3, hk3, hb3⟩ := HA1.out
      clear HA1
      rw [← rowV_snoc rs ⟨_, t, lab⟩] at hO3
      have HI : Hid (IsR (w1.setCell ⟨R, 1, none⟩ (.slice (some ⟨g', 0, none⟩) (rs.length + 1) cap')) B R lab (rs ++ [⟨_, t, lab⟩])) := Lib.hid ⟨_, hG3, by rw [List.length_append]; exact hO3, hBR, hlab, HS.out⟩
      have HK := Lib.hid hk3
      have HB3 := Lib.hid hb3
      clear hG3 hO3 hk3 hb3
      go_region_law (refine step_append_own rfl (.tmp 37) (.tmp 45) 29 rfl _ _ _ _ rfl rfl hrun ?_)
      all_goals
        clear hrun
        go_wp2_with fail
        with_reducible refine ((HJ _).out).mono ?_
        rintro e w4 ⟨rfl, hw4⟩
        subst hw4
        go_wp2
        go_end0
        obtain ⟨q1, q2, q3⟩ := HI.out.label (or_lt hlab hl)
        have hww := HW.out
        subst hww
        exact ⟨rfl, q1, ((((KeepsT.refl _ w).drewN nq).trans HK.out (fun _ h => h)).trans q2 (by simp)), ((below_drewN (Below.refl _ _) nq).trans HB3.out).trans q3⟩
theorem refBranch_any (ji t : Int) (l : Nat) (hl : l < M64) (B R lab : Nat) (rs : List Reg) (hrs : rs.length ≤ 1000000) (w : World) (hBw : B ≤ w.heap.size) (h : IsR w B R lab rs) :
    Calls Try.prog 10 #[.pointer (some ⟨R, 0, none⟩), .int .u64 l, .int .i64 ji, .int .i64 t] w (DidR w B R (lab ||| l) (branchR rs lab (max ji (-1)) t)) := by
  have hji : (0 ≤ ji + 1 ∧ max ji (-1) = ji) ∨ (ji < -1 ∧ max ji (-1) = -1) := by omega
  generalize max ji (-1) = j' at hji ⊢
  rcases last_split rs with rfl | ⟨pre, r, rfl⟩
  · exact refBranch_push j' l hl t B R lab [] hrs (.inl rfl) w hBw h ji hji
  · by_cases hj : r.join = j'
    · have hb : branchR (pre ++ [r]) lab j' t = pre ++ [r] := by simp [branchR, topAt, hj]
      rw [hb]
      exact refBranch_stay j' l hl t B R lab pre r (by simp at hrs; omega) hj w h ji hji
    · have hb : branchR (pre ++ [r]) lab j' t = (pre ++ [r]) ++ [⟨j', t, lab⟩] := by simp [branchR, topAt, hj]
      rw [hb]
      exact refBranch_push j' l hl t B R lab _ hrs (.inr ⟨pre, r, rfl, hj⟩) w hBw h ji hji
end GuardD
end Go.Proofs.Ytnlblmdmhfahpaa
