/- Branch and At of package guard. -/
import Derived.Test.YtnlblmdmhfahpaaGuard
import Derived.StillTailTactics
namespace Go.Proofs.Ytnlblmdmhfahpaa
open Go.RowKit ObjM
namespace GuardD
open LabelM LabelD GuardM

/-- Block G is a guard. -/
def IsG (w : World) (B G lab : Nat) (rs : List Reg) : Prop :=
  ∃ sv, Has w G 50 [sv, .int .u64 lab] ∧ w.ownsRow B 52 3 sv rs.length (rowV rs) ∧ B ≤ G ∧ lab < M64 ∧ Small rs
def DidG (w : World) (B G lab : Nat) (rs : List Reg) (e : Ending) (w' : World) : Prop :=
  e = .returned (.tuple #[]) ∧ IsG w' B G lab rs ∧ KeepsT [50, 52] w w' ∧ Below B w w'

theorem join2_any (a b : Nat) (ha : a < M64) (hb : b < M64) (w : World) :
    Calls Try.prog 20 #[.slice (some ⟨w.heap.size, 0, none⟩) 2 2] (w.alloc (.cells #[.int .u64 a, .int .u64 b] 23)) fun e w' => e = .returned (.int .u64 ((a ||| b : Nat) : Int)) ∧ w.alloc (.cells #[.int .u64 a, .int .u64 b] 23) = w' := by
  have h := join_any w.heap.size 0 2 [a, b] (by intro x hx; simp at hx; rcases hx with rfl | rfl <;> assumption) (by simp) (w.alloc (.cells #[.int .u64 a, .int .u64 b] 23)) (by
    intro j x hx
    rw [World.cell?_alloc_at _ _ _ _ rfl]
    match j, hx with
    | 0, hx => simp at hx; subst hx; rfl
    | 1, hx => simp at hx; subst hx; rfl)
  rw [show joinL [a, b] = a ||| b by simp [joinL]] at h
  exact h

theorem IsG.keeps {w w' : World} {B G lab : Nat} {rs : List Reg} {ts : List TypeId} (h : IsG w B G lab rs) (k : KeepsT ts w w') (h1 : 50 ∉ ts) (h2 : 52 ∉ ts) : IsG w' B G lab rs := by
  obtain ⟨sv, hG, hO, h3⟩ := h
  exact ⟨sv, hG.keepsT k h1, own_keepsT hO k h2, h3⟩
theorem IsG.alloc {w : World} {B G lab : Nat} {rs : List Reg} (h : IsG w B G lab rs) (o : Go.Obj) : IsG (w.alloc o) B G lab rs := h.keeps (ts := []) ((KeepsT.refl _ w).alloc o) (by simp) (by simp)
theorem IsG.drew {w : World} {B G lab : Nat} {rs : List Reg} (h : IsG w B G lab rs) : IsG w.drew B G lab rs := h.keeps (ts := []) ((KeepsT.refl _ w).drew) (by simp) (by simp)
/-- A store into the label. -/
theorem IsG.label {w : World} {B G lab : Nat} {rs : List Reg} (h : IsG w B G lab rs) {l : Nat} (hl : l < M64) :
    IsG (w.setCell ⟨G, 1, none⟩ (.int .u64 (l : Int))) B G l rs ∧ KeepsT [50] w (w.setCell ⟨G, 1, none⟩ (.int .u64 (l : Int))) ∧ Below B w (w.setCell ⟨G, 1, none⟩ (.int .u64 (l : Int))) := by
  obtain ⟨sv, hG, hO, h3, h4, h5⟩ := h
  refine ⟨⟨sv, hG.set 1 _, ?_, h3, hl, h5⟩, (KeepsT.refl _ w).set hG (.inl (by simp)) 1 _, (Below.refl B w).setCell (p := ⟨G, 1, none⟩) h3 _⟩
  refine own_keeps hO (Keeps.set _ G 1 _) fun g hg => ?_
  have := own_ne hO hG (by decide) g hg
  simpa using this

set_option maxRecDepth 100000 in
set_option maxHeartbeats 1000000 in
/-- Branch, where a region comes. -/
theorem branch_push (j' : Int) (hj' : -1 ≤ j') (l : Nat) (hl : l < M64) (t : Int) (B G lab : Nat) (rs : List Reg) (hrs : rs.length ≤ 1000000) (w : World) (hBw : B ≤ w.heap.size) (sv : Value) (hG : Has w G 50 [sv, .int .u64 lab]) (hown : w.ownsRow B 52 3 sv rs.length (rowV rs)) (hBG : B ≤ G) (hlab : lab < M64) (hsm : Small rs)
    (x y z : Int) (b : Bool) (hb : b = false ∨ (b = true ∧ x ≠ j')) (htop : Calls Try.prog 18 #[sv] w fun e w' => e = .returned (.tuple #[.agg #[.int .i64 x, .int .i64 y, .int .u64 z], .bool b]) ∧ Below w.heap.size w w') (ji : Int) (hji : (0 ≤ ji + 1 ∧ j' = ji) ∨ (ji < -1 ∧ j' = -1)) :
    Calls Try.prog 9 #[.pointer (some ⟨G, 0, none⟩), .int .u64 l, .int .i64 ji, .int .i64 t] w (DidG w B G (lab ||| l) (rs ++ [⟨j', t, lab⟩])) := by
  have h0 := hG.cell 0
  have hGl := hG.lt
  simp at h0
  have H1 := Lib.hid htop
  have HG := Lib.hid hG
  have HO := Lib.hid hown
  have HS : Hid (Small (rs ++ [⟨j', t, lab⟩])) := Lib.hid (by
    intro r hr
    rcases List.mem_append.1 hr with h | h
    · exact hsm r h
    · have : r = ⟨j', t, lab⟩ := by simpa using h
      rw [this]
      exact hlab)
  clear hG hown htop hsm
  rcases hji with ⟨hji, rfl⟩ | ⟨hji, rfl⟩
  all_goals
    rcases hb with rfl | ⟨rfl, hx⟩
    all_goals
      try (have hxb : (x != j') = true := by simpa using hx)
      try (have hxb : (x != -1) = true := by simpa using hx)
      go_enter Try.func9, Try.ntmps9
      go_wp2_with fail
      refine ((H1).out).mono ?_
      rintro e w1 ⟨rfl, hb1⟩
      go_wp2
      try clear hxb hx
      have hG1 : Has w1 G 50 [sv, .int .u64 lab] := HG.out.keepsT (KeepsT.below hb1 []) (by simp)
      have hG2 : Has (w1.alloc (.cells #[.int .i64 x, .int .i64 y, .int .u64 z] 52)).drew G 50 [sv, .int .u64 lab] := (hG1.keeps (Keeps.alloc [] w1 _) (by simp)).drew
      have hO2 : (w1.alloc (.cells #[.int .i64 x, .int .i64 y, .int .u64 z] 52)).drew.ownsRow B 52 3 sv rs.length (rowV rs) := ((own_keepsT HO.out (KeepsT.below hb1 []) (by simp)).alloc _).drew
      have hb2 : Below w.heap.size w (w1.alloc (.cells #[.int .i64 x, .int .i64 y, .int .u64 z] 52)).drew := (hb1.alloc hb1.size _).drew
      clear hG1
      refine wp_region_still_tail 10 (by kernel_rfl) (by kernel_rfl) ?_
      simp only [List.take_succ_cons, List.take_zero, List.drop_succ_cons, List.drop_zero]
      change wpStill _ _ (World.drew _) (fun a' => wpList _ _ _ _ a' (World.drew _)) _ _
      generalize World.drew _ = w2 at hG2 hO2 hb2 ⊢
      have c1 := hG2.cell 1
      simp at c1
      have hl1 := hG2.lt
      have HP := Lib.hid (fun j => push_any B G hBG sv (.int .u64 lab) rs.length (rowV rs) hrs j t lab w2 hG2 hO2)
      have HB2 := Lib.hid hb2
      clear hG2 hO2 hb2
      repeat still_step
      refine wpStill_nil ?_
      go_wp2_with fail
      refine (HP.out _).mono ?_
      rintro e w3 ⟨rfl, sv', hG3, hO3, hk3, hb3⟩
      have c3 := hG3.cell 1
      have hl3 := hG3.lt
      have f3 := hG3.frozen 1
      simp at c3
      have HJ := Lib.hid (join2_any lab l hlab hl w3)
      rw [← rowV_snoc rs ⟨_, t, lab⟩] at hO3
      have HI : Hid (IsG w3 B G lab (rs ++ [⟨_, t, lab⟩])) := Lib.hid ⟨sv', hG3, by rw [List.length_append]; exact hO3, hBG, hlab, HS.out⟩
      have HK := Lib.hid hk3
      have HB3 := Lib.hid hb3
      clear hG3 hO3 hk3 hb3
      go_wp2_with fail
      refine (HJ.out).mono ?_
      rintro e w4 ⟨rfl, hw4⟩
      subst hw4
      go_wp2
      go_end0
      obtain ⟨q1, q2, q3⟩ := HI.out.label (or_lt hlab hl)
      exact ⟨rfl, q1.alloc _, (((KeepsT.below HB2.out _).trans HK.out (by simp)).trans q2 (by simp)).alloc _, (((HB2.out.mono hBw).trans HB3.out).trans q3).alloc (Nat.le_trans (Nat.le_trans (Nat.le_trans hBw HB2.out.size) HK.out.size) q2.size) _⟩

set_option maxRecDepth 100000 in
set_option maxHeartbeats 1000000 in
/-- Branch, where the topmost region ends there already. -/
theorem branch_stay (j' : Int) (l : Nat) (hl : l < M64) (t : Int) (B G lab : Nat) (rs : List Reg) (w : World) (hBw : B ≤ w.heap.size) (sv : Value) (hG : Has w G 50 [sv, .int .u64 lab]) (hI : IsG w B G lab rs) (hlab : lab < M64)
    (y z : Int) (htop : Calls Try.prog 18 #[sv] w fun e w' => e = .returned (.tuple #[.agg #[.int .i64 j', .int .i64 y, .int .u64 z], .bool true]) ∧ Below w.heap.size w w') (ji : Int) (hji : (0 ≤ ji + 1 ∧ j' = ji) ∨ (ji < -1 ∧ j' = -1)) :
    Calls Try.prog 9 #[.pointer (some ⟨G, 0, none⟩), .int .u64 l, .int .i64 ji, .int .i64 t] w (DidG w B G (lab ||| l) rs) := by
  have h0 := hG.cell 0
  have hGl := hG.lt
  simp at h0
  have H1 := Lib.hid htop
  have HG := Lib.hid hG
  have HI := Lib.hid hI
  clear hG hI htop
  rcases hji with ⟨hji, rfl⟩ | ⟨hji, rfl⟩
  all_goals
    go_enter Try.func9, Try.ntmps9
    go_wp2_with fail
    refine ((H1).out).mono ?_
    rintro e w1 ⟨rfl, hb1⟩
    have hG1 : Has w1 G 50 [sv, .int .u64 lab] := HG.out.keepsT (KeepsT.below hb1 []) (by simp)
    have c1 := hG1.cell 1
    have hl1 := hG1.lt
    have f1 := hG1.frozen 1
    simp at c1
    have HI1 : Hid (IsG w1 B G lab rs) := Lib.hid (HI.out.keeps (KeepsT.below hb1 []) (by simp) (by simp))
    have HB1 := Lib.hid hb1
    clear hG1 hb1
    have hj := fun (o : Go.Obj) => join2_any lab l hlab hl (w1.alloc o)
    simp only [World.size_alloc] at hj
    have HJ := Lib.hid hj
    clear hj
    go_wp2_with fail
    with_reducible refine (HJ.out _).mono ?_
    rintro e w4 ⟨rfl, hw4⟩
    subst hw4
    go_wp2
    go_end0
    obtain ⟨q1, q2, q3⟩ := HI1.out.label (or_lt hlab hl)
    exact ⟨rfl, (q1.alloc _).alloc _, ((((KeepsT.below HB1.out _).trans q2 (by simp)).alloc _).alloc _), (((HB1.out.mono hBw).trans q3).alloc (Nat.le_trans (Nat.le_trans hBw HB1.out.size) q2.size) _).alloc (by simp; have := q2.size; have := HB1.out.size; omega) _⟩

theorem last_split {α : Type} (l : List α) : l = [] ∨ ∃ p x, l = p ++ [x] := by
  rcases List.eq_nil_or_concat l with h | ⟨p, x, h⟩
  · exact .inl h
  · exact .inr ⟨p, x, by rw [h, List.concat_eq_append]⟩
theorem top_of {B : Nat} {w : World} {sv : Value} {rs : List Reg} (hown : w.ownsRow B 52 3 sv rs.length (rowV rs)) (hrs : rs.length ≤ 1000000) :
    (rs = [] ∧ Calls Try.prog 18 #[sv] w fun e w' => e = .returned (.tuple #[.agg #[.int .i64 0, .int .i64 0, .int .u64 0], .bool false]) ∧ Below w.heap.size w w') ∨
    ∃ pre r, rs = pre ++ [r] ∧ ∃ g cap, sv = .slice (some ⟨g, 0, none⟩) (pre.length + 1) cap ∧ pre.length + 1 ≤ cap ∧ Calls Try.prog 18 #[sv] w fun e w' => e = .returned (.tuple #[.agg #[.int .i64 r.join, .int .i64 r.tag, .int .u64 (r.was : Int)], .bool true]) ∧ Below w.heap.size w w' := by
  rcases last_split rs with rfl | ⟨pre, r, rfl⟩
  · refine .inl ⟨rfl, top_none sv ?_ w⟩
    rcases own_shape hown with ⟨h, _⟩ | ⟨g, cap, cs, h, _⟩
    · exact .inl h
    · exact .inr ⟨_, _, h⟩
  · refine .inr ⟨pre, r, rfl, ?_⟩
    rcases own_shape hown with ⟨_, h, _⟩ | ⟨g, cap, cs, rfl, _, _, hn, _, _, _⟩
    · simp at h
    · rw [List.length_append] at hn hown ⊢
      refine ⟨g, cap, rfl, hn, ?_⟩
      obtain ⟨q0, q1, q2⟩ := rowV_last pre r
      have hlen := rowV_len (pre ++ [r])
      rw [List.length_append] at hlen
      have hc : ∀ (i : Nat) x, (rowV (pre ++ [r]))[i]? = some x → w.cell? ⟨g, i, none⟩ = some x := by
        intro i x hx
        obtain ⟨hi, he⟩ := List.getElem?_eq_some_iff.1 hx
        rw [own_cell hown i hi, he]
      exact top_some g pre.length cap (by simp at hrs; omega) r w (hc _ _ q0) (hc _ _ q1) (hc _ _ q2)
theorem branch_any (ji t : Int) (l : Nat) (hl : l < M64) (B G lab : Nat) (rs : List Reg) (hrs : rs.length ≤ 1000000) (w : World) (hBw : B ≤ w.heap.size) (h : IsG w B G lab rs) :
    Calls Try.prog 9 #[.pointer (some ⟨G, 0, none⟩), .int .u64 l, .int .i64 ji, .int .i64 t] w (DidG w B G (lab ||| l) (branchR rs lab (max ji (-1)) t)) := by
  have hI := h
  obtain ⟨sv, hG, hown, hBG, hlab, hsm⟩ := h
  have hji : (0 ≤ ji + 1 ∧ max ji (-1) = ji) ∨ (ji < -1 ∧ max ji (-1) = -1) := by omega
  have hj1 : -1 ≤ max ji (-1) := by omega
  generalize max ji (-1) = j' at hji hj1 ⊢
  rcases top_of hown hrs with ⟨rfl, ht⟩ | ⟨pre, r, rfl, g, cap, rfl, hcap, ht⟩
  · have := branch_push j' hj1 l hl t B G lab [] hrs w hBw sv hG hown hBG hlab hsm 0 0 0 false (.inl rfl) ht ji hji
    exact this
  · by_cases hj : r.join = j'
    · have hb : branchR (pre ++ [r]) lab j' t = pre ++ [r] := by simp [branchR, topAt, hj]
      rw [hb]
      rw [hj] at ht
      exact branch_stay j' l hl t B G lab _ w hBw _ hG hI hlab _ _ ht ji hji
    · have hb : branchR (pre ++ [r]) lab j' t = (pre ++ [r]) ++ [⟨j', t, lab⟩] := by simp [branchR, topAt, hj]
      rw [hb]
      exact branch_push j' hj1 l hl t B G lab _ hrs w hBw _ hG hown hBG hlab hsm _ _ _ true (.inr ⟨rfl, hj⟩) ht ji hji
end GuardD
end Go.Proofs.Ytnlblmdmhfahpaa
