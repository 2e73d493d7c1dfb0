/- Types: a search by a function; the parts that a type must have. -/
import Derived.Test.YthcdbmbimdkcfaaDoorTyFn2
namespace Go.Proofs.YthcdbmbimdkcfaaDoor
open Go.RowKit ObjM
namespace TyD
open LexD (WTab)

theorem any_drop {p : Ty → Bool} {ts : List Ty} {k : Nat} (hk : k < ts.length) : (ts.drop k).any p = (p ts[k] || (ts.drop (k + 1)).any p) := by
  rw [List.drop_eq_getElem_cons hk]
  rfl
def IdxIs (w : World) (R : Bool) (e : Ending) (w' : World) : Prop := ∃ n : Int, e = .returned (.int .i64 n) ∧ decide (0 ≤ n) = R ∧ Below w.heap.size w w'
set_option maxRecDepth 100000 in
set_option maxHeartbeats 8000000 in
theorem comp_index (p : Ty → Bool) (ts : List Ty) (va : Value) (w : World) (S : World → Prop) (hf : ∀ (t : Ty) (vn va : Value) (W : World), t ∈ ts → TyAt W vn va t → S W → Calls Tryd.prog 86 #[.agg #[.int .i64 t.kind, vn, va]] W (BoolB W (p t))) (hS : ∀ W, Below w.heap.size w W → S W) (h : TysAt w va ts) (hl : ts.length ≤ 140737488355328) :
    Calls Tryd.prog 80 #[va, .func (.func 86) #[] #[]] w (IdxIs w (ts.any p)) := by
  obtain ⟨aa, ca, rfl⟩ := h.shape
  have HV := Lib.hid (fun (W : World) (hb : Below w.heap.size w W) => h.below (Nat.le_refl _) hb)
  have HS := Lib.hid hS
  have HF := Lib.hid hf
  obtain ⟨m, hm⟩ : ∃ m, ts.length = m := ⟨_, rfl⟩
  obtain ⟨R, hR⟩ : ∃ R, ts.any p = R := ⟨_, rfl⟩
  have HR : Hid ((ts.drop 0).any p = R) := Lib.hid hR
  have HM := Lib.hid hm
  rw [hm] at hl
  go_enter Tryd.func80, Tryd.ntmps80
  rw [hm, hR]
  clear h hm hR hS hf
  go_wp2
  go_loopw [8] (fun i wr => ∃ k : Nat, i = .int .i64 (k : Int) ∧ k ≤ m ∧ Below w.heap.size w wr ∧ Hid ((ts.drop k).any p = R)) (fun i _ => m - (intOf i).toNat)
  case atStart => exact ⟨0, rfl, by omega, Below.refl _ _, HR⟩
  case round =>
    obtain ⟨k, rfl, hk, hB, HD⟩ := hrel
    have HB := Lib.hid hB
    clear hB
    by_cases hlt : k < m
    · have hi1 : (k : Int) < (m : Int) := by omega
      have hkl : k < ts.length := by rw [HM.out]; exact hlt
      have HD2 := Lib.hid (any_drop (p := p) hkl)
      obtain ⟨b, o, vn, vb, rfl, hb, c0, c1, c2, c3⟩ := (HV.out _ HB.out).at k hkl
      have HC := Lib.hid (HF.out ts[k] vn vb wr (List.getElem_mem hkl) c3 (HS.out _ HB.out))
      obtain ⟨an, cn, ab, cb, rfl, rfl⟩ := c3.shape
      generalize ts[k] = x at HD2 c0 c1 c2 c3 HC
      obtain ⟨q, hq⟩ : ∃ q, p x = q := ⟨_, rfl⟩
      rw [hq] at HD2 HC
      clear hq c3 hkl
      cases q
      · have HN : Hid ((ts.drop (k + 1)).any p = R) := Lib.hid (by rw [← HD.out, HD2.out]; rfl)
        clear HD HD2
        go_wp2_with fail
        refine (HC.out).mono ?_
        rintro e w1 ⟨rfl, hb1⟩
        have HB1 := Lib.hid (HB.out.trans (hb1.mono HB.out.size))
        clear hb1
        go_wp2
        go_roundw
        case rel => exact ⟨k + 1, by go_num, by omega, HB1.out, HN⟩
        case measure => simp [intOf]; omega
      · have HN : Hid (R = true) := Lib.hid (by rw [← HD.out, HD2.out]; rfl)
        obtain rfl := HN.out
        clear HD HD2
        go_wp2_with fail
        refine (HC.out).mono ?_
        rintro e w1 ⟨rfl, hb1⟩
        have HB1 := Lib.hid (HB.out.trans (hb1.mono HB.out.size))
        clear hb1
        go_wp2
        go_ret
        exact ⟨(k : Int), rfl, by simp, HB1.out⟩
    · have hkm : k = m := by omega
      have HN : Hid (R = false) := Lib.hid (by rw [← HD.out, List.drop_eq_nil_of_le (by rw [HM.out]; omega)]; rfl)
      obtain rfl := HN.out
      subst hkm
      go_wp2
      go_ret
      exact ⟨-1, rfl, rfl, HB.out⟩
set_option maxRecDepth 100000 in
set_option maxHeartbeats 8000000 in
theorem comp_contains (p : Ty → Bool) (ts : List Ty) (va : Value) (w : World) (S : World → Prop) (hf : ∀ (t : Ty) (vn va : Value) (W : World), t ∈ ts → TyAt W vn va t → S W → Calls Tryd.prog 86 #[.agg #[.int .i64 t.kind, vn, va]] W (BoolB W (p t))) (hS : ∀ W, Below w.heap.size w W → S W) (h : TysAt w va ts) (hl : ts.length ≤ 140737488355328) :
    Calls Tryd.prog 68 #[va, .func (.func 86) #[] #[]] w (BoolB w (ts.any p)) := by
  have HI := Lib.hid (comp_index p ts va w S hf hS h hl)
  obtain ⟨aa, ca, rfl⟩ := h.shape
  clear h hS hf
  generalize ts.any p = R at HI ⊢
  go_enter Tryd.func68, Tryd.ntmps68
  go_wp2_with fail
  refine (HI.out).mono ?_
  rintro e w1 ⟨n, rfl, hn, hb⟩
  have HN := Lib.hid hn
  clear hn
  go_wp2
  go_ret
  first | exact ⟨rfl, hb⟩ | exact ⟨by rw [HN.out]; rfl, hb⟩
theorem comp_any (ts : List Ty) : ts.any (fun t => !flatB t.kind) = !ts.all fun t => flatB t.kind := by
  induction ts with
  | nil => rfl
  | cons a r ih => rw [List.any_cons, List.all_cons, ih]; simp
set_option maxRecDepth 100000 in
set_option maxHeartbeats 8000000 in
theorem parts_any (t : Ty) (vn va : Value) (w : World) (h : TyAt w vn va t) (hok : TyOk t) (hT : WTab w) :
    Calls Tryd.prog 72 #[.agg #[.int .i64 t.kind, vn, va]] w (BoolB w (partsB t.kind t.names t.args)) := by
  obtain ⟨k, ns, ts⟩ := t
  obtain ⟨hn, ha⟩ := h.parts
  obtain ⟨hk, ok1, ok2, ok3, ok4⟩ := hok.parts
  change Calls _ _ #[.agg #[.int .i64 k, vn, va]] w (BoolB w (partsB k ns ts))
  obtain ⟨av, cv, rfl⟩ := hn.shape
  obtain ⟨aa, ca, rfl⟩ := ha.shape
  have HB : Hid (Below w.heap.size w (w.alloc (.cells #[.int .i64 k, .slice av ns.length cv, .slice aa ts.length ca] 25))) := Lib.hid ((Below.refl _ w).alloc (Nat.le_refl _) _)
  have HRi := fun W (hb : Below w.heap.size w W) => Lib.hid (rising_any ns _ W (hn.below (Nat.le_refl _) hb) ok1 ok2 (hT.below hb))
  have HMe := fun W (hb : Below w.heap.size w W) => Lib.hid (members_any ts _ W (ha.below (Nat.le_refl _) hb) ok3)
  have HCo := fun W (hb : Below w.heap.size w W) => Lib.hid (comp_contains (fun t => !flatB t.kind) ts _ W (fun _ => True) (fun t vn va W _ h _ => composite_any t vn va W h) (fun _ _ => trivial) (ha.below (Nat.le_refl _) hb) ok3)
  simp only [comp_any] at HCo
  have HFl := fun W => Lib.hid (flat_any k W)
  have hpb : partsB k ns ts = if k = 7 then decide (ns.length = 0) && decide (2 ≤ ts.length) && memB 0 ts else if k = 8 then decide (ns.length = ts.length) && risingB ns && ts.all (fun a => flatB a.kind) else if k = 9 then decide (ns.length = 0) && decide (1 ≤ ts.length) else flatB k && decide (ns.length = 0) && decide (ts.length = 0) := rfl
  obtain ⟨R, hR⟩ : ∃ R, partsB k ns ts = R := ⟨_, rfl⟩
  rw [hR] at hpb ⊢
  generalize risingB ns = ri at HRi hpb
  generalize memB 0 ts = me at HMe hpb
  generalize (ts.all fun t => flatB t.kind) = co at HCo hpb
  generalize flatB k = fl at HFl hpb
  generalize ns.length = n at *
  generalize ts.length = m at *
  have hnI : (n : Int) ≤ 140737488355328 := by omega
  have hmI : (m : Int) ≤ 140737488355328 := by omega
  clear h hn ha hT ok2 ok4 hok hR
  by_cases k7 : k = 7
  · subst k7
    rw [if_pos rfl] at hpb
    by_cases h0 : n = 0
    · subst h0
      by_cases h2 : 2 ≤ m
      · have h2i : (2 : Int) ≤ (m : Int) := by omega
        rw [decide_eq_true h2] at hpb
        simp only [decide_true, Bool.true_and] at hpb
        subst hpb
        clear HRi HCo HFl
        cases R
        all_goals
          go_enter Tryd.func72, Tryd.ntmps72
          go_wp2_with fail
          refine ((HMe _ HB.out).out).mono ?_
          rintro e w1 ⟨rfl, hb1⟩
          have HB1 := Lib.hid (HB.out.trans (hb1.mono HB.out.size))
          clear hb1
          go_wp2
          go_ret
          exact ⟨rfl, HB1.out⟩
      · have h2i : ¬ (2 : Int) ≤ (m : Int) := by omega
        rw [decide_eq_false h2] at hpb
        simp only [Bool.and_false, Bool.false_and] at hpb
        subst hpb
        clear HRi HCo HFl HMe
        go_enter Tryd.func72, Tryd.ntmps72
        go_wp2
        go_ret
        exact ⟨rfl, HB.out⟩
    · have h0i : ((n : Int) == 0) = false := by simp; omega
      rw [decide_eq_false h0] at hpb
      simp only [Bool.false_and] at hpb
      subst hpb
      clear HRi HCo HFl HMe
      go_enter Tryd.func72, Tryd.ntmps72
      go_wp2
      go_ret
      exact ⟨rfl, HB.out⟩
  · rw [if_neg k7] at hpb
    have k7b : (k == 7) = false := by simpa using k7
    by_cases k8 : k = 8
    · subst k8
      rw [if_pos rfl] at hpb
      by_cases h0 : n = m
      · subst h0
        have h0i : ((n : Int) == (n : Int)) = true := by simp
        simp only [decide_true, Bool.true_and] at hpb
        cases ri
        · simp only [Bool.false_and] at hpb
          subst hpb
          clear HMe HCo HFl
          go_enter Tryd.func72, Tryd.ntmps72
          go_wp2_with fail
          refine ((HRi _ HB.out).out).mono ?_
          rintro e w1 ⟨rfl, hb1⟩
          have HB1 := Lib.hid (HB.out.trans (hb1.mono HB.out.size))
          clear hb1
          go_wp2
          go_ret
          exact ⟨rfl, HB1.out⟩
        · simp only [Bool.true_and] at hpb
          subst hpb
          clear HMe HFl
          cases R
          all_goals
            go_enter Tryd.func72, Tryd.ntmps72
            go_wp2_with fail
            refine ((HRi _ HB.out).out).mono ?_
            rintro e w1 ⟨rfl, hb1⟩
            have HB1 := Lib.hid (HB.out.trans (hb1.mono HB.out.size))
            have hlw := HB.out.size
            obtain ⟨g0, g1, g2⟩ : w1.cell? ⟨w.heap.size, 0, none⟩ = some (.int .i64 8) ∧ w1.cell? ⟨w.heap.size, 1, none⟩ = some (.slice av n cv) ∧ w1.cell? ⟨w.heap.size, 2, none⟩ = some (.slice aa n ca) := by
              have hN := (Has.new w 25 [.int .i64 8, .slice av n cv, .slice aa n ca]).below hb1 (by simp)
              exact ⟨hN.cell 0, hN.cell 1, hN.cell 2⟩
            have hs1 := hb1.size
            simp at hs1
            clear hb1
            go_wp2_with fail
            refine ((HCo _ HB1.out).out).mono ?_
            rintro e w2 ⟨rfl, hb2⟩
            have HB2 := Lib.hid (HB1.out.trans (hb2.mono HB1.out.size))
            clear hb2
            go_wp2
            go_ret
            exact ⟨rfl, HB2.out⟩
      · have h0i : ((n : Int) == (m : Int)) = false := by simp; omega
        rw [decide_eq_false h0] at hpb
        simp only [Bool.false_and] at hpb
        subst hpb
        clear HRi HCo HFl HMe
        go_enter Tryd.func72, Tryd.ntmps72
        go_wp2
        go_ret
        exact ⟨rfl, HB.out⟩
    · rw [if_neg k8] at hpb
      have k8b : (k == 8) = false := by simpa using k8
      by_cases k9 : k = 9
      · subst k9
        rw [if_pos rfl] at hpb
        by_cases h0 : n = 0
        · subst h0
          by_cases h1 : 1 ≤ m
          · have h1i : (1 : Int) ≤ (m : Int) := by omega
            rw [decide_eq_true h1] at hpb
            simp only [decide_true, Bool.true_and] at hpb
            subst hpb
            clear HRi HCo HFl HMe
            go_enter Tryd.func72, Tryd.ntmps72
            go_wp2
            go_ret
            exact ⟨rfl, HB.out⟩
          · have h1i : ¬ (1 : Int) ≤ (m : Int) := by omega
            rw [decide_eq_false h1] at hpb
            simp only [Bool.and_false] at hpb
            subst hpb
            clear HRi HCo HFl HMe
            go_enter Tryd.func72, Tryd.ntmps72
            go_wp2
            go_ret
            exact ⟨rfl, HB.out⟩
        · have h0i : ((n : Int) == 0) = false := by simp; omega
          rw [decide_eq_false h0] at hpb
          simp only [Bool.false_and] at hpb
          subst hpb
          clear HRi HCo HFl HMe
          go_enter Tryd.func72, Tryd.ntmps72
          go_wp2
          go_ret
          exact ⟨rfl, HB.out⟩
      · rw [if_neg k9] at hpb
        have k9b : (k == 9) = false := by simpa using k9
        have ht1 : ((n : Int) == 0) = decide (n = 0) := by rw [Bool.eq_iff_iff]; simp
        have ht2 : ((m : Int) == 0) = decide (m = 0) := by rw [Bool.eq_iff_iff]; simp
        generalize decide (n = 0) = z1 at ht1 hpb
        generalize decide (m = 0) = z2 at ht2 hpb
        clear HRi HCo HMe
        cases fl
        all_goals
          cases z1
          all_goals
            cases z2
            all_goals
              go_enter Tryd.func72, Tryd.ntmps72
              go_wp2_with fail
              refine ((HFl _).out).mono ?_
              rintro e w1 ⟨rfl, rfl⟩
              go_wp2
              go_ret
              exact ⟨by rw [hpb]; rfl, HB.out⟩
end TyD
end Go.Proofs.YthcdbmbimdkcfaaDoor
