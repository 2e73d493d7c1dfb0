/- What is left open in a type: the program's answer and the document's. -/
import Derived.Test.YthcdbmbimdkcfaaDoorTyKinds
namespace Go.Proofs.YthcdbmbimdkcfaaDoor
open Go.RowKit ObjM
namespace TyD
open LexD (nameB WTab)

set_option maxRecDepth 100000 in
set_option maxHeartbeats 8000000 in
theorem vag_index (P : Nat) (p : Ty → Bool) (ts : List Ty) (va : Value) (w : World) (S : World → Prop) (hf : ∀ (t : Ty) (vn va : Value) (W : World), t ∈ ts → TyAt W vn va t → S W → Calls Tryd.prog 67 #[.agg #[.int .i64 t.kind, vn, va], .pointer (some ⟨P, 0, none⟩)] W (BoolB W (p t))) (hS : ∀ W, Below w.heap.size w W → S W) (h : TysAt w va ts) (hl : ts.length ≤ 140737488355328) :
    Calls Tryd.prog 80 #[va, .func (.func 67) #[] #[.pointer (some ⟨P, 0, none⟩)]] w (IdxIs w (ts.any p)) := by
  obtain ⟨aa, ca, rfl⟩ := h.shape
  have HV := Lib.hid (fun (W : World) (hb : Below w.heap.size w W) => h.below (Nat.le_refl _) hb)
  have HS := Lib.hid hS
  have HF := Lib.hid hf
  obtain ⟨m, hm⟩ : ∃ m, ts.length = m := ⟨_, rfl⟩
  obtain ⟨R, hR⟩ : ∃ R, ts.any p = R := ⟨_, rfl⟩
  have HR : Hid ((ts.drop 0).any p = R) := Lib.hid hR
  have HM := Lib.hid hm
  rw [hm] at hl
  go_enter Tryd.func80, Tryd.ntmps80
  rw [hm, hR]
  clear h hm hR hS hf
  go_wp2
  go_loopw [8] (fun i wr => ∃ k : Nat, i = .int .i64 (k : Int) ∧ k ≤ m ∧ Below w.heap.size w wr ∧ Hid ((ts.drop k).any p = R)) (fun i _ => m - (intOf i).toNat)
  case atStart => exact ⟨0, rfl, by omega, Below.refl _ _, HR⟩
  case round =>
    obtain ⟨k, rfl, hk, hB, HD⟩ := hrel
    have HB := Lib.hid hB
    clear hB
    by_cases hlt : k < m
    · have hi1 : (k : Int) < (m : Int) := by omega
      have hkl : k < ts.length := by rw [HM.out]; exact hlt
      have HD2 := Lib.hid (any_drop (p := p) hkl)
      obtain ⟨b, o, vn, vb, rfl, hb, c0, c1, c2, c3⟩ := (HV.out _ HB.out).at k hkl
      have HC := Lib.hid (HF.out ts[k] vn vb wr (List.getElem_mem hkl) c3 (HS.out _ HB.out))
      obtain ⟨an, cn, ab, cb, rfl, rfl⟩ := c3.shape
      generalize ts[k] = x at HD2 c0 c1 c2 c3 HC
      obtain ⟨q, hq⟩ : ∃ q, p x = q := ⟨_, rfl⟩
      rw [hq] at HD2 HC
      clear hq c3 hkl
      cases q
      · have HN : Hid ((ts.drop (k + 1)).any p = R) := Lib.hid (by rw [← HD.out, HD2.out]; rfl)
        clear HD HD2
        go_wp2_with fail
        refine (HC.out).mono ?_
        rintro e w1 ⟨rfl, hb1⟩
        have HB1 := Lib.hid (HB.out.trans (hb1.mono HB.out.size))
        clear hb1
        go_wp2
        go_roundw
        case rel => exact ⟨k + 1, by go_num, by omega, HB1.out, HN⟩
        case measure => simp [intOf]; omega
      · have HN : Hid (R = true) := Lib.hid (by rw [← HD.out, HD2.out]; rfl)
        obtain rfl := HN.out
        clear HD HD2
        go_wp2_with fail
        refine (HC.out).mono ?_
        rintro e w1 ⟨rfl, hb1⟩
        have HB1 := Lib.hid (HB.out.trans (hb1.mono HB.out.size))
        clear hb1
        go_wp2
        go_ret
        exact ⟨(k : Int), rfl, by simp, HB1.out⟩
    · have hkm : k = m := by omega
      have HN : Hid (R = false) := Lib.hid (by rw [← HD.out, List.drop_eq_nil_of_le (by rw [HM.out]; omega)]; rfl)
      obtain rfl := HN.out
      subst hkm
      go_wp2
      go_ret
      exact ⟨-1, rfl, rfl, HB.out⟩
set_option maxRecDepth 100000 in
set_option maxHeartbeats 8000000 in
theorem vag_contains (P : Nat) (p : Ty → Bool) (ts : List Ty) (va : Value) (w : World) (S : World → Prop) (hf : ∀ (t : Ty) (vn va : Value) (W : World), t ∈ ts → TyAt W vn va t → S W → Calls Tryd.prog 67 #[.agg #[.int .i64 t.kind, vn, va], .pointer (some ⟨P, 0, none⟩)] W (BoolB W (p t))) (hS : ∀ W, Below w.heap.size w W → S W) (h : TysAt w va ts) (hl : ts.length ≤ 140737488355328) :
    Calls Tryd.prog 68 #[va, .func (.func 67) #[] #[.pointer (some ⟨P, 0, none⟩)]] w (BoolB w (ts.any p)) := by
  have HI := Lib.hid (vag_index P p ts va w S hf hS h hl)
  obtain ⟨aa, ca, rfl⟩ := h.shape
  clear h hS hf
  generalize ts.any p = R at HI ⊢
  go_enter Tryd.func68, Tryd.ntmps68
  go_wp2_with fail
  refine (HI.out).mono ?_
  rintro e w1 ⟨n, rfl, hn, hb⟩
  have HN := Lib.hid hn
  clear hn
  go_wp2
  go_ret
  first | exact ⟨rfl, hb⟩ | exact ⟨by rw [HN.out]; rfl, hb⟩
def vagFn (P : Nat) : Value := .func (.func 67) #[] #[.pointer (some ⟨P, 0, none⟩)]
set_option maxRecDepth 100000 in
set_option maxHeartbeats 8000000 in
theorem vagOpen_any : ∀ (r : Nat) (t : Ty) (vn va : Value) (P : Nat) (w : World), validB r t = true → TyOk t → TyAt w vn va t → Has w P 33 [vagFn P] →
    Calls Tryd.prog 67 #[.agg #[.int .i64 t.kind, vn, va], .pointer (some ⟨P, 0, none⟩)] w (BoolB w (vagF r t)) := by
  intro r
  induction r with
  | zero =>
    intro t vn va P w hv
    cases hv
  | succ r ih =>
    intro t vn va P w hv hok h hP
    obtain ⟨kd, ns, ts⟩ := t
    obtain ⟨-, r', hr', hvp⟩ := valid_parts hv
    injection hr' with hr'
    subst hr'
    obtain ⟨hn, ht⟩ := h.parts
    obtain ⟨_, ok1, _, ok3, ok4⟩ := hok.parts
    change Calls _ _ #[.agg #[.int .i64 kd, vn, va], _] w _
    have hbw : Below w.heap.size w (w.alloc (.cells #[.int .i64 kd, vn, va] 25)) := (Below.refl _ w).alloc (Nat.le_refl _) _
    have HC := Lib.hid (vag_contains P (vagF r) ts va (w.alloc (.cells #[.int .i64 kd, vn, va] 25)) (fun W => Has W P 33 [vagFn P])
      (fun t vn va W ht hat hs => ih t vn va P W (hvp t ht) (ok4 t ht) hat hs) (fun W hb => (hP.below hbw hP.lt).below hb (by have := hP.lt; simp; omega)) (ht.below (Nat.le_refl _) hbw) ok3)
    have HR : Hid (vagF (r + 1) (.mk kd ns ts) = (decide (kd = 0) || decide (kd = 5) || ts.any (vagF r))) := Lib.hid rfl
    generalize vagF (r + 1) (.mk kd ns ts) = R at HR ⊢
    generalize ts.any (vagF r) = q at HC HR
    obtain ⟨an, cn, rfl⟩ := hn.shape
    obtain ⟨aa, ca, rfl⟩ := ht.shape
    have HBW := Lib.hid hbw
    have p0 := hP.cell 0
    have lP := hP.lt
    simp [vagFn] at p0
    clear h hn ht hok ok4 hv hvp ih hbw hP
    by_cases k0 : kd = 0
    · subst k0
      have HF : Hid (R = true) := Lib.hid (by rw [HR.out]; rfl)
      obtain rfl := HF.out
      clear HR
      go_enter Tryd.func67, Tryd.ntmps67
      go_wp2
      go_ret
      exact ⟨rfl, HBW.out⟩
    · have k0b : (kd == 0) = false := by simpa using k0
      by_cases k5 : kd = 5
      · subst k5
        have HF : Hid (R = true) := Lib.hid (by rw [HR.out]; rfl)
        obtain rfl := HF.out
        clear HR
        go_enter Tryd.func67, Tryd.ntmps67
        go_wp2
        go_ret
        exact ⟨rfl, HBW.out⟩
      · have k5b : (kd == 5) = false := by simpa using k5
        have HF : Hid (R = q) := Lib.hid (by rw [HR.out, decide_eq_false k0, decide_eq_false k5]; rfl)
        obtain rfl := HF.out
        clear HR k0 k5
        cases R
        all_goals
          go_enter Tryd.func67, Tryd.ntmps67
          go_wp2_with fail
          refine (HC.out).mono ?_
          rintro e w2 ⟨rfl, hb2⟩
          have HB2 := Lib.hid (HBW.out.trans (hb2.mono HBW.out.size))
          clear hb2
          go_wp2
          go_ret
          exact ⟨rfl, HB2.out⟩
set_option maxRecDepth 100000 in
set_option maxHeartbeats 8000000 in
theorem refVag_any : ∀ (r : Nat) (t : Ty) (vn va : Value) (w : World), validB r t = true → TyOk t → TyAt w vn va t →
    Calls Tryd.prog 50 #[.agg #[.int .i64 t.kind, vn, va]] w (BoolB w (vagF r t)) := by
  intro r
  induction r with
  | zero =>
    intro t vn va w hv
    cases hv
  | succ r ih =>
    intro t vn va w hv hok h
    obtain ⟨kd, ns, ts⟩ := t
    obtain ⟨-, r', hr', hvp⟩ := valid_parts hv
    injection hr' with hr'
    subst hr'
    obtain ⟨hn, ht⟩ := h.parts
    obtain ⟨_, ok1, _, ok3, ok4⟩ := hok.parts
    change Calls _ _ #[.agg #[.int .i64 kd, vn, va]] w _
    have hbw : Below w.heap.size w (w.alloc (.cells #[.int .i64 kd, vn, va] 25)) := (Below.refl _ w).alloc (Nat.le_refl _) _
    have HT := Lib.hid (fun (W : World) (hb : Below w.heap.size w W) => ht.below (Nat.le_refl _) hb)
    have HO := Lib.hid ok4
    have HVp := Lib.hid hvp
    have HIH := Lib.hid ih
    have HR : Hid (vagF (r + 1) (.mk kd ns ts) = (decide (kd = 0) || decide (kd = 5) || ts.any (vagF r))) := Lib.hid rfl
    generalize vagF (r + 1) (.mk kd ns ts) = R at HR ⊢
    obtain ⟨an, cn, rfl⟩ := hn.shape
    obtain ⟨aa, ca, rfl⟩ := ht.shape
    have HBW := Lib.hid hbw
    obtain ⟨m, hm⟩ : ∃ m, ts.length = m := ⟨_, rfl⟩
    have HM := Lib.hid hm
    rw [hm] at ok3
    clear h hn ht hok ok4 hv hvp ih hbw hm
    by_cases k0 : kd = 0
    · subst k0
      have HF : Hid (R = true) := Lib.hid (by rw [HR.out]; rfl)
      obtain rfl := HF.out
      clear HR
      go_enter Tryd.func50, Tryd.ntmps50
      go_wp2
      go_ret
      exact ⟨rfl, HBW.out⟩
    · have k0b : (kd == 0) = false := by simpa using k0
      by_cases k5 : kd = 5
      · subst k5
        have HF : Hid (R = true) := Lib.hid (by rw [HR.out]; rfl)
        obtain rfl := HF.out
        clear HR
        go_enter Tryd.func50, Tryd.ntmps50
        go_wp2
        go_ret
        exact ⟨rfl, HBW.out⟩
      · have k5b : (kd == 5) = false := by simpa using k5
        have HF : Hid ((ts.drop 0).any (vagF r) = R) := Lib.hid (by rw [HR.out, decide_eq_false k0, decide_eq_false k5]; rfl)
        clear HR k0 k5
        go_enter Tryd.func50, Tryd.ntmps50
        rw [HM.out]
        rw [HM.out] at HBW
        go_wp2
        go_loopw [16] (fun i wr => ∃ k : Nat, i = .int .i64 (k : Int) ∧ k ≤ m ∧ Hid (Below w.heap.size w wr) ∧ Hid ((ts.drop k).any (vagF r) = R)) (fun i _ => m - (intOf i).toNat)
        case atStart => exact ⟨0, rfl, by omega, HBW, HF⟩
        case round =>
          obtain ⟨k, rfl, hk, HB, HD⟩ := hrel
          by_cases hlt : k < m
          · have hi1 : (k : Int) < (m : Int) := by omega
            have hkl : k < ts.length := by rw [HM.out]; exact hlt
            have HD2 := Lib.hid (any_drop (p := vagF r) hkl)
            obtain ⟨b, o, vn2, va2, rfl, hb, c0, c1, c2, c3⟩ := (HT.out _ HB.out).at k hkl
            have hKA : Below wr.heap.size wr (wr.alloc (.cells #[.int .i64 ts[k].kind, vn2, va2] 25)) := (Below.refl _ wr).alloc (Nat.le_refl _) _
            have HC3 := Lib.hid (HIH.out ts[k] vn2 va2 (wr.alloc (.cells #[.int .i64 ts[k].kind, vn2, va2] 25)) (HVp.out _ (List.getElem_mem hkl)) (HO.out _ (List.getElem_mem hkl)) (c3.frame (Nat.le_refl _) hKA))
            have HKA := Lib.hid hKA
            obtain ⟨an2, cn2, ab2, cb2, rfl, rfl⟩ := c3.shape
            generalize ts[k] = x at HD2 c0 c1 c2 c3 HC3 HKA
            obtain ⟨z, hz⟩ : ∃ z, vagF r x = z := ⟨_, rfl⟩
            rw [hz] at HD2 HC3
            clear c3 hkl hKA hz
            cases z
            · have HD3 : Hid ((ts.drop (k + 1)).any (vagF r) = R) := Lib.hid (by rw [← HD.out, HD2.out]; rfl)
              clear HD HD2
              go_wp2_with fail
              refine (HC3.out).mono ?_
              rintro e w3 ⟨rfl, hb3⟩
              have HB3 := Lib.hid (HB.out.trans ((HKA.out.trans (hb3.mono (by simp))).mono HB.out.size))
              clear hb3 HC3
              go_wp2
              go_roundw
              case rel => exact ⟨k + 1, by go_num, by omega, HB3, HD3⟩
              case measure => simp [intOf]; omega
            · have HE : Hid (R = true) := Lib.hid (by rw [← HD.out, HD2.out]; rfl)
              obtain rfl := HE.out
              clear HD HD2 HF
              go_wp2_with fail
              refine (HC3.out).mono ?_
              rintro e w3 ⟨rfl, hb3⟩
              have HB3 := Lib.hid (HB.out.trans ((HKA.out.trans (hb3.mono (by simp))).mono HB.out.size))
              clear hb3 HC3
              go_wp2
              go_ret
              exact ⟨rfl, HB3.out⟩
          · have hkm : m = k := by omega
            have HE : Hid (R = false) := Lib.hid (by rw [← HD.out, List.drop_eq_nil_of_le (by rw [HM.out]; omega)]; rfl)
            obtain rfl := HE.out
            subst hkm
            clear HD HF
            go_wp2
            go_ret
            exact ⟨rfl, HB.out⟩
set_option maxRecDepth 100000 in
set_option maxHeartbeats 8000000 in
theorem vague_any (t : Ty) (vn va : Value) (w : World) (hok : TyOk t) (h : TyAt w vn va t) (hT : WTab w) :
    Calls Tryd.prog 49 #[.agg #[.int .i64 t.kind, vn, va]] w (BoolB w (vagueV t)) := by
  have hmf : ∀ (fn : Fn) (first cap : Array Value) (w : World), (Instr.makeFunc fn first cap).run Tryd.prog w = .ok (.func fn first cap) w := fun _ _ _ _ => rfl
  have hbw : Below w.heap.size w (w.alloc (.cells #[.int .i64 t.kind, vn, va] 25)) := (Below.refl _ w).alloc (Nat.le_refl _) _
  have HCk : Hid (∀ W, Below w.heap.size w W → Calls Tryd.prog 53 #[.agg #[.int .i64 t.kind, vn, va]] W (BoolB W (checkV t))) := Lib.hid (fun W hb => check_any t vn va W (h.frame (Nat.le_refl _) hb) hok (hT.below hb))
  have HV := Lib.hid (fun (P : Nat) (W : World) (hb : Below w.heap.size w W) (hv : validB 50 t = true) (hP : Has W P 33 [vagFn P]) => vagOpen_any 50 t vn va P W hv hok (h.frame (Nat.le_refl _) hb) hP)
  have HVl : Hid (checkV t = true → validB 50 t = true) := Lib.hid (fun h => ((check_iff t).1 h).1)
  have HN := Lib.hid (Has.new w 25 [.int .i64 t.kind, vn, va])
  have HBW := Lib.hid hbw
  have HR : Hid (vagueV t = (!checkV t || vagF 50 t)) := Lib.hid rfl
  generalize vagueV t = R at HR ⊢
  obtain ⟨an, cn, aa, ca, rfl, rfl⟩ := h.shape
  generalize checkV t = q at HCk HVl HR
  generalize vagF 50 t = z at HV HR
  clear h hok hT hbw
  cases q
  · have HF : Hid (R = true) := Lib.hid (by rw [HR.out]; rfl)
    obtain rfl := HF.out
    clear HR
    go_enter Tryd.func49, Tryd.ntmps49
    go_wp2_with fail
    refine (HCk.out _ HBW.out).mono ?_
    rintro e w2 ⟨rfl, hb2⟩
    have HB2 := Lib.hid (HBW.out.trans (hb2.mono HBW.out.size))
    clear hb2
    go_wp2
    go_ret
    exact ⟨rfl, HB2.out⟩
  · have HF : Hid (R = z) := Lib.hid (by rw [HR.out]; rfl)
    obtain rfl := HF.out
    have HV2 := Lib.hid (fun P W hb hP => HV.out P W hb (HVl.out rfl) hP)
    clear HR HV HVl
    go_enter Tryd.func49, Tryd.ntmps49
    go_wp2_with fail
    refine (HCk.out _ HBW.out).mono ?_
    rintro e w2 ⟨rfl, hb2⟩
    have HB2 := Lib.hid (HBW.out.trans (hb2.mono HBW.out.size))
    have h0 := HN.out.below hb2 HN.out.lt
    have x0 := h0.cell 0
    have x1 := h0.cell 1
    have x2 := h0.cell 2
    have l0 := h0.lt
    simp at x0 x1 x2
    have hbn : Below w2.heap.size w2 (w2.alloc (.cells #[.func (.func 67) #[] #[.pointer (some ⟨w2.heap.size, 0, none⟩)]] 33)) := (Below.refl _ w2).alloc (Nat.le_refl _) _
    have HBn := Lib.hid (HB2.out.trans (hbn.mono HB2.out.size))
    have HC := Lib.hid (HV2.out w2.heap.size _ HBn.out (Has.new w2 33 [.func (.func 67) #[] #[.pointer (some ⟨w2.heap.size, 0, none⟩)]]))
    clear hb2 h0 hbn
    cases R
    all_goals
      go_wp2_with fail
      refine (HC.out).mono ?_
      rintro e w3 ⟨rfl, hb3⟩
      have HB3 := Lib.hid (HBn.out.trans (hb3.mono HBn.out.size))
      clear hb3
      go_wp2
      go_ret
      exact ⟨rfl, HB3.out⟩
set_option maxRecDepth 100000 in
set_option maxHeartbeats 8000000 in
theorem refVague_any (t : Ty) (vn va : Value) (w : World) (hok : TyOk t) (h : TyAt w vn va t) :
    Calls Tryd.prog 28 #[.agg #[.int .i64 t.kind, vn, va]] w (BoolB w (vagueV t)) := by
  have hbw : Below w.heap.size w (w.alloc (.cells #[.int .i64 t.kind, vn, va] 25)) := (Below.refl _ w).alloc (Nat.le_refl _) _
  have HCk : Hid (∀ W, Below w.heap.size w W → Calls Tryd.prog 29 #[.agg #[.int .i64 t.kind, vn, va]] W (BoolB W (checkV t))) := Lib.hid (fun W hb => refCheck_any t vn va W (h.frame (Nat.le_refl _) hb) hok)
  have HV := Lib.hid (fun (W : World) (hb : Below w.heap.size w W) (hv : validB 50 t = true) => refVag_any 50 t vn va W hv hok (h.frame (Nat.le_refl _) hb))
  have HVl : Hid (checkV t = true → validB 50 t = true) := Lib.hid (fun h => ((check_iff t).1 h).1)
  have HN := Lib.hid (Has.new w 25 [.int .i64 t.kind, vn, va])
  have HBW := Lib.hid hbw
  have HR : Hid (vagueV t = (!checkV t || vagF 50 t)) := Lib.hid rfl
  generalize vagueV t = R at HR ⊢
  obtain ⟨an, cn, aa, ca, rfl, rfl⟩ := h.shape
  generalize checkV t = q at HCk HVl HR
  generalize vagF 50 t = z at HV HR
  clear h hok hbw
  cases q
  · have HF : Hid (R = true) := Lib.hid (by rw [HR.out]; rfl)
    obtain rfl := HF.out
    clear HR
    go_enter Tryd.func28, Tryd.ntmps28
    go_wp2_with fail
    refine (HCk.out _ HBW.out).mono ?_
    rintro e w2 ⟨rfl, hb2⟩
    have HB2 := Lib.hid (HBW.out.trans (hb2.mono HBW.out.size))
    clear hb2
    go_wp2
    go_ret
    exact ⟨rfl, HB2.out⟩
  · have HF : Hid (R = z) := Lib.hid (by rw [HR.out]; rfl)
    obtain rfl := HF.out
    have HV2 := Lib.hid (fun W hb => HV.out W hb (HVl.out rfl))
    clear HR HV HVl
    cases R
    all_goals
      go_enter Tryd.func28, Tryd.ntmps28
      go_wp2_with fail
      refine (HCk.out _ HBW.out).mono ?_
      rintro e w2 ⟨rfl, hb2⟩
      have HB2 := Lib.hid (HBW.out.trans (hb2.mono HBW.out.size))
      have h0 := HN.out.below hb2 HN.out.lt
      have x0 := h0.cell 0
      have x1 := h0.cell 1
      have x2 := h0.cell 2
      have l0 := h0.lt
      simp at x0 x1 x2
      clear hb2 h0
      go_wp2_with fail
      refine (HV2.out _ HB2.out).mono ?_
      rintro e w3 ⟨rfl, hb3⟩
      have HB3 := Lib.hid (HB2.out.trans (hb3.mono HB2.out.size))
      clear hb3
      go_wp2
      go_ret
      exact ⟨rfl, HB3.out⟩
end TyD
end Go.Proofs.YthcdbmbimdkcfaaDoor
