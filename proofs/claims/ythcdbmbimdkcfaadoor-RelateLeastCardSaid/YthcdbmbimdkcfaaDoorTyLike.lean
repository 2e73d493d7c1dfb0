/- Whether types are alike: the document's answer; both whole. -/
import Derived.Test.YthcdbmbimdkcfaaDoorTySame
namespace Go.Proofs.YthcdbmbimdkcfaaDoor
open Go.RowKit ObjM
namespace TyD
open LexD (nameB WTab)

set_option maxRecDepth 100000 in
set_option maxHeartbeats 16000000 in
theorem like_any : ∀ (r : Nat) (a b : Ty) (vn va un ua : Value) (w : World), validB r a = true → TyOk a → TyOk b → TyAt w vn va a → TyAt w un ua b →
    Calls Tryd.prog 41 #[.agg #[.int .i64 a.kind, vn, va], .agg #[.int .i64 b.kind, un, ua]] w (BoolB w (eqF r a b)) := by
  intro r
  induction r with
  | zero =>
    intro a b vn va un ua w hv
    cases hv
  | succ r ih =>
    intro a b vn va un ua w hv oka okb ha hb
    obtain ⟨k, ns, ts⟩ := a
    obtain ⟨k', ns', ts'⟩ := b
    obtain ⟨-, r', hr', hvp⟩ := valid_parts hv
    injection hr' with hr'
    subst hr'
    obtain ⟨hn, ht⟩ := ha.parts
    obtain ⟨hn', ht'⟩ := hb.parts
    obtain ⟨_, ok1, _, ok3, ok4⟩ := oka.parts
    obtain ⟨_, ok1', _, ok3', ok4'⟩ := okb.parts
    change Calls _ _ #[.agg #[.int .i64 k, vn, va], .agg #[.int .i64 k', un, ua]] w _
    obtain ⟨hh0, hh1, hbw, hsz⟩ := box2 w [.int .i64 k, vn, va] [.int .i64 k', un, ua] 25 _ rfl
    have HN := Lib.hid (fun (W : World) (h : Below w.heap.size w W) => hn.below (Nat.le_refl _) h)
    have HN' := Lib.hid (fun (W : World) (h : Below w.heap.size w W) => hn'.below (Nat.le_refl _) h)
    have HT := Lib.hid (fun (W : World) (h : Below w.heap.size w W) => ht.below (Nat.le_refl _) h)
    have HT' := Lib.hid (fun (W : World) (h : Below w.heap.size w W) => ht'.below (Nat.le_refl _) h)
    have HR : Hid (eqF (r + 1) (.mk k ns ts) (.mk k' ns' ts') = (decide (k = k') && decide (ns = ns') && decide (ts.length = ts'.length) && (ts.zip ts').all fun x => eqF r x.1 x.2)) := Lib.hid rfl
    generalize eqF (r + 1) (.mk k ns ts) (.mk k' ns' ts') = R at HR ⊢
    obtain ⟨an, cn, rfl⟩ := hn.shape
    obtain ⟨bn, dn, rfl⟩ := hn'.shape
    obtain ⟨at_, ct, rfl⟩ := ht.shape
    obtain ⟨bt, dt, rfl⟩ := ht'.shape
    have HBW := Lib.hid hbw
    have HH0 := Lib.hid hh0
    have HH1 := Lib.hid hh1
    have HSz := Lib.hid hsz
    have HIH := Lib.hid ih
    have HVp := Lib.hid hvp
    have HO := Lib.hid ok4
    have HO' := Lib.hid ok4'
    obtain ⟨n, hnl⟩ : ∃ n, ns.length = n := ⟨_, rfl⟩
    obtain ⟨n', hnl'⟩ : ∃ n, ns'.length = n := ⟨_, rfl⟩
    obtain ⟨m, hml⟩ : ∃ m, ts.length = m := ⟨_, rfl⟩
    obtain ⟨m', hml'⟩ : ∃ m, ts'.length = m := ⟨_, rfl⟩
    have HLn := Lib.hid hnl
    have HLn' := Lib.hid hnl'
    have HLm := Lib.hid hml
    have HLm' := Lib.hid hml'
    rw [hnl] at HBW HH0 HH1 HSz HN ok1 ⊢
    rw [hnl'] at HBW HH0 HH1 HSz HN' ok1' ⊢
    rw [hml] at HBW HH0 HH1 HSz HT ok3 HR ⊢
    rw [hml'] at HBW HH0 HH1 HSz HT' ok3' HR ⊢
    clear hn ht hn' ht' ha hb oka okb ok4 ok4' hvp hv ih hbw hh0 hh1 hsz hnl hnl' hml hml'
    by_cases hk : k = k'
    · subst hk
      have hkb : (k != k) = false := by simp
      by_cases hl : n = n'
      · subst hl
        have hlb : ((n : Int) != (n : Int)) = false := by simp
        by_cases hm : m = m'
        · subst hm
          have hmb : ((m : Int) != (m : Int)) = false := by simp
          have HR2 : Hid (R = (decide (ns = ns') && (ts.zip ts').all fun x => eqF r x.1 x.2)) := Lib.hid (by rw [HR.out]; simp)
          clear HR
          go_enter Tryd.func41, Tryd.ntmps41
          go_wp2
          change Code.wp _ _ _ _ (World.alloc (World.alloc w _) _)
          generalize World.alloc (World.alloc w (.cells #[.int .i64 k, .slice an n cn, .slice at_ m ct] 25)) (.cells #[.int .i64 k, .slice bn n dn, .slice bt m dt] 25) = w1 at HBW HH0 HH1 HSz ⊢
          generalize hA : w.heap.size = A at HH0 HH1 HSz ⊢
          have HAz := Lib.hid hA
          clear hA
          have HAf : Hid (∀ W, Below w1.heap.size w1 W → (W.cell? ⟨A, 1, none⟩ = some (.slice an n cn) ∧ W.cell? ⟨A, 2, none⟩ = some (.slice at_ m ct) ∧ A < W.heap.size) ∧ (W.cell? ⟨A + 1, 1, none⟩ = some (.slice bn n dn) ∧ W.cell? ⟨A + 1, 2, none⟩ = some (.slice bt m dt) ∧ A + 1 < W.heap.size) ∧ Below w.heap.size w W) := Lib.hid (fun W h => by
            have h0 := HH0.out.below h HH0.out.lt
            have h1 := HH1.out.below h HH1.out.lt
            exact ⟨⟨h0.cell 1, h0.cell 2, h0.lt⟩, ⟨h1.cell 1, h1.cell 2, h1.lt⟩, HBW.out.trans (h.mono HBW.out.size)⟩)
          go_loopw [33] (fun i wr => ∃ q : Nat, i = .int .i64 (q : Int) ∧ q ≤ n ∧ Hid (Below w1.heap.size w1 wr) ∧ Hid (ns.take q = ns'.take q)) (fun i _ => n - (intOf i).toNat)
          case atStart => exact ⟨0, rfl, by omega, Lib.hid (Below.refl _ _), Lib.hid rfl⟩
          case round =>
            obtain ⟨q, rfl, hq, HB, HD⟩ := hrel
            obtain ⟨⟨x1, x2, lA⟩, ⟨y1, y2, lB⟩, hbr⟩ := HAf.out _ HB.out
            have HBr := Lib.hid hbr
            clear hbr
            by_cases hlt : q < n
            · have hi1 : (q : Int) < (n : Int) := by omega
              have hka : q < ns.length := by rw [HLn.out]; exact hlt
              have hkb2 : q < ns'.length := by rw [HLn'.out]; exact hlt
              obtain ⟨ba, oa, rfl, hba, c0⟩ := (HN.out _ HBr.out).at q hka
              obtain ⟨bb, ob, rfl, hbb, d0⟩ := (HN'.out _ HBr.out).at q hkb2
              have HX := Lib.hid (names_ne hka hkb2)
              have HY := Lib.hid (names_eq hka hkb2 HD.out)
              generalize ns[q] = x at c0 HX HY
              generalize ns'[q] = y at d0 HX HY
              by_cases he : x.toList = y.toList
              · have h1 : (x.toList == y.toList) = true := by simpa using he
                have HN2 := Lib.hid (HY.out he)
                clear HX HY he
                go_wp2
                go_quiet (fail)
                go_wp2
                go_roundw
                case rel => exact ⟨q + 1, by go_num, by omega, Lib.hid (drewN_below HB.out _), HN2⟩
                case measure => simp [intOf]; omega
              · have h1 : (x.toList == y.toList) = false := by simpa using he
                have HF : Hid (R = false) := Lib.hid (by rw [HR2.out, decide_eq_false (HX.out he)]; rfl)
                obtain rfl := HF.out
                clear HX HY he HR2
                go_wp2
                go_quiet (fail)
                go_wp2
                go_ret
                exact ⟨rfl, drewN_below HBr.out _⟩
            · have hqn : n = q := by omega
              subst hqn
              have HR3 : Hid (R = ((ts.drop 0).zip (ts'.drop 0)).all fun x => eqF r x.1 x.2) := Lib.hid (by
                rw [HR2.out, decide_eq_true (names_all (by rw [HLn.out, HLn'.out]) (by rw [HLn.out]; exact HD.out))]
                rfl)
              clear HR2
              go_wp2
              go_loopw [51] (fun i wr => ∃ q : Nat, i = .int .i64 (q : Int) ∧ q ≤ m ∧ Hid (Below w1.heap.size w1 wr) ∧ Hid (R = ((ts.drop q).zip (ts'.drop q)).all fun x => eqF r x.1 x.2)) (fun i _ => m - (intOf i).toNat)
              case atStart => exact ⟨0, rfl, by omega, HB, HR3⟩
              case round =>
                clear x1 x2 lA y1 y2 lB HBr HB
                obtain ⟨q, rfl, hq, HB, HD⟩ := hrel
                obtain ⟨⟨x1, x2, lA⟩, ⟨y1, y2, lB⟩, hbr⟩ := HAf.out _ HB.out
                have HBr := Lib.hid hbr
                clear hbr
                by_cases hlt : q < m
                · have hi1 : (q : Int) < (m : Int) := by omega
                  have hka : q < ts.length := by rw [HLm.out]; exact hlt
                  have hkb2 : q < ts'.length := by rw [HLm'.out]; exact hlt
                  have HD2 := Lib.hid (zip_drop (r := r) hka hkb2)
                  obtain ⟨ba, oa, vn, vb, rfl, hba, c0, c1, c2, c3⟩ := (HT.out _ HBr.out).at q hka
                  obtain ⟨bb, ob, un, ub, rfl, hbb, d0, d1, d2, d3⟩ := (HT'.out _ HBr.out).at q hkb2
                  have hdw : Below wr.heap.size wr wr.drew := (Below.refl _ _).drew
                  have HS := Lib.hid (HIH.out ts[q] ts'[q] vn vb un ub wr.drew (HVp.out _ (List.getElem_mem hka)) (HO.out _ (List.getElem_mem hka)) (HO'.out _ (List.getElem_mem hkb2)) (c3.frame (Nat.le_refl _) hdw) (d3.frame (Nat.le_refl _) hdw))
                  obtain ⟨an2, cn2, ab, cb', rfl, rfl⟩ := c3.shape
                  obtain ⟨bn2, dn2, bb', db', rfl, rfl⟩ := d3.shape
                  generalize ts[q] = x at HD2 HS c0 c1 c2 c3
                  generalize ts'[q] = y at HD2 HS d0 d1 d2 d3
                  obtain ⟨z, hz⟩ : ∃ z, eqF r x y = z := ⟨_, rfl⟩
                  rw [hz] at HS HD2
                  clear c3 d3 hz hka hkb2 hdw
                  go_wp2
                  go_still_tail 10, (by kernel_rfl)
                  change wpList _ _ _ _ _ wr.drew
                  go_wp2_with fail
                  refine (HS.out).mono ?_
                  rintro e w3 ⟨rfl, hb3⟩
                  have HB3 := Lib.hid (HB.out.drew.trans (hb3.mono HB.out.drew.size))
                  have HB3r := Lib.hid (HAf.out _ HB3.out).2.2
                  clear hb3
                  cases z
                  · have HF : Hid (R = false) := Lib.hid (by rw [HD.out, HD2.out]; rfl)
                    obtain rfl := HF.out
                    clear HD HD2 HR3
                    go_wp2
                    go_ret
                    exact ⟨rfl, HB3r.out⟩
                  · have HD3 : Hid (R = ((ts.drop (q + 1)).zip (ts'.drop (q + 1))).all fun x => eqF r x.1 x.2) := Lib.hid (by rw [HD.out, HD2.out]; rfl)
                    clear HD HD2
                    go_wp2
                    go_roundw
                    case rel => exact ⟨q + 1, by go_num, by omega, HB3, HD3⟩
                    case measure => simp [intOf]; omega
                · have hkm : m = q := by omega
                  have HF : Hid (R = true) := Lib.hid (by
                    rw [HD.out, List.drop_eq_nil_of_le (by rw [HLm.out]; omega), List.drop_eq_nil_of_le (by rw [HLm'.out]; omega)]
                    rfl)
                  obtain rfl := HF.out
                  subst hkm
                  clear HR3 HD
                  go_wp2
                  go_ret
                  exact ⟨rfl, HBr.out⟩
        · have hmb : ((m : Int) != (m' : Int)) = true := by simp; omega
          have HF : Hid (R = false) := Lib.hid (by rw [HR.out, decide_eq_false hm]; simp)
          obtain rfl := HF.out
          clear HR
          go_enter Tryd.func41, Tryd.ntmps41
          go_wp2
          go_ret
          exact ⟨rfl, HBW.out⟩
      · have hlb : ((n : Int) != (n' : Int)) = true := by simp; omega
        have HF : Hid (R = false) := Lib.hid (by rw [HR.out, decide_eq_false (show ¬ ns = ns' from fun e => hl (by rw [← HLn.out, ← HLn'.out, e]))]; simp)
        obtain rfl := HF.out
        clear HR
        go_enter Tryd.func41, Tryd.ntmps41
        go_wp2
        go_ret
        exact ⟨rfl, HBW.out⟩
    · have hkb : (k != k') = true := by simpa using hk
      have HF : Hid (R = false) := Lib.hid (by rw [HR.out, decide_eq_false hk]; rfl)
      obtain rfl := HF.out
      clear HR hk
      go_enter Tryd.func41, Tryd.ntmps41
      go_wp2
      go_ret
      exact ⟨rfl, HBW.out⟩
set_option maxRecDepth 100000 in
set_option maxHeartbeats 8000000 in
theorem refCheck_any (t : Ty) (vn va : Value) (w : World) (h : TyAt w vn va t) (hok : TyOk t) :
    Calls Tryd.prog 29 #[.agg #[.int .i64 t.kind, vn, va]] w (BoolB w (checkV t)) := by
  obtain ⟨an, cn, aa, ca, rfl, rfl⟩ := h.shape
  have hbw : Below w.heap.size w (w.alloc (.cells #[.int .i64 t.kind, .slice an t.names.length cn, .slice aa t.args.length ca] 25)) := (Below.refl _ w).alloc (Nat.le_refl _) _
  have HV := Lib.hid (refVisit_any 50 t 0 1 w _ _ _ (by omega) (by omega) (by omega) h hok hbw)
  have HBW := Lib.hid hbw
  have HO : Hid (checkV t = match refT 50 t 0 with | some n => decide (n ≤ 10000) | none => false) := Lib.hid (refCheck_eq t).symm
  generalize checkV t = R at HO ⊢
  generalize refT 50 t 0 = o at HO HV
  clear h hok hbw
  go_enter Tryd.func29, Tryd.ntmps29
  go_wp2_with fail
  refine (HV.out).mono ?_
  intro e w1 hv
  cases hv with
  | ok n _ hb =>
    have HB := Lib.hid (HBW.out.trans (hb.mono HBW.out.size))
    clear hb
    by_cases hn : n ≤ 10000
    · have hni : ((n : Int) ≤ 10000) := by omega
      have HF : Hid (R = true) := Lib.hid (by rw [HO.out]; exact decide_eq_true hn)
      obtain rfl := HF.out
      clear HO
      go_wp2
      go_ret
      exact ⟨rfl, HB.out⟩
    · have hni : decide ((n : Int) ≤ 10000) = false := by simp; omega
      have HF : Hid (R = false) := Lib.hid (by rw [HO.out]; exact decide_eq_false hn)
      obtain rfl := HF.out
      clear HO
      go_wp2
      go_ret
      exact ⟨rfl, HB.out⟩
  | no n _ hb =>
    have HB := Lib.hid (HBW.out.trans (hb.mono HBW.out.size))
    have HF : Hid (R = false) := Lib.hid (by rw [HO.out])
    obtain rfl := HF.out
    clear hb HO
    go_wp2
    go_ret
    exact ⟨rfl, HB.out⟩
set_option maxRecDepth 100000 in
set_option maxHeartbeats 8000000 in
theorem same_any (a b : Ty) (vn va un ua : Value) (w : World) (oka : TyOk a) (okb : TyOk b) (ha : TyAt w vn va a) (hb : TyAt w un ua b) (hT : WTab w) :
    Calls Tryd.prog 55 #[.agg #[.int .i64 a.kind, vn, va], .agg #[.int .i64 b.kind, un, ua]] w (BoolB w (sameV a b)) := by
  obtain ⟨hh0, hh1, hbw, hsz⟩ := box2 w [.int .i64 a.kind, vn, va] [.int .i64 b.kind, un, ua] 25 _ rfl
  have HCa := fun (W : World) (h : Below w.heap.size w W) => Lib.hid (check_any a vn va W (ha.frame (Nat.le_refl _) h) oka (hT.below h))
  have HCb := fun (W : World) (h : Below w.heap.size w W) => Lib.hid (check_any b un ua W (hb.frame (Nat.le_refl _) h) okb (hT.below h))
  have HL := fun (W : World) (h : Below w.heap.size w W) (hv : validB 50 a = true) => Lib.hid (alike_any 50 a b vn va un ua W hv oka okb (ha.frame (Nat.le_refl _) h) (hb.frame (Nat.le_refl _) h))
  have HVl : Hid (checkV a = true → validB 50 a = true) := Lib.hid (fun h => ((check_iff a).1 h).1)
  have HR : Hid (sameV a b = (checkV a && checkV b && eqF 50 a b)) := Lib.hid rfl
  generalize sameV a b = R at HR ⊢
  obtain ⟨an, cn, ab, cb, rfl, rfl⟩ := ha.shape
  obtain ⟨bn, dn, bb, db, rfl, rfl⟩ := hb.shape
  have HBW := Lib.hid hbw
  have HH0 := Lib.hid hh0
  have HH1 := Lib.hid hh1
  clear ha hb hbw hh0 hh1 hsz oka okb hT
  generalize checkV a = ca at HCa HVl HR
  generalize checkV b = cb2 at HCb HR
  generalize eqF 50 a b = q at HL HR
  have HSt : Hid (∀ W W1, Below w.heap.size w W → Below W.heap.size W W1 → Has W w.heap.size 25 [.int .i64 a.kind, .slice an a.names.length cn, .slice ab a.args.length cb] → Has W (w.heap.size + 1) 25 [.int .i64 b.kind, .slice bn b.names.length dn, .slice bb b.args.length db] → 
      (Has W1 w.heap.size 25 [.int .i64 a.kind, .slice an a.names.length cn, .slice ab a.args.length cb] ∧ Has W1 (w.heap.size + 1) 25 [.int .i64 b.kind, .slice bn b.names.length dn, .slice bb b.args.length db]) ∧ Below w.heap.size w W1) :=
    Lib.hid (fun W W1 h1 h2 h3 h4 => ⟨⟨h3.below h2 h3.lt, h4.below h2 h4.lt⟩, h1.trans (h2.mono h1.size)⟩)
  cases ca
  · have HF : Hid (R = false) := Lib.hid (by rw [HR.out]; rfl)
    obtain rfl := HF.out
    clear HR
    go_enter Tryd.func55, Tryd.ntmps55
    go_wp2_with fail
    refine ((HCa _ HBW.out).out).mono ?_
    rintro e w2 ⟨rfl, hb2⟩
    have HB2 := Lib.hid (HBW.out.trans (hb2.mono HBW.out.size))
    clear hb2
    go_wp2
    go_ret
    exact ⟨rfl, HB2.out⟩
  · cases cb2
    · have HF : Hid (R = false) := Lib.hid (by rw [HR.out]; rfl)
      obtain rfl := HF.out
      clear HR
      go_enter Tryd.func55, Tryd.ntmps55
      go_wp2_with fail
      refine ((HCa _ HBW.out).out).mono ?_
      rintro e w2 ⟨rfl, hb2⟩
      obtain ⟨⟨g0, g1⟩, hbx⟩ := HSt.out _ _ HBW.out hb2 HH0.out HH1.out
      have HB2 := Lib.hid hbx
      have x0 := g1.cell 0
      have x1 := g1.cell 1
      have x2 := g1.cell 2
      have l1 := g1.lt
      simp at x0 x1 x2
      clear hb2 g0 g1 hbx
      go_wp2_with fail
      refine ((HCb _ HB2.out).out).mono ?_
      rintro e w3 ⟨rfl, hb3⟩
      have HB3 := Lib.hid (HB2.out.trans (hb3.mono HB2.out.size))
      clear hb3
      go_wp2
      go_ret
      exact ⟨rfl, HB3.out⟩
    · have HF : Hid (R = q) := Lib.hid (by rw [HR.out]; rfl)
      obtain rfl := HF.out
      have HLv := fun (W : World) (h : Below w.heap.size w W) => HL W h (HVl.out rfl)
      clear HR HL
      cases R
      all_goals
        go_enter Tryd.func55, Tryd.ntmps55
        go_wp2_with fail
        refine ((HCa _ HBW.out).out).mono ?_
        rintro e w2 ⟨rfl, hb2⟩
        obtain ⟨⟨g0, g1⟩, hbx⟩ := HSt.out _ _ HBW.out hb2 HH0.out HH1.out
        have HB2 := Lib.hid hbx
        have HG0 := Lib.hid g0
        have HG1 := Lib.hid g1
        have x0 := g1.cell 0
        have x1 := g1.cell 1
        have x2 := g1.cell 2
        have l1 := g1.lt
        simp at x0 x1 x2
        clear hb2 g0 g1 hbx
        go_wp2_with fail
        refine ((HCb _ HB2.out).out).mono ?_
        rintro e w3 ⟨rfl, hb3⟩
        obtain ⟨⟨g0, g1⟩, hbx⟩ := HSt.out _ _ HB2.out hb3 HG0.out HG1.out
        have HB3 := Lib.hid hbx
        clear x0 x1 x2 l1
        have x0 := g1.cell 0
        have x1 := g1.cell 1
        have x2 := g1.cell 2
        have l1 := g1.lt
        have y0 := g0.cell 0
        have y1 := g0.cell 1
        have y2 := g0.cell 2
        have l0 := g0.lt
        simp at x0 x1 x2 y0 y1 y2
        clear hb3 g0 g1 hbx
        go_wp2_with fail
        refine ((HLv _ HB3.out).out).mono ?_
        rintro e w4 ⟨rfl, hb4⟩
        have HB4 := Lib.hid (HB3.out.trans (hb4.mono HB3.out.size))
        clear hb4
        go_wp2
        go_ret
        exact ⟨rfl, HB4.out⟩
set_option maxRecDepth 100000 in
set_option maxHeartbeats 8000000 in
theorem refSame_any (a b : Ty) (vn va un ua : Value) (w : World) (oka : TyOk a) (okb : TyOk b) (ha : TyAt w vn va a) (hb : TyAt w un ua b) :
    Calls Tryd.prog 23 #[.agg #[.int .i64 a.kind, vn, va], .agg #[.int .i64 b.kind, un, ua]] w (BoolB w (sameV a b)) := by
  obtain ⟨hh0, hh1, hbw, hsz⟩ := box2 w [.int .i64 a.kind, vn, va] [.int .i64 b.kind, un, ua] 25 _ rfl
  have HCa := fun (W : World) (h : Below w.heap.size w W) => Lib.hid (refCheck_any a vn va W (ha.frame (Nat.le_refl _) h) oka)
  have HCb := fun (W : World) (h : Below w.heap.size w W) => Lib.hid (refCheck_any b un ua W (hb.frame (Nat.le_refl _) h) okb)
  have HL := fun (W : World) (h : Below w.heap.size w W) (hv : validB 50 a = true) => Lib.hid (like_any 50 a b vn va un ua W hv oka okb (ha.frame (Nat.le_refl _) h) (hb.frame (Nat.le_refl _) h))
  have HVl : Hid (checkV a = true → validB 50 a = true) := Lib.hid (fun h => ((check_iff a).1 h).1)
  have HR : Hid (sameV a b = (checkV a && checkV b && eqF 50 a b)) := Lib.hid rfl
  generalize sameV a b = R at HR ⊢
  obtain ⟨an, cn, ab, cb, rfl, rfl⟩ := ha.shape
  obtain ⟨bn, dn, bb, db, rfl, rfl⟩ := hb.shape
  have HBW := Lib.hid hbw
  have HH0 := Lib.hid hh0
  have HH1 := Lib.hid hh1
  clear ha hb hbw hh0 hh1 hsz oka okb
  generalize checkV a = ca at HCa HVl HR
  generalize checkV b = cb2 at HCb HR
  generalize eqF 50 a b = q at HL HR
  have HSt : Hid (∀ W W1, Below w.heap.size w W → Below W.heap.size W W1 → Has W w.heap.size 25 [.int .i64 a.kind, .slice an a.names.length cn, .slice ab a.args.length cb] → Has W (w.heap.size + 1) 25 [.int .i64 b.kind, .slice bn b.names.length dn, .slice bb b.args.length db] → 
      (Has W1 w.heap.size 25 [.int .i64 a.kind, .slice an a.names.length cn, .slice ab a.args.length cb] ∧ Has W1 (w.heap.size + 1) 25 [.int .i64 b.kind, .slice bn b.names.length dn, .slice bb b.args.length db]) ∧ Below w.heap.size w W1) :=
    Lib.hid (fun W W1 h1 h2 h3 h4 => ⟨⟨h3.below h2 h3.lt, h4.below h2 h4.lt⟩, h1.trans (h2.mono h1.size)⟩)
  cases ca
  · have HF : Hid (R = false) := Lib.hid (by rw [HR.out]; rfl)
    obtain rfl := HF.out
    clear HR
    go_enter Tryd.func23, Tryd.ntmps23
    go_wp2_with fail
    refine ((HCa _ HBW.out).out).mono ?_
    rintro e w2 ⟨rfl, hb2⟩
    have HB2 := Lib.hid (HBW.out.trans (hb2.mono HBW.out.size))
    clear hb2
    go_wp2
    go_ret
    exact ⟨rfl, HB2.out⟩
  · cases cb2
    · have HF : Hid (R = false) := Lib.hid (by rw [HR.out]; rfl)
      obtain rfl := HF.out
      clear HR
      go_enter Tryd.func23, Tryd.ntmps23
      go_wp2_with fail
      refine ((HCa _ HBW.out).out).mono ?_
      rintro e w2 ⟨rfl, hb2⟩
      obtain ⟨⟨g0, g1⟩, hbx⟩ := HSt.out _ _ HBW.out hb2 HH0.out HH1.out
      have HB2 := Lib.hid hbx
      have x0 := g1.cell 0
      have x1 := g1.cell 1
      have x2 := g1.cell 2
      have l1 := g1.lt
      simp at x0 x1 x2
      clear hb2 g0 g1 hbx
      go_wp2_with fail
      refine ((HCb _ HB2.out).out).mono ?_
      rintro e w3 ⟨rfl, hb3⟩
      have HB3 := Lib.hid (HB2.out.trans (hb3.mono HB2.out.size))
      clear hb3
      go_wp2
      go_ret
      exact ⟨rfl, HB3.out⟩
    · have HF : Hid (R = q) := Lib.hid (by rw [HR.out]; rfl)
      obtain rfl := HF.out
      have HLv := fun (W : World) (h : Below w.heap.size w W) => HL W h (HVl.out rfl)
      clear HR HL
      cases R
      all_goals
        go_enter Tryd.func23, Tryd.ntmps23
        go_wp2_with fail
        refine ((HCa _ HBW.out).out).mono ?_
        rintro e w2 ⟨rfl, hb2⟩
        obtain ⟨⟨g0, g1⟩, hbx⟩ := HSt.out _ _ HBW.out hb2 HH0.out HH1.out
        have HB2 := Lib.hid hbx
        have HG0 := Lib.hid g0
        have HG1 := Lib.hid g1
        have x0 := g1.cell 0
        have x1 := g1.cell 1
        have x2 := g1.cell 2
        have l1 := g1.lt
        simp at x0 x1 x2
        clear hb2 g0 g1 hbx
        go_wp2_with fail
        refine ((HCb _ HB2.out).out).mono ?_
        rintro e w3 ⟨rfl, hb3⟩
        obtain ⟨⟨g0, g1⟩, hbx⟩ := HSt.out _ _ HB2.out hb3 HG0.out HG1.out
        have HB3 := Lib.hid hbx
        clear x0 x1 x2 l1
        have x0 := g1.cell 0
        have x1 := g1.cell 1
        have x2 := g1.cell 2
        have l1 := g1.lt
        have y0 := g0.cell 0
        have y1 := g0.cell 1
        have y2 := g0.cell 2
        have l0 := g0.lt
        simp at x0 x1 x2 y0 y1 y2
        clear hb3 g0 g1 hbx
        go_wp2_with fail
        refine ((HLv _ HB3.out).out).mono ?_
        rintro e w4 ⟨rfl, hb4⟩
        have HB4 := Lib.hid (HB3.out.trans (hb4.mono HB3.out.size))
        clear hb4
        go_wp2
        go_ret
        exact ⟨rfl, HB4.out⟩
end TyD
end Go.Proofs.YthcdbmbimdkcfaaDoor
