/- Precise: the program's. -/
import Derived.Test.YthcdbmbimdkcfaaDoorTyEase
namespace Go.Proofs.YthcdbmbimdkcfaaDoor
open Go.RowKit ObjM
namespace TyD
open LexD (nameB WTab)

set_option maxRecDepth 100000 in
set_option maxHeartbeats 8000000 in
theorem pair_any (a b : Ty) (vn va un ua : Value) (w : World) (oka : TyOk a) (okb : TyOk b) (ha : TyAt w vn va a) (hb : TyAt w un ua b) :
    Calls Tryd.prog 59 #[.agg #[.int .i64 a.kind, vn, va], .agg #[.int .i64 b.kind, un, ua]] w (BoolB w (pairB a b)) := by
  obtain ⟨k, ns, ts⟩ := a
  obtain ⟨k', ns', ts'⟩ := b
  obtain ⟨hn, ht⟩ := ha.parts
  obtain ⟨hn', ht'⟩ := hb.parts
  obtain ⟨_, ok1, _, ok3, _⟩ := oka.parts
  obtain ⟨_, ok1', ok2', ok3', _⟩ := okb.parts
  change Calls _ _ #[.agg #[.int .i64 k, vn, va], .agg #[.int .i64 k', un, ua]] w _
  obtain ⟨hh0, hh1, hbw, hsz⟩ := box2 w [.int .i64 k, vn, va] [.int .i64 k', un, ua] 25 _ rfl
  have HBW := Lib.hid hbw
  have HE := Lib.hid (fun (W : World) (h : Below w.heap.size w W) => strsEqual_any ns ns' vn un W (hn.below (Nat.le_refl _) h) (hn'.below (Nat.le_refl _) h) ok1 ok1')
  have HR : Hid (pairB (.mk k ns ts) (.mk k' ns' ts') = ((decide (k = 8) || decide (k = 9)) && decide (k = k') && decide (ts.length = ts'.length) && decide (ns = ns'))) := Lib.hid rfl
  generalize pairB (.mk k ns ts) (.mk k' ns' ts') = R at HR ⊢
  generalize decide (ns = ns') = q at HE HR
  obtain ⟨an, cn, rfl⟩ := hn.shape
  obtain ⟨bn, dn, rfl⟩ := hn'.shape
  obtain ⟨at_, ct, rfl⟩ := ht.shape
  obtain ⟨bt, dt, rfl⟩ := ht'.shape
  generalize ns.length = p at *
  generalize ns'.length = p' at *
  generalize ts.length = m at *
  generalize ts'.length = m' at *
  clear hn hn' ht ht' ha hb oka okb hbw hh0 hh1 hsz ok2'
  by_cases k89 : k = 8 ∨ k = 9
  · by_cases hk : k = k'
    · subst hk
      have hkb : (k == k) = true := by simp
      by_cases hm : m = m'
      · subst hm
        have hmb : ((m : Int) == (m : Int)) = true := by simp
        rcases k89 with rfl | rfl
        all_goals
          have HF : Hid (R = q) := Lib.hid (by rw [HR.out]; simp)
          obtain rfl := HF.out
          clear HR
          cases R
          all_goals
            go_enter Tryd.func59, Tryd.ntmps59
            go_wp2_with fail
            refine (HE.out _ HBW.out).mono ?_
            rintro e w2 ⟨rfl, hb2⟩
            have HB2 := Lib.hid (HBW.out.trans (hb2.mono HBW.out.size))
            clear hb2
            go_wp2
            go_ret
            exact ⟨rfl, HB2.out⟩
      · have hmb : ((m : Int) == (m' : Int)) = false := by simp; omega
        have HF : Hid (R = false) := Lib.hid (by rw [HR.out, decide_eq_false hm]; simp)
        obtain rfl := HF.out
        clear HR
        rcases k89 with rfl | rfl
        all_goals
          go_enter Tryd.func59, Tryd.ntmps59
          go_wp2
          go_ret
          exact ⟨rfl, HBW.out⟩
    · have hkb : (k == k') = false := by simpa using hk
      have HF : Hid (R = false) := Lib.hid (by rw [HR.out, decide_eq_false hk]; simp)
      obtain rfl := HF.out
      clear HR
      rcases k89 with rfl | rfl
      all_goals
        go_enter Tryd.func59, Tryd.ntmps59
        go_wp2
        go_ret
        exact ⟨rfl, HBW.out⟩
  · have k8 : (k == 8) = false := by simp; omega
    have k9 : (k == 9) = false := by simp; omega
    have HF : Hid (R = false) := Lib.hid (by rw [HR.out, decide_eq_false (show ¬ k = 8 by omega), decide_eq_false (show ¬ k = 9 by omega)]; rfl)
    obtain rfl := HF.out
    clear HR
    go_enter Tryd.func59, Tryd.ntmps59
    go_wp2
    go_ret
    exact ⟨rfl, HBW.out⟩
theorem prec_drop {r : Nat} {a b : List Ty} {k : Nat} (ha : k < a.length) (hb : k < b.length) : (((a.drop k).zip (b.drop k)).all fun x => precB r x.1 x.2) = (precB r a[k] b[k] && ((a.drop (k + 1)).zip (b.drop (k + 1))).all fun x => precB r x.1 x.2) := by
  rw [List.drop_eq_getElem_cons ha, List.drop_eq_getElem_cons hb]
  rfl
set_option maxRecDepth 100000 in
set_option maxHeartbeats 16000000 in
theorem precise_any : ∀ (r : Nat) (a b : Ty) (vn va un ua : Value) (w : World), Ok r a → Ok r b → TyOk a → TyOk b → TyAt w vn va a → TyAt w un ua b → WTab w →
    Calls Tryd.prog 37 #[.agg #[.int .i64 a.kind, vn, va], .agg #[.int .i64 b.kind, un, ua]] w (BoolB w (precB r a b)) := by
  intro r
  induction r with
  | zero =>
    intro a b vn va un ua w hv
    cases hv.valid
  | succ r ih =>
    intro a b vn va un ua w hva hvb oka okb ha hb hT
    obtain ⟨hh0, hh1, hbw, hsz⟩ := box2 w [.int .i64 a.kind, vn, va] [.int .i64 b.kind, un, ua] 25 _ rfl
    have HBW := Lib.hid hbw
    have HH0 := Lib.hid hh0
    have HH1 := Lib.hid hh1
    have HPa := Lib.hid (fun (W : World) (h : Below w.heap.size w W) => pair_any a b vn va un ua W oka okb (ha.frame (Nat.le_refl _) h) (hb.frame (Nat.le_refl _) h))
    have HSa := Lib.hid (fun (W : World) (h : Below w.heap.size w W) => same_any a b vn va un ua W oka okb (ha.frame (Nat.le_refl _) h) (hb.frame (Nat.le_refl _) h) (hT.below h))
    have HT := Lib.hid (fun (W : World) (h : Below w.heap.size w W) => (show TysAt W va a.args by obtain ⟨k, ns, ts⟩ := a; exact (ha.frame (Nat.le_refl _) h).parts.2))
    have HT' := Lib.hid (fun (W : World) (h : Below w.heap.size w W) => (show TysAt W ua b.args by obtain ⟨k, ns, ts⟩ := b; exact (hb.frame (Nat.le_refl _) h).parts.2))
    have HWT := Lib.hid (fun (W : World) (h : Below w.heap.size w W) => hT.below h)
    have HIH := Lib.hid (fun (x y : Ty) (vn va un ua : Value) (W : World) (hx : x ∈ a.args) (hy : y ∈ b.args) (h1 : TyAt W vn va x) (h2 : TyAt W un ua y) (h3 : WTab W) => ih x y vn va un ua W (hva.pred x hx) (hvb.pred y hy) (okArg oka x hx) (okArg okb y hy) h1 h2 h3)
    have HR : Hid (precB (r + 1) a b = if b.kind = 0 then true else if b.kind = 5 ∧ a.kind = 8 then true else if pairB a b then (a.args.zip b.args).all fun x => precB r x.1 x.2 else sameV a b) := Lib.hid rfl
    have HPl : Hid (pairB a b = true → a.args.length = b.args.length) := Lib.hid (fun h => (pairB_iff.1 h).2.2.1)
    have ok3 : a.args.length ≤ 140737488355328 := by obtain ⟨k, ns, ts⟩ := a; exact oka.parts.2.2.2.1
    obtain ⟨R, hR⟩ : ∃ R, precB (r + 1) a b = R := ⟨_, rfl⟩
    rw [hR] at HR ⊢
    generalize sameV a b = qs at HSa HR
    generalize pairB a b = qp at HPa HR HPl
    obtain ⟨an, cn, aa, ca, rfl, rfl⟩ := ha.shape
    obtain ⟨bn, dn, bb, db, rfl, rfl⟩ := hb.shape
    generalize a.kind = k at *
    generalize b.kind = k' at *
    clear ha hb oka okb hva hvb ih hT hbw hh0 hh1 hsz hR
    by_cases b0 : k' = 0
    · subst b0
      have HF : Hid (R = true) := Lib.hid (by rw [HR.out, if_pos rfl])
      obtain rfl := HF.out
      clear HR
      go_enter Tryd.func37, Tryd.ntmps37
      go_wp2
      go_ret
      exact ⟨rfl, HBW.out⟩
    have b0b : (k' == 0) = false := by simpa using b0
    by_cases h58 : k' = 5 ∧ k = 8
    · obtain ⟨rfl, rfl⟩ := h58
      have HF : Hid (R = true) := Lib.hid (by rw [HR.out, if_neg b0, if_pos ⟨rfl, rfl⟩])
      obtain rfl := HF.out
      clear HR
      go_enter Tryd.func37, Tryd.ntmps37
      go_wp2
      go_ret
      exact ⟨rfl, HBW.out⟩
    have hall : (k' == 5) = false ∨ ((k' == 5) = true ∧ (k == 8) = false) := by
      simp only [beq_iff_eq, beq_eq_false_iff_ne, ne_eq]
      omega
    have HR2 : Hid (R = if qp then (a.args.zip b.args).all fun x => precB r x.1 x.2 else qs) := Lib.hid (by rw [HR.out, if_neg b0, if_neg h58])
    have HAf : Hid (∀ W W1, Below W1.heap.size W1 W → Has W1 w.heap.size 25 [.int .i64 k, .slice an a.names.length cn, .slice aa a.args.length ca] → Has W1 (w.heap.size + 1) 25 [.int .i64 k', .slice bn b.names.length dn, .slice bb b.args.length db] → Below w.heap.size w W1 →
        (W.cell? ⟨w.heap.size, 0, none⟩ = some (.int .i64 k) ∧ W.cell? ⟨w.heap.size, 1, none⟩ = some (.slice an a.names.length cn) ∧ W.cell? ⟨w.heap.size, 2, none⟩ = some (.slice aa a.args.length ca) ∧ w.heap.size < W.heap.size) ∧
        (W.cell? ⟨w.heap.size + 1, 0, none⟩ = some (.int .i64 k') ∧ W.cell? ⟨w.heap.size + 1, 1, none⟩ = some (.slice bn b.names.length dn) ∧ W.cell? ⟨w.heap.size + 1, 2, none⟩ = some (.slice bb b.args.length db) ∧ w.heap.size + 1 < W.heap.size) ∧
        (Has W w.heap.size 25 [.int .i64 k, .slice an a.names.length cn, .slice aa a.args.length ca] ∧ Has W (w.heap.size + 1) 25 [.int .i64 k', .slice bn b.names.length dn, .slice bb b.args.length db] ∧ Below w.heap.size w W)) := Lib.hid (fun W W1 hb h0 h1 hw => by
      have g0 := h0.below hb h0.lt
      have g1 := h1.below hb h1.lt
      exact ⟨⟨g0.cell 0, g0.cell 1, g0.cell 2, g0.lt⟩, ⟨g1.cell 0, g1.cell 1, g1.cell 2, g1.lt⟩, g0, g1, hw.trans (hb.mono hw.size)⟩)
    clear HR h58 b0
    cases qp
    · have HF : Hid (R = qs) := Lib.hid HR2.out
      obtain rfl := HF.out
      clear HR2
      rcases hall with h5 | ⟨h5, h5'⟩
      all_goals
        go_enter Tryd.func37, Tryd.ntmps37
        go_wp2_with fail
        refine (HPa.out _ HBW.out).mono ?_
        rintro e w2 ⟨rfl, hb2⟩
        obtain ⟨⟨x0, x1, x2, lA⟩, ⟨y0, y1, y2, lB⟩, -, -, hbr⟩ := HAf.out w2 _ hb2 HH0.out HH1.out HBW.out
        have HB2 := Lib.hid hbr
        clear hb2 hbr
        go_wp2_with fail
        refine (HSa.out _ HB2.out).mono ?_
        rintro e w3 ⟨rfl, hb3⟩
        have HB3 := Lib.hid (HB2.out.trans (hb3.mono HB2.out.size))
        clear hb3
        go_wp2
        go_ret
        exact ⟨rfl, HB3.out⟩
    · have hlen := HPl.out rfl
      obtain ⟨m, hm⟩ : ∃ m, a.args.length = m := ⟨_, rfl⟩
      have hm' : b.args.length = m := by omega
      have HM := Lib.hid (⟨hm, hm'⟩ : _ ∧ _)
      have HF : Hid (R = ((a.args.drop 0).zip (b.args.drop 0)).all fun x => precB r x.1 x.2) := Lib.hid HR2.out
      rw [hm] at ok3
      clear HR2 hlen hm hm' HPl
      have hmi : (m : Int) ≤ 140737488355328 := by omega
      rcases hall with h5 | ⟨h5, h5'⟩
      all_goals
        go_enter Tryd.func37, Tryd.ntmps37
        go_wp2_with fail
        refine (HPa.out _ HBW.out).mono ?_
        rintro e w2 ⟨rfl, hb2⟩
        obtain ⟨⟨x0, x1, x2, lA⟩, ⟨y0, y1, y2, lB⟩, g0, g1, hbr⟩ := HAf.out w2 _ hb2 HH0.out HH1.out HBW.out
        have HG0 := Lib.hid g0
        have HG1 := Lib.hid g1
        have HB2 := Lib.hid hbr
        have HBr := Lib.hid (Below.refl w2.heap.size w2)
        clear hb2 g0 g1 hbr
        rw [HM.out.1] at x2
        rw [HM.out.2] at y2
        rw [HM.out.1, HM.out.2]
        go_wp2
        clear x0 x1 x2 lA y0 y1 y2 lB
        go_loopw [30] (fun i wr => ∃ j : Nat, i = .int .i64 (j : Int) ∧ j ≤ m ∧ Hid (Below w2.heap.size w2 wr) ∧ Hid (R = ((a.args.drop j).zip (b.args.drop j)).all fun x => precB r x.1 x.2)) (fun i _ => m - (intOf i).toNat)
        case atStart => exact ⟨0, rfl, by omega, HBr, HF⟩
        case round =>
          obtain ⟨j, rfl, hj, HB, HD⟩ := hrel
          obtain ⟨⟨x0, x1, x2, lA⟩, ⟨y0, y1, y2, lB⟩, -, -, hbr⟩ := HAf.out _ _ HB.out HG0.out HG1.out HB2.out
          have HBw := Lib.hid hbr
          rw [HM.out.1] at x2
          rw [HM.out.2] at y2
          clear hbr
          by_cases hlt : j < m
          · have hi1 : (j : Int) < (m : Int) := by omega
            have hja : j < a.args.length := by rw [HM.out.1]; exact hlt
            have hjb : j < b.args.length := by rw [HM.out.2]; exact hlt
            have HD2 := Lib.hid (prec_drop (r := r) hja hjb)
            have hTa := HT.out _ HBw.out
            have hTb := HT'.out _ HBw.out
            rw [HM.out.1] at hTa
            rw [HM.out.2] at hTb
            obtain ⟨ba, oa, vn, va, rfl, hba, c0, c1, c2, c3⟩ := hTa.at j hja
            obtain ⟨bb, ob, un, ub, rfl, hbb, d0, d1, d2, d3⟩ := hTb.at j hjb
            have hdw : Below wr.heap.size wr wr.drew := (Below.refl _ _).drew
            have HC := Lib.hid (HIH.out a.args[j] b.args[j] vn va un ub wr.drew (List.getElem_mem hja) (List.getElem_mem hjb) (c3.frame (Nat.le_refl _) hdw) (d3.frame (Nat.le_refl _) hdw) (HWT.out _ HBw.out.drew))
            obtain ⟨an2, cn2, ab2, cb2, rfl, rfl⟩ := c3.shape
            obtain ⟨bn2, dn2, bb2, db2, rfl, rfl⟩ := d3.shape
            generalize a.args[j] = x at HD2 c0 c1 c2 c3 HC
            generalize b.args[j] = y at HD2 d0 d1 d2 d3 HC
            obtain ⟨z, hz⟩ : ∃ z, precB r x y = z := ⟨_, rfl⟩
            rw [hz] at HC HD2
            clear c3 d3 hja hjb hz hdw hTa hTb
            go_wp2
            go_still_tail 10, (by kernel_rfl)
            change wpList _ _ _ _ _ wr.drew
            go_wp2_with fail
            refine (HC.out).mono ?_
            rintro e w4 ⟨rfl, hb4⟩
            have HB4 := Lib.hid (HB.out.drew.trans (hb4.mono HB.out.drew.size))
            have HB4r := Lib.hid (HBw.out.drew.trans (hb4.mono HBw.out.drew.size))
            clear hb4
            cases z
            · have HE : Hid (R = false) := Lib.hid (by rw [HD.out, HD2.out]; rfl)
              obtain rfl := HE.out
              clear HD HD2 HF
              go_wp2
              go_ret
              exact ⟨rfl, HB4r.out⟩
            · have HD4 : Hid (R = ((a.args.drop (j + 1)).zip (b.args.drop (j + 1))).all fun x => precB r x.1 x.2) := Lib.hid (by rw [HD.out, HD2.out]; rfl)
              clear HD HD2
              go_wp2
              go_roundw
              case rel => exact ⟨j + 1, by go_num, by omega, HB4, HD4⟩
              case measure => simp [intOf]; omega
          · have hjm : m = j := by omega
            have HE : Hid (R = true) := Lib.hid (by
              rw [HD.out, List.drop_eq_nil_of_le (by rw [HM.out.1]; omega), List.drop_eq_nil_of_le (by rw [HM.out.2]; omega)]
              rfl)
            obtain rfl := HE.out
            subst hjm
            clear HD HF
            go_wp2
            go_ret
            exact ⟨rfl, HBw.out⟩
end TyD
end Go.Proofs.YthcdbmbimdkcfaaDoor
