/- Precise: the document's. -/
import Derived.Test.YthcdbmbimdkcfaaDoorTyTop
namespace Go.Proofs.YthcdbmbimdkcfaaDoor
open Go.RowKit ObjM
namespace TyD
open LexD (nameB WTab)

theorem refPrec_eq (r : Nat) (a b : Ty) (ha : Ok (r + 1) a) : precB (r + 1) a b = if sameV a b then true else if b.kind = 0 then true else if b.kind = 5 ∧ a.kind = 8 then true else if pairB a b then (a.args.zip b.args).all fun x => precB r x.1 x.2 else false := by
  by_cases hs : sameV a b = true
  · rw [if_pos hs]
    obtain ⟨-, rfl⟩ := (sameV_iff a b).1 hs
    exact prec_refl _ _ ha
  · rw [if_neg hs, precB]
    have hs2 : sameV a b = false := by simpa using hs
    rw [hs2]
theorem names_len {r : Nat} {a b : Ty} (ha : Ok r a) (hb : Ok r b) (hk : a.kind = b.kind) (h89 : a.kind = 8 ∨ a.kind = 9) (hl : a.args.length = b.args.length) : a.names.length = b.names.length := by
  rcases h89 with h | h
  · rw [(ha.shape h).1, (hb.shape (by omega)).1, hl]
  · rw [(ha.func h).1, (hb.func (by omega)).1]
set_option maxRecDepth 100000 in
set_option maxHeartbeats 16000000 in
theorem paired_any (r : Nat) (a b : Ty) (vn va un ua : Value) (w : World) (hva : Ok (r + 1) a) (hvb : Ok (r + 1) b) (oka : TyOk a) (okb : TyOk b) (ha : TyAt w vn va a) (hb : TyAt w un ua b) :
    Calls Tryd.prog 60 #[.agg #[.int .i64 a.kind, vn, va], .agg #[.int .i64 b.kind, un, ua]] w (BoolB w (pairB a b)) := by
  have HNl := Lib.hid (names_len hva hvb)
  obtain ⟨k, ns, ts⟩ := a
  obtain ⟨k', ns', ts'⟩ := b
  obtain ⟨hn, ht⟩ := ha.parts
  obtain ⟨hn', ht'⟩ := hb.parts
  obtain ⟨_, ok1, _, ok3, ok4⟩ := oka.parts
  obtain ⟨_, ok1', _, ok3', ok4'⟩ := okb.parts
  change Calls _ _ #[.agg #[.int .i64 k, vn, va], .agg #[.int .i64 k', un, ua]] w _
  change Hid (k = k' → (k = 8 ∨ k = 9) → ts.length = ts'.length → ns.length = ns'.length) at HNl
  obtain ⟨hh0, hh1, hbw, hsz⟩ := box2 w [.int .i64 k, vn, va] [.int .i64 k', un, ua] 25 _ rfl
  have HN := Lib.hid (fun (W : World) (h : Below w.heap.size w W) => hn.below (Nat.le_refl _) h)
  have HN' := Lib.hid (fun (W : World) (h : Below w.heap.size w W) => hn'.below (Nat.le_refl _) h)
  have HR : Hid (pairB (.mk k ns ts) (.mk k' ns' ts') = ((decide (k = 8) || decide (k = 9)) && decide (k = k') && decide (ts.length = ts'.length) && decide (ns = ns'))) := Lib.hid rfl
  generalize pairB (.mk k ns ts) (.mk k' ns' ts') = R at HR ⊢
  obtain ⟨an, cn, rfl⟩ := hn.shape
  obtain ⟨bn, dn, rfl⟩ := hn'.shape
  obtain ⟨at_, ct, rfl⟩ := ht.shape
  obtain ⟨bt, dt, rfl⟩ := ht'.shape
  have HBW := Lib.hid hbw
  have HH0 := Lib.hid hh0
  have HH1 := Lib.hid hh1
  obtain ⟨n, hnl⟩ : ∃ n, ns.length = n := ⟨_, rfl⟩
  obtain ⟨n', hnl'⟩ : ∃ n, ns'.length = n := ⟨_, rfl⟩
  generalize ts.length = m at *
  generalize ts'.length = m' at *
  have HLn := Lib.hid hnl
  have HLn' := Lib.hid hnl'
  rw [hnl] at HBW HH0 HH1 HN ok1 HNl ⊢
  rw [hnl'] at HBW HH0 HH1 HN' ok1' HNl ⊢
  clear hn ht hn' ht' ha hb oka okb ok4 ok4' hva hvb hbw hh0 hh1 hsz hnl hnl'
  by_cases hk : k = k'
  · subst hk
    have hkb : (k != k) = false := by simp
    by_cases h89 : k = 8 ∨ k = 9
    · by_cases hm : m = m'
      · subst hm
        have hmb : ((m : Int) != (m : Int)) = false := by simp
        have hnn := HNl.out rfl h89 rfl
        subst hnn
        have HR2 : Hid (R = decide (ns = ns')) := Lib.hid (by rw [HR.out]; rcases h89 with h | h <;> rw [h] <;> simp)
        have h89b : ((k != 8) = false) ∨ ((k != 8) = true ∧ (k != 9) = false) := by
          rcases h89 with h | h <;> subst h <;> simp
        clear HR HNl h89
        rcases h89b with h8 | ⟨h8, h9⟩
        all_goals
          go_enter Tryd.func60, Tryd.ntmps60
          go_wp2
          change Code.wp _ _ _ _ (World.alloc (World.alloc w _) _)
          generalize World.alloc (World.alloc w (.cells #[.int .i64 k, .slice an n cn, .slice at_ m ct] 25)) (.cells #[.int .i64 k, .slice bn n dn, .slice bt m dt] 25) = w1 at HBW HH0 HH1 ⊢
          generalize hA : w.heap.size = A at HH0 HH1 ⊢
          have HAz := Lib.hid hA
          clear hA
          have HAf : Hid (∀ W, Below w1.heap.size w1 W → (W.cell? ⟨A, 1, none⟩ = some (.slice an n cn) ∧ A < W.heap.size) ∧ (W.cell? ⟨A + 1, 1, none⟩ = some (.slice bn n dn) ∧ A + 1 < W.heap.size) ∧ Below w.heap.size w W) := Lib.hid (fun W h => by
            have h0 := HH0.out.below h HH0.out.lt
            have h1 := HH1.out.below h HH1.out.lt
            exact ⟨⟨h0.cell 1, h0.lt⟩, ⟨h1.cell 1, h1.lt⟩, HBW.out.trans (h.mono HBW.out.size)⟩)
          go_loopw [33] (fun i wr => ∃ q : Nat, i = .int .i64 (q : Int) ∧ q ≤ n ∧ Hid (Below w1.heap.size w1 wr) ∧ Hid (ns.take q = ns'.take q)) (fun i _ => n - (intOf i).toNat)
          case atStart => exact ⟨0, rfl, by omega, Lib.hid (Below.refl _ _), Lib.hid rfl⟩
          case round =>
            obtain ⟨q, rfl, hq, HB, HD⟩ := hrel
            obtain ⟨⟨x1, lA⟩, ⟨y1, lB⟩, hbr⟩ := HAf.out _ HB.out
            have HBr := Lib.hid hbr
            clear hbr
            by_cases hlt : q < n
            · have hi1 : (q : Int) < (n : Int) := by omega
              have hka : q < ns.length := by rw [HLn.out]; exact hlt
              have hkb2 : q < ns'.length := by rw [HLn'.out]; exact hlt
              obtain ⟨ba, oa, rfl, hba, c0⟩ := (HN.out _ HBr.out).at q hka
              obtain ⟨bb, ob, rfl, hbb, d0⟩ := (HN'.out _ HBr.out).at q hkb2
              have HX := Lib.hid (names_ne hka hkb2)
              have HY := Lib.hid (names_eq hka hkb2 HD.out)
              generalize ns[q] = x at c0 HX HY
              generalize ns'[q] = y at d0 HX HY
              by_cases he : x.toList = y.toList
              · have h1 : (x.toList == y.toList) = true := by simpa using he
                have HN2 := Lib.hid (HY.out he)
                clear HX HY he
                go_wp2
                go_quiet (fail)
                go_wp2
                go_roundw
                case rel => exact ⟨q + 1, by go_num, by omega, Lib.hid (drewN_below HB.out _), HN2⟩
                case measure => simp [intOf]; omega
              · have h1 : (x.toList == y.toList) = false := by simpa using he
                have HF : Hid (R = false) := Lib.hid (by rw [HR2.out, decide_eq_false (HX.out he)])
                obtain rfl := HF.out
                clear HX HY he HR2
                go_wp2
                go_quiet (fail)
                go_wp2
                go_ret
                exact ⟨rfl, drewN_below HBr.out _⟩
            · have hqn : n = q := by omega
              have HF : Hid (R = true) := Lib.hid (by
                rw [HR2.out, decide_eq_true (names_all (by rw [HLn.out, HLn'.out]) (by rw [HLn.out, hqn]; exact HD.out))])
              obtain rfl := HF.out
              subst hqn
              clear HR2 HD
              go_wp2
              go_ret
              exact ⟨rfl, HBr.out⟩
      · have hmb : ((m : Int) != (m' : Int)) = true := by simp; omega
        have HF : Hid (R = false) := Lib.hid (by rw [HR.out, decide_eq_false hm]; simp)
        obtain rfl := HF.out
        have h89b : ((k != 8) = false) ∨ ((k != 8) = true ∧ (k != 9) = false) := by
          rcases h89 with h | h <;> subst h <;> simp
        clear HR h89
        rcases h89b with h8 | ⟨h8, h9⟩
        all_goals
          go_enter Tryd.func60, Tryd.ntmps60
          go_wp2
          go_ret
          exact ⟨rfl, HBW.out⟩
    · have h8 : (k != 8) = true := by simp; omega
      have h9 : (k != 9) = true := by simp; omega
      have HF : Hid (R = false) := Lib.hid (by rw [HR.out, decide_eq_false (show ¬ k = 8 by omega), decide_eq_false (show ¬ k = 9 by omega)]; rfl)
      obtain rfl := HF.out
      clear HR
      go_enter Tryd.func60, Tryd.ntmps60
      go_wp2
      go_ret
      exact ⟨rfl, HBW.out⟩
  · have hkb : (k != k') = true := by simpa using hk
    have HF : Hid (R = false) := Lib.hid (by rw [HR.out, decide_eq_false hk]; simp)
    obtain rfl := HF.out
    clear HR hk
    go_enter Tryd.func60, Tryd.ntmps60
    go_wp2
    go_ret
    exact ⟨rfl, HBW.out⟩
set_option maxRecDepth 100000 in
set_option maxHeartbeats 16000000 in
theorem refPrecise_any : ∀ (r : Nat) (a b : Ty) (vn va un ua : Value) (w : World), Ok r a → Ok r b → TyOk a → TyOk b → TyAt w vn va a → TyAt w un ua b →
    Calls Tryd.prog 38 #[.agg #[.int .i64 a.kind, vn, va], .agg #[.int .i64 b.kind, un, ua]] w (BoolB w (precB r a b)) := by
  intro r
  induction r with
  | zero =>
    intro a b vn va un ua w hv
    cases hv.valid
  | succ r ih =>
    intro a b vn va un ua w hva hvb oka okb ha hb
    obtain ⟨hh0, hh1, hbw, hsz⟩ := box2 w [.int .i64 a.kind, vn, va] [.int .i64 b.kind, un, ua] 25 _ rfl
    have HBW := Lib.hid hbw
    have HH0 := Lib.hid hh0
    have HH1 := Lib.hid hh1
    have HPa := Lib.hid (fun (W : World) (h : Below w.heap.size w W) => paired_any r a b vn va un ua W hva hvb oka okb (ha.frame (Nat.le_refl _) h) (hb.frame (Nat.le_refl _) h))
    have HSa := Lib.hid (fun (W : World) (h : Below w.heap.size w W) => refSame_any a b vn va un ua W oka okb (ha.frame (Nat.le_refl _) h) (hb.frame (Nat.le_refl _) h))
    have HT := Lib.hid (fun (W : World) (h : Below w.heap.size w W) => (show TysAt W va a.args by obtain ⟨k, ns, ts⟩ := a; exact (ha.frame (Nat.le_refl _) h).parts.2))
    have HT' := Lib.hid (fun (W : World) (h : Below w.heap.size w W) => (show TysAt W ua b.args by obtain ⟨k, ns, ts⟩ := b; exact (hb.frame (Nat.le_refl _) h).parts.2))
    have HIH := Lib.hid (fun (x y : Ty) (vn va un ua : Value) (W : World) (hx : x ∈ a.args) (hy : y ∈ b.args) (h1 : TyAt W vn va x) (h2 : TyAt W un ua y) => ih x y vn va un ua W (hva.pred x hx) (hvb.pred y hy) (okArg oka x hx) (okArg okb y hy) h1 h2)
    have HR : Hid (precB (r + 1) a b = if sameV a b then true else if b.kind = 0 then true else if b.kind = 5 ∧ a.kind = 8 then true else if pairB a b then (a.args.zip b.args).all fun x => precB r x.1 x.2 else false) := Lib.hid (refPrec_eq r a b hva)
    have HPl : Hid (pairB a b = true → a.args.length = b.args.length) := Lib.hid (fun h => (pairB_iff.1 h).2.2.1)
    have ok3 : a.args.length ≤ 140737488355328 := by obtain ⟨k, ns, ts⟩ := a; exact oka.parts.2.2.2.1
    obtain ⟨R, hR⟩ : ∃ R, precB (r + 1) a b = R := ⟨_, rfl⟩
    rw [hR] at HR ⊢
    generalize sameV a b = qs at HSa HR
    generalize pairB a b = qp at HPa HR HPl
    obtain ⟨an, cn, aa, ca, rfl, rfl⟩ := ha.shape
    obtain ⟨bn, dn, bb, db, rfl, rfl⟩ := hb.shape
    generalize a.kind = k at *
    generalize b.kind = k' at *
    clear ha hb oka okb hva hvb ih hbw hh0 hh1 hsz hR
    have HAf : Hid (∀ W W1, Below W1.heap.size W1 W → Has W1 w.heap.size 25 [.int .i64 k, .slice an a.names.length cn, .slice aa a.args.length ca] → Has W1 (w.heap.size + 1) 25 [.int .i64 k', .slice bn b.names.length dn, .slice bb b.args.length db] → Below w.heap.size w W1 →
        (W.cell? ⟨w.heap.size, 0, none⟩ = some (.int .i64 k) ∧ W.cell? ⟨w.heap.size, 1, none⟩ = some (.slice an a.names.length cn) ∧ W.cell? ⟨w.heap.size, 2, none⟩ = some (.slice aa a.args.length ca) ∧ w.heap.size < W.heap.size) ∧
        (W.cell? ⟨w.heap.size + 1, 0, none⟩ = some (.int .i64 k') ∧ W.cell? ⟨w.heap.size + 1, 1, none⟩ = some (.slice bn b.names.length dn) ∧ W.cell? ⟨w.heap.size + 1, 2, none⟩ = some (.slice bb b.args.length db) ∧ w.heap.size + 1 < W.heap.size) ∧
        (Has W w.heap.size 25 [.int .i64 k, .slice an a.names.length cn, .slice aa a.args.length ca] ∧ Has W (w.heap.size + 1) 25 [.int .i64 k', .slice bn b.names.length dn, .slice bb b.args.length db] ∧ Below w.heap.size w W)) := Lib.hid (fun W W1 hb h0 h1 hw => by
      have g0 := h0.below hb h0.lt
      have g1 := h1.below hb h1.lt
      exact ⟨⟨g0.cell 0, g0.cell 1, g0.cell 2, g0.lt⟩, ⟨g1.cell 0, g1.cell 1, g1.cell 2, g1.lt⟩, g0, g1, hw.trans (hb.mono hw.size)⟩)
    by_cases hqs : qs = true
    · subst hqs
      have HF : Hid (R = true) := Lib.hid (by rw [HR.out]; rfl)
      obtain rfl := HF.out
      clear HR
      go_enter Tryd.func38, Tryd.ntmps38
      go_wp2_with fail
      refine (HSa.out _ HBW.out).mono ?_
      rintro e w9 ⟨rfl, hb9⟩
      obtain ⟨⟨x0, x1, x2, lA⟩, ⟨y0, y1, y2, lB⟩, g0, g1, hbr⟩ := HAf.out w9 _ hb9 HH0.out HH1.out HBW.out
      have HG90 := Lib.hid g0
      have HG91 := Lib.hid g1
      have HB9 := Lib.hid hbr
      clear hb9 g0 g1 hbr
      go_wp2
      go_ret
      exact ⟨rfl, HB9.out⟩
    obtain rfl : qs = false := by simpa using hqs
    clear hqs
    by_cases b0 : k' = 0
    · subst b0
      have HF : Hid (R = true) := Lib.hid (by rw [HR.out]; rfl)
      obtain rfl := HF.out
      clear HR
      go_enter Tryd.func38, Tryd.ntmps38
      go_wp2_with fail
      refine (HSa.out _ HBW.out).mono ?_
      rintro e w9 ⟨rfl, hb9⟩
      obtain ⟨⟨x0, x1, x2, lA⟩, ⟨y0, y1, y2, lB⟩, g0, g1, hbr⟩ := HAf.out w9 _ hb9 HH0.out HH1.out HBW.out
      have HG90 := Lib.hid g0
      have HG91 := Lib.hid g1
      have HB9 := Lib.hid hbr
      clear hb9 g0 g1 hbr
      go_wp2
      go_ret
      exact ⟨rfl, HB9.out⟩
    have b0b : (k' == 0) = false := by simpa using b0
    by_cases h58 : k' = 5 ∧ k = 8
    · obtain ⟨rfl, rfl⟩ := h58
      have HF : Hid (R = true) := Lib.hid (by rw [HR.out]; rfl)
      obtain rfl := HF.out
      clear HR
      go_enter Tryd.func38, Tryd.ntmps38
      go_wp2_with fail
      refine (HSa.out _ HBW.out).mono ?_
      rintro e w9 ⟨rfl, hb9⟩
      obtain ⟨⟨x0, x1, x2, lA⟩, ⟨y0, y1, y2, lB⟩, g0, g1, hbr⟩ := HAf.out w9 _ hb9 HH0.out HH1.out HBW.out
      have HG90 := Lib.hid g0
      have HG91 := Lib.hid g1
      have HB9 := Lib.hid hbr
      clear hb9 g0 g1 hbr
      go_wp2
      go_ret
      exact ⟨rfl, HB9.out⟩
    have hall : (k' == 5) = false ∨ ((k' == 5) = true ∧ (k == 8) = false) := by
      simp only [beq_iff_eq, beq_eq_false_iff_ne, ne_eq]
      omega
    have HR2 : Hid (R = if qp then (a.args.zip b.args).all fun x => precB r x.1 x.2 else false) := Lib.hid (by rw [HR.out, if_neg (by simp), if_neg b0, if_neg h58])
    clear HR h58 b0
    cases qp
    · have HF : Hid (R = false) := Lib.hid HR2.out
      obtain rfl := HF.out
      clear HR2
      rcases hall with h5 | ⟨h5, h5'⟩
      all_goals
        go_enter Tryd.func38, Tryd.ntmps38
        go_wp2_with fail
        refine (HSa.out _ HBW.out).mono ?_
        rintro e w9 ⟨rfl, hb9⟩
        obtain ⟨⟨x0, x1, x2, lA⟩, ⟨y0, y1, y2, lB⟩, g0, g1, hbr⟩ := HAf.out w9 _ hb9 HH0.out HH1.out HBW.out
        have HG90 := Lib.hid g0
        have HG91 := Lib.hid g1
        have HB9 := Lib.hid hbr
        clear hb9 g0 g1 hbr
        go_wp2_with fail
        refine (HPa.out _ HB9.out).mono ?_
        rintro e w2 ⟨rfl, hb2⟩
        have HB2 := Lib.hid (HB9.out.trans (hb2.mono HB9.out.size))
        clear hb2
        go_wp2
        go_ret
        exact ⟨rfl, HB2.out⟩
    · have hlen := HPl.out rfl
      obtain ⟨m, hm⟩ : ∃ m, a.args.length = m := ⟨_, rfl⟩
      have hm' : b.args.length = m := by omega
      have HM := Lib.hid (⟨hm, hm'⟩ : _ ∧ _)
      have HF : Hid (R = ((a.args.drop 0).zip (b.args.drop 0)).all fun x => precB r x.1 x.2) := Lib.hid HR2.out
      rw [hm] at ok3
      clear HR2 hlen hm hm' HPl
      have hmi : (m : Int) ≤ 140737488355328 := by omega
      rcases hall with h5 | ⟨h5, h5'⟩
      all_goals
        go_enter Tryd.func38, Tryd.ntmps38
        go_wp2_with fail
        refine (HSa.out _ HBW.out).mono ?_
        rintro e w9 ⟨rfl, hb9⟩
        obtain ⟨⟨x0, x1, x2, lA⟩, ⟨y0, y1, y2, lB⟩, g0, g1, hbr⟩ := HAf.out w9 _ hb9 HH0.out HH1.out HBW.out
        have HG90 := Lib.hid g0
        have HG91 := Lib.hid g1
        have HB9 := Lib.hid hbr
        clear hb9 g0 g1 hbr
        go_wp2_with fail
        refine (HPa.out _ HB9.out).mono ?_
        rintro e w2 ⟨rfl, hb2⟩
        clear x0 x1 x2 lA y0 y1 y2 lB
        obtain ⟨⟨x0, x1, x2, lA⟩, ⟨y0, y1, y2, lB⟩, g0, g1, hbr⟩ := HAf.out w2 _ hb2 HG90.out HG91.out HB9.out
        have HG0 := Lib.hid g0
        have HG1 := Lib.hid g1
        have HB2 := Lib.hid hbr
        have HBr := Lib.hid (Below.refl w2.heap.size w2)
        clear hb2 g0 g1 hbr
        rw [HM.out.1] at x2
        rw [HM.out.2] at y2
        rw [HM.out.1, HM.out.2]
        go_wp2
        clear x0 x1 x2 lA y0 y1 y2 lB
        go_loopw [31] (fun i wr => ∃ j : Nat, i = .int .i64 (j : Int) ∧ j ≤ m ∧ Hid (Below w2.heap.size w2 wr) ∧ Hid (R = ((a.args.drop j).zip (b.args.drop j)).all fun x => precB r x.1 x.2)) (fun i _ => m - (intOf i).toNat)
        case atStart => exact ⟨0, rfl, by omega, HBr, HF⟩
        case round =>
          obtain ⟨j, rfl, hj, HB, HD⟩ := hrel
          obtain ⟨⟨x0, x1, x2, lA⟩, ⟨y0, y1, y2, lB⟩, -, -, hbr⟩ := HAf.out _ _ HB.out HG0.out HG1.out HB2.out
          have HBw := Lib.hid hbr
          rw [HM.out.1] at x2
          rw [HM.out.2] at y2
          clear hbr
          by_cases hlt : j < m
          · have hi1 : (j : Int) < (m : Int) := by omega
            have hja : j < a.args.length := by rw [HM.out.1]; exact hlt
            have hjb : j < b.args.length := by rw [HM.out.2]; exact hlt
            have HD2 := Lib.hid (prec_drop (r := r) hja hjb)
            have hTa := HT.out _ HBw.out
            have hTb := HT'.out _ HBw.out
            rw [HM.out.1] at hTa
            rw [HM.out.2] at hTb
            obtain ⟨ba, oa, vn, va, rfl, hba, c0, c1, c2, c3⟩ := hTa.at j hja
            obtain ⟨bb, ob, un, ub, rfl, hbb, d0, d1, d2, d3⟩ := hTb.at j hjb
            have hdw : Below wr.heap.size wr wr.drew := (Below.refl _ _).drew
            have HC := Lib.hid (HIH.out a.args[j] b.args[j] vn va un ub wr.drew (List.getElem_mem hja) (List.getElem_mem hjb) (c3.frame (Nat.le_refl _) hdw) (d3.frame (Nat.le_refl _) hdw))
            obtain ⟨an2, cn2, ab2, cb2, rfl, rfl⟩ := c3.shape
            obtain ⟨bn2, dn2, bb2, db2, rfl, rfl⟩ := d3.shape
            generalize a.args[j] = x at HD2 c0 c1 c2 c3 HC
            generalize b.args[j] = y at HD2 d0 d1 d2 d3 HC
            obtain ⟨z, hz⟩ : ∃ z, precB r x y = z := ⟨_, rfl⟩
            rw [hz] at HC HD2
            clear c3 d3 hja hjb hz hdw hTa hTb
            go_wp2
            go_still_tail 10, (by kernel_rfl)
            change wpList _ _ _ _ _ wr.drew
            go_wp2_with fail
            refine (HC.out).mono ?_
            rintro e w4 ⟨rfl, hb4⟩
            have HB4 := Lib.hid (HB.out.drew.trans (hb4.mono HB.out.drew.size))
            have HB4r := Lib.hid (HBw.out.drew.trans (hb4.mono HBw.out.drew.size))
            clear hb4
            cases z
            · have HE : Hid (R = false) := Lib.hid (by rw [HD.out, HD2.out]; rfl)
              obtain rfl := HE.out
              clear HD HD2 HF
              go_wp2
              go_ret
              exact ⟨rfl, HB4r.out⟩
            · have HD4 : Hid (R = ((a.args.drop (j + 1)).zip (b.args.drop (j + 1))).all fun x => precB r x.1 x.2) := Lib.hid (by rw [HD.out, HD2.out]; rfl)
              clear HD HD2
              go_wp2
              go_roundw
              case rel => exact ⟨j + 1, by go_num, by omega, HB4, HD4⟩
              case measure => simp [intOf]; omega
          · have hjm : m = j := by omega
            have HE : Hid (R = true) := Lib.hid (by
              rw [HD.out, List.drop_eq_nil_of_le (by rw [HM.out.1]; omega), List.drop_eq_nil_of_le (by rw [HM.out.2]; omega)]
              rfl)
            obtain rfl := HE.out
            subst hjm
            clear HD HF
            go_wp2
            go_ret
            exact ⟨rfl, HBw.out⟩
end TyD
end Go.Proofs.YthcdbmbimdkcfaaDoor
