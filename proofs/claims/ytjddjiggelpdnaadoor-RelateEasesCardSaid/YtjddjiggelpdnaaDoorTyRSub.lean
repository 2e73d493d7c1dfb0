/- Sub: the document's. -/
import Derived.Test.YtjddjiggelpdnaaDoorTyRSubB
import Derived.Test.YtjddjiggelpdnaaDoorTyRSubC
namespace Go.Proofs.YtjddjiggelpdnaaDoor
open Go.RowKit ObjM
namespace TyD
open LexD (nameB WTab)

set_option maxRecDepth 100000 in
set_option maxHeartbeats 32000000 in
theorem refSub_any : ∀ (r : Nat) (a b : Ty) (vn va un ua : Value) (w : World), Ok r a → Ok r b → TyOk a → TyOk b → TyAt w vn va a → TyAt w un ua b →
    Calls Tryd.prog 34 #[.agg #[.int .i64 a.kind, vn, va], .agg #[.int .i64 b.kind, un, ua]] w (BoolB w (subB r a b)) := by
  intro r
  induction r with
  | zero =>
    intro a b vn va un ua w hv
    cases hv.valid
  | succ r ih =>
    intro a b vn va un ua w hva hvb oka okb ha hb
    have ka := hva.kind
    have kb := hvb.kind
    have H88 := Lib.hid (fun (h8 : a.kind = 8 ∧ b.kind = 8) => rsub88 r a b vn va un ua w h8.1 h8.2 hva hvb oka okb ha hb)
    have H99 := Lib.hid (fun (h9 : a.kind = 9 ∧ b.kind = 9) (hl : a.args.length = b.args.length) => rsub99 r a b vn va un ua w h9.1 h9.2 hl hva hvb oka okb ha hb ih)
    obtain ⟨R, hR⟩ : ∃ R, subB (r + 1) a b = R := ⟨_, rfl⟩
    have HRZ := Lib.hid hR
    rw [hR] at H88 H99 ⊢
    clear hR
    obtain ⟨hh0, hh1, hbw, hsz⟩ := box2 w [.int .i64 a.kind, vn, va] [.int .i64 b.kind, un, ua] 25 _ rfl
    have HTa := Lib.hid (fun (W : World) (h : Below w.heap.size w W) => ha.frame (Nat.le_refl _) h)
    have HTb := Lib.hid (fun (W : World) (h : Below w.heap.size w W) => hb.frame (Nat.le_refl _) h)
    have HK5 := Lib.hid (fun (W : World) (h : Below w.heap.size w W) => refKinds_any (.mk 5 [] []) (.slice none 0 0) (.slice none 0 0) W tab_ok (TyAt.of (StrsAt.nil W) (TysAt.nil W)))
    rw [show kindsC (.mk 5 [] []) = 16 by decide +kernel] at HK5
    have HFa := Lib.hid (fun (W : World) (h : Below w.heap.size w W) => rflat10_any a vn va W (HTa.out _ h))
    have HFb := Lib.hid (fun (W : World) (h : Below w.heap.size w W) => rflat10_any b un ua W (HTb.out _ h))
    have HKa := Lib.hid (fun (W : World) (h : Below w.heap.size w W) => refKinds_any a vn va W oka (HTa.out _ h))
    have HKb := Lib.hid (fun (W : World) (h : Below w.heap.size w W) => refKinds_any b un ua W okb (HTb.out _ h))
    have HMk : Hid ((bits BinOp.andNot IntKind.i64 (kindsC a : Int) (kindsC b : Int) == 0) = maskB (kindsV a) (kindsV b)) := Lib.hid (by
      rw [mask_bits (kindsC_lt a) (kindsC_lt b)]
      unfold kindsC
      rw [if_pos hva.check, if_pos hvb.check])
    have HM7 : Hid ((bits BinOp.and IntKind.i64 (kindsC b : Int) 16 != 0) = maskB 16 (kindsV b)) := Lib.hid (by
      have e : kindsC b = kindsV b := by unfold kindsC; rw [if_pos hvb.check]
      exact (and_fin ⟨kindsC b, kindsC_lt b⟩).trans (by show maskB 16 (kindsC b) = _; rw [e]))
    have HK16 : Hid (a.kind = 8 → kindsV a = 16) := Lib.hid kinds_shape
    have HR : Hid (subB (r + 1) a b = if b.kind = 0 then true else if a.kind = 0 then false else if a.kind = 8 ∧ b.kind = 8 then fieldsB sameV a b else if a.kind = 9 ∧ b.kind = 9 then arrowB (subB r) a.args b.args
      else if a.kind ≤ 8 then decide (b.kind ≤ 7) && maskB (kindsV a) (kindsV b) else false) := Lib.hid rfl
    have HNb := Lib.hid (fun (W : World) (h : Below w.heap.size w W) => (show StrsAt W un b.names by obtain ⟨k, ns, ts⟩ := b; exact (hb.frame (Nat.le_refl _) h).parts.1))
    have HAa := Lib.hid (show TysAt w va a.args by obtain ⟨k, ns, ts⟩ := a; exact ha.parts.2)
    have HAb := Lib.hid (show TysAt w ua b.args by obtain ⟨k, ns, ts⟩ := b; exact hb.parts.2)
    have HFd := Lib.hid (fun (h8 : a.kind = 8) (s : ByteArray) (W : World) (h : Below w.heap.size w W) => field_any a s vn va W oka (HTa.out _ h) (hva.shape h8).1)
    have HSh := Lib.hid (fun (h8 : b.kind = 8) => (hvb.shape h8).1)
    have HFu := Lib.hid (fun (h9 : a.kind = 9) => (hva.func h9).2)
    have HOa := Lib.hid (okArg oka)
    have HOb := Lib.hid (okArg okb)
    have HPa := Lib.hid hva.pred
    have HPb := Lib.hid hvb.pred
    have HIH := Lib.hid ih
    have HLa : Hid (a.args.length ≤ 140737488355328) := Lib.hid (by obtain ⟨k, ns, ts⟩ := a; exact oka.parts.2.2.2.1)
    have HLb : Hid (b.args.length ≤ 140737488355328 ∧ b.names.length ≤ 140737488355328) := Lib.hid (by obtain ⟨k, ns, ts⟩ := b; exact ⟨okb.parts.2.2.2.1, okb.parts.2.1⟩)
    rw [HRZ.out] at HR
    obtain ⟨fa, hfa⟩ : ∃ fa, flatB a.kind = fa := ⟨_, rfl⟩
    obtain ⟨fb, hfb⟩ : ∃ fb, flatB b.kind = fb := ⟨_, rfl⟩
    rw [hfa] at HFa
    rw [hfb] at HFb
    have hfa2 : fa = true ↔ a.kind ≤ 7 := by rw [← hfa]; unfold flatB; simp; omega
    have hfb2 : fb = true ↔ b.kind ≤ 7 := by rw [← hfb]; unfold flatB; simp; omega
    clear hfa hfb
    obtain ⟨an, cn, aa, ca, rfl, rfl⟩ := ha.shape
    obtain ⟨bn, dn, bb, db, rfl, rfl⟩ := hb.shape
    have HAf : Hid (∀ W, Below (w.heap.size + 1 + 1) ((w.alloc (.cells #[.int .i64 a.kind, .slice an a.names.length cn, .slice aa a.args.length ca] 25)).alloc (.cells #[.int .i64 b.kind, .slice bn b.names.length dn, .slice bb b.args.length db] 25)) W → (W.cell? ⟨w.heap.size, 0, none⟩ = some (.int .i64 a.kind) ∧ W.cell? ⟨w.heap.size, 1, none⟩ = some (.slice an a.names.length cn) ∧ W.cell? ⟨w.heap.size, 2, none⟩ = some (.slice aa a.args.length ca) ∧ W.cell? ⟨w.heap.size + 1, 0, none⟩ = some (.int .i64 b.kind) ∧ W.cell? ⟨w.heap.size + 1, 1, none⟩ = some (.slice bn b.names.length dn) ∧ W.cell? ⟨w.heap.size + 1, 2, none⟩ = some (.slice bb b.args.length db) ∧ w.heap.size < W.heap.size ∧ w.heap.size + 1 < W.heap.size) ∧ Below w.heap.size w W) := Lib.hid (fun W h => by
      have g0 := hh0.below h (by omega)
      have g1 := hh1.below h (by omega)
      exact ⟨⟨g0.cell 0, g0.cell 1, g0.cell 2, g1.cell 0, g1.cell 1, g1.cell 2, g0.lt, g1.lt⟩, hbw.trans (h.mono (by omega))⟩)
    have HB0 : Hid (Below (w.heap.size + 1 + 1) ((w.alloc (.cells #[.int .i64 a.kind, .slice an a.names.length cn, .slice aa a.args.length ca] 25)).alloc (.cells #[.int .i64 b.kind, .slice bn b.names.length dn, .slice bb b.args.length db] 25)) ((w.alloc (.cells #[.int .i64 a.kind, .slice an a.names.length cn, .slice aa a.args.length ca] 25)).alloc (.cells #[.int .i64 b.kind, .slice bn b.names.length dn, .slice bb b.args.length db] 25))) := Lib.hid (Below.refl _ _)
    have HW0 := Lib.hid (HAf.out _ HB0.out).2
    have HSz : Hid (((w.alloc (.cells #[.int .i64 a.kind, .slice an a.names.length cn, .slice aa a.args.length ca] 25)).alloc (.cells #[.int .i64 b.kind, .slice bn b.names.length dn, .slice bb b.args.length db] 25)).heap.size = w.heap.size + 1 + 1) := Lib.hid hsz
    have HFx : Hid (∀ W W', Below (w.heap.size + 1 + 1) ((w.alloc (.cells #[.int .i64 a.kind, .slice an a.names.length cn, .slice aa a.args.length ca] 25)).alloc (.cells #[.int .i64 b.kind, .slice bn b.names.length dn, .slice bb b.args.length db] 25)) W → Below W.heap.size W W' → Below (w.heap.size + 1 + 1) ((w.alloc (.cells #[.int .i64 a.kind, .slice an a.names.length cn, .slice aa a.args.length ca] 25)).alloc (.cells #[.int .i64 b.kind, .slice bn b.names.length dn, .slice bb b.args.length db] 25)) W') := Lib.hid (fun W W' h1 h2 => h1.trans (h2.mono (by have := h1.size; rw [HSz.out] at this; exact this)))
    clear ha hb oka okb hva hvb ih hh0 hh1 hbw hsz HNb HAa HAb HFd HSh HFu HOa HOb HPa HPb HIH HLa HLb
    by_cases b0 : b.kind = 0
    · have e1 : (b.kind == 0) = true := by simpa using b0
      have HF : Hid (R = true) := Lib.hid (by rw [HR.out, if_pos b0])
      obtain rfl := HF.out
      clear HR
      clear b0 ka kb hfa2 hfb2
      go_enter Tryd.func34, Tryd.ntmps34
      go_wp2_with fail
      refine (HK5.out _ HW0.out).mono ?_
      rintro e w1 ⟨rfl, hb⟩
      have HB1 := Lib.hid (HFx.out _ _ HB0.out hb)
      obtain ⟨⟨x0, x1, x2, y0, y1, y2, lA, lB⟩, hw⟩ := HAf.out _ HB1.out
      have HW1 := Lib.hid hw
      clear hb hw
      go_wp2
      go_ret
      exact ⟨rfl, HW1.out⟩
    have e1 : (b.kind == 0) = false := by simpa using b0
    have HRb : Hid (R = if a.kind = 0 then false else if a.kind = 8 ∧ b.kind = 8 then fieldsB sameV a b else if a.kind = 9 ∧ b.kind = 9 then arrowB (subB r) a.args b.args
      else if a.kind ≤ 8 then decide (b.kind ≤ 7) && maskB (kindsV a) (kindsV b) else false) := Lib.hid (by rw [HR.out, if_neg b0])
    clear HR
    have HR := HRb
    clear HRb
    by_cases ta : a.kind ≤ 7
    · obtain rfl : fa = true := hfa2.2 ta
      by_cases tb : b.kind ≤ 7
      · obtain rfl : fb = true := hfb2.2 tb
        by_cases a0 : a.kind = 0
        · have e2 : (a.kind != 0) = false := by simpa using a0
          have HF : Hid (R = false) := Lib.hid (by rw [HR.out, if_pos a0])
          obtain rfl := HF.out
          clear HR
          clear a0 b0 ka kb hfa2 hfb2 ta tb
          go_enter Tryd.func34, Tryd.ntmps34
          go_wp2_with fail
          refine (HK5.out _ HW0.out).mono ?_
          rintro e w1 ⟨rfl, hb⟩
          have HB1 := Lib.hid (HFx.out _ _ HB0.out hb)
          obtain ⟨⟨x0, x1, x2, y0, y1, y2, lA, lB⟩, hw⟩ := HAf.out _ HB1.out
          have HW1 := Lib.hid hw
          clear hb hw
          go_wp2_with fail
          refine (HFa.out _ HW1.out).mono ?_
          rintro e w2 ⟨rfl, hb⟩
          have HB2 := Lib.hid (HFx.out _ _ HB1.out hb)
          clear x0 x1 x2 y0 y1 y2 lA lB
          obtain ⟨⟨x0, x1, x2, y0, y1, y2, lA, lB⟩, hw⟩ := HAf.out _ HB2.out
          have HW2 := Lib.hid hw
          clear hb hw
          go_wp2_with fail
          refine (HFb.out _ HW2.out).mono ?_
          rintro e w3 ⟨rfl, hb⟩
          have HB3 := Lib.hid (HFx.out _ _ HB2.out hb)
          clear x0 x1 x2 y0 y1 y2 lA lB
          obtain ⟨⟨x0, x1, x2, y0, y1, y2, lA, lB⟩, hw⟩ := HAf.out _ HB3.out
          have HW3 := Lib.hid hw
          clear hb hw
          go_wp2
          go_quiet (fail)
          go_wp2
          go_ret
          exact ⟨rfl, drewN_below HW3.out _⟩
        · have e2 : (a.kind != 0) = true := by simpa using a0
          have hmk := HMk.out
          have HF : Hid (R = maskB (kindsV a) (kindsV b)) := Lib.hid (by rw [HR.out, if_neg a0, if_neg (by omega), if_neg (by omega), if_pos (by omega), decide_eq_true tb]; rfl)
          obtain rfl := HF.out
          clear HR
          generalize maskB (kindsV a) (kindsV b) = rm at hmk ⊢
          generalize (kindsC a : Int) = xa at HKa hmk
          generalize (kindsC b : Int) = xb at HKb hmk
          clear a0 b0 ka kb hfa2 hfb2 ta tb HMk HM7
          go_enter Tryd.func34, Tryd.ntmps34
          go_wp2_with fail
          refine (HK5.out _ HW0.out).mono ?_
          rintro e w1 ⟨rfl, hb⟩
          have HB1 := Lib.hid (HFx.out _ _ HB0.out hb)
          obtain ⟨⟨x0, x1, x2, y0, y1, y2, lA, lB⟩, hw⟩ := HAf.out _ HB1.out
          have HW1 := Lib.hid hw
          clear hb hw
          go_wp2_with fail
          refine (HFa.out _ HW1.out).mono ?_
          rintro e w2 ⟨rfl, hb⟩
          have HB2 := Lib.hid (HFx.out _ _ HB1.out hb)
          clear x0 x1 x2 y0 y1 y2 lA lB
          obtain ⟨⟨x0, x1, x2, y0, y1, y2, lA, lB⟩, hw⟩ := HAf.out _ HB2.out
          have HW2 := Lib.hid hw
          clear hb hw
          go_wp2_with fail
          refine (HFb.out _ HW2.out).mono ?_
          rintro e w3 ⟨rfl, hb⟩
          have HB3 := Lib.hid (HFx.out _ _ HB2.out hb)
          clear x0 x1 x2 y0 y1 y2 lA lB
          obtain ⟨⟨x0, x1, x2, y0, y1, y2, lA, lB⟩, hw⟩ := HAf.out _ HB3.out
          have HW3 := Lib.hid hw
          clear hb hw
          have HW : Hid (∀ W, Below w3.heap.size w3 W → (fun W' => W'.cell? ⟨w.heap.size, 0, none⟩ = some (.int .i64 a.kind) ∧ W'.cell? ⟨w.heap.size, 1, none⟩ = some (.slice an a.names.length cn) ∧ W'.cell? ⟨w.heap.size, 2, none⟩ = some (.slice aa a.args.length ca) ∧ W'.cell? ⟨w.heap.size + 1, 0, none⟩ = some (.int .i64 b.kind) ∧ W'.cell? ⟨w.heap.size + 1, 1, none⟩ = some (.slice bn b.names.length dn) ∧ W'.cell? ⟨w.heap.size + 1, 2, none⟩ = some (.slice bb b.args.length db)) W ∧ Below w.heap.size w W) := Lib.hid (fun W h => by
            obtain ⟨⟨g0, g1, g2, g3, g4, g5, g6, g7⟩, g8⟩ := HAf.out W (HFx.out _ _ HB3.out h)
            exact ⟨⟨g0, g1, g2, g3, g4, g5⟩, g8⟩)
          go_wp2
          first | (go_region_held3 (fun W' => W'.cell? ⟨w.heap.size, 0, none⟩ = some (.int .i64 a.kind) ∧ W'.cell? ⟨w.heap.size, 1, none⟩ = some (.slice an a.names.length cn) ∧ W'.cell? ⟨w.heap.size, 2, none⟩ = some (.slice aa a.args.length ca) ∧ W'.cell? ⟨w.heap.size + 1, 0, none⟩ = some (.int .i64 b.kind) ∧ W'.cell? ⟨w.heap.size + 1, 1, none⟩ = some (.slice bn b.names.length dn) ∧ W'.cell? ⟨w.heap.size + 1, 2, none⟩ = some (.slice bb b.args.length db))
            (first | exact (HW.out _ (Below.refl _ _).drew).1 | exact (HW.out _ p2).1 | exact (HW.out _ p1).1 | skip)
            (first
              | (go_at_call 48
                 with_reducible refine (HKa.out _ (HW.out _ (Below.refl _ _).drew).2).mono ?_
                 rintro e w6 ⟨rfl, hb6⟩
                 have p1 := ((Below.refl w3.heap.size w3).drew).trans hb6)
              | (go_at_call 48
                 with_reducible refine (HKb.out _ (HW.out _ p1).2).mono ?_
                 rintro e w7 ⟨rfl, hb7⟩
                 have p2 := p1.trans (hb7.mono p1.size)))) | fail
          all_goals
            go_wp2
            go_ret
            exact ⟨rfl, (HW.out _ p2).2⟩
      · obtain rfl : fb = false := by cases fb with | false => rfl | true => exact absurd (hfb2.1 rfl) tb
        have e8 : (a.kind == 8) = false := by simp; omega
        have e9 : (a.kind == 9) = false := by simp; omega
        have HF : Hid (R = false) := Lib.hid (by rw [HR.out]; by_cases a0 : a.kind = 0; rw [if_pos a0]; rw [if_neg a0, if_neg (by omega), if_neg (by omega), if_pos (by omega), decide_eq_false tb]; rfl)
        obtain rfl := HF.out
        clear HR
        clear b0 ka kb hfa2 hfb2 ta tb
        go_enter Tryd.func34, Tryd.ntmps34
        go_wp2_with fail
        refine (HK5.out _ HW0.out).mono ?_
        rintro e w1 ⟨rfl, hb⟩
        have HB1 := Lib.hid (HFx.out _ _ HB0.out hb)
        obtain ⟨⟨x0, x1, x2, y0, y1, y2, lA, lB⟩, hw⟩ := HAf.out _ HB1.out
        have HW1 := Lib.hid hw
        clear hb hw
        go_wp2_with fail
        refine (HFa.out _ HW1.out).mono ?_
        rintro e w2 ⟨rfl, hb⟩
        have HB2 := Lib.hid (HFx.out _ _ HB1.out hb)
        clear x0 x1 x2 y0 y1 y2 lA lB
        obtain ⟨⟨x0, x1, x2, y0, y1, y2, lA, lB⟩, hw⟩ := HAf.out _ HB2.out
        have HW2 := Lib.hid hw
        clear hb hw
        go_wp2_with fail
        refine (HFb.out _ HW2.out).mono ?_
        rintro e w3 ⟨rfl, hb⟩
        have HB3 := Lib.hid (HFx.out _ _ HB2.out hb)
        clear x0 x1 x2 y0 y1 y2 lA lB
        obtain ⟨⟨x0, x1, x2, y0, y1, y2, lA, lB⟩, hw⟩ := HAf.out _ HB3.out
        have HW3 := Lib.hid hw
        clear hb hw
        go_wp2
        go_ret
        exact ⟨rfl, HW3.out⟩
    obtain rfl : fa = false := by cases fa with | false => rfl | true => exact absurd (hfa2.1 rfl) ta
    by_cases a8 : a.kind = 8
    · have e8 : (a.kind == 8) = true := by simpa using a8
      have e9 : (a.kind == 9) = false := by simp; omega
      by_cases tb : b.kind ≤ 7
      · obtain rfl : fb = true := hfb2.2 tb
        have hm7 := HM7.out
        have HF : Hid (R = maskB 16 (kindsV b)) := Lib.hid (by rw [HR.out, if_neg (by omega), if_neg (by omega), if_neg (by omega), if_pos (by omega), decide_eq_true tb, HK16.out a8]; rfl)
        obtain rfl := HF.out
        clear HR
        generalize maskB 16 (kindsV b) = rm at hm7 ⊢
        generalize (kindsC b : Int) = xb at HKb hm7
        clear a8 b0 ka kb hfa2 hfb2 ta tb HMk HM7
        go_enter Tryd.func34, Tryd.ntmps34
        go_wp2_with fail
        refine (HK5.out _ HW0.out).mono ?_
        rintro e w1 ⟨rfl, hb⟩
        have HB1 := Lib.hid (HFx.out _ _ HB0.out hb)
        obtain ⟨⟨x0, x1, x2, y0, y1, y2, lA, lB⟩, hw⟩ := HAf.out _ HB1.out
        have HW1 := Lib.hid hw
        clear hb hw
        go_wp2_with fail
        refine (HFa.out _ HW1.out).mono ?_
        rintro e w2 ⟨rfl, hb⟩
        have HB2 := Lib.hid (HFx.out _ _ HB1.out hb)
        clear x0 x1 x2 y0 y1 y2 lA lB
        obtain ⟨⟨x0, x1, x2, y0, y1, y2, lA, lB⟩, hw⟩ := HAf.out _ HB2.out
        have HW2 := Lib.hid hw
        clear hb hw
        go_wp2_with fail
        refine (HFb.out _ HW2.out).mono ?_
        rintro e w3 ⟨rfl, hb⟩
        have HB3 := Lib.hid (HFx.out _ _ HB2.out hb)
        clear x0 x1 x2 y0 y1 y2 lA lB
        obtain ⟨⟨x0, x1, x2, y0, y1, y2, lA, lB⟩, hw⟩ := HAf.out _ HB3.out
        have HW3 := Lib.hid hw
        clear hb hw
        go_wp2_with fail
        refine (HKb.out _ HW3.out).mono ?_
        rintro e w4 ⟨rfl, hb⟩
        have HB4 := Lib.hid (HFx.out _ _ HB3.out hb)
        clear x0 x1 x2 y0 y1 y2 lA lB
        obtain ⟨⟨x0, x1, x2, y0, y1, y2, lA, lB⟩, hw⟩ := HAf.out _ HB4.out
        have HW4 := Lib.hid hw
        clear hb hw
        go_wp2
        go_ret
        exact ⟨rfl, HW4.out⟩
      obtain rfl : fb = false := by cases fb with | false => rfl | true => exact absurd (hfb2.1 rfl) tb
      by_cases b8 : b.kind = 8
      · exact H88.out ⟨a8, b8⟩
      have f8 : (b.kind == 8) = false := by simpa using b8
      have HF : Hid (R = false) := Lib.hid (by rw [HR.out, if_neg (by omega), if_neg (by omega), if_neg (by omega), if_pos (by omega), decide_eq_false (by omega)]; rfl)
      obtain rfl := HF.out
      clear HR
      clear a8 b8 b0 ka kb hfa2 hfb2 HMk HM7
      go_enter Tryd.func34, Tryd.ntmps34
      go_wp2_with fail
      refine (HK5.out _ HW0.out).mono ?_
      rintro e w1 ⟨rfl, hb⟩
      have HB1 := Lib.hid (HFx.out _ _ HB0.out hb)
      obtain ⟨⟨x0, x1, x2, y0, y1, y2, lA, lB⟩, hw⟩ := HAf.out _ HB1.out
      have HW1 := Lib.hid hw
      clear hb hw
      go_wp2_with fail
      refine (HFa.out _ HW1.out).mono ?_
      rintro e w2 ⟨rfl, hb⟩
      have HB2 := Lib.hid (HFx.out _ _ HB1.out hb)
      clear x0 x1 x2 y0 y1 y2 lA lB
      obtain ⟨⟨x0, x1, x2, y0, y1, y2, lA, lB⟩, hw⟩ := HAf.out _ HB2.out
      have HW2 := Lib.hid hw
      clear hb hw
      go_wp2_with fail
      refine (HFb.out _ HW2.out).mono ?_
      rintro e w3 ⟨rfl, hb⟩
      have HB3 := Lib.hid (HFx.out _ _ HB2.out hb)
      clear x0 x1 x2 y0 y1 y2 lA lB
      obtain ⟨⟨x0, x1, x2, y0, y1, y2, lA, lB⟩, hw⟩ := HAf.out _ HB3.out
      have HW3 := Lib.hid hw
      clear hb hw
      go_wp2
      go_ret
      exact ⟨rfl, HW3.out⟩
    have a9 : a.kind = 9 := by omega
    have e8 : (a.kind == 8) = false := by simp; omega
    have e9 : (a.kind == 9) = true := by simpa using a9
    by_cases b9 : b.kind = 9
    · have f9 : (b.kind == 9) = true := by simpa using b9
      by_cases hlen : a.args.length = b.args.length
      · exact H99.out ⟨a9, b9⟩ hlen
      have hln : ((a.args.length : Int) == (b.args.length : Int)) = false := by simp; omega
      have HF : Hid (R = false) := Lib.hid (by rw [HR.out, if_neg (by omega), if_neg (by omega), if_pos ⟨a9, b9⟩]; unfold arrowB; rw [decide_eq_false hlen]; rfl)
      obtain rfl := HF.out
      clear HR
      clear a9 b9 b0 ka kb hfa2 hfb2 HMk HM7 hlen
      go_enter Tryd.func34, Tryd.ntmps34
      go_wp2_with fail
      refine (HK5.out _ HW0.out).mono ?_
      rintro e w1 ⟨rfl, hb⟩
      have HB1 := Lib.hid (HFx.out _ _ HB0.out hb)
      obtain ⟨⟨x0, x1, x2, y0, y1, y2, lA, lB⟩, hw⟩ := HAf.out _ HB1.out
      have HW1 := Lib.hid hw
      clear hb hw
      go_wp2_with fail
      refine (HFa.out _ HW1.out).mono ?_
      rintro e w2 ⟨rfl, hb⟩
      have HB2 := Lib.hid (HFx.out _ _ HB1.out hb)
      clear x0 x1 x2 y0 y1 y2 lA lB
      obtain ⟨⟨x0, x1, x2, y0, y1, y2, lA, lB⟩, hw⟩ := HAf.out _ HB2.out
      have HW2 := Lib.hid hw
      clear hb hw
      go_wp2
      go_ret
      exact ⟨rfl, HW2.out⟩
    have f9 : (b.kind == 9) = false := by simpa using b9
    have HF : Hid (R = false) := Lib.hid (by rw [HR.out, if_neg (by omega), if_neg (by omega), if_neg (by omega), if_neg (by omega)])
    obtain rfl := HF.out
    clear HR
    clear a9 b9 b0 ka kb hfa2 hfb2 HMk HM7
    go_enter Tryd.func34, Tryd.ntmps34
    go_wp2_with fail
    refine (HK5.out _ HW0.out).mono ?_
    rintro e w1 ⟨rfl, hb⟩
    have HB1 := Lib.hid (HFx.out _ _ HB0.out hb)
    obtain ⟨⟨x0, x1, x2, y0, y1, y2, lA, lB⟩, hw⟩ := HAf.out _ HB1.out
    have HW1 := Lib.hid hw
    clear hb hw
    go_wp2_with fail
    refine (HFa.out _ HW1.out).mono ?_
    rintro e w2 ⟨rfl, hb⟩
    have HB2 := Lib.hid (HFx.out _ _ HB1.out hb)
    clear x0 x1 x2 y0 y1 y2 lA lB
    obtain ⟨⟨x0, x1, x2, y0, y1, y2, lA, lB⟩, hw⟩ := HAf.out _ HB2.out
    have HW2 := Lib.hid hw
    clear hb hw
    go_wp2
    go_ret
    exact ⟨rfl, HW2.out⟩
end TyD
end Go.Proofs.YtjddjiggelpdnaaDoor
