/- RelateLeast: walked. -/
import Derived.Test.YthcdbmbimdkcfaaDoorTyLeastM
import Derived.Test.YthcdbmbimdkcfaaDoorTyL10a
import Derived.Deep.RegionHeld3
namespace Go.Proofs.YthcdbmbimdkcfaaDoor
open Go.RowKit ObjM
namespace TyD
open LexD (nameB WTab)

set_option maxRecDepth 100000 in
set_option maxHeartbeats 16000000 in
theorem least_u (a : Ty) (vn va : Value) (b : Ty) (un ua : Value) (c : Ty) (tn ta : Value) (w : World) (oka : TyOk a) (ha : TyAt w vn va a) (okb : TyOk b) (hb : TyAt w un ua b) (okc : TyOk c) (hc : TyAt w tn ta c) (hT : WTab w) (hK : KTab w) :
    Calls Tryd.prog 10 #[.agg #[.int .i64 a.kind, vn, va], .agg #[.int .i64 b.kind, un, ua], .agg #[.int .i64 c.kind, tn, ta]] w (BoolB w true) := by
  have HTa := Lib.hid (fun (W : World) (h : Below w.heap.size w W) => ha.frame (Nat.le_refl _) h)
  have HTb := Lib.hid (fun (W : World) (h : Below w.heap.size w W) => hb.frame (Nat.le_refl _) h)
  have HTc := Lib.hid (fun (W : World) (h : Below w.heap.size w W) => hc.frame (Nat.le_refl _) h)
  have HAw := Lib.hid (fun (W : World) (h : Below w.heap.size w W) => awake_any W (hT.below h) (hK.below h))
  obtain ⟨an, cn, aa, ca, rfl, rfl⟩ := ha.shape
  obtain ⟨bn, dn, bb, db, rfl, rfl⟩ := hb.shape
  obtain ⟨en, gn, ee, ge, rfl, rfl⟩ := hc.shape
  have HM := Lib.hid (fun (W : World) (h : Below w.heap.size w W) => meetT_any a b _ _ _ _ W oka okb (HTa.out _ h) (HTb.out _ h) (hT.below h))
  have HPa := Lib.hid (fun (W : World) (h : Below w.heap.size w W) => precT_any c a _ _ _ _ W okc oka (HTc.out _ h) (HTa.out _ h) (hT.below h))
  have HPb := Lib.hid (fun (W : World) (h : Below w.heap.size w W) => precT_any c b _ _ _ _ W okc okb (HTc.out _ h) (HTb.out _ h) (hT.below h))
  have HTp := Lib.hid (fun (t : Ty) (vn va : Value) (ok : TyOk t) (W : World) (h : Below w.heap.size w W) (ht : TyAt W vn va t) => precT_any t a vn va _ _ W ok oka ht (HTa.out _ h) (hT.below h))
  have HTq := Lib.hid (fun (t : Ty) (vn va : Value) (ok : TyOk t) (W : World) (h : Below w.heap.size w W) (ht : TyAt W vn va t) => precT_any t b vn va _ _ W ok okb ht (HTb.out _ h) (hT.below h))
  have HTr := Lib.hid (fun (t : Ty) (vn va : Value) (ok : TyOk t) (W : World) (h : Below w.heap.size w W) (ht : TyAt W vn va t) => precT_any c t _ _ vn va W okc ok (HTc.out _ h) ht (hT.below h))
  have HFa := Lib.hid (fun (h : [a, b, c].all fewV = true) => least_facts oka okb (show fewV a = true by simp at h; exact h.1) (show fewV b = true by simp at h; exact h.2.1))
  generalize meetT a b = oc at HM HFa
  have HG : Hid (∀ x y, precT c a = x → precT c b = y → x = true → y = true → [a, b, c].all fewV = true → ∃ t, oc = some t ∧ precT c t = true) := Lib.hid (fun x y hx hy h1 h2 h3 => (HFa.out h3).2 c (hx.trans h1) (hy.trans h2))
  generalize hq1 : precT c a = q1 at HPa
  generalize hq2 : precT c b = q2 at HPb
  have HQ := Lib.hid (⟨hq1, hq2⟩ : _ ∧ _)
  clear hq1 hq2
  have HFe := Lib.hid (fun (W : World) (h : Below w.heap.size w W) => fews_any [a, b, c] _ (W.alloc (.cells #[.int .i64 a.kind, .slice an a.names.length cn, .slice aa a.args.length ca, .int .i64 b.kind, .slice bn b.names.length dn, .slice bb b.args.length db, .int .i64 c.kind, .slice en c.names.length gn, .slice ee c.args.length ge] 25)) (row3_at (Has.new W 25 [.int .i64 a.kind, .slice an a.names.length cn, .slice aa a.args.length ca, .int .i64 b.kind, .slice bn b.names.length dn, .slice bb b.args.length db, .int .i64 c.kind, .slice en c.names.length gn, .slice ee c.args.length ge]) (HTa.out _ (h.alloc h.size _)) (HTb.out _ (h.alloc h.size _)) (HTc.out _ (h.alloc h.size _))) (by intro t ht; simp at ht; rcases ht with rfl | rfl | rfl <;> assumption) (by simp))
  generalize hfw : [a, b, c].all fewV = fw at HFe
  have HFw := Lib.hid hfw
  obtain ⟨hh0, hh1, hh2, hbw, hsz⟩ := box3w w [.int .i64 a.kind, .slice an a.names.length cn, .slice aa a.args.length ca] [.int .i64 b.kind, .slice bn b.names.length dn, .slice bb b.args.length db] [.int .i64 c.kind, .slice en c.names.length gn, .slice ee c.args.length ge] 25 _ rfl
  have HOK := Lib.hid (⟨oka, okb, okc⟩ : TyOk a ∧ TyOk b ∧ TyOk c)
  clear hT hK hfw oka ha okb hb okc hc
  go_enter Tryd.func10, Tryd.ntmps10
  go_wp2_with fail
  change Calls _ _ _ (World.alloc (World.alloc (World.alloc w _) _) _) _
  generalize World.alloc (World.alloc (World.alloc w _) _) _ = W0 at hh0 hh1 hh2 hbw hsz ⊢
  have HAf : Hid (∀ W, Below W0.heap.size W0 W → (W.cell? ⟨w.heap.size, 0, none⟩ = some (.int .i64 a.kind) ∧ W.cell? ⟨w.heap.size, 1, none⟩ = some (.slice an a.names.length cn) ∧ W.cell? ⟨w.heap.size, 2, none⟩ = some (.slice aa a.args.length ca) ∧ w.heap.size < W.heap.size ∧ W.cell? ⟨w.heap.size + 1, 0, none⟩ = some (.int .i64 b.kind) ∧ W.cell? ⟨w.heap.size + 1, 1, none⟩ = some (.slice bn b.names.length dn) ∧ W.cell? ⟨w.heap.size + 1, 2, none⟩ = some (.slice bb b.args.length db) ∧ w.heap.size + 1 < W.heap.size ∧ W.cell? ⟨w.heap.size + 1 + 1, 0, none⟩ = some (.int .i64 c.kind) ∧ W.cell? ⟨w.heap.size + 1 + 1, 1, none⟩ = some (.slice en c.names.length gn) ∧ W.cell? ⟨w.heap.size + 1 + 1, 2, none⟩ = some (.slice ee c.args.length ge) ∧ w.heap.size + 1 + 1 < W.heap.size) ∧ Below w.heap.size w W) := Lib.hid (fun W h => by
    have g0 := hh0.below h hh0.lt
    have g1 := hh1.below h hh1.lt
    have g2 := hh2.below h hh2.lt
    exact ⟨⟨g0.cell 0, g0.cell 1, g0.cell 2, g0.lt, g1.cell 0, g1.cell 1, g1.cell 2, g1.lt, g2.cell 0, g2.cell 1, g2.cell 2, g2.lt⟩, hbw.trans (h.mono hbw.size)⟩)
  have HB0 := Lib.hid (Below.refl W0.heap.size W0)
  have HV0 := Lib.hid (HAf.out _ HB0.out).2
  clear hh0 hh1 hh2 hbw hsz
  refine (HAw.out _ HV0.out).mono ?_
  rintro e w1 ⟨rfl, hb1⟩
  have HB1 := Lib.hid (below_on HB0.out hb1)
  clear hb1
  obtain ⟨⟨x00, x01, x02, l0, x10, x11, x12, l1, x20, x21, x22, l2⟩, hv1⟩ := HAf.out _ HB1.out
  have HV1 := Lib.hid hv1
  clear hv1
  go_wp2_with fail
  refine (HFe.out _ HV1.out).mono ?_
  rintro e w2 ⟨rfl, hb2⟩
  have HB2 := Lib.hid (below_on (HB1.out.alloc HB1.out.size _) hb2)
  clear hb2
  clear x00 x01 x02 l0 x10 x11 x12 l1 x20 x21 x22 l2
  obtain ⟨⟨x00, x01, x02, l0, x10, x11, x12, l1, x20, x21, x22, l2⟩, hv2⟩ := HAf.out _ HB2.out
  have HV2 := Lib.hid hv2
  clear hv2
  cases fw
  · go_wp2
    go_ret
    exact ⟨rfl, HV2.out⟩
  · go_wp2_with fail
    refine (HM.out _ HV2.out).mono ?_
    clear x00 x01 x02 l0 x10 x11 x12 l1 x20 x21 x22 l2
    cases oc with
    | none =>
      rintro e w3 ⟨rfl, hb3⟩
      have hb4 : Below w2.heap.size w2 (w3.alloc (.cells #[.int .i64 0, .slice none 0 0, .slice none 0 0] 25)) := hb3.alloc hb3.size _
      have HB4 := Lib.hid (below_on HB2.out hb4)
      have HV4 := Lib.hid (HAf.out _ HB4.out).2
      have HB3 := Lib.hid (below_on HB2.out hb3)
      obtain ⟨⟨x00, x01, x02, l0, x10, x11, x12, l1, x20, x21, x22, l2⟩, hv3⟩ := HAf.out _ HB3.out
      have HV3 := Lib.hid hv3
      clear hv3
      clear hb3 hb4
      go_wp2_with fail
      refine (HPa.out _ HV4.out).mono ?_
      rintro e w5 ⟨rfl, hb5⟩
      have HB5 := Lib.hid (below_on HB4.out hb5)
      clear hb5
      clear x00 x01 x02 l0 x10 x11 x12 l1 x20 x21 x22 l2
      obtain ⟨⟨x00, x01, x02, l0, x10, x11, x12, l1, x20, x21, x22, l2⟩, hv5⟩ := HAf.out _ HB5.out
      have HV5 := Lib.hid hv5
      clear hv5
      cases q1
      · go_wp2
        go_ret
        exact ⟨rfl, HV5.out⟩
      · go_wp2_with fail
        refine (HPb.out _ HV5.out).mono ?_
        rintro e w6 ⟨rfl, hb6⟩
        have HB6 := Lib.hid (below_on HB5.out hb6)
        clear hb6
        clear x00 x01 x02 l0 x10 x11 x12 l1 x20 x21 x22 l2
        obtain ⟨⟨x00, x01, x02, l0, x10, x11, x12, l1, x20, x21, x22, l2⟩, hv6⟩ := HAf.out _ HB6.out
        have HV6 := Lib.hid hv6
        clear hv6
        cases q2
        · go_wp2
          go_ret
          exact ⟨rfl, HV6.out⟩
        · obtain ⟨t, ht, -⟩ := HG.out _ _ HQ.out.1 HQ.out.2 rfl rfl HFw.out
          cases ht
    | some t =>
      rintro e w4 ⟨tn, ta, rfl, hs, hb4⟩
      have ht4 := hs.now
      obtain ⟨tn1, tn2, ta1, ta2, rfl, rfl⟩ := ht4.shape
      have HB4 := Lib.hid (below_on HB2.out hb4)
      clear hb4 hs
      obtain ⟨⟨x00, x01, x02, l0, x10, x11, x12, l1, x20, x21, x22, l2⟩, hv4⟩ := HAf.out _ HB4.out
      have HV4 := Lib.hid hv4
      clear hv4
      obtain ⟨okt, pt1, pt2⟩ := (HFa.out HFw.out).1 t rfl
      have HOt := Lib.hid okt
      have HP1 := Lib.hid pt1
      have HP2 := Lib.hid pt2
      clear okt pt1 pt2
      have hx := Has.new w4 25 [.int .i64 t.kind, .slice tn1 t.names.length tn2, .slice ta1 t.args.length ta2]
      have hbx : Below w4.heap.size w4 (w4.alloc (.cells #[.int .i64 t.kind, .slice tn1 t.names.length tn2, .slice ta1 t.args.length ta2] 25)) := (Below.refl _ w4).alloc (Nat.le_refl _) _
      have HX : Hid (∀ W, Below (w4.heap.size + 1) (w4.alloc (.cells #[.int .i64 t.kind, .slice tn1 t.names.length tn2, .slice ta1 t.args.length ta2] 25)) W → ((W.cell? ⟨w4.heap.size, 0, none⟩ = some (.int .i64 t.kind) ∧ W.cell? ⟨w4.heap.size, 1, none⟩ = some (.slice tn1 t.names.length tn2) ∧ W.cell? ⟨w4.heap.size, 2, none⟩ = some (.slice ta1 t.args.length ta2) ∧ w4.heap.size < W.heap.size) ∧ TyAt W (.slice tn1 t.names.length tn2) (.slice ta1 t.args.length ta2) t ∧ Below W0.heap.size W0 W ∧ Below w.heap.size w W) ∧ Below w4.heap.size w4 W ∧ w4.heap.size + 1 ≤ W.heap.size) := Lib.hid (fun W h => by
        have g := hx.below h (by omega)
        have hbW : Below w4.heap.size w4 W := hbx.trans (h.mono (by omega))
        have hb0 := below_on HB4.out hbW
        have hgl := g.lt
        exact ⟨⟨⟨g.cell 0, g.cell 1, g.cell 2, g.lt⟩, ht4.frame (Nat.le_refl _) hbW, hb0, (HAf.out _ hb0).2⟩, hbW, by omega⟩)
      have HBx := Lib.hid (Below.refl (w4.heap.size + 1) (w4.alloc (.cells #[.int .i64 t.kind, .slice tn1 t.names.length tn2, .slice ta1 t.args.length ta2] 25)))
      clear hx hbx ht4
      have HB5 := HBx
      obtain ⟨⟨⟨q0, q1, q2, lq⟩, htx, hzx, hvx⟩, -⟩ := HX.out _ HB5.out
      have HT5 := Lib.hid htx
      have HV5 := Lib.hid hvx
      clear q0 q1 q2 lq
      clear htx hvx hzx
      have HC := Lib.hid (HTp.out t _ _ HOt.out _ HV5.out HT5.out)
      rw [HP1.out] at HC
      go_wp2_with fail
      refine (HC.out).mono ?_
      rintro e w6 ⟨rfl, hb6⟩
      have HB6 := Lib.hid (HB5.out.trans (hb6.mono (HX.out _ HB5.out).2.2))
      clear hb6 HC
      skip
      clear x00 x01 x02 l0 x10 x11 x12 l1 x20 x21 x22 l2
      obtain ⟨⟨⟨k0, k1, k2, lq⟩, htx, hzx, hvx⟩, -⟩ := HX.out _ HB6.out
      have HT6 := Lib.hid htx
      have HV6 := Lib.hid hvx
      obtain ⟨⟨x00, x01, x02, l0, x10, x11, x12, l1, x20, x21, x22, l2⟩, -⟩ := HAf.out _ hzx
      clear htx hvx hzx
      have HC := Lib.hid (HTq.out t _ _ HOt.out _ HV6.out HT6.out)
      rw [HP2.out] at HC
      go_wp2_with fail
      refine (HC.out).mono ?_
      rintro e w7 ⟨rfl, hb7⟩
      have HB7 := Lib.hid (HB6.out.trans (hb7.mono (HX.out _ HB6.out).2.2))
      clear hb7 HC
      skip
      clear x00 x01 x02 l0 x10 x11 x12 l1 x20 x21 x22 l2
      clear k0 k1 k2 lq
      obtain ⟨⟨⟨k0, k1, k2, lq⟩, htx, hzx, hvx⟩, -⟩ := HX.out _ HB7.out
      have HT7 := Lib.hid htx
      have HV7 := Lib.hid hvx
      obtain ⟨⟨x00, x01, x02, l0, x10, x11, x12, l1, x20, x21, x22, l2⟩, -⟩ := HAf.out _ hzx
      clear htx hvx hzx
      have HC := Lib.hid (HPa.out _ HV7.out)
      go_wp2_with fail
      refine (HC.out).mono ?_
      rintro e w8 ⟨rfl, hb8⟩
      have HB8 := Lib.hid (HB7.out.trans (hb8.mono (HX.out _ HB7.out).2.2))
      clear hb8 HC
      skip
      clear x00 x01 x02 l0 x10 x11 x12 l1 x20 x21 x22 l2
      clear k0 k1 k2 lq
      obtain ⟨⟨⟨k0, k1, k2, lq⟩, htx, hzx, hvx⟩, -⟩ := HX.out _ HB8.out
      have HT8 := Lib.hid htx
      have HV8 := Lib.hid hvx
      obtain ⟨⟨x00, x01, x02, l0, x10, x11, x12, l1, x20, x21, x22, l2⟩, -⟩ := HAf.out _ hzx
      clear htx hvx hzx
      cases q1
      · go_wp2
        go_ret
        exact ⟨rfl, HV8.out⟩
      · have HC := Lib.hid (HPb.out _ HV8.out)
        go_wp2_with fail
        refine (HC.out).mono ?_
        rintro e w9 ⟨rfl, hb9⟩
        have HB9 := Lib.hid (HB8.out.trans (hb9.mono (HX.out _ HB8.out).2.2))
        clear hb9 HC
        skip
        clear x00 x01 x02 l0 x10 x11 x12 l1 x20 x21 x22 l2
        clear k0 k1 k2 lq
        obtain ⟨⟨⟨k0, k1, k2, lq⟩, htx, hzx, hvx⟩, -⟩ := HX.out _ HB9.out
        have HT9 := Lib.hid htx
        have HV9 := Lib.hid hvx
        obtain ⟨⟨x00, x01, x02, l0, x10, x11, x12, l1, x20, x21, x22, l2⟩, -⟩ := HAf.out _ hzx
        clear htx hvx hzx
        cases q2
        · go_wp2
          go_ret
          exact ⟨rfl, HV9.out⟩
        · have hct : precT c t = true := by
            obtain ⟨t2, e2, h2⟩ := HG.out _ _ HQ.out.1 HQ.out.2 rfl rfl HFw.out
            injection e2 with e2
            rw [e2]
            exact h2
          have HCt := Lib.hid hct
          clear hct
          have HC := Lib.hid (HTr.out t _ _ HOt.out _ HV9.out HT9.out)
          rw [HCt.out] at HC
          go_wp2_with fail
          refine (HC.out).mono ?_
          rintro e w10 ⟨rfl, hb10⟩
          have HB10 := Lib.hid (HB9.out.trans (hb10.mono (HX.out _ HB9.out).2.2))
          clear hb10 HC
          skip
          clear x00 x01 x02 l0 x10 x11 x12 l1 x20 x21 x22 l2
          clear k0 k1 k2 lq
          obtain ⟨⟨⟨k0, k1, k2, lq⟩, htx, hzx, hvx⟩, -⟩ := HX.out _ HB10.out
          have HT10 := Lib.hid htx
          have HV10 := Lib.hid hvx
          obtain ⟨⟨x00, x01, x02, l0, x10, x11, x12, l1, x20, x21, x22, l2⟩, -⟩ := HAf.out _ hzx
          clear htx hvx hzx
          go_wp2
          go_ret
          exact ⟨rfl, HV10.out⟩
end TyD
end Go.Proofs.YthcdbmbimdkcfaaDoor
