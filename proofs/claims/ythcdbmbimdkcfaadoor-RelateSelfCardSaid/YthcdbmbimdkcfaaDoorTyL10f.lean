/- RelateSelf: walked. -/
import Derived.Test.YthcdbmbimdkcfaaDoorTyLeastM
import Derived.Test.YthcdbmbimdkcfaaDoorTyL10a
import Derived.Deep.RegionHeld3
namespace Go.Proofs.YthcdbmbimdkcfaaDoor
open Go.RowKit ObjM
namespace TyD
open LexD (nameB WTab)

set_option maxRecDepth 100000 in
set_option maxHeartbeats 16000000 in
theorem self_u (a : Ty) (vn va : Value) (w : World) (oka : TyOk a) (ha : TyAt w vn va a) (hT : WTab w) (hK : KTab w) :
    Calls Tryd.prog 9 #[.agg #[.int .i64 a.kind, vn, va]] w (BoolB w true) := by
  have HTa := Lib.hid (fun (W : World) (h : Below w.heap.size w W) => ha.frame (Nat.le_refl _) h)
  have HAw := Lib.hid (fun (W : World) (h : Below w.heap.size w W) => awake_any W (hT.below h) (hK.below h))
  obtain ⟨an, cn, aa, ca, rfl, rfl⟩ := ha.shape
  have HCa := Lib.hid (fun (W : World) (h : Below w.heap.size w W) => refCheck_any a _ _ W (HTa.out _ h) oka)
  have HM := Lib.hid (fun (W : World) (h : Below w.heap.size w W) => meetT_any a a _ _ _ _ W oka oka (HTa.out _ h) (HTa.out _ h) (hT.below h))
  have HSs := Lib.hid (fun (W : World) (h : Below w.heap.size w W) => subT_any a a _ _ _ _ W oka oka (HTa.out _ h) (HTa.out _ h) (hT.below h) (hK.below h))
  have HEs := Lib.hid (fun (W : World) (h : Below w.heap.size w W) => easeT_any a a _ _ _ _ W oka oka (HTa.out _ h) (HTa.out _ h) (hT.below h) (hK.below h))
  have HPs := Lib.hid (fun (W : World) (h : Below w.heap.size w W) => precT_any a a _ _ _ _ W oka oka (HTa.out _ h) (HTa.out _ h) (hT.below h))
  have HSy := Lib.hid (fun (W : World) (h : Below w.heap.size w W) => subT_any a anyT _ _ _ _ W oka any_ok (HTa.out _ h) (any_at W) (hT.below h) (hK.below h))
  have HEy := Lib.hid (fun (W : World) (h : Below w.heap.size w W) => easeT_any anyT a _ _ _ _ W any_ok oka (any_at W) (HTa.out _ h) (hT.below h) (hK.below h))
  have HSm := Lib.hid (fun (vn va : Value) (W : World) (h : Below w.heap.size w W) (ht : TyAt W vn va a) => refSame_any a a vn va _ _ W oka oka ht (HTa.out _ h))
  have HFa := Lib.hid (fun (h : checkV a = true) => self_facts h)
  generalize meetT a a = oc at HM HFa
  generalize subT a a = q1 at HSs HFa
  generalize easeT a a = q2 at HEs HFa
  generalize precT a a = q3 at HPs HFa
  generalize subT a anyT = q4 at HSy HFa
  generalize easeT anyT a = q5 at HEy HFa
  generalize sameV a a = q6 at HSm HFa
  generalize checkV a = ca1 at HCa HFa
  have HFe := Lib.hid (fun (W : World) (h : Below w.heap.size w W) => fews_any [a] _ (W.alloc (.cells #[.int .i64 a.kind, .slice an a.names.length cn, .slice aa a.args.length ca] 25)) (row1_at (Has.new W 25 [.int .i64 a.kind, .slice an a.names.length cn, .slice aa a.args.length ca]) (HTa.out _ (h.alloc h.size _))) (by intro t ht; simp at ht; subst ht; exact oka) (by simp))
  generalize hfw : [a].all fewV = fw at HFe
  have HFw := Lib.hid hfw
  obtain ⟨hh0, hbw, hsz⟩ := box1w w [.int .i64 a.kind, .slice an a.names.length cn, .slice aa a.args.length ca] 25 _ rfl
  have HOK := Lib.hid oka
  clear hT hK hfw oka ha
  go_enter Tryd.func9, Tryd.ntmps9
  go_wp2_with fail
  change Calls _ _ _ (World.alloc w _) _
  generalize World.alloc w _ = W0 at hh0 hbw hsz ⊢
  have HAf : Hid (∀ W, Below W0.heap.size W0 W → (W.cell? ⟨w.heap.size, 0, none⟩ = some (.int .i64 a.kind) ∧ W.cell? ⟨w.heap.size, 1, none⟩ = some (.slice an a.names.length cn) ∧ W.cell? ⟨w.heap.size, 2, none⟩ = some (.slice aa a.args.length ca) ∧ w.heap.size < W.heap.size) ∧ Below w.heap.size w W) := Lib.hid (fun W h => by
    have g0 := hh0.below h hh0.lt
    exact ⟨⟨g0.cell 0, g0.cell 1, g0.cell 2, g0.lt⟩, hbw.trans (h.mono hbw.size)⟩)
  have HB0 := Lib.hid (Below.refl W0.heap.size W0)
  have HV0 := Lib.hid (HAf.out _ HB0.out).2
  clear hh0 hbw hsz
  refine (HAw.out _ HV0.out).mono ?_
  rintro e w1 ⟨rfl, hb1⟩
  have HB1 := Lib.hid (below_on HB0.out hb1)
  clear hb1
  obtain ⟨⟨x00, x01, x02, l0⟩, hv1⟩ := HAf.out _ HB1.out
  have HV1 := Lib.hid hv1
  clear hv1
  go_wp2_with fail
  refine (HFe.out _ HV1.out).mono ?_
  rintro e w2 ⟨rfl, hb2⟩
  have HB2 := Lib.hid (below_on (HB1.out.alloc HB1.out.size _) hb2)
  clear hb2
  clear x00 x01 x02 l0
  obtain ⟨⟨x00, x01, x02, l0⟩, hv2⟩ := HAf.out _ HB2.out
  have HV2 := Lib.hid hv2
  clear hv2
  cases fw
  · go_wp2
    go_ret
    exact ⟨rfl, HV2.out⟩
  · go_wp2_with fail
    refine (HCa.out _ HV2.out).mono ?_
    rintro e w3 ⟨rfl, hb3⟩
    have HB3 := Lib.hid (below_on HB2.out hb3)
    clear hb3
    clear x00 x01 x02 l0
    obtain ⟨⟨x00, x01, x02, l0⟩, hv3⟩ := HAf.out _ HB3.out
    have HV3 := Lib.hid hv3
    clear hv3
    cases ca1
    · go_wp2
      go_ret
      exact ⟨rfl, HV3.out⟩
    · obtain ⟨rfl, rfl, rfl, rfl, rfl, rfl, rfl⟩ := HFa.out (by simp)
      clear HFa
      go_wp2_with fail
      refine (HM.out _ HV3.out).mono ?_
      rintro e w4 ⟨tn, ta, rfl, hs, hb4⟩
      have ht4 := hs.now
      obtain ⟨tn1, tn2, ta1, ta2, rfl, rfl⟩ := ht4.shape
      have HB4 := Lib.hid (below_on HB3.out hb4)
      clear hb4 hs
      clear x00 x01 x02 l0
      obtain ⟨⟨x00, x01, x02, l0⟩, hv4⟩ := HAf.out _ HB4.out
      have HV4 := Lib.hid hv4
      clear hv4
      have hx := Has.new w4 25 [.int .i64 a.kind, .slice tn1 a.names.length tn2, .slice ta1 a.args.length ta2]
      have hbx : Below w4.heap.size w4 (w4.alloc (.cells #[.int .i64 a.kind, .slice tn1 a.names.length tn2, .slice ta1 a.args.length ta2] 25)) := (Below.refl _ w4).alloc (Nat.le_refl _) _
      have HX : Hid (∀ W, Below (w4.heap.size + 1) (w4.alloc (.cells #[.int .i64 a.kind, .slice tn1 a.names.length tn2, .slice ta1 a.args.length ta2] 25)) W → ((W.cell? ⟨w4.heap.size, 0, none⟩ = some (.int .i64 a.kind) ∧ W.cell? ⟨w4.heap.size, 1, none⟩ = some (.slice tn1 a.names.length tn2) ∧ W.cell? ⟨w4.heap.size, 2, none⟩ = some (.slice ta1 a.args.length ta2) ∧ w4.heap.size < W.heap.size) ∧ TyAt W (.slice tn1 a.names.length tn2) (.slice ta1 a.args.length ta2) a ∧ Below W0.heap.size W0 W ∧ Below w.heap.size w W) ∧ Below w4.heap.size w4 W ∧ w4.heap.size + 1 ≤ W.heap.size) := Lib.hid (fun W h => by
        have g := hx.below h (by omega)
        have hbW : Below w4.heap.size w4 W := hbx.trans (h.mono (by omega))
        have hb0 := below_on HB4.out hbW
        have hgl := g.lt
        exact ⟨⟨⟨g.cell 0, g.cell 1, g.cell 2, g.lt⟩, ht4.frame (Nat.le_refl _) hbW, hb0, (HAf.out _ hb0).2⟩, hbW, by omega⟩)
      have HBx := Lib.hid (Below.refl (w4.heap.size + 1) (w4.alloc (.cells #[.int .i64 a.kind, .slice tn1 a.names.length tn2, .slice ta1 a.args.length ta2] 25)))
      clear hx hbx ht4
      have HB5 := HBx
      obtain ⟨⟨⟨q0, q1, q2, lq⟩, htx, hzx, hvx⟩, -⟩ := HX.out _ HB5.out
      have HT5 := Lib.hid htx
      have HV5 := Lib.hid hvx
      clear q0 q1 q2 lq
      clear htx hvx hzx
      go_wp2_with fail
      refine (HSs.out _ HV5.out).mono ?_
      rintro e w6 ⟨rfl, hb6⟩
      have HB6 := Lib.hid (HB5.out.trans (hb6.mono (HX.out _ HB5.out).2.2))
      clear hb6
      try clear q0 q1 q2 lq
      clear x00 x01 x02 l0
      obtain ⟨⟨⟨q0, q1, q2, lq⟩, htx, hzx, hvx⟩, -⟩ := HX.out _ HB6.out
      have HT6 := Lib.hid htx
      have HV6 := Lib.hid hvx
      obtain ⟨⟨x00, x01, x02, l0⟩, -⟩ := HAf.out _ hzx
      clear htx hvx hzx
      go_wp2_with fail
      refine (HEs.out _ HV6.out).mono ?_
      rintro e w7 ⟨rfl, hb7⟩
      have HB7 := Lib.hid (HB6.out.trans (hb7.mono (HX.out _ HB6.out).2.2))
      clear hb7
      try clear q0 q1 q2 lq
      clear x00 x01 x02 l0
      obtain ⟨⟨⟨q0, q1, q2, lq⟩, htx, hzx, hvx⟩, -⟩ := HX.out _ HB7.out
      have HT7 := Lib.hid htx
      have HV7 := Lib.hid hvx
      obtain ⟨⟨x00, x01, x02, l0⟩, -⟩ := HAf.out _ hzx
      clear htx hvx hzx
      go_wp2_with fail
      refine (HPs.out _ HV7.out).mono ?_
      rintro e w8 ⟨rfl, hb8⟩
      have HB8 := Lib.hid (HB7.out.trans (hb8.mono (HX.out _ HB7.out).2.2))
      clear hb8
      try clear q0 q1 q2 lq
      clear x00 x01 x02 l0
      obtain ⟨⟨⟨q0, q1, q2, lq⟩, htx, hzx, hvx⟩, -⟩ := HX.out _ HB8.out
      have HT8 := Lib.hid htx
      have HV8 := Lib.hid hvx
      obtain ⟨⟨x00, x01, x02, l0⟩, -⟩ := HAf.out _ hzx
      clear htx hvx hzx
      go_wp2_with fail
      refine (HSy.out _ HV8.out).mono ?_
      rintro e w9 ⟨rfl, hb9⟩
      have HB9 := Lib.hid (HB8.out.trans (hb9.mono (HX.out _ HB8.out).2.2))
      clear hb9
      try clear q0 q1 q2 lq
      clear x00 x01 x02 l0
      obtain ⟨⟨⟨q0, q1, q2, lq⟩, htx, hzx, hvx⟩, -⟩ := HX.out _ HB9.out
      have HT9 := Lib.hid htx
      have HV9 := Lib.hid hvx
      obtain ⟨⟨x00, x01, x02, l0⟩, -⟩ := HAf.out _ hzx
      clear htx hvx hzx
      go_wp2_with fail
      refine (HEy.out _ HV9.out).mono ?_
      rintro e w10 ⟨rfl, hb10⟩
      have HB10 := Lib.hid (HB9.out.trans (hb10.mono (HX.out _ HB9.out).2.2))
      clear hb10
      try clear q0 q1 q2 lq
      clear x00 x01 x02 l0
      obtain ⟨⟨⟨q0, q1, q2, lq⟩, htx, hzx, hvx⟩, -⟩ := HX.out _ HB10.out
      have HT10 := Lib.hid htx
      have HV10 := Lib.hid hvx
      obtain ⟨⟨x00, x01, x02, l0⟩, -⟩ := HAf.out _ hzx
      clear htx hvx hzx
      go_wp2_with fail
      refine (HSm.out _ _ _ HV10.out HT10.out).mono ?_
      rintro e w11 ⟨rfl, hb11⟩
      have HB11 := Lib.hid (HB10.out.trans (hb11.mono (HX.out _ HB10.out).2.2))
      clear hb11
      try clear q0 q1 q2 lq
      clear x00 x01 x02 l0
      obtain ⟨⟨⟨q0, q1, q2, lq⟩, htx, hzx, hvx⟩, -⟩ := HX.out _ HB11.out
      have HT11 := Lib.hid htx
      have HV11 := Lib.hid hvx
      obtain ⟨⟨x00, x01, x02, l0⟩, -⟩ := HAf.out _ hzx
      clear htx hvx hzx
      go_wp2
      go_ret
      exact ⟨rfl, HV11.out⟩
end TyD
end Go.Proofs.YthcdbmbimdkcfaaDoor
