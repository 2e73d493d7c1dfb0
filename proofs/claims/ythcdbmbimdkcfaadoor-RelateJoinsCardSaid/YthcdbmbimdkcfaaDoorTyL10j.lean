/- RelateJoins: walked. -/
import Derived.Test.YthcdbmbimdkcfaaDoorTyJoinM
import Derived.Test.YthcdbmbimdkcfaaDoorTyL10a
import Derived.Deep.RegionHeld3
namespace Go.Proofs.YthcdbmbimdkcfaaDoor
open Go.RowKit ObjM
namespace TyD
open LexD (nameB WTab)

set_option maxRecDepth 100000 in
set_option maxHeartbeats 16000000 in
theorem joins_u (a : Ty) (vn va : Value) (b : Ty) (un ua : Value) (w : World) (oka : TyOk a) (ha : TyAt w vn va a) (okb : TyOk b) (hb : TyAt w un ua b) (hT : WTab w) (hK : KTab w) :
    Calls Tryd.prog 11 #[.agg #[.int .i64 a.kind, vn, va], .agg #[.int .i64 b.kind, un, ua]] w (BoolB w true) := by
  have HTa := Lib.hid (fun (W : World) (h : Below w.heap.size w W) => ha.frame (Nat.le_refl _) h)
  have HTb := Lib.hid (fun (W : World) (h : Below w.heap.size w W) => hb.frame (Nat.le_refl _) h)
  have HAw := Lib.hid (fun (W : World) (h : Below w.heap.size w W) => awake_any W (hT.below h) (hK.below h))
  obtain ⟨an, cn, aa, ca, rfl, rfl⟩ := ha.shape
  obtain ⟨bn, dn, bb, db, rfl, rfl⟩ := hb.shape
  have HCa := Lib.hid (fun (W : World) (h : Below w.heap.size w W) => refCheck_any a _ _ W (HTa.out _ h) oka)
  have HCb := Lib.hid (fun (W : World) (h : Below w.heap.size w W) => refCheck_any b _ _ W (HTb.out _ h) okb)
  have HJ := Lib.hid (fun (W : World) (h : Below w.heap.size w W) => join_any a b _ _ _ _ W oka okb (HTa.out _ h) (HTb.out _ h) (hT.below h) (hK.below h))
  have HJf := Lib.hid (fun (ha : checkV a = true) (hb : checkV b = true) => join_facts ha hb oka okb)
  have HSa := Lib.hid (fun (t : Ty) (vn va : Value) (ok : TyOk t) (W : World) (h : Below w.heap.size w W) (ht : TyAt W vn va t) => subT_any a t _ _ vn va W oka ok (HTa.out _ h) ht (hT.below h) (hK.below h))
  have HSb := Lib.hid (fun (t : Ty) (vn va : Value) (ok : TyOk t) (W : World) (h : Below w.heap.size w W) (ht : TyAt W vn va t) => subT_any b t _ _ vn va W okb ok (HTb.out _ h) ht (hT.below h) (hK.below h))
  generalize joinV a b = t at HJ HJf
  generalize checkV a = ca1 at HCa HJf
  generalize checkV b = cb1 at HCb HJf
  have HFe := Lib.hid (fun (W : World) (h : Below w.heap.size w W) => fews_any [a, b] _ (W.alloc (.cells #[.int .i64 a.kind, .slice an a.names.length cn, .slice aa a.args.length ca, .int .i64 b.kind, .slice bn b.names.length dn, .slice bb b.args.length db] 25)) (row2_at (Has.new W 25 [.int .i64 a.kind, .slice an a.names.length cn, .slice aa a.args.length ca, .int .i64 b.kind, .slice bn b.names.length dn, .slice bb b.args.length db]) (HTa.out _ (h.alloc h.size _)) (HTb.out _ (h.alloc h.size _))) (by intro t ht; simp at ht; rcases ht with rfl | rfl <;> assumption) (by simp))
  generalize hfw : [a, b].all fewV = fw at HFe
  have HFw := Lib.hid hfw
  obtain ⟨hh0, hh1, hbw, hsz⟩ := box2w w [.int .i64 a.kind, .slice an a.names.length cn, .slice aa a.args.length ca] [.int .i64 b.kind, .slice bn b.names.length dn, .slice bb b.args.length db] 25 _ rfl
  have HOK := Lib.hid (⟨oka, okb⟩ : TyOk a ∧ TyOk b)
  clear hT hK hfw oka ha okb hb
  go_enter Tryd.func11, Tryd.ntmps11
  go_wp2_with fail
  change Calls _ _ _ (World.alloc (World.alloc w _) _) _
  generalize World.alloc (World.alloc w _) _ = W0 at hh0 hh1 hbw hsz ⊢
  have HAf : Hid (∀ W, Below W0.heap.size W0 W → (W.cell? ⟨w.heap.size, 0, none⟩ = some (.int .i64 a.kind) ∧ W.cell? ⟨w.heap.size, 1, none⟩ = some (.slice an a.names.length cn) ∧ W.cell? ⟨w.heap.size, 2, none⟩ = some (.slice aa a.args.length ca) ∧ w.heap.size < W.heap.size ∧ W.cell? ⟨w.heap.size + 1, 0, none⟩ = some (.int .i64 b.kind) ∧ W.cell? ⟨w.heap.size + 1, 1, none⟩ = some (.slice bn b.names.length dn) ∧ W.cell? ⟨w.heap.size + 1, 2, none⟩ = some (.slice bb b.args.length db) ∧ w.heap.size + 1 < W.heap.size) ∧ Below w.heap.size w W) := Lib.hid (fun W h => by
    have g0 := hh0.below h hh0.lt
    have g1 := hh1.below h hh1.lt
    exact ⟨⟨g0.cell 0, g0.cell 1, g0.cell 2, g0.lt, g1.cell 0, g1.cell 1, g1.cell 2, g1.lt⟩, hbw.trans (h.mono hbw.size)⟩)
  have HB0 := Lib.hid (Below.refl W0.heap.size W0)
  have HV0 := Lib.hid (HAf.out _ HB0.out).2
  clear hh0 hh1 hbw hsz
  refine (HAw.out _ HV0.out).mono ?_
  rintro e w1 ⟨rfl, hb1⟩
  have HB1 := Lib.hid (below_on HB0.out hb1)
  clear hb1
  obtain ⟨⟨x00, x01, x02, l0, x10, x11, x12, l1⟩, hv1⟩ := HAf.out _ HB1.out
  have HV1 := Lib.hid hv1
  clear hv1
  go_wp2_with fail
  refine (HFe.out _ HV1.out).mono ?_
  rintro e w2 ⟨rfl, hb2⟩
  have HB2 := Lib.hid (below_on (HB1.out.alloc HB1.out.size _) hb2)
  clear hb2
  clear x00 x01 x02 l0 x10 x11 x12 l1
  obtain ⟨⟨x00, x01, x02, l0, x10, x11, x12, l1⟩, hv2⟩ := HAf.out _ HB2.out
  have HV2 := Lib.hid hv2
  clear hv2
  cases fw
  · go_wp2
    go_ret
    exact ⟨rfl, HV2.out⟩
  · go_wp2_with fail
    refine (HCa.out _ HV2.out).mono ?_
    rintro e w3 ⟨rfl, hb3⟩
    have HB3 := Lib.hid (below_on HB2.out hb3)
    clear hb3
    clear x00 x01 x02 l0 x10 x11 x12 l1
    obtain ⟨⟨x00, x01, x02, l0, x10, x11, x12, l1⟩, hv3⟩ := HAf.out _ HB3.out
    have HV3 := Lib.hid hv3
    clear hv3
    cases ca1
    · go_wp2
      go_ret
      exact ⟨rfl, HV3.out⟩
    · go_wp2_with fail
      refine (HCb.out _ HV3.out).mono ?_
      rintro e w4 ⟨rfl, hb4⟩
      have HB4 := Lib.hid (below_on HB3.out hb4)
      clear hb4
      clear x00 x01 x02 l0 x10 x11 x12 l1
      obtain ⟨⟨x00, x01, x02, l0, x10, x11, x12, l1⟩, hv4⟩ := HAf.out _ HB4.out
      have HV4 := Lib.hid hv4
      clear hv4
      cases cb1
      · go_wp2
        go_ret
        exact ⟨rfl, HV4.out⟩
      · obtain ⟨okt, ft1, ft2⟩ := HJf.out (by simp) (by simp)
        have HOt := Lib.hid okt
        have HF1 := Lib.hid ft1
        have HF2 := Lib.hid ft2
        clear okt ft1 ft2 HJf
        go_wp2_with fail
        refine (HJ.out _ HV4.out).mono ?_
        rintro e w5 ⟨tn, ta, rfl, hfr, hb5⟩
        have ht5 := hfr w5 (Nat.le_refl _) (fun _ _ _ => rfl)
        obtain ⟨tn1, tn2, ta1, ta2, rfl, rfl⟩ := ht5.shape
        have HB5 := Lib.hid (below_on HB4.out hb5)
        clear hb5 hfr
        clear x00 x01 x02 l0 x10 x11 x12 l1
        obtain ⟨⟨x00, x01, x02, l0, x10, x11, x12, l1⟩, hv5⟩ := HAf.out _ HB5.out
        have HV5 := Lib.hid hv5
        clear hv5
        have hx := Has.new w5 25 [.int .i64 t.kind, .slice tn1 t.names.length tn2, .slice ta1 t.args.length ta2]
        have hb6 : Below w5.heap.size w5 (w5.alloc (.cells #[.int .i64 t.kind, .slice tn1 t.names.length tn2, .slice ta1 t.args.length ta2] 25)) := (Below.refl _ w5).alloc (Nat.le_refl _) _
        have HX6 : Hid (∀ W, Below (w5.heap.size + 1) (w5.alloc (.cells #[.int .i64 t.kind, .slice tn1 t.names.length tn2, .slice ta1 t.args.length ta2] 25)) W → (W.cell? ⟨w5.heap.size, 0, none⟩ = some (.int .i64 t.kind) ∧ W.cell? ⟨w5.heap.size, 1, none⟩ = some (.slice tn1 t.names.length tn2) ∧ W.cell? ⟨w5.heap.size, 2, none⟩ = some (.slice ta1 t.args.length ta2) ∧ w5.heap.size < W.heap.size) ∧ TyAt W (.slice tn1 t.names.length tn2) (.slice ta1 t.args.length ta2) t ∧ Below W0.heap.size W0 W ∧ Below w.heap.size w W) := Lib.hid (fun W h => by
          have g := hx.below h (by omega)
          have hbW : Below w5.heap.size w5 W := hb6.trans (h.mono (by omega))
          have hb0 := below_on HB5.out hbW
          exact ⟨⟨g.cell 0, g.cell 1, g.cell 2, g.lt⟩, ht5.frame (Nat.le_refl _) hbW, hb0, (HAf.out _ hb0).2⟩)
        have HB6 := Lib.hid (Below.refl (w5.heap.size + 1) (w5.alloc (.cells #[.int .i64 t.kind, .slice tn1 t.names.length tn2, .slice ta1 t.args.length ta2] 25)))
        have HS6 : Hid ((w5.alloc (.cells #[.int .i64 t.kind, .slice tn1 t.names.length tn2, .slice ta1 t.args.length ta2] 25)).heap.size = w5.heap.size + 1) := Lib.hid (by simp)
        clear hx hb6 ht5
        have HC := Lib.hid (HSa.out t _ _ HOt.out _ (HX6.out _ HB6.out).2.2.2 (HX6.out _ HB6.out).2.1)
        rw [HF1.out] at HC
        go_wp2_with fail
        refine (HC.out).mono ?_
        rintro e w7 ⟨rfl, hb7⟩
        have HB7 := Lib.hid (HB6.out.trans (hb7.mono (by rw [HS6.out]; exact Nat.le_refl _)))
        obtain ⟨⟨q0, q1, q2, lq⟩, ht7, hz7, hv7⟩ := HX6.out _ HB7.out
        have HT7 := Lib.hid ht7
        have HV7 := Lib.hid hv7
        clear x00 x01 x02 l0 x10 x11 x12 l1
        obtain ⟨⟨x00, x01, x02, l0, x10, x11, x12, l1⟩, -⟩ := HAf.out _ hz7
        clear ht7 hv7 hz7 hb7 HC
        have HC := Lib.hid (HSb.out t _ _ HOt.out _ HV7.out HT7.out)
        rw [HF2.out] at HC
        go_wp2_with fail
        refine (HC.out).mono ?_
        rintro e w8 ⟨rfl, hb8⟩
        have HV8 := Lib.hid (HV7.out.trans (hb8.mono HV7.out.size))
        clear hb8 HC
        go_wp2
        go_ret
        exact ⟨rfl, HV8.out⟩
end TyD
end Go.Proofs.YthcdbmbimdkcfaaDoor
