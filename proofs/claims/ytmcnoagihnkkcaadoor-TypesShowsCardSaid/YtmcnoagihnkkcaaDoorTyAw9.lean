/- Chapter 9's example, with which each law begins. -/
import Derived.Test.YtmcnoagihnkkcaaDoorTyShowP
import Derived.Test.YtmcnoagihnkkcaaDoorTyUnionM
import Derived.Test.YtmcnoagihnkkcaaDoorTySame
namespace Go.Proofs.YtmcnoagihnkkcaaDoor
open Go.RowKit ObjM
namespace TyD
open LexD (nameB WTab)

theorem rowz2_at {W : World} {g : Nat} {a b : Ty} {v1 u1 v2 u2 : Value} (h : Has W g 25 [.int .i64 a.kind, v1, u1, .int .i64 b.kind, v2, u2]) (ha : TyAt W v1 u1 a) (hb : TyAt W v2 u2 b) : TysAt W (.slice (some ⟨g, 0, none⟩) 2 2) [a, b] := by
  refine ⟨fun i => if i = 0 then v1 else v2, fun i => if i = 0 then u1 else u2, ⟨_, 2, rfl, by simp, by simp, by simp, .inr ⟨g, 0, rfl, h.lt, fun i t hi => ?_⟩⟩, fun i t hi => ?_⟩
  · match i, hi with
    | 0, hi =>
      simp at hi
      subst hi
      exact ⟨h.cell 0, h.cell 1, h.cell 2⟩
    | 1, hi =>
      simp at hi
      subst hi
      exact ⟨h.cell 3, h.cell 4, h.cell 5⟩
    | i + 2, hi => simp at hi
  · match i, hi with
    | 0, hi =>
      simp at hi
      subst hi
      exact ha
    | 1, hi =>
      simp at hi
      subst hi
      exact hb
    | i + 2, hi => simp at hi
theorem strz2_at {W : World} {g : Nat} {a b : ByteArray} (h : Has W g 9 [.string a, .string b]) : StrsAt W (.slice (some ⟨g, 0, none⟩) 2 2) [a, b] := by
  refine ⟨_, 2, rfl, by simp, by simp, by simp, .inr ⟨g, 0, rfl, h.lt, fun i x hi => ?_⟩⟩
  match i, hi with
  | 0, hi =>
    simp at hi
    subst hi
    exact h.cell 0
  | 1, hi =>
    simp at hi
    subst hi
    exact h.cell 1
  | i + 2, hi => simp at hi
def aB : ByteArray := ⟨#[97]⟩
def bB : ByteArray := ⟨#[98]⟩
def awT (u : Ty) : Ty := .mk 8 [aB, bB] [u, leafT 3]
def uT : Ty := .mk 7 [] [leafT 1, leafT 4]
def awText : ByteArray := ⟨#[123, 97, 58, 32, 110, 105, 108, 32, 124, 32, 115, 116, 114, 105, 110, 103, 44, 32, 98, 58, 32, 105, 110, 116, 125]⟩
theorem aw_facts : unionG (bitP 9) = uT ∧ checkV (awT uT) = true ∧ showV (awT uT) = awText ∧ kindsC (awT uT) = 16 ∧ wtF 50 (awT uT) ≤ 1000000000000 := by
  refine ⟨?_, by decide +kernel, by decide +kernel, by decide +kernel, by decide +kernel⟩
  rw [show (9 : Int) = ((9 : Nat) : Int) from rfl, unionG_bits (by omega)]
  rfl
theorem leafz_ok {k : Nat} (h : k < 7) : TyOk (leafT k) := .mk _ _ _ (by omega) (by simp) (by simp) (by simp) (by simp)
theorem aw_ok : TyOk (awT uT) := .mk _ _ _ (by omega) (by simp) (by intro s hs; simp at hs; rcases hs with rfl | rfl <;> decide) (by simp) (by
  intro a ha
  simp at ha
  rcases ha with rfl | rfl
  · exact .mk _ _ _ (by omega) (by simp) (by simp) (by simp) (by intro a ha; simp at ha; rcases ha with rfl | rfl <;> exact leafz_ok (by omega))
  · exact leafz_ok (by omega))
set_option maxRecDepth 100000 in
set_option maxHeartbeats 16000000 in
theorem awake9_any (hJ : JoinC) (w : World) (hT : WTab w) (hK : KTab w) (hN : NTab w) : Calls Tryd.prog 6 #[] w (BoolB w true) := by
  obtain ⟨f1, f2, f3, f4, f5⟩ := aw_facts
  have hx := Has.new w 9 [.string aB, .string bB]
  have hbw : Below w.heap.size w (w.alloc (.cells #[.string aB, .string bB] 9)) := (Below.refl _ w).alloc (Nat.le_refl _) _
  have HU : Hid (∀ W, Below w.heap.size w W → Calls Tryd.prog 19 #[.int .i64 9] W (FreshIs W uT)) := Lib.hid (fun W hb => by
    have h := union_any 9 W (hK.below hb)
    rwa [f1] at h)
  have HC := Lib.hid (fun (vn va : Value) (W : World) (hb : Below w.heap.size w W) (h : TyAt W vn va (awT uT)) => check_any (awT uT) vn va W h aw_ok (hT.below hb))
  have HS := Lib.hid (fun (vn va : Value) (W : World) (hb : Below w.heap.size w W) (h : TyAt W vn va (awT uT)) => show_any hJ (awT uT) vn va W aw_ok (fun _ => f5) h (hT.below hb) (hN.below hb))
  have HKi := Lib.hid (fun (vn va : Value) (W : World) (hb : Below w.heap.size w W) (h : TyAt W vn va (awT uT)) => kinds_any (awT uT) vn va W aw_ok h (hT.below hb) (hK.below hb))
  rw [f2] at HC
  rw [f3] at HS
  rw [f4] at HKi
  have HX := Lib.hid hx
  have HBW := Lib.hid hbw

  clear hx hbw hT hK hN hJ f1 f2 f3 f4 f5
  generalize hu : uT = u at *
  clear hu
  go_enter Tryd.func6, Tryd.ntmps6
  go_wp2_with fail
  change Calls _ _ _ (World.alloc w (.cells #[.string aB, .string bB] 9)) _
  refine (HU.out _ HBW.out).mono ?_
  rintro e w2 ⟨un, ua, rfl, hfr, hb2⟩
  have hu2 := hfr w2 (Nat.le_refl _) (fun _ _ _ => rfl)
  obtain ⟨xn, yn, xa, ya, rfl, rfl⟩ := hu2.shape
  have hx2 := HX.out.below hb2 HX.out.lt
  have hB2 := HBW.out.trans (hb2.mono HBW.out.size)
  have hr := Has.new w2 25 [.int .i64 u.kind, .slice xn u.names.length yn, .slice xa u.args.length ya, .int .i64 3, .slice none 0 0, .slice none 0 0]
  have hb3 : Below w2.heap.size w2 (w2.alloc (.cells #[.int .i64 u.kind, .slice xn u.names.length yn, .slice xa u.args.length ya, .int .i64 3, .slice none 0 0, .slice none 0 0] 25)) := (Below.refl _ w2).alloc (Nat.le_refl _) _
  clear hfr hb2
  have hb4 : Below w2.heap.size w2 ((w2.alloc (.cells #[.int .i64 u.kind, .slice xn u.names.length yn, .slice xa u.args.length ya, .int .i64 3, .slice none 0 0, .slice none 0 0] 25)).alloc (.cells #[.int .i64 8, .slice (some ⟨w.heap.size, 0, none⟩) 2 2, .slice (some ⟨w2.heap.size, 0, none⟩) 2 2] 25)) := hb3.alloc hb3.size _
  have hr4 : Has ((w2.alloc (.cells #[.int .i64 u.kind, .slice xn u.names.length yn, .slice xa u.args.length ya, .int .i64 3, .slice none 0 0, .slice none 0 0] 25)).alloc (.cells #[.int .i64 8, .slice (some ⟨w.heap.size, 0, none⟩) 2 2, .slice (some ⟨w2.heap.size, 0, none⟩) 2 2] 25)) w2.heap.size 25 [.int .i64 u.kind, .slice xn u.names.length yn, .slice xa u.args.length ya, .int .i64 3, .slice none 0 0, .slice none 0 0] := hr.keeps (Keeps.alloc [] _ _) (by simp)
  have hq4 : Has ((w2.alloc (.cells #[.int .i64 u.kind, .slice xn u.names.length yn, .slice xa u.args.length ya, .int .i64 3, .slice none 0 0, .slice none 0 0] 25)).alloc (.cells #[.int .i64 8, .slice (some ⟨w.heap.size, 0, none⟩) 2 2, .slice (some ⟨w2.heap.size, 0, none⟩) 2 2] 25)) (w2.heap.size + 1) 25 [.int .i64 8, .slice (some ⟨w.heap.size, 0, none⟩) 2 2, .slice (some ⟨w2.heap.size, 0, none⟩) 2 2] := by
    have h := Has.new (w2.alloc (.cells #[.int .i64 u.kind, .slice xn u.names.length yn, .slice xa u.args.length ya, .int .i64 3, .slice none 0 0, .slice none 0 0] 25)) 25 [.int .i64 8, .slice (some ⟨w.heap.size, 0, none⟩) 2 2, .slice (some ⟨w2.heap.size, 0, none⟩) 2 2]
    rwa [World.size_alloc] at h
  go_wp2_with fail
  change Calls _ _ _ ((w2.alloc (.cells #[.int .i64 u.kind, .slice xn u.names.length yn, .slice xa u.args.length ya, .int .i64 3, .slice none 0 0, .slice none 0 0] 25)).alloc (.cells #[.int .i64 8, .slice (some ⟨w.heap.size, 0, none⟩) 2 2, .slice (some ⟨w2.heap.size, 0, none⟩) 2 2] 25)) _
  generalize ((w2.alloc (.cells #[.int .i64 u.kind, .slice xn u.names.length yn, .slice xa u.args.length ya, .int .i64 3, .slice none 0 0, .slice none 0 0] 25)).alloc (.cells #[.int .i64 8, .slice (some ⟨w.heap.size, 0, none⟩) 2 2, .slice (some ⟨w2.heap.size, 0, none⟩) 2 2] 25)) = W3 at hb4 hr4 hq4 ⊢
  have HTm : Hid (∀ W, Below W3.heap.size W3 W → (W.cell? ⟨w2.heap.size + 1, 0, none⟩ = some (.int .i64 8) ∧ W.cell? ⟨w2.heap.size + 1, 1, none⟩ = some (.slice (some ⟨w.heap.size, 0, none⟩) 2 2) ∧ W.cell? ⟨w2.heap.size + 1, 2, none⟩ = some (.slice (some ⟨w2.heap.size, 0, none⟩) 2 2) ∧ w2.heap.size + 1 < W.heap.size) ∧ TyAt W (.slice (some ⟨w.heap.size, 0, none⟩) 2 2) (.slice (some ⟨w2.heap.size, 0, none⟩) 2 2) (awT u) ∧ Below w.heap.size w W) := Lib.hid (fun W hW => by
    have hbW : Below w2.heap.size w2 W := hb4.trans (hW.mono hb4.size)
    have g := hq4.below hW hq4.lt
    exact ⟨⟨g.cell 0, g.cell 1, g.cell 2, g.lt⟩, TyAt.of (strz2_at (hx2.below hbW hx2.lt)) (rowz2_at (hr4.below hW hr4.lt) (hu2.frame (Nat.le_refl _) hbW) (TyAt.of (StrsAt.nil _) (TysAt.nil _))), hB2.trans (hbW.mono hB2.size)⟩)
  have HB3 := Lib.hid (Below.refl W3.heap.size W3)
  clear hx2 hB2 hr hb3 hu2 hb4 hr4 hq4
  refine (HC.out _ _ _ (HTm.out _ HB3.out).2.2 (HTm.out _ HB3.out).2.1).mono ?_
  rintro e w4 ⟨rfl, hb⟩
  have HB4 := Lib.hid (HB3.out.trans (hb.mono HB3.out.size))
  obtain ⟨⟨x0, x1, x2, lx⟩, -⟩ := HTm.out _ HB4.out
  clear hb
  go_wp2_with fail
  refine (HS.out _ _ _ (HTm.out _ HB4.out).2.2 (HTm.out _ HB4.out).2.1).mono ?_
  rintro e w5 ⟨rfl, hb⟩
  have HB5 := Lib.hid (HB4.out.trans (hb.mono HB4.out.size))
  clear x0 x1 x2 lx
  obtain ⟨⟨x0, x1, x2, lx⟩, -⟩ := HTm.out _ HB5.out
  clear hb
  have hat : awText = ⟨#[123, 97, 58, 32, 110, 105, 108, 32, 124, 32, 115, 116, 114, 105, 110, 103, 44, 32, 98, 58, 32, 105, 110, 116, 125]⟩ := rfl
  rw [hat]
  clear hat
  go_wp2_with fail
  refine (HKi.out _ _ _ (HTm.out _ HB5.out).2.2 (HTm.out _ HB5.out).2.1).mono ?_
  rintro e w6 ⟨rfl, hb⟩
  have HB6 := Lib.hid ((HTm.out _ HB5.out).2.2.trans (hb.mono (HTm.out _ HB5.out).2.2.size))
  clear hb x0 x1 x2 lx
  go_wp2
  go_ret
  exact ⟨rfl, HB6.out⟩
end TyD
end Go.Proofs.YtmcnoagihnkkcaaDoor
