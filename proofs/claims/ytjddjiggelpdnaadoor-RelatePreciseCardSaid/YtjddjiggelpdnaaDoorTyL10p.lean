/- RelatePrecise: both answers are one. -/
import Derived.Test.YtjddjiggelpdnaaDoorTyL10a
import Derived.Test.YtjddjiggelpdnaaDoorTyRTopP
namespace Go.Proofs.YtjddjiggelpdnaaDoor
open Go.RowKit ObjM
namespace TyD
open LexD (nameB WTab)

set_option maxRecDepth 100000 in
set_option maxHeartbeats 16000000 in
theorem precise_u (a : Ty) (vn va : Value) (b : Ty) (un ua : Value) (w : World) (oka : TyOk a) (ha : TyAt w vn va a) (okb : TyOk b) (hb : TyAt w un ua b) (hT : WTab w) (hK : KTab w) :
    Calls Tryd.prog 5 #[.agg #[.int .i64 a.kind, vn, va], .agg #[.int .i64 b.kind, un, ua]] w (BoolB w true) := by
  have HTa := Lib.hid (fun (W : World) (h : Below w.heap.size w W) => ha.frame (Nat.le_refl _) h)
  have HTb := Lib.hid (fun (W : World) (h : Below w.heap.size w W) => hb.frame (Nat.le_refl _) h)
  have HAw := Lib.hid (fun (W : World) (h : Below w.heap.size w W) => awake_any W (hT.below h) (hK.below h))
  have HP := Lib.hid (fun (W : World) (h : Below w.heap.size w W) => precT_any a b _ _ _ _ W oka okb (HTa.out _ h) (HTb.out _ h) (hT.below h))
  have HQ := Lib.hid (fun (W : World) (h : Below w.heap.size w W) => refPrecT_any a b _ _ _ _ W oka okb (HTa.out _ h) (HTb.out _ h))
  clear hT hK
  have HM := Lib.hid (rfl : True = True)
  generalize precT a b = q at HP HQ
  obtain ⟨an, cn, aa, ca, rfl, rfl⟩ := ha.shape
  obtain ⟨bn, dn, bb, db, rfl, rfl⟩ := hb.shape
  obtain ⟨hh0, hh1, hbw, hsz⟩ := box2w w [.int .i64 a.kind, .slice an a.names.length cn, .slice aa a.args.length ca] [.int .i64 b.kind, .slice bn b.names.length dn, .slice bb b.args.length db] 25 _ rfl
  have HAf : Hid (∀ W, Below (w.heap.size + 1 + 1) ((w.alloc (.cells #[.int .i64 a.kind, .slice an a.names.length cn, .slice aa a.args.length ca] 25)).alloc (.cells #[.int .i64 b.kind, .slice bn b.names.length dn, .slice bb b.args.length db] 25)) W → (W.cell? ⟨w.heap.size, 0, none⟩ = some (.int .i64 a.kind) ∧ W.cell? ⟨w.heap.size, 1, none⟩ = some (.slice an a.names.length cn) ∧ W.cell? ⟨w.heap.size, 2, none⟩ = some (.slice aa a.args.length ca) ∧ W.cell? ⟨w.heap.size + 1, 0, none⟩ = some (.int .i64 b.kind) ∧ W.cell? ⟨w.heap.size + 1, 1, none⟩ = some (.slice bn b.names.length dn) ∧ W.cell? ⟨w.heap.size + 1, 2, none⟩ = some (.slice bb b.args.length db) ∧ w.heap.size < W.heap.size ∧ w.heap.size + 1 < W.heap.size) ∧ Below w.heap.size w W) := Lib.hid (fun W h => by
    have g0 := hh0.below h (by omega)
    have g1 := hh1.below h (by omega)
    exact ⟨⟨g0.cell 0, g0.cell 1, g0.cell 2, g1.cell 0, g1.cell 1, g1.cell 2, g0.lt, g1.lt⟩, hbw.trans (h.mono (by omega))⟩)
  have HB0 : Hid (Below (w.heap.size + 1 + 1) ((w.alloc (.cells #[.int .i64 a.kind, .slice an a.names.length cn, .slice aa a.args.length ca] 25)).alloc (.cells #[.int .i64 b.kind, .slice bn b.names.length dn, .slice bb b.args.length db] 25)) ((w.alloc (.cells #[.int .i64 a.kind, .slice an a.names.length cn, .slice aa a.args.length ca] 25)).alloc (.cells #[.int .i64 b.kind, .slice bn b.names.length dn, .slice bb b.args.length db] 25))) := Lib.hid (Below.refl _ _)
  have HW0 := Lib.hid (HAf.out _ HB0.out).2
  have HFx : Hid (∀ W W', Below (w.heap.size + 1 + 1) ((w.alloc (.cells #[.int .i64 a.kind, .slice an a.names.length cn, .slice aa a.args.length ca] 25)).alloc (.cells #[.int .i64 b.kind, .slice bn b.names.length dn, .slice bb b.args.length db] 25)) W → Below W.heap.size W W' → Below (w.heap.size + 1 + 1) ((w.alloc (.cells #[.int .i64 a.kind, .slice an a.names.length cn, .slice aa a.args.length ca] 25)).alloc (.cells #[.int .i64 b.kind, .slice bn b.names.length dn, .slice bb b.args.length db] 25)) W') := Lib.hid (fun W W' h1 h2 => h1.trans (h2.mono (by have := h1.size; rw [hsz] at this; exact this)))
  clear ha hb hbw hsz hh0 hh1
  obtain ⟨fw, hfw⟩ : ∃ fw, [a, b].all fewV = fw := ⟨_, rfl⟩
  cases fw
  · clear HM
    go_enter Tryd.func5, Tryd.ntmps5
    go_wp2_with fail
    refine (HAw.out _ HW0.out).mono ?_
    rintro e w1 ⟨rfl, hb⟩
    have HB1 := Lib.hid (HFx.out _ _ HB0.out hb)
    obtain ⟨⟨x0, x1, x2, y0, y1, y2, lX, lY⟩, hw⟩ := HAf.out _ HB1.out
    have HW1 := Lib.hid hw
    clear hb hw
    have hba : Below w1.heap.size w1 (w1.alloc (.cells #[.int .i64 a.kind, .slice an a.names.length cn, .slice aa a.args.length ca, .int .i64 b.kind, .slice bn b.names.length dn, .slice bb b.args.length db] 25)) := (Below.refl _ _).alloc (Nat.le_refl _) _
    have HBa := Lib.hid (HFx.out _ _ HB1.out hba)
    have HWa := Lib.hid (HAf.out _ HBa.out).2
    have HFe := Lib.hid (fews_any [a, b] _ _ (row2_at (Has.new w1 25 [.int .i64 a.kind, .slice an a.names.length cn, .slice aa a.args.length ca, .int .i64 b.kind, .slice bn b.names.length dn, .slice bb b.args.length db]) (HTa.out _ HWa.out) (HTb.out _ HWa.out)) (by simp; exact ⟨oka, okb⟩) (by simp))
    clear hba
    rw [hfw] at HFe
    go_wp2_with fail
    refine (HFe.out).mono ?_
    rintro e w2 ⟨rfl, hb⟩
    have HB2 := Lib.hid (HFx.out _ _ HBa.out hb)
    clear x0 x1 x2 y0 y1 y2 lX lY
    obtain ⟨⟨x0, x1, x2, y0, y1, y2, lX, lY⟩, hw⟩ := HAf.out _ HB2.out
    have HW2 := Lib.hid hw
    clear hb hw
    go_wp2
    go_ret
    exact ⟨rfl, HW2.out⟩
  · clear HM
    cases q
    · go_enter Tryd.func5, Tryd.ntmps5
      go_wp2_with fail
      refine (HAw.out _ HW0.out).mono ?_
      rintro e w1 ⟨rfl, hb⟩
      have HB1 := Lib.hid (HFx.out _ _ HB0.out hb)
      obtain ⟨⟨x0, x1, x2, y0, y1, y2, lX, lY⟩, hw⟩ := HAf.out _ HB1.out
      have HW1 := Lib.hid hw
      clear hb hw
      have hba : Below w1.heap.size w1 (w1.alloc (.cells #[.int .i64 a.kind, .slice an a.names.length cn, .slice aa a.args.length ca, .int .i64 b.kind, .slice bn b.names.length dn, .slice bb b.args.length db] 25)) := (Below.refl _ _).alloc (Nat.le_refl _) _
      have HBa := Lib.hid (HFx.out _ _ HB1.out hba)
      have HWa := Lib.hid (HAf.out _ HBa.out).2
      have HFe := Lib.hid (fews_any [a, b] _ _ (row2_at (Has.new w1 25 [.int .i64 a.kind, .slice an a.names.length cn, .slice aa a.args.length ca, .int .i64 b.kind, .slice bn b.names.length dn, .slice bb b.args.length db]) (HTa.out _ HWa.out) (HTb.out _ HWa.out)) (by simp; exact ⟨oka, okb⟩) (by simp))
      clear hba
      rw [hfw] at HFe
      go_wp2_with fail
      refine (HFe.out).mono ?_
      rintro e w2 ⟨rfl, hb⟩
      have HB2 := Lib.hid (HFx.out _ _ HBa.out hb)
      clear x0 x1 x2 y0 y1 y2 lX lY
      obtain ⟨⟨x0, x1, x2, y0, y1, y2, lX, lY⟩, hw⟩ := HAf.out _ HB2.out
      have HW2 := Lib.hid hw
      clear hb hw
      go_wp2_with fail
      refine (HP.out _ HW2.out).mono ?_
      rintro e w3 ⟨rfl, hb⟩
      have HB3 := Lib.hid (HFx.out _ _ HB2.out hb)
      clear x0 x1 x2 y0 y1 y2 lX lY
      obtain ⟨⟨x0, x1, x2, y0, y1, y2, lX, lY⟩, hw⟩ := HAf.out _ HB3.out
      have HW3 := Lib.hid hw
      clear hb hw
      go_wp2_with fail
      refine (HQ.out _ HW3.out).mono ?_
      rintro e w4 ⟨rfl, hb⟩
      have HB4 := Lib.hid (HFx.out _ _ HB3.out hb)
      clear x0 x1 x2 y0 y1 y2 lX lY
      obtain ⟨⟨x0, x1, x2, y0, y1, y2, lX, lY⟩, hw⟩ := HAf.out _ HB4.out
      have HW4 := Lib.hid hw
      clear hb hw
      go_wp2
      go_ret
      exact ⟨rfl, HW4.out⟩
    · go_enter Tryd.func5, Tryd.ntmps5
      go_wp2_with fail
      refine (HAw.out _ HW0.out).mono ?_
      rintro e w1 ⟨rfl, hb⟩
      have HB1 := Lib.hid (HFx.out _ _ HB0.out hb)
      obtain ⟨⟨x0, x1, x2, y0, y1, y2, lX, lY⟩, hw⟩ := HAf.out _ HB1.out
      have HW1 := Lib.hid hw
      clear hb hw
      have hba : Below w1.heap.size w1 (w1.alloc (.cells #[.int .i64 a.kind, .slice an a.names.length cn, .slice aa a.args.length ca, .int .i64 b.kind, .slice bn b.names.length dn, .slice bb b.args.length db] 25)) := (Below.refl _ _).alloc (Nat.le_refl _) _
      have HBa := Lib.hid (HFx.out _ _ HB1.out hba)
      have HWa := Lib.hid (HAf.out _ HBa.out).2
      have HFe := Lib.hid (fews_any [a, b] _ _ (row2_at (Has.new w1 25 [.int .i64 a.kind, .slice an a.names.length cn, .slice aa a.args.length ca, .int .i64 b.kind, .slice bn b.names.length dn, .slice bb b.args.length db]) (HTa.out _ HWa.out) (HTb.out _ HWa.out)) (by simp; exact ⟨oka, okb⟩) (by simp))
      clear hba
      rw [hfw] at HFe
      go_wp2_with fail
      refine (HFe.out).mono ?_
      rintro e w2 ⟨rfl, hb⟩
      have HB2 := Lib.hid (HFx.out _ _ HBa.out hb)
      clear x0 x1 x2 y0 y1 y2 lX lY
      obtain ⟨⟨x0, x1, x2, y0, y1, y2, lX, lY⟩, hw⟩ := HAf.out _ HB2.out
      have HW2 := Lib.hid hw
      clear hb hw
      go_wp2_with fail
      refine (HP.out _ HW2.out).mono ?_
      rintro e w3 ⟨rfl, hb⟩
      have HB3 := Lib.hid (HFx.out _ _ HB2.out hb)
      clear x0 x1 x2 y0 y1 y2 lX lY
      obtain ⟨⟨x0, x1, x2, y0, y1, y2, lX, lY⟩, hw⟩ := HAf.out _ HB3.out
      have HW3 := Lib.hid hw
      clear hb hw
      go_wp2_with fail
      refine (HQ.out _ HW3.out).mono ?_
      rintro e w4 ⟨rfl, hb⟩
      have HB4 := Lib.hid (HFx.out _ _ HB3.out hb)
      clear x0 x1 x2 y0 y1 y2 lX lY
      obtain ⟨⟨x0, x1, x2, y0, y1, y2, lX, lY⟩, hw⟩ := HAf.out _ HB4.out
      have HW4 := Lib.hid hw
      clear hb hw
      go_wp2
      go_ret
      exact ⟨rfl, HW4.out⟩
end TyD
end Go.Proofs.YtjddjiggelpdnaaDoor
