/- The document's Show, whole. -/
import Derived.Test.YtmcnoagihnkkcaaDoorTyRShow
import Derived.Test.YtmcnoagihnkkcaaDoorTyShowP
namespace Go.Proofs.YtmcnoagihnkkcaaDoor
open Go.RowKit ObjM
namespace TyD
open LexD (nameB WTab)

set_option maxRecDepth 100000 in
set_option maxHeartbeats 8000000 in
theorem refShow_any (t : Ty) (vn va : Value) (w : World) (hok : TyOk t) (hwt : checkV t = true → wtF 50 t ≤ 1000000000000) (h : TyAt w vn va t) :
    Calls Tryd.prog 9 #[.agg #[.int .i64 t.kind, vn, va]] w (StrB w (showV t)) := by
  have hbw : Below w.heap.size w (w.alloc (.cells #[.int .i64 t.kind, vn, va] 25)) := (Below.refl _ w).alloc (Nat.le_refl _) _
  have hx := Has.new w 25 [.int .i64 t.kind, vn, va]
  have HCk := Lib.hid (fun (W : World) (hb : Below w.heap.size w W) => refCheck_any t vn va W (h.frame (Nat.le_refl _) hb) hok)
  have HTx := Lib.hid (fun (hc : checkV t = true) (W : World) (hb : Below w.heap.size w W) => refText_any 50 t vn va W ((check_iff t).1 hc).1 hok (hwt hc) (h.frame (Nat.le_refl _) hb))
  have HR : Hid (showV t = if checkV t then txtF 50 t else ⟨#[63]⟩) := Lib.hid rfl
  obtain ⟨an, cn, aa, ca, rfl, rfl⟩ := h.shape
  generalize showV t = R at HR ⊢
  generalize checkV t = q at HCk HTx HR
  have HBW := Lib.hid hbw
  have HX := Lib.hid hx
  clear hbw hx h hok hwt
  go_enter Tryd.func9, Tryd.ntmps9
  go_wp2_with fail
  refine (HCk.out _ HBW.out).mono ?_
  rintro e w1 ⟨rfl, hb1⟩
  have HB1 := Lib.hid (HBW.out.trans (hb1.mono HBW.out.size))
  have hx1 := HX.out.below hb1 HX.out.lt
  have x0 := hx1.cell 0
  have x1 := hx1.cell 1
  have x2 := hx1.cell 2
  have lx := hx1.lt
  simp only [List.getElem?_cons_zero, List.getElem?_cons_succ] at x0 x1 x2
  clear hb1 hx1
  cases q
  · have HF : Hid (R = ⟨#[63]⟩) := Lib.hid (by rw [HR.out]; rfl)
    obtain rfl := HF.out
    clear HR
    go_wp2
    go_ret
    exact ⟨rfl, HB1.out⟩
  · have HF : Hid (R = txtF 50 t) := Lib.hid (by rw [HR.out]; rfl)
    obtain rfl := HF.out
    clear HR
    go_wp2_with fail
    refine (HTx.out (by simp) _ HB1.out).mono ?_
    rintro e w2 ⟨rfl, hb2⟩
    have HB2 := Lib.hid (HB1.out.trans (hb2.mono HB1.out.size))
    clear hb2
    go_wp2
    go_ret
    exact ⟨rfl, HB2.out⟩
end TyD
end Go.Proofs.YtmcnoagihnkkcaaDoor
