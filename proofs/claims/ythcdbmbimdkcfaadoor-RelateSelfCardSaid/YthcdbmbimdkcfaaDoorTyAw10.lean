/- Chapter 10's examples, with which each law begins. -/
import Derived.Test.YthcdbmbimdkcfaaDoorTyTop
import Derived.Deep.DeepCutAuto
namespace Go.Proofs.YthcdbmbimdkcfaaDoor
open Go.RowKit ObjM
namespace TyD
open LexD (nameB WTab)

def intT : Ty := .mk 3 [] []
def fT : Ty := .mk 9 [] [intT, intT]
def gT : Ty := .mk 9 [] [anyT, anyT]
theorem any_ok : TyOk anyT := .mk _ _ _ (by omega) (by simp) (by simp) (by simp) (by simp)
theorem int_ok : TyOk intT := .mk _ _ _ (by omega) (by simp) (by simp) (by simp) (by simp)
theorem f_ok : TyOk fT := .mk _ _ _ (by omega) (by simp) (by simp) (by simp) (by intro a ha; simp at ha; subst ha; exact int_ok)
theorem g_ok : TyOk gT := .mk _ _ _ (by omega) (by simp) (by simp) (by simp) (by intro a ha; simp at ha; subst ha; exact any_ok)
theorem any_at (W : World) : TyAt W (.slice none 0 0) (.slice none 0 0) anyT := TyAt.of (StrsAt.nil W) (TysAt.nil W)
theorem int_at (W : World) : TyAt W (.slice none 0 0) (.slice none 0 0) intT := TyAt.of (StrsAt.nil W) (TysAt.nil W)
theorem two_at {W : World} {q : Nat} {k : Int} (h : Has W q 25 [.int .i64 k, .slice none 0 0, .slice none 0 0, .int .i64 k, .slice none 0 0, .slice none 0 0]) : TysAt W (.slice (some ⟨q, 0, none⟩) 2 2) [.mk k [] [], .mk k [] []] := by
  refine ⟨fun _ => .slice none 0 0, fun _ => .slice none 0 0, ⟨_, 2, rfl, by simp, by simp, by simp, .inr ⟨q, 0, rfl, h.lt, fun i t hi => ?_⟩⟩, fun i t hi => ?_⟩
  · match i, hi with
    | 0, hi =>
      simp at hi
      subst hi
      exact ⟨h.cell 0, h.cell 1, h.cell 2⟩
    | 1, hi =>
      simp at hi
      subst hi
      exact ⟨h.cell 3, h.cell 4, h.cell 5⟩
    | i + 2, hi => simp at hi
  · match i, hi with
    | 0, hi =>
      simp at hi
      subst hi
      exact TyAt.of (StrsAt.nil W) (TysAt.nil W)
    | 1, hi =>
      simp at hi
      subst hi
      exact TyAt.of (StrsAt.nil W) (TysAt.nil W)
    | i + 2, hi => simp at hi
structure AwIs (W0 wx : World) (g3 g4 q3 q4 : Nat) : Prop where
  f : Has wx g3 25 [.int .i64 9, .slice none 0 0, .slice (some ⟨q3, 0, none⟩) 2 2]
  g : Has wx g4 25 [.int .i64 9, .slice none 0 0, .slice (some ⟨q4, 0, none⟩) 2 2]
  p : Has wx q3 25 [.int .i64 3, .slice none 0 0, .slice none 0 0, .int .i64 3, .slice none 0 0, .slice none 0 0]
  q : Has wx q4 25 [.int .i64 0, .slice none 0 0, .slice none 0 0, .int .i64 0, .slice none 0 0, .slice none 0 0]
  b : Below W0.heap.size W0 wx
def AwEx (W0 wx : World) (g3 g4 : Nat) : Prop := ∃ q3 q4, AwIs W0 wx g3 g4 q3 q4
theorem aw_of (W0 : World) (c0 c1 c2 c3 : List Value) (t0 t1 t2 t3 : TypeId) (g3 g4 : Nat) (h : ∀ W, Has W W0.heap.size t0 c0 → Has W (W0.heap.size + 1) t1 c1 → Has W (W0.heap.size + 1 + 1) t2 c2 → Has W (W0.heap.size + 1 + 1 + 1) t3 c3 →
    ∃ q3 q4, Has W g3 25 [.int .i64 9, .slice none 0 0, .slice (some ⟨q3, 0, none⟩) 2 2] ∧ Has W g4 25 [.int .i64 9, .slice none 0 0, .slice (some ⟨q4, 0, none⟩) 2 2] ∧
      Has W q3 25 [.int .i64 3, .slice none 0 0, .slice none 0 0, .int .i64 3, .slice none 0 0, .slice none 0 0] ∧ Has W q4 25 [.int .i64 0, .slice none 0 0, .slice none 0 0, .int .i64 0, .slice none 0 0, .slice none 0 0]) :
    AwEx W0 ((((W0.alloc (.cells c0.toArray t0)).alloc (.cells c1.toArray t1)).alloc (.cells c2.toArray t2)).alloc (.cells c3.toArray t3)).drew g3 g4 := by
  obtain ⟨b0, b1, b2, b3, hbw, -⟩ := four_blocks W0 c0 c1 c2 c3 t0 t1 t2 t3 _ rfl
  obtain ⟨q3, q4, h1, h2, h3, h4⟩ := h _ b0 b1 b2 b3
  exact ⟨q3, q4, h1.drew, h2.drew, h3.drew, h4.drew, hbw.drew⟩
set_option maxRecDepth 100000 in
set_option maxHeartbeats 16000000 in
theorem awake_any (w : World) (hT : WTab w) (hK : KTab w) : Calls Tryd.prog 13 #[] w (BoolB w true) := by
  obtain ⟨hh0, hh1, hbw, hsz⟩ := box2 w [.int .i64 0, .slice none 0 0, .slice none 0 0] [.int .i64 3, .slice none 0 0, .slice none 0 0] 25 _ rfl
  have HBW := Lib.hid hbw
  have HH0 := Lib.hid hh0
  have HH1 := Lib.hid hh1
  have HT := Lib.hid hT
  have HK := Lib.hid hK
  clear hbw hh0 hh1 hsz hT hK
  go_enter Tryd.func13, Tryd.ntmps13
  go_wp2
  change Code.wp _ _ _ _ (World.alloc (World.alloc w _) _)
  generalize World.alloc (World.alloc w (.cells #[.int .i64 0, .slice none 0 0, .slice none 0 0] 25)) (.cells #[.int .i64 3, .slice none 0 0, .slice none 0 0] 25) = W0 at HBW HH0 HH1 ⊢
  have HS : Hid (∀ W, Below W0.heap.size W0 W → W.cell? ⟨w.heap.size, 0, none⟩ = some (.int .i64 0) ∧ W.cell? ⟨w.heap.size, 1, none⟩ = some (.slice none 0 0) ∧ W.cell? ⟨w.heap.size, 2, none⟩ = some (.slice none 0 0) ∧ W.cell? ⟨w.heap.size + 1, 0, none⟩ = some (.int .i64 3) ∧ W.cell? ⟨w.heap.size + 1, 1, none⟩ = some (.slice none 0 0) ∧ W.cell? ⟨w.heap.size + 1, 2, none⟩ = some (.slice none 0 0)) := Lib.hid (fun W h => by
    have g0 := HH0.out.below h HH0.out.lt
    have g1 := HH1.out.below h HH1.out.lt
    exact ⟨g0.cell 0, g0.cell 1, g0.cell 2, g1.cell 0, g1.cell 1, g1.cell 2⟩)
  obtain ⟨x0, x1, x2, y0, y1, y2⟩ := HS.out W0 (Below.refl _ _)
  have lA := HH0.out.lt
  have lB := HH1.out.lt
  go_cut [3, 4] (fun s3 s4 wx => ∃ g3 g4 : Nat, s3 = .pointer (some ⟨g3, 0, none⟩) ∧ s4 = .pointer (some ⟨g4, 0, none⟩) ∧ AwEx W0 wx g3 g4)
  case first =>
    go_region_held3 (fun W => W.cell? ⟨w.heap.size, 0, none⟩ = some (.int .i64 0) ∧ W.cell? ⟨w.heap.size, 1, none⟩ = some (.slice none 0 0) ∧ W.cell? ⟨w.heap.size, 2, none⟩ = some (.slice none 0 0) ∧ W.cell? ⟨w.heap.size + 1, 0, none⟩ = some (.int .i64 3) ∧ W.cell? ⟨w.heap.size + 1, 1, none⟩ = some (.slice none 0 0) ∧ W.cell? ⟨w.heap.size + 1, 2, none⟩ = some (.slice none 0 0))
      (exact HS.out _ (by repeat (first | exact Below.refl _ _ | refine Below.drew ?_ | refine Below.alloc ?_ (by simp; try omega) _ | refine Below.setCell ?_ (by simp; try omega) _))) (fail)
    all_goals
      go_wp2_with fail
      go_meet
      exact ⟨_, _, rfl, rfl, aw_of W0 _ _ _ _ _ _ _ _ _ _ (fun W b0 b1 b2 b3 => by
        first
         | exact ⟨_, _, b0, b1, b2, b3⟩
         | exact ⟨_, _, b0, b1, b3, b2⟩
         | exact ⟨_, _, b0, b2, b1, b3⟩
         | exact ⟨_, _, b0, b2, b3, b1⟩
         | exact ⟨_, _, b0, b3, b1, b2⟩
         | exact ⟨_, _, b0, b3, b2, b1⟩
         | exact ⟨_, _, b1, b0, b2, b3⟩
         | exact ⟨_, _, b1, b0, b3, b2⟩
         | exact ⟨_, _, b1, b2, b0, b3⟩
         | exact ⟨_, _, b1, b2, b3, b0⟩
         | exact ⟨_, _, b1, b3, b0, b2⟩
         | exact ⟨_, _, b1, b3, b2, b0⟩
         | exact ⟨_, _, b2, b0, b1, b3⟩
         | exact ⟨_, _, b2, b0, b3, b1⟩
         | exact ⟨_, _, b2, b1, b0, b3⟩
         | exact ⟨_, _, b2, b1, b3, b0⟩
         | exact ⟨_, _, b2, b3, b0, b1⟩
         | exact ⟨_, _, b2, b3, b1, b0⟩
         | exact ⟨_, _, b3, b0, b1, b2⟩
         | exact ⟨_, _, b3, b0, b2, b1⟩
         | exact ⟨_, _, b3, b1, b0, b2⟩
         | exact ⟨_, _, b3, b1, b2, b0⟩
         | exact ⟨_, _, b3, b2, b0, b1⟩
         | exact ⟨_, _, b3, b2, b1, b0⟩)⟩
  case rest =>
    obtain ⟨g3, g4, rfl, rfl, q3, q4, haw⟩ := hcut
    clear x0 x1 x2 y0 y1 y2 lA lB
    have HA := Lib.hid haw
    clear haw
    have HAf : Hid (∀ W, Below wc.heap.size wc W → (W.cell? ⟨w.heap.size, 0, none⟩ = some (.int .i64 0) ∧ W.cell? ⟨w.heap.size, 1, none⟩ = some (.slice none 0 0) ∧ W.cell? ⟨w.heap.size, 2, none⟩ = some (.slice none 0 0) ∧ W.cell? ⟨w.heap.size + 1, 0, none⟩ = some (.int .i64 3) ∧ W.cell? ⟨w.heap.size + 1, 1, none⟩ = some (.slice none 0 0) ∧ W.cell? ⟨w.heap.size + 1, 2, none⟩ = some (.slice none 0 0) ∧
        W.cell? ⟨g3, 0, none⟩ = some (.int .i64 9) ∧ W.cell? ⟨g3, 1, none⟩ = some (.slice none 0 0) ∧ W.cell? ⟨g3, 2, none⟩ = some (.slice (some ⟨q3, 0, none⟩) 2 2) ∧ W.cell? ⟨g4, 0, none⟩ = some (.int .i64 9) ∧ W.cell? ⟨g4, 1, none⟩ = some (.slice none 0 0) ∧ W.cell? ⟨g4, 2, none⟩ = some (.slice (some ⟨q4, 0, none⟩) 2 2) ∧
        w.heap.size < W.heap.size ∧ w.heap.size + 1 < W.heap.size ∧ g3 < W.heap.size ∧ g4 < W.heap.size) ∧ Below w.heap.size w W) := Lib.hid (fun W h => by
      have hW0 := HA.out.b.trans (h.mono HA.out.b.size)
      obtain ⟨e0, e1, e2, e3, e4, e5⟩ := HS.out W hW0
      have f := HA.out.f.below h HA.out.f.lt
      have g := HA.out.g.below h HA.out.g.lt
      have l0 := HH0.out.below hW0 HH0.out.lt
      have l1 := HH1.out.below hW0 HH1.out.lt
      exact ⟨⟨e0, e1, e2, e3, e4, e5, f.cell 0, f.cell 1, f.cell 2, g.cell 0, g.cell 1, g.cell 2, l0.lt, l1.lt, f.lt, g.lt⟩, HBW.out.trans (hW0.mono HBW.out.size)⟩)
    have HFT : Hid (∀ W, Below wc.heap.size wc W → TyAt W (.slice none 0 0) (.slice (some ⟨q3, 0, none⟩) 2 2) fT ∧ TyAt W (.slice none 0 0) (.slice (some ⟨q4, 0, none⟩) 2 2) gT) := Lib.hid (fun W h => ⟨TyAt.of (StrsAt.nil W) (two_at (HA.out.p.below h HA.out.p.lt)), TyAt.of (StrsAt.nil W) (two_at (HA.out.q.below h HA.out.q.lt))⟩)
    have HB0 := Lib.hid (Below.refl wc.heap.size wc)
    have HFx : Hid (∀ W W', Below wc.heap.size wc W → Below W.heap.size W W' → Below wc.heap.size wc W') := Lib.hid (fun W W' h1 h2 => h1.trans (h2.mono h1.size))
    have HW0 := Lib.hid (HAf.out _ HB0.out).2
    obtain ⟨⟨x0, x1, x2, y0, y1, y2, z0, z1, z2, v0, v1, v2, lA, lB, lC, lD⟩, -⟩ := HAf.out _ HB0.out
    have HC := Lib.hid (subT_any intT anyT _ _ _ _ _ int_ok any_ok (int_at _) (any_at _) (HT.out.below HW0.out) (HK.out.below HW0.out))
    rw [show subT intT anyT = true by decide +kernel] at HC
    go_wp2_with fail
    refine (HC.out).mono ?_
    rintro e w1 ⟨rfl, hb⟩
    have HB1 := Lib.hid (HFx.out _ _ HB0.out hb)
    clear hb HC x0 x1 x2 y0 y1 y2 z0 z1 z2 v0 v1 v2 lA lB lC lD
    obtain ⟨⟨x0, x1, x2, y0, y1, y2, z0, z1, z2, v0, v1, v2, lA, lB, lC, lD⟩, hw⟩ := HAf.out _ HB1.out
    have HW1 := Lib.hid hw
    clear hw
    have HC := Lib.hid (subT_any anyT intT _ _ _ _ _ any_ok int_ok (any_at _) (int_at _) (HT.out.below HW1.out) (HK.out.below HW1.out))
    rw [show subT anyT intT = false by decide +kernel] at HC
    go_wp2_with fail
    refine (HC.out).mono ?_
    rintro e w2 ⟨rfl, hb⟩
    have HB2 := Lib.hid (HFx.out _ _ HB1.out hb)
    clear hb HC x0 x1 x2 y0 y1 y2 z0 z1 z2 v0 v1 v2 lA lB lC lD
    obtain ⟨⟨x0, x1, x2, y0, y1, y2, z0, z1, z2, v0, v1, v2, lA, lB, lC, lD⟩, hw⟩ := HAf.out _ HB2.out
    have HW2 := Lib.hid hw
    clear hw
    have HC := Lib.hid (easeT_any anyT intT _ _ _ _ _ any_ok int_ok (any_at _) (int_at _) (HT.out.below HW2.out) (HK.out.below HW2.out))
    rw [show easeT anyT intT = true by decide +kernel] at HC
    go_wp2_with fail
    refine (HC.out).mono ?_
    rintro e w3 ⟨rfl, hb⟩
    have HB3 := Lib.hid (HFx.out _ _ HB2.out hb)
    clear hb HC x0 x1 x2 y0 y1 y2 z0 z1 z2 v0 v1 v2 lA lB lC lD
    obtain ⟨⟨x0, x1, x2, y0, y1, y2, z0, z1, z2, v0, v1, v2, lA, lB, lC, lD⟩, hw⟩ := HAf.out _ HB3.out
    have HW3 := Lib.hid hw
    clear hw
    have HC := Lib.hid (side_any anyT intT _ _ _ _ _ any_ok int_ok (any_at _) (int_at _) (HT.out.below HW3.out))
    rw [show sideV anyT intT = 1 by decide +kernel] at HC
    go_wp2_with fail
    refine (HC.out).mono ?_
    rintro e w4 ⟨rfl, hb⟩
    have HB4 := Lib.hid (HFx.out _ _ HB3.out hb)
    clear hb HC x0 x1 x2 y0 y1 y2 z0 z1 z2 v0 v1 v2 lA lB lC lD
    obtain ⟨⟨x0, x1, x2, y0, y1, y2, z0, z1, z2, v0, v1, v2, lA, lB, lC, lD⟩, hw⟩ := HAf.out _ HB4.out
    have HW4 := Lib.hid hw
    clear hw
    have HC := Lib.hid (easeT_any fT gT _ _ _ _ _ f_ok g_ok (HFT.out _ HB4.out).1 (HFT.out _ HB4.out).2 (HT.out.below HW4.out) (HK.out.below HW4.out))
    rw [show easeT fT gT = true by decide +kernel] at HC
    go_wp2_with fail
    refine (HC.out).mono ?_
    rintro e w5 ⟨rfl, hb⟩
    have HB5 := Lib.hid (HFx.out _ _ HB4.out hb)
    clear hb HC x0 x1 x2 y0 y1 y2 z0 z1 z2 v0 v1 v2 lA lB lC lD
    obtain ⟨⟨x0, x1, x2, y0, y1, y2, z0, z1, z2, v0, v1, v2, lA, lB, lC, lD⟩, hw⟩ := HAf.out _ HB5.out
    have HW5 := Lib.hid hw
    clear hw
    have HC := Lib.hid (subT_any fT gT _ _ _ _ _ f_ok g_ok (HFT.out _ HB5.out).1 (HFT.out _ HB5.out).2 (HT.out.below HW5.out) (HK.out.below HW5.out))
    rw [show subT fT gT = false by decide +kernel] at HC
    go_wp2_with fail
    refine (HC.out).mono ?_
    rintro e w6 ⟨rfl, hb⟩
    have HB6 := Lib.hid (HFx.out _ _ HB5.out hb)
    clear hb HC x0 x1 x2 y0 y1 y2 z0 z1 z2 v0 v1 v2 lA lB lC lD
    obtain ⟨⟨x0, x1, x2, y0, y1, y2, z0, z1, z2, v0, v1, v2, lA, lB, lC, lD⟩, hw⟩ := HAf.out _ HB6.out
    have HW6 := Lib.hid hw
    clear hw
    have HC := Lib.hid (side_any fT gT _ _ _ _ _ f_ok g_ok (HFT.out _ HB6.out).1 (HFT.out _ HB6.out).2 (HT.out.below HW6.out))
    rw [show sideV fT gT = 2 by decide +kernel] at HC
    go_wp2_with fail
    refine (HC.out).mono ?_
    rintro e w7 ⟨rfl, hb⟩
    have HB7 := Lib.hid (HFx.out _ _ HB6.out hb)
    clear hb HC x0 x1 x2 y0 y1 y2 z0 z1 z2 v0 v1 v2 lA lB lC lD
    obtain ⟨⟨x0, x1, x2, y0, y1, y2, z0, z1, z2, v0, v1, v2, lA, lB, lC, lD⟩, hw⟩ := HAf.out _ HB7.out
    have HW7 := Lib.hid hw
    clear hw
    go_wp2
    go_ret
    exact ⟨rfl, HW7.out⟩
end TyD
end Go.Proofs.YthcdbmbimdkcfaaDoor
