/- Meet: both. -/
import Derived.Test.YthcdbmbimdkcfaaDoorTyMeetP
import Derived.Test.YthcdbmbimdkcfaaDoorTyRMeet
namespace Go.Proofs.YthcdbmbimdkcfaaDoor
open Go.RowKit ObjM
namespace TyD
open LexD (nameB WTab)

def meetT (a b : Ty) : Option Ty := if bothV a b then meetF 50 a b else none
set_option maxRecDepth 100000 in
set_option maxHeartbeats 16000000 in
theorem meetT_any (a b : Ty) (vn va un ua : Value) (w : World) (oka : TyOk a) (okb : TyOk b) (ha : TyAt w vn va a) (hb : TyAt w un ua b) (hT : WTab w) :
    Calls Tryd.prog 21 #[.agg #[.int .i64 a.kind, vn, va], .agg #[.int .i64 b.kind, un, ua]] w (MeetIs 0 w (meetT a b)) := by
  obtain ⟨an, cn, aa, ca, rfl, rfl⟩ := ha.shape
  obtain ⟨bn, dn, bb, db, rfl, rfl⟩ := hb.shape
  obtain ⟨hh0, hh1, hh2, hbw, hsz⟩ := three_blocks w [.int .i64 a.kind, .slice an a.names.length cn, .slice aa a.args.length ca] [.int .i64 b.kind, .slice bn b.names.length dn, .slice bb b.args.length db] [.int .i64 0, .slice none 0 0, .slice none 0 0] 25 _ rfl
  have HBo := Lib.hid (fun (W : World) (h : Below w.heap.size w W) => both_any a b _ _ _ _ W oka okb (ha.frame (Nat.le_refl _) h) (hb.frame (Nat.le_refl _) h) (hT.below h))
  have HMe := Lib.hid (fun (hv : bothV a b = true) (W : World) (h : Below w.heap.size w W) => meetP_any 50 a b _ _ _ _ W (both_ok hv).1 (both_ok hv).2 oka okb (ha.frame (Nat.le_refl _) h) (hb.frame (Nat.le_refl _) h) (hT.below h))
  have HR : Hid (meetT a b = if bothV a b then meetF 50 a b else none) := Lib.hid rfl
  obtain ⟨R, hR⟩ : ∃ R, meetT a b = R := ⟨_, rfl⟩
  rw [hR] at HR ⊢
  generalize bothV a b = q0 at HBo HMe HR
  generalize meetF 50 a b = oc at HMe HR
  clear ha hb oka okb hR hT
  go_enter Tryd.func21, Tryd.ntmps21
  go_wp2_with fail
  change Calls _ _ _ (World.alloc (World.alloc (World.alloc w _) _) _) _
  generalize World.alloc (World.alloc (World.alloc w _) _) _ = W0 at hh0 hh1 hh2 hbw hsz ⊢
  have HR0 : Hid (w.heap.size ≤ w.heap.size + 1 + 1 ∧ ∀ W, Below W0.heap.size W0 W → w.heap.size + 1 + 1 < W.heap.size) := Lib.hid ⟨by omega, fun W h => by have := h.size; omega⟩
  have HAf : Hid (∀ W, Below W0.heap.size W0 W → ((W.cell? ⟨w.heap.size, 0, none⟩ = some (.int .i64 a.kind) ∧ W.cell? ⟨w.heap.size, 1, none⟩ = some (.slice an a.names.length cn) ∧ W.cell? ⟨w.heap.size, 2, none⟩ = some (.slice aa a.args.length ca) ∧ W.cell? ⟨w.heap.size + 1, 0, none⟩ = some (.int .i64 b.kind) ∧ W.cell? ⟨w.heap.size + 1, 1, none⟩ = some (.slice bn b.names.length dn) ∧ W.cell? ⟨w.heap.size + 1, 2, none⟩ = some (.slice bb b.args.length db)) ∧ (W.cell? ⟨w.heap.size + 1 + 1, 0, none⟩ = some (.int .i64 0) ∧ W.cell? ⟨w.heap.size + 1 + 1, 1, none⟩ = some (.slice none 0 0) ∧ W.cell? ⟨w.heap.size + 1 + 1, 2, none⟩ = some (.slice none 0 0) ∧ W.frozen? ⟨w.heap.size + 1 + 1, 0, none⟩ = false ∧ W.frozen? ⟨w.heap.size + 1 + 1, 1, none⟩ = false ∧ W.frozen? ⟨w.heap.size + 1 + 1, 2, none⟩ = false) ∧ w.heap.size < W.heap.size ∧ w.heap.size + 1 < W.heap.size ∧ w.heap.size + 1 + 1 < W.heap.size) ∧ Below w.heap.size w W) := Lib.hid (fun W h => by
    have g0 := hh0.below h hh0.lt
    have g1 := hh1.below h hh1.lt
    have g2 := hh2.below h hh2.lt
    exact ⟨⟨⟨g0.cell 0, g0.cell 1, g0.cell 2, g1.cell 0, g1.cell 1, g1.cell 2⟩, ⟨g2.cell 0, g2.cell 1, g2.cell 2, g2.frozen 0, g2.frozen 1, g2.frozen 2⟩, g0.lt, g1.lt, g2.lt⟩, hbw.trans (h.mono hbw.size)⟩)
  have HB0 := Lib.hid (Below.refl W0.heap.size W0)
  have HV0 := Lib.hid (HAf.out _ HB0.out).2
  clear hh0 hh1 hh2 hbw hsz
  refine (HBo.out _ HV0.out).mono ?_
  rintro e w1 ⟨rfl, hb1⟩
  have HB1 := Lib.hid (below_on HB0.out hb1)
  clear hb1
  obtain ⟨⟨⟨x0, x1, x2, y0, y1, y2⟩, ⟨z0, z1, z2, f0, f1, f2⟩, lA, lB, lZ⟩, hv1⟩ := HAf.out _ HB1.out
  have HV1 := Lib.hid hv1
  clear hv1
  cases q0
  · have HF : Hid (R = none) := Lib.hid (by rw [HR.out]; rfl)
    obtain rfl := HF.out
    clear HR
    have HEn : Hid (∀ x y z, Below w.heap.size w (((w1.setCell ⟨w.heap.size + 1 + 1, 0, none⟩ x).setCell ⟨w.heap.size + 1 + 1, 1, none⟩ y).setCell ⟨w.heap.size + 1 + 1, 2, none⟩ z)) := Lib.hid (fun x y z => ((HV1.out.setCell (by simp; omega) _).setCell (by simp; omega) _).setCell (by simp; omega) _)
    go_wp2
    exact bodyPost_ret (v := .tuple #[.agg #[.int .i64 0, .slice none 0 0, .slice none 0 0], .bool false]) (by simp [results, Tryd.results21, go_sem, z0, z1, z2]) rfl ⟨rfl, HEn.out _ _ _⟩
  · have HF : Hid (R = oc) := Lib.hid (by rw [HR.out]; rfl)
    obtain rfl := HF.out
    clear HR
    go_wp2_with fail
    refine (HMe.out (by simp) _ HV1.out).mono ?_
    clear x0 x1 x2 y0 y1 y2 z0 z1 z2 f0 f1 f2 lA lB lZ
    cases R with
    | none =>
      rintro e w2 ⟨rfl, hb2⟩
      have HB2 := Lib.hid (below_on HB1.out hb2)
      clear hb2
      obtain ⟨⟨⟨x0, x1, x2, y0, y1, y2⟩, ⟨z0, z1, z2, f0, f1, f2⟩, lA, lB, lZ⟩, hv2⟩ := HAf.out _ HB2.out
      have HV2 := Lib.hid hv2
      clear hv2
      have HEn : Hid (∀ x y z, Below w.heap.size w (((w2.setCell ⟨w.heap.size + 1 + 1, 0, none⟩ x).setCell ⟨w.heap.size + 1 + 1, 1, none⟩ y).setCell ⟨w.heap.size + 1 + 1, 2, none⟩ z)) := Lib.hid (fun x y z => ((HV2.out.setCell (by simp; omega) _).setCell (by simp; omega) _).setCell (by simp; omega) _)
      go_wp2
      exact bodyPost_ret (v := .tuple #[.agg #[.int .i64 0, .slice none 0 0, .slice none 0 0], .bool false]) (by simp [results, Tryd.results21, go_sem, z0, z1, z2]) rfl ⟨rfl, HEn.out _ _ _⟩
    | some t =>
      rintro e w2 ⟨vn, va, rfl, hs, hb2⟩
      obtain ⟨xn, yn, xa, ya, rfl, rfl⟩ := hs.now.shape
      have HB2 := Lib.hid (below_on HB1.out hb2)
      obtain ⟨⟨⟨x0, x1, x2, y0, y1, y2⟩, ⟨z0, z1, z2, f0, f1, f2⟩, lA, lB, lZ⟩, hv2⟩ := HAf.out _ HB2.out
      have HV2 := Lib.hid hv2
      clear hv2
      have HFin := Lib.hid (fun p q s => meet_fin (n0 := 0) HV1.out ⟨HR0.out.1, HR0.out.2 _ HB1.out⟩ hs (fun k hk => hk) (Nat.zero_le _) hb2 p q s)
      clear hs hb2
      go_wp2
      exact bodyPost_ret (v := .tuple #[.agg #[.int .i64 t.kind, .slice xn t.names.length yn, .slice xa t.args.length ya], .bool true]) (by simp [results, Tryd.results21, go_sem, z0, z1, z2]) rfl (HFin.out _ _ _)
set_option maxRecDepth 100000 in
set_option maxHeartbeats 16000000 in
theorem refMeetT_any (a b : Ty) (vn va un ua : Value) (w : World) (oka : TyOk a) (okb : TyOk b) (ha : TyAt w vn va a) (hb : TyAt w un ua b) :
    Calls Tryd.prog 22 #[.agg #[.int .i64 a.kind, vn, va], .agg #[.int .i64 b.kind, un, ua]] w (MeetIs w.heap.size w (meetT a b)) := by
  obtain ⟨an, cn, aa, ca, rfl, rfl⟩ := ha.shape
  obtain ⟨bn, dn, bb, db, rfl, rfl⟩ := hb.shape
  obtain ⟨hh0, hh1, hh2, hbw, hsz⟩ := three_blocks w [.int .i64 a.kind, .slice an a.names.length cn, .slice aa a.args.length ca] [.int .i64 b.kind, .slice bn b.names.length dn, .slice bb b.args.length db] [.int .i64 0, .slice none 0 0, .slice none 0 0] 25 _ rfl
  have HBo := Lib.hid (fun (W : World) (h : Below w.heap.size w W) => refBoth_any a b _ _ _ _ W oka okb (ha.frame (Nat.le_refl _) h) (hb.frame (Nat.le_refl _) h))
  have HMe := Lib.hid (fun (hv : bothV a b = true) (W : World) (h : Below w.heap.size w W) => refMeet_any 50 a b _ _ _ _ w W (both_ok hv).1 (both_ok hv).2 oka okb ha hb h)
  have HR : Hid (meetT a b = if bothV a b then meetF 50 a b else none) := Lib.hid rfl
  obtain ⟨R, hR⟩ : ∃ R, meetT a b = R := ⟨_, rfl⟩
  rw [hR] at HR ⊢
  generalize bothV a b = q0 at HBo HMe HR
  generalize meetF 50 a b = oc at HMe HR
  clear ha hb oka okb hR
  go_enter Tryd.func22, Tryd.ntmps22
  go_wp2_with fail
  change Calls _ _ _ (World.alloc (World.alloc (World.alloc w _) _) _) _
  generalize World.alloc (World.alloc (World.alloc w _) _) _ = W0 at hh0 hh1 hh2 hbw hsz ⊢
  have HR0 : Hid (w.heap.size ≤ w.heap.size + 1 + 1 ∧ ∀ W, Below W0.heap.size W0 W → w.heap.size + 1 + 1 < W.heap.size) := Lib.hid ⟨by omega, fun W h => by have := h.size; omega⟩
  have HAf : Hid (∀ W, Below W0.heap.size W0 W → ((W.cell? ⟨w.heap.size, 0, none⟩ = some (.int .i64 a.kind) ∧ W.cell? ⟨w.heap.size, 1, none⟩ = some (.slice an a.names.length cn) ∧ W.cell? ⟨w.heap.size, 2, none⟩ = some (.slice aa a.args.length ca) ∧ W.cell? ⟨w.heap.size + 1, 0, none⟩ = some (.int .i64 b.kind) ∧ W.cell? ⟨w.heap.size + 1, 1, none⟩ = some (.slice bn b.names.length dn) ∧ W.cell? ⟨w.heap.size + 1, 2, none⟩ = some (.slice bb b.args.length db)) ∧ (W.cell? ⟨w.heap.size + 1 + 1, 0, none⟩ = some (.int .i64 0) ∧ W.cell? ⟨w.heap.size + 1 + 1, 1, none⟩ = some (.slice none 0 0) ∧ W.cell? ⟨w.heap.size + 1 + 1, 2, none⟩ = some (.slice none 0 0) ∧ W.frozen? ⟨w.heap.size + 1 + 1, 0, none⟩ = false ∧ W.frozen? ⟨w.heap.size + 1 + 1, 1, none⟩ = false ∧ W.frozen? ⟨w.heap.size + 1 + 1, 2, none⟩ = false) ∧ w.heap.size < W.heap.size ∧ w.heap.size + 1 < W.heap.size ∧ w.heap.size + 1 + 1 < W.heap.size) ∧ Below w.heap.size w W) := Lib.hid (fun W h => by
    have g0 := hh0.below h hh0.lt
    have g1 := hh1.below h hh1.lt
    have g2 := hh2.below h hh2.lt
    exact ⟨⟨⟨g0.cell 0, g0.cell 1, g0.cell 2, g1.cell 0, g1.cell 1, g1.cell 2⟩, ⟨g2.cell 0, g2.cell 1, g2.cell 2, g2.frozen 0, g2.frozen 1, g2.frozen 2⟩, g0.lt, g1.lt, g2.lt⟩, hbw.trans (h.mono hbw.size)⟩)
  have HB0 := Lib.hid (Below.refl W0.heap.size W0)
  have HV0 := Lib.hid (HAf.out _ HB0.out).2
  clear hh0 hh1 hh2 hbw hsz
  refine (HBo.out _ HV0.out).mono ?_
  rintro e w1 ⟨rfl, hb1⟩
  have HB1 := Lib.hid (below_on HB0.out hb1)
  clear hb1
  obtain ⟨⟨⟨x0, x1, x2, y0, y1, y2⟩, ⟨z0, z1, z2, f0, f1, f2⟩, lA, lB, lZ⟩, hv1⟩ := HAf.out _ HB1.out
  have HV1 := Lib.hid hv1
  clear hv1
  cases q0
  · have HF : Hid (R = none) := Lib.hid (by rw [HR.out]; rfl)
    obtain rfl := HF.out
    clear HR
    have HEn : Hid (∀ x y z, Below w.heap.size w (((w1.setCell ⟨w.heap.size + 1 + 1, 0, none⟩ x).setCell ⟨w.heap.size + 1 + 1, 1, none⟩ y).setCell ⟨w.heap.size + 1 + 1, 2, none⟩ z)) := Lib.hid (fun x y z => ((HV1.out.setCell (by simp; omega) _).setCell (by simp; omega) _).setCell (by simp; omega) _)
    go_wp2
    exact bodyPost_ret (v := .tuple #[.agg #[.int .i64 0, .slice none 0 0, .slice none 0 0], .bool false]) (by simp [results, Tryd.results22, go_sem, z0, z1, z2]) rfl ⟨rfl, HEn.out _ _ _⟩
  · have HF : Hid (R = oc) := Lib.hid (by rw [HR.out]; rfl)
    obtain rfl := HF.out
    clear HR
    go_wp2_with fail
    refine (HMe.out (by simp) _ HV1.out).mono ?_
    clear x0 x1 x2 y0 y1 y2 z0 z1 z2 f0 f1 f2 lA lB lZ
    cases R with
    | none =>
      rintro e w2 ⟨rfl, hb2⟩
      have HB2 := Lib.hid (below_on HB1.out hb2)
      clear hb2
      obtain ⟨⟨⟨x0, x1, x2, y0, y1, y2⟩, ⟨z0, z1, z2, f0, f1, f2⟩, lA, lB, lZ⟩, hv2⟩ := HAf.out _ HB2.out
      have HV2 := Lib.hid hv2
      clear hv2
      have HEn : Hid (∀ x y z, Below w.heap.size w (((w2.setCell ⟨w.heap.size + 1 + 1, 0, none⟩ x).setCell ⟨w.heap.size + 1 + 1, 1, none⟩ y).setCell ⟨w.heap.size + 1 + 1, 2, none⟩ z)) := Lib.hid (fun x y z => ((HV2.out.setCell (by simp; omega) _).setCell (by simp; omega) _).setCell (by simp; omega) _)
      go_wp2
      exact bodyPost_ret (v := .tuple #[.agg #[.int .i64 0, .slice none 0 0, .slice none 0 0], .bool false]) (by simp [results, Tryd.results22, go_sem, z0, z1, z2]) rfl ⟨rfl, HEn.out _ _ _⟩
    | some t =>
      rintro e w2 ⟨vn, va, rfl, hs, hb2⟩
      obtain ⟨xn, yn, xa, ya, rfl, rfl⟩ := hs.now.shape
      have HB2 := Lib.hid (below_on HB1.out hb2)
      obtain ⟨⟨⟨x0, x1, x2, y0, y1, y2⟩, ⟨z0, z1, z2, f0, f1, f2⟩, lA, lB, lZ⟩, hv2⟩ := HAf.out _ HB2.out
      have HV2 := Lib.hid hv2
      clear hv2
      have HFin := Lib.hid (fun p q s => meet_fin (n0 := w.heap.size) HV1.out ⟨HR0.out.1, HR0.out.2 _ HB1.out⟩ hs (fun k hk => hk) (Nat.le_refl _) hb2 p q s)
      clear hs hb2
      go_wp2
      exact bodyPost_ret (v := .tuple #[.agg #[.int .i64 t.kind, .slice xn t.names.length yn, .slice xa t.args.length ya], .bool true]) (by simp [results, Tryd.results22, go_sem, z0, z1, z2]) rfl (HFin.out _ _ _)
end TyD
end Go.Proofs.YthcdbmbimdkcfaaDoor
