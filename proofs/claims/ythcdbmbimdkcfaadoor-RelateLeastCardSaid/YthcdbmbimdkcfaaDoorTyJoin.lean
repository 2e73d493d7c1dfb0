/- Join: the program's. -/
import Derived.Test.YthcdbmbimdkcfaaDoorTyDup
import Derived.Test.YthcdbmbimdkcfaaDoorTyRUnion
import Derived.Test.YthcdbmbimdkcfaaDoorTyTop
import Derived.Deep.RegionHeld3
namespace Go.Proofs.YthcdbmbimdkcfaaDoor
open Go.RowKit ObjM
namespace TyD
open LexD (nameB WTab)

theorem three_blocks (w : World) (c0 c1 c2 : List Value) (t : TypeId) (W : World) (hW : W = ((w.alloc (.cells c0.toArray t)).alloc (.cells c1.toArray t)).alloc (.cells c2.toArray t)) :
    Has W w.heap.size t c0 ∧ Has W (w.heap.size + 1) t c1 ∧ Has W (w.heap.size + 1 + 1) t c2 ∧ Below w.heap.size w W ∧ W.heap.size = w.heap.size + 1 + 1 + 1 := by
  subst hW
  have k : ∀ (W : World) (o : Go.Obj), KeepsT [] W (W.alloc o) := fun W o => (KeepsT.refl [] W).alloc o
  refine ⟨?_, ?_, ?_, ?_, by simp⟩
  · exact ((Has.new w t c0).keepsT (k _ _) (by simp)).keepsT (k _ _) (by simp)
  · have h := (Has.new (w.alloc (.cells c0.toArray t)) t c1).keepsT (k _ (.cells c2.toArray t)) (by simp)
    simpa only [World.size_alloc] using h
  · have h := Has.new ((w.alloc (.cells c0.toArray t)).alloc (.cells c1.toArray t)) t c2
    simpa only [World.size_alloc] using h
  · repeat (first | exact Below.refl _ _ | refine Below.alloc ?_ (by simp; try omega) _)
/-- A result that was made is stored: it stays what it was. -/
theorem fresh_fin {w W w1 : World} {R : Nat} {t : Ty} {e : Ending} (hb : Below w.heap.size w W) (hR : w.heap.size ≤ R ∧ R < W.heap.size) (h : FreshIs W t e w1) (a b c : Value) :
    FreshIs w t e (((w1.setCell ⟨R, 0, none⟩ a).setCell ⟨R, 1, none⟩ b).setCell ⟨R, 2, none⟩ c) := by
  obtain ⟨vn, va, rfl, hs, h1⟩ := fresh_iff.1 h
  have K := keep3 w1 R a b c
  have hw := hb.size
  refine fresh_iff.2 ⟨_, _, rfl, (hs.keeps K (by intro x hx; simp at hx; omega)).sub (fun k hk => by have := K.size; omega) (fun k hk => hk.2), ?_⟩
  exact (hb.trans (h1.mono hw)).trans (K.toBelow w.heap.size (Nat.le_trans hw h1.size) (by intro x hx; simp at hx; omega))
theorem fresh_none {w w1 : World} (h : Below w.heap.size w w1) : FreshIs w anyT (.returned (.agg #[.int .i64 0, .slice none 0 0, .slice none 0 0])) w1 := ⟨_, _, rfl, fun _ _ _ => TyAt.of (StrsAt.nil _) (TysAt.nil _), h⟩
theorem TypeIs.of {w w' : World} {t : Ty} {e : Ending} (h : FreshIs w t e w') : TypeIs w t e w' := by
  obtain ⟨vn, va, rfl, h1, h2⟩ := h
  exact ⟨vn, va, rfl, h1 _ (Nat.le_refl _) (fun _ _ _ => rfl), h2⟩
theorem type_fin {w W w1 : World} {R : Nat} {t : Ty} {e : Ending} (hb : Below w.heap.size w W) (hR : w.heap.size ≤ R ∧ R < W.heap.size) (h : FreshIs W t e w1) (a b c : Value) :
    TypeIs w t e (((w1.setCell ⟨R, 0, none⟩ a).setCell ⟨R, 1, none⟩ b).setCell ⟨R, 2, none⟩ c) := .of (fresh_fin hb hR h a b c)
theorem joinV_def (a b : Ty) : joinV a b = if bothV a b then (if subB 50 a b then b else if subB 50 b a then a else if decide (a.kind ≤ 7) && decide (b.kind ≤ 7) then unionP (bitsOf (kindsV a ||| kindsV b)) else anyT) else anyT := by
  unfold joinV bothV
  simp only [Bool.and_eq_true, decide_eq_true_eq]
theorem kindsC_of {t : Ty} (h : checkV t = true) : kindsC t = kindsV t := by simp [kindsC, h]
theorem flat_of {t : Ty} (h : checkV t = true) : flatB t.kind = decide (t.kind ≤ 7) := by
  have := (Ok.top h).kind
  unfold flatB
  rw [decide_eq_true this.1, Bool.true_and]
set_option maxRecDepth 100000 in
set_option maxHeartbeats 16000000 in
theorem join_any (a b : Ty) (vn va un ua : Value) (w : World) (oka : TyOk a) (okb : TyOk b) (ha : TyAt w vn va a) (hb : TyAt w un ua b) (hT : WTab w) (hK : KTab w) :
    Calls Tryd.prog 24 #[.agg #[.int .i64 a.kind, vn, va], .agg #[.int .i64 b.kind, un, ua]] w (FreshIs w (joinV a b)) := by
  obtain ⟨an, cn, aa, ca, rfl, rfl⟩ := ha.shape
  obtain ⟨bn, dn, bb, db, rfl, rfl⟩ := hb.shape
  obtain ⟨hh0, hh1, hh2, hbw, hsz⟩ := three_blocks w [.int .i64 a.kind, .slice an a.names.length cn, .slice aa a.args.length ca] [.int .i64 b.kind, .slice bn b.names.length dn, .slice bb b.args.length db] [.int .i64 0, .slice none 0 0, .slice none 0 0] 25 _ rfl
  have HTa := Lib.hid (fun (W : World) (h : Below w.heap.size w W) => ha.frame (Nat.le_refl _) h)
  have HTb := Lib.hid (fun (W : World) (h : Below w.heap.size w W) => hb.frame (Nat.le_refl _) h)
  have HBo := Lib.hid (fun (W : World) (h : Below w.heap.size w W) => both_any a b _ _ _ _ W oka okb (ha.frame (Nat.le_refl _) h) (hb.frame (Nat.le_refl _) h) (hT.below h))
  have HSab := Lib.hid (fun (hv : bothV a b = true) (W : World) (h : Below w.heap.size w W) => sub_any 50 a b _ _ _ _ W (both_ok hv).1 (both_ok hv).2 oka okb (ha.frame (Nat.le_refl _) h) (hb.frame (Nat.le_refl _) h) (hT.below h) (hK.below h))
  have HSba := Lib.hid (fun (hv : bothV a b = true) (W : World) (h : Below w.heap.size w W) => sub_any 50 b a _ _ _ _ W (both_ok hv).2 (both_ok hv).1 okb oka (hb.frame (Nat.le_refl _) h) (ha.frame (Nat.le_refl _) h) (hT.below h) (hK.below h))
  have HFa := Lib.hid (fun (W : World) (h : Below w.heap.size w W) => rflat_any a _ _ W (ha.frame (Nat.le_refl _) h))
  have HFb := Lib.hid (fun (W : World) (h : Below w.heap.size w W) => rflat_any b _ _ W (hb.frame (Nat.le_refl _) h))
  have HKa := Lib.hid (fun (W : World) (h : Below w.heap.size w W) => kinds_any a _ _ W oka (ha.frame (Nat.le_refl _) h) (hT.below h) (hK.below h))
  have HKb := Lib.hid (fun (W : World) (h : Below w.heap.size w W) => kinds_any b _ _ W okb (hb.frame (Nat.le_refl _) h) (hT.below h) (hK.below h))
  have HUn : Hid (∀ W, Below w.heap.size w W → Calls Tryd.prog 44 #[.int .i64 ((kindsC a ||| kindsC b : Nat) : Int)] W (FreshIs W (unionP (bitsOf (kindsC a ||| kindsC b))))) := Lib.hid (fun W h => by
    have hu := union_any ((kindsC a ||| kindsC b : Nat) : Int) W (hK.below h)
    rwa [unionG_bits (Nat.or_lt_two_pow (n := 7) (kindsC_lt a) (kindsC_lt b))] at hu)
  have HDa := Lib.hid (fun (hv : bothV a b = true) (W : World) (h : Below w.heap.size w W) => dup_any a _ _ W (ha.frame (Nat.le_refl _) h) oka (both_ok hv).1.check)
  have HDb := Lib.hid (fun (hv : bothV a b = true) (W : World) (h : Below w.heap.size w W) => dup_any b _ _ W (hb.frame (Nat.le_refl _) h) okb (both_ok hv).2.check)
  have hor : bits BinOp.or IntKind.i64 ((kindsC a : Nat) : Int) ((kindsC b : Nat) : Int) = ((kindsC a ||| kindsC b : Nat) : Int) := or_nat (kindsC_lt a) (kindsC_lt b)
  have HJ : Hid (joinV a b = if bothV a b then (if subB 50 a b then b else if subB 50 b a then a else if decide (a.kind ≤ 7) && decide (b.kind ≤ 7) then unionP (bitsOf (kindsC a ||| kindsC b)) else anyT) else anyT) := Lib.hid (by
    rw [joinV_def]
    by_cases hv : bothV a b = true
    · rw [kindsC_of (both_ok hv).1.check, kindsC_of (both_ok hv).2.check]
    · rw [if_neg hv, if_neg hv])
  generalize decide (a.kind ≤ 7) = q3 at HFa HJ
  generalize decide (b.kind ≤ 7) = q4 at HFb HJ
  generalize joinV a b = R at HJ ⊢
  generalize kindsC a = ka at HKa HUn hor HJ
  generalize kindsC b = kb at HKb HUn hor HJ
  generalize bothV a b = q0 at HBo HSab HSba HJ HDa HDb
  generalize subB 50 a b = q1 at HSab HJ
  generalize subB 50 b a = q2 at HSba HJ
  clear ha hb oka okb hT hK
  go_enter Tryd.func24, Tryd.ntmps24
  go_wp2_with fail
  change Calls _ _ _ (World.alloc (World.alloc (World.alloc w _) _) _) _
  generalize World.alloc (World.alloc (World.alloc w _) _) _ = W0 at hh0 hh1 hh2 hbw hsz ⊢
  have HW0 := Lib.hid hbw
  have HR : Hid (w.heap.size ≤ w.heap.size + 1 + 1 ∧ ∀ W, Below W0.heap.size W0 W → w.heap.size + 1 + 1 < W.heap.size) := Lib.hid ⟨by omega, fun W h => by have := h.size; omega⟩
  have HAf : Hid (∀ W, Below W0.heap.size W0 W → ((W.cell? ⟨w.heap.size, 0, none⟩ = some (.int .i64 a.kind) ∧ W.cell? ⟨w.heap.size, 1, none⟩ = some (.slice an a.names.length cn) ∧ W.cell? ⟨w.heap.size, 2, none⟩ = some (.slice aa a.args.length ca) ∧ W.cell? ⟨w.heap.size + 1, 0, none⟩ = some (.int .i64 b.kind) ∧ W.cell? ⟨w.heap.size + 1, 1, none⟩ = some (.slice bn b.names.length dn) ∧ W.cell? ⟨w.heap.size + 1, 2, none⟩ = some (.slice bb b.args.length db)) ∧ (W.cell? ⟨w.heap.size + 1 + 1, 0, none⟩ = some (.int .i64 0) ∧ W.cell? ⟨w.heap.size + 1 + 1, 1, none⟩ = some (.slice none 0 0) ∧ W.cell? ⟨w.heap.size + 1 + 1, 2, none⟩ = some (.slice none 0 0) ∧ W.frozen? ⟨w.heap.size + 1 + 1, 0, none⟩ = false ∧ W.frozen? ⟨w.heap.size + 1 + 1, 1, none⟩ = false ∧ W.frozen? ⟨w.heap.size + 1 + 1, 2, none⟩ = false) ∧ w.heap.size < W.heap.size ∧ w.heap.size + 1 < W.heap.size ∧ w.heap.size + 1 + 1 < W.heap.size) ∧ Below w.heap.size w W) := Lib.hid (fun W h => by
    have g0 := hh0.below h hh0.lt
    have g1 := hh1.below h hh1.lt
    have g2 := hh2.below h hh2.lt
    exact ⟨⟨⟨g0.cell 0, g0.cell 1, g0.cell 2, g1.cell 0, g1.cell 1, g1.cell 2⟩, ⟨g2.cell 0, g2.cell 1, g2.cell 2, g2.frozen 0, g2.frozen 1, g2.frozen 2⟩, g0.lt, g1.lt, g2.lt⟩, hbw.trans (h.mono hbw.size)⟩)
  have HB0 := Lib.hid (Below.refl W0.heap.size W0)
  have HV0 := Lib.hid (HAf.out _ HB0.out).2
  clear hh0 hh1 hh2 hbw hsz
  refine (HBo.out _ HV0.out).mono ?_
  rintro e w1 ⟨rfl, hb1⟩
  have HB1 := Lib.hid (below_on HB0.out hb1)
  obtain ⟨⟨⟨x0, x1, x2, y0, y1, y2⟩, ⟨z0, z1, z2, f0, f1, f2⟩, lA, lB, lZ⟩, hv1⟩ := HAf.out _ HB1.out
  have HV1 := Lib.hid hv1
  clear hb1 hv1
  cases q0
  · have HEn : Hid (∀ x y z, Below w.heap.size w (((w1.setCell ⟨w.heap.size + 1 + 1, 0, none⟩ x).setCell ⟨w.heap.size + 1 + 1, 1, none⟩ y).setCell ⟨w.heap.size + 1 + 1, 2, none⟩ z)) := Lib.hid (fun x y z => ((HV1.out.setCell (by simp; omega) _).setCell (by simp; omega) _).setCell (by simp; omega) _)
    have HF : Hid (R = anyT) := Lib.hid (by rw [HJ.out]; rfl)
    obtain rfl := HF.out
    clear HJ
    go_wp2
    exact bodyPost_ret (v := .agg #[.int .i64 0, .slice none 0 0, .slice none 0 0]) (by simp [results, Tryd.results24, go_sem, z0, z1, z2]) rfl (fresh_none (HEn.out _ _ _))
  · go_wp2_with fail
    refine (HSab.out (by simp) _ HV1.out).mono ?_
    clear x0 x1 x2 y0 y1 y2 z0 z1 z2 f0 f1 f2 lA lB lZ
    rintro e w2 ⟨rfl, hb2⟩
    have HB2 := Lib.hid (below_on HB1.out hb2)
    obtain ⟨⟨⟨x0, x1, x2, y0, y1, y2⟩, ⟨z0, z1, z2, f0, f1, f2⟩, lA, lB, lZ⟩, hv2⟩ := HAf.out _ HB2.out
    have HV2 := Lib.hid hv2
    clear hb2 hv2
    cases q1
    · go_wp2_with fail
      refine (HSba.out (by simp) _ HV2.out).mono ?_
      clear x0 x1 x2 y0 y1 y2 z0 z1 z2 f0 f1 f2 lA lB lZ
      rintro e w3 ⟨rfl, hb3⟩
      have HB3 := Lib.hid (below_on HB2.out hb3)
      obtain ⟨⟨⟨x0, x1, x2, y0, y1, y2⟩, ⟨z0, z1, z2, f0, f1, f2⟩, lA, lB, lZ⟩, hv3⟩ := HAf.out _ HB3.out
      have HV3 := Lib.hid hv3
      clear hb3 hv3
      cases q2
      · go_wp2_with fail
        refine (HFa.out _ HV3.out).mono ?_
        clear x0 x1 x2 y0 y1 y2 z0 z1 z2 f0 f1 f2 lA lB lZ
        rintro e w4 ⟨rfl, hb4⟩
        have HB4 := Lib.hid (below_on HB3.out hb4)
        obtain ⟨⟨⟨x0, x1, x2, y0, y1, y2⟩, ⟨z0, z1, z2, f0, f1, f2⟩, lA, lB, lZ⟩, hv4⟩ := HAf.out _ HB4.out
        have HV4 := Lib.hid hv4
        clear hb4 hv4
        cases q3
        · have HEn : Hid (∀ x y z, Below w.heap.size w (((w4.setCell ⟨w.heap.size + 1 + 1, 0, none⟩ x).setCell ⟨w.heap.size + 1 + 1, 1, none⟩ y).setCell ⟨w.heap.size + 1 + 1, 2, none⟩ z)) := Lib.hid (fun x y z => ((HV4.out.setCell (by simp; omega) _).setCell (by simp; omega) _).setCell (by simp; omega) _)
          have HF : Hid (R = anyT) := Lib.hid (by rw [HJ.out]; rfl)
          obtain rfl := HF.out
          clear HJ
          go_wp2
          exact bodyPost_ret (v := .agg #[.int .i64 0, .slice none 0 0, .slice none 0 0]) (by simp [results, Tryd.results24, go_sem, z0, z1, z2]) rfl (fresh_none (HEn.out _ _ _))
        · go_wp2_with fail
          refine (HFb.out _ HV4.out).mono ?_
          clear x0 x1 x2 y0 y1 y2 z0 z1 z2 f0 f1 f2 lA lB lZ
          rintro e w5 ⟨rfl, hb5⟩
          have HB5 := Lib.hid (below_on HB4.out hb5)
          obtain ⟨⟨⟨x0, x1, x2, y0, y1, y2⟩, ⟨z0, z1, z2, f0, f1, f2⟩, lA, lB, lZ⟩, hv5⟩ := HAf.out _ HB5.out
          have HV5 := Lib.hid hv5
          clear hb5 hv5
          cases q4
          · have HEn : Hid (∀ x y z, Below w.heap.size w (((w5.setCell ⟨w.heap.size + 1 + 1, 0, none⟩ x).setCell ⟨w.heap.size + 1 + 1, 1, none⟩ y).setCell ⟨w.heap.size + 1 + 1, 2, none⟩ z)) := Lib.hid (fun x y z => ((HV5.out.setCell (by simp; omega) _).setCell (by simp; omega) _).setCell (by simp; omega) _)
            have HF : Hid (R = anyT) := Lib.hid (by rw [HJ.out]; rfl)
            obtain rfl := HF.out
            clear HJ
            go_wp2
            exact bodyPost_ret (v := .agg #[.int .i64 0, .slice none 0 0, .slice none 0 0]) (by simp [results, Tryd.results24, go_sem, z0, z1, z2]) rfl (fresh_none (HEn.out _ _ _))
          · have HF : Hid (R = unionP (bitsOf (ka ||| kb))) := Lib.hid (by rw [HJ.out]; rfl)
            obtain rfl := HF.out
            clear HJ
            go_wp2
            go_region_held3 (fun W => W.cell? ⟨w.heap.size, 0, none⟩ = some (.int .i64 a.kind) ∧ W.cell? ⟨w.heap.size, 1, none⟩ = some (.slice an a.names.length cn) ∧ W.cell? ⟨w.heap.size, 2, none⟩ = some (.slice aa a.args.length ca) ∧ W.cell? ⟨w.heap.size + 1, 0, none⟩ = some (.int .i64 b.kind) ∧ W.cell? ⟨w.heap.size + 1, 1, none⟩ = some (.slice bn b.names.length dn) ∧ W.cell? ⟨w.heap.size + 1, 2, none⟩ = some (.slice bb b.args.length db))
              (first | assumption | exact hst _ _ _ | exact (HAf.out _ (by repeat (first | exact HB5.out | assumption | refine Below.drew ?_ | refine Below.setCell ?_ (by simp; omega) _))).1.1)
              (first
                | (go_at_call 45
                   with_reducible refine (HKa.out _ (HAf.out _ (by repeat (first | exact HB5.out | assumption | refine Below.drew ?_ | refine Below.setCell ?_ (by simp; omega) _))).2).mono ?_
                   rintro e w6 ⟨rfl, hb6⟩
                   have HB6 : Below W0.heap.size W0 w6 := below_on (by repeat (first | exact HB5.out | assumption | refine Below.drew ?_ | refine Below.setCell ?_ (by simp; omega) _)) hb6)
                | (go_at_call 45
                   with_reducible refine (HKb.out _ (HAf.out _ (by repeat (first | exact HB5.out | assumption | refine Below.drew ?_ | refine Below.setCell ?_ (by simp; omega) _))).2).mono ?_
                   rintro e w6 ⟨rfl, hb6⟩
                   have HB6 : Below W0.heap.size W0 w6 := below_on (by repeat (first | exact HB5.out | assumption | refine Below.drew ?_ | refine Below.setCell ?_ (by simp; omega) _)) hb6)
                | (go_at_call 44
                   refine (HUn.out _ (HAf.out _ (by repeat (first | exact HB5.out | assumption | refine Below.drew ?_ | refine Below.setCell ?_ (by simp; omega) _))).2).mono ?_
                   intro e w8 hfr
                   have hfr9 := hfr
                   obtain ⟨vn, va, rfl, hfr2, hb8⟩ := hfr9
                   obtain ⟨xn, yn, xa, ya, rfl, rfl⟩ := (hfr2 _ (Nat.le_refl _) (fun _ _ _ => rfl)).shape
                   have HB8 : Below W0.heap.size W0 w8 := below_on (by repeat (first | exact HB5.out | assumption | refine Below.drew ?_ | refine Below.setCell ?_ (by simp; omega) _)) hb8
                   have HFin := Lib.hid (fresh_fin (HAf.out _ (by repeat (first | exact HB5.out | assumption | refine Below.drew ?_ | refine Below.setCell ?_ (by simp; omega) _))).2 ⟨HR.out.1, HR.out.2 _ (by repeat (first | exact HB5.out | assumption | refine Below.drew ?_ | refine Below.setCell ?_ (by simp; omega) _))⟩ hfr)
                   clear hfr hfr2 hb8
                   obtain ⟨⟨⟨x0, x1, x2, y0, y1, y2⟩, ⟨z0, z1, z2, f0, f1, f2⟩, lA, lB, lZ⟩, hv8⟩ := HAf.out _ HB8
                   have hst : ∀ x y z, (((w8.setCell ⟨w.heap.size + 1 + 1, 0, none⟩ x).setCell ⟨w.heap.size + 1 + 1, 1, none⟩ y).setCell ⟨w.heap.size + 1 + 1, 2, none⟩ z).cell? ⟨w.heap.size, 0, none⟩ = some (.int .i64 a.kind) ∧ (((w8.setCell ⟨w.heap.size + 1 + 1, 0, none⟩ x).setCell ⟨w.heap.size + 1 + 1, 1, none⟩ y).setCell ⟨w.heap.size + 1 + 1, 2, none⟩ z).cell? ⟨w.heap.size, 1, none⟩ = some (.slice an a.names.length cn) ∧ (((w8.setCell ⟨w.heap.size + 1 + 1, 0, none⟩ x).setCell ⟨w.heap.size + 1 + 1, 1, none⟩ y).setCell ⟨w.heap.size + 1 + 1, 2, none⟩ z).cell? ⟨w.heap.size, 2, none⟩ = some (.slice aa a.args.length ca) ∧ (((w8.setCell ⟨w.heap.size + 1 + 1, 0, none⟩ x).setCell ⟨w.heap.size + 1 + 1, 1, none⟩ y).setCell ⟨w.heap.size + 1 + 1, 2, none⟩ z).cell? ⟨w.heap.size + 1, 0, none⟩ = some (.int .i64 b.kind) ∧ (((w8.setCell ⟨w.heap.size + 1 + 1, 0, none⟩ x).setCell ⟨w.heap.size + 1 + 1, 1, none⟩ y).setCell ⟨w.heap.size + 1 + 1, 2, none⟩ z).cell? ⟨w.heap.size + 1, 1, none⟩ = some (.slice bn b.names.length dn) ∧ (((w8.setCell ⟨w.heap.size + 1 + 1, 0, none⟩ x).setCell ⟨w.heap.size + 1 + 1, 1, none⟩ y).setCell ⟨w.heap.size + 1 + 1, 2, none⟩ z).cell? ⟨w.heap.size + 1, 2, none⟩ = some (.slice bb b.args.length db) := fun x y z => by
                     refine ⟨?_, ?_, ?_, ?_, ?_, ?_⟩ <;> rw [World.cell?_setCell_far _ _ _ _ (by simp; try omega), World.cell?_setCell_far _ _ _ _ (by simp; try omega), World.cell?_setCell_far _ _ _ _ (by simp; try omega)] <;> assumption))
            go_wp2
            exact bodyPost_ret (v := .agg #[.int .i64 (unionP (bitsOf (ka ||| kb))).kind, .slice xn (unionP (bitsOf (ka ||| kb))).names.length yn, .slice xa (unionP (bitsOf (ka ||| kb))).args.length ya]) (by simp [results, Tryd.results24, go_sem, z0, z1, z2]) rfl (HFin.out _ _ _)
      · have HF : Hid (R = a) := Lib.hid (by rw [HJ.out]; rfl)
        obtain rfl := HF.out
        clear HJ
        go_wp2_with fail
        refine (HDa.out (by simp) _ HV3.out).mono ?_
        intro e w4 hfr
        have hb4 : Below w3.heap.size w3 w4 := hfr.choose_spec.choose_spec.2.2
        have HB4 := Lib.hid (below_on HB3.out hb4)
        obtain ⟨⟨-, ⟨z0, z1, z2, f0, f1, f2⟩, -, -, lZ⟩, hv4⟩ := HAf.out _ HB4.out
        have HFin := Lib.hid (fresh_fin HV3.out ⟨HR.out.1, HR.out.2 _ HB3.out⟩ hfr)
        obtain ⟨vn, va, rfl, hfr2, -⟩ := hfr
        obtain ⟨xn, yn, xa, ya, rfl, rfl⟩ := (hfr2 _ (Nat.le_refl _) (fun _ _ _ => rfl)).shape
        clear hb4 hv4 hfr2
        go_wp2
        exact bodyPost_ret (v := .agg #[.int .i64 R.kind, .slice xn R.names.length yn, .slice xa R.args.length ya]) (by simp [results, Tryd.results24, go_sem, z0, z1, z2]) rfl (HFin.out _ _ _)
    · have HF : Hid (R = b) := Lib.hid (by rw [HJ.out]; rfl)
      obtain rfl := HF.out
      clear HJ
      go_wp2_with fail
      refine (HDb.out (by simp) _ HV2.out).mono ?_
      intro e w3 hfr
      have hb3 : Below w2.heap.size w2 w3 := hfr.choose_spec.choose_spec.2.2
      have HB3 := Lib.hid (below_on HB2.out hb3)
      obtain ⟨⟨-, ⟨z0, z1, z2, f0, f1, f2⟩, -, -, lZ⟩, hv3⟩ := HAf.out _ HB3.out
      have HFin := Lib.hid (fresh_fin HV2.out ⟨HR.out.1, HR.out.2 _ HB2.out⟩ hfr)
      obtain ⟨vn, va, rfl, hfr2, -⟩ := hfr
      obtain ⟨xn, yn, xa, ya, rfl, rfl⟩ := (hfr2 _ (Nat.le_refl _) (fun _ _ _ => rfl)).shape
      clear hb3 hv3 hfr2
      go_wp2
      exact bodyPost_ret (v := .agg #[.int .i64 R.kind, .slice xn R.names.length yn, .slice xa R.args.length ya]) (by simp [results, Tryd.results24, go_sem, z0, z1, z2]) rfl (HFin.out _ _ _)
end TyD
end Go.Proofs.YthcdbmbimdkcfaaDoor
