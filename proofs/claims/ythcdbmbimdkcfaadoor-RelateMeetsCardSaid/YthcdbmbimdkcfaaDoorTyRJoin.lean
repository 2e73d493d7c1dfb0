/- Join: the document's. -/
import Derived.Test.YthcdbmbimdkcfaaDoorTyJoin
import Derived.Test.YthcdbmbimdkcfaaDoorTyRSubW
import Derived.Test.YthcdbmbimdkcfaaDoorTyRUnion
import Derived.Test.YthcdbmbimdkcfaaDoorTyTop
import Derived.Deep.RegionHeld3
namespace Go.Proofs.YthcdbmbimdkcfaaDoor
open Go.RowKit ObjM
namespace TyD
open LexD (nameB WTab)
set_option maxRecDepth 100000 in
set_option maxHeartbeats 16000000 in
theorem refJoin_any (a b : Ty) (vn va un ua : Value) (w : World) (oka : TyOk a) (okb : TyOk b) (ha : TyAt w vn va a) (hb : TyAt w un ua b) :
    Calls Tryd.prog 25 #[.agg #[.int .i64 a.kind, vn, va], .agg #[.int .i64 b.kind, un, ua]] w (TypeIs w (joinV a b)) := by
  obtain ⟨an, cn, aa, ca, rfl, rfl⟩ := ha.shape
  obtain ⟨bn, dn, bb, db, rfl, rfl⟩ := hb.shape
  obtain ⟨hh0, hh1, hh2, hbw, hsz⟩ := three_blocks w [.int .i64 a.kind, .slice an a.names.length cn, .slice aa a.args.length ca] [.int .i64 b.kind, .slice bn b.names.length dn, .slice bb b.args.length db] [.int .i64 0, .slice none 0 0, .slice none 0 0] 25 _ rfl
  have HTa := Lib.hid (fun (W : World) (h : Below w.heap.size w W) => ha.frame (Nat.le_refl _) h)
  have HTb := Lib.hid (fun (W : World) (h : Below w.heap.size w W) => hb.frame (Nat.le_refl _) h)
  have HBo := Lib.hid (fun (W : World) (h : Below w.heap.size w W) => refBoth_any a b _ _ _ _ W oka okb (ha.frame (Nat.le_refl _) h) (hb.frame (Nat.le_refl _) h))
  have HSab := Lib.hid (fun (hv : bothV a b = true) (W : World) (h : Below w.heap.size w W) => refSub_any 50 a b _ _ _ _ W (both_ok hv).1 (both_ok hv).2 oka okb (ha.frame (Nat.le_refl _) h) (hb.frame (Nat.le_refl _) h))
  have HSba := Lib.hid (fun (hv : bothV a b = true) (W : World) (h : Below w.heap.size w W) => refSub_any 50 b a _ _ _ _ W (both_ok hv).2 (both_ok hv).1 okb oka (hb.frame (Nat.le_refl _) h) (ha.frame (Nat.le_refl _) h))
  have HFa := Lib.hid (fun (W : World) (h : Below w.heap.size w W) => rflat10_any a _ _ W (ha.frame (Nat.le_refl _) h))
  have HFb := Lib.hid (fun (W : World) (h : Below w.heap.size w W) => rflat10_any b _ _ W (hb.frame (Nat.le_refl _) h))
  have HKa := Lib.hid (fun (W : World) (h : Below w.heap.size w W) => refKinds_any a _ _ W oka (ha.frame (Nat.le_refl _) h))
  have HKb := Lib.hid (fun (W : World) (h : Below w.heap.size w W) => refKinds_any b _ _ W okb (hb.frame (Nat.le_refl _) h))
  have HUn : Hid (∀ W, Below w.heap.size w W → Calls Tryd.prog 47 #[.int .i64 ((kindsC a ||| kindsC b : Nat) : Int)] W (FreshIs W (unionP (bitsOf (kindsC a ||| kindsC b))))) := Lib.hid (fun W h => by
    have hu := refUnion_any ((kindsC a ||| kindsC b : Nat) : Int) W
    rwa [unionR_eq, ← unionG_eq, unionG_bits (Nat.or_lt_two_pow (n := 7) (kindsC_lt a) (kindsC_lt b))] at hu)
  have hor : bits BinOp.or IntKind.i64 ((kindsC a : Nat) : Int) ((kindsC b : Nat) : Int) = ((kindsC a ||| kindsC b : Nat) : Int) := or_nat (kindsC_lt a) (kindsC_lt b)
  have HJ : Hid (joinV a b = if bothV a b then (if subB 50 a b then b else if subB 50 b a then a else if decide (a.kind ≤ 7) && decide (b.kind ≤ 7) then unionP (bitsOf (kindsC a ||| kindsC b)) else anyT) else anyT) := Lib.hid (by
    rw [joinV_def]
    by_cases hv : bothV a b = true
    · rw [kindsC_of (both_ok hv).1.check, kindsC_of (both_ok hv).2.check]
    · rw [if_neg hv, if_neg hv])
  have HFl : Hid (bothV a b = true → flatB a.kind = decide (a.kind ≤ 7) ∧ flatB b.kind = decide (b.kind ≤ 7)) := Lib.hid (fun hv => ⟨flat_of (both_ok hv).1.check, flat_of (both_ok hv).2.check⟩)
  generalize flatB a.kind = q3 at HFa HFl
  generalize flatB b.kind = q4 at HFb HFl
  generalize decide (a.kind ≤ 7) = q3' at HFl HJ
  generalize decide (b.kind ≤ 7) = q4' at HFl HJ
  generalize joinV a b = R at HJ ⊢
  generalize kindsC a = ka at HKa HUn hor HJ
  generalize kindsC b = kb at HKb HUn hor HJ
  generalize bothV a b = q0 at HBo HSab HSba HJ HFl
  generalize subB 50 a b = q1 at HSab HJ
  generalize subB 50 b a = q2 at HSba HJ
  clear ha hb oka okb
  go_enter Tryd.func25, Tryd.ntmps25
  go_wp2_with fail
  change Calls _ _ _ (World.alloc (World.alloc (World.alloc w _) _) _) _
  generalize World.alloc (World.alloc (World.alloc w _) _) _ = W0 at hh0 hh1 hh2 hbw hsz ⊢
  have HW0 := Lib.hid hbw
  have HR : Hid (w.heap.size ≤ w.heap.size + 1 + 1 ∧ ∀ W, Below W0.heap.size W0 W → w.heap.size + 1 + 1 < W.heap.size) := Lib.hid ⟨by omega, fun W h => by have := h.size; omega⟩
  have HAf : Hid (∀ W, Below W0.heap.size W0 W → ((W.cell? ⟨w.heap.size, 0, none⟩ = some (.int .i64 a.kind) ∧ W.cell? ⟨w.heap.size, 1, none⟩ = some (.slice an a.names.length cn) ∧ W.cell? ⟨w.heap.size, 2, none⟩ = some (.slice aa a.args.length ca) ∧ W.cell? ⟨w.heap.size + 1, 0, none⟩ = some (.int .i64 b.kind) ∧ W.cell? ⟨w.heap.size + 1, 1, none⟩ = some (.slice bn b.names.length dn) ∧ W.cell? ⟨w.heap.size + 1, 2, none⟩ = some (.slice bb b.args.length db)) ∧ (W.cell? ⟨w.heap.size + 1 + 1, 0, none⟩ = some (.int .i64 0) ∧ W.cell? ⟨w.heap.size + 1 + 1, 1, none⟩ = some (.slice none 0 0) ∧ W.cell? ⟨w.heap.size + 1 + 1, 2, none⟩ = some (.slice none 0 0) ∧ W.frozen? ⟨w.heap.size + 1 + 1, 0, none⟩ = false ∧ W.frozen? ⟨w.heap.size + 1 + 1, 1, none⟩ = false ∧ W.frozen? ⟨w.heap.size + 1 + 1, 2, none⟩ = false) ∧ w.heap.size < W.heap.size ∧ w.heap.size + 1 < W.heap.size ∧ w.heap.size + 1 + 1 < W.heap.size) ∧ Below w.heap.size w W) := Lib.hid (fun W h => by
    have g0 := hh0.below h hh0.lt
    have g1 := hh1.below h hh1.lt
    have g2 := hh2.below h hh2.lt
    exact ⟨⟨⟨g0.cell 0, g0.cell 1, g0.cell 2, g1.cell 0, g1.cell 1, g1.cell 2⟩, ⟨g2.cell 0, g2.cell 1, g2.cell 2, g2.frozen 0, g2.frozen 1, g2.frozen 2⟩, g0.lt, g1.lt, g2.lt⟩, hbw.trans (h.mono hbw.size)⟩)
  have HB0 := Lib.hid (Below.refl W0.heap.size W0)
  have HV0 := Lib.hid (HAf.out _ HB0.out).2
  clear hh0 hh1 hh2 hbw hsz
  refine (HBo.out _ HV0.out).mono ?_
  rintro e w1 ⟨rfl, hb1⟩
  have HB1 := Lib.hid (below_on HB0.out hb1)
  obtain ⟨⟨⟨x0, x1, x2, y0, y1, y2⟩, ⟨z0, z1, z2, f0, f1, f2⟩, lA, lB, lZ⟩, hv1⟩ := HAf.out _ HB1.out
  have HV1 := Lib.hid hv1
  clear hb1 hv1
  cases q0
  · have HEn : Hid (∀ x y z, Below w.heap.size w (((w1.setCell ⟨w.heap.size + 1 + 1, 0, none⟩ x).setCell ⟨w.heap.size + 1 + 1, 1, none⟩ y).setCell ⟨w.heap.size + 1 + 1, 2, none⟩ z)) := Lib.hid (fun x y z => ((HV1.out.setCell (by simp; omega) _).setCell (by simp; omega) _).setCell (by simp; omega) _)
    have HF : Hid (R = anyT) := Lib.hid (by rw [HJ.out]; rfl)
    obtain rfl := HF.out
    clear HJ
    go_wp2
    exact bodyPost_ret (v := .agg #[.int .i64 0, .slice none 0 0, .slice none 0 0]) (by simp [results, Tryd.results25, go_sem, z0, z1, z2]) rfl (.of (fresh_none (HEn.out _ _ _)))
  · obtain ⟨rfl, rfl⟩ := HFl.out rfl
    clear HFl
    go_wp2_with fail
    refine (HSab.out (by simp) _ HV1.out).mono ?_
    clear x0 x1 x2 y0 y1 y2 z0 z1 z2 f0 f1 f2 lA lB lZ
    rintro e w2 ⟨rfl, hb2⟩
    have HB2 := Lib.hid (below_on HB1.out hb2)
    obtain ⟨⟨⟨x0, x1, x2, y0, y1, y2⟩, ⟨z0, z1, z2, f0, f1, f2⟩, lA, lB, lZ⟩, hv2⟩ := HAf.out _ HB2.out
    have HV2 := Lib.hid hv2
    clear hb2 hv2
    cases q1
    · go_wp2_with fail
      refine (HSba.out (by simp) _ HV2.out).mono ?_
      clear x0 x1 x2 y0 y1 y2 z0 z1 z2 f0 f1 f2 lA lB lZ
      rintro e w3 ⟨rfl, hb3⟩
      have HB3 := Lib.hid (below_on HB2.out hb3)
      obtain ⟨⟨⟨x0, x1, x2, y0, y1, y2⟩, ⟨z0, z1, z2, f0, f1, f2⟩, lA, lB, lZ⟩, hv3⟩ := HAf.out _ HB3.out
      have HV3 := Lib.hid hv3
      clear hb3 hv3
      cases q2
      · go_wp2_with fail
        refine (HFa.out _ HV3.out).mono ?_
        clear x0 x1 x2 y0 y1 y2 z0 z1 z2 f0 f1 f2 lA lB lZ
        rintro e w4 ⟨rfl, hb4⟩
        have HB4 := Lib.hid (below_on HB3.out hb4)
        obtain ⟨⟨⟨x0, x1, x2, y0, y1, y2⟩, ⟨z0, z1, z2, f0, f1, f2⟩, lA, lB, lZ⟩, hv4⟩ := HAf.out _ HB4.out
        have HV4 := Lib.hid hv4
        clear hb4 hv4
        cases q3
        · have HEn : Hid (∀ x y z, Below w.heap.size w (((w4.setCell ⟨w.heap.size + 1 + 1, 0, none⟩ x).setCell ⟨w.heap.size + 1 + 1, 1, none⟩ y).setCell ⟨w.heap.size + 1 + 1, 2, none⟩ z)) := Lib.hid (fun x y z => ((HV4.out.setCell (by simp; omega) _).setCell (by simp; omega) _).setCell (by simp; omega) _)
          have HF : Hid (R = anyT) := Lib.hid (by rw [HJ.out]; rfl)
          obtain rfl := HF.out
          clear HJ
          go_wp2
          exact bodyPost_ret (v := .agg #[.int .i64 0, .slice none 0 0, .slice none 0 0]) (by simp [results, Tryd.results25, go_sem, z0, z1, z2]) rfl (.of (fresh_none (HEn.out _ _ _)))
        · go_wp2_with fail
          refine (HFb.out _ HV4.out).mono ?_
          clear x0 x1 x2 y0 y1 y2 z0 z1 z2 f0 f1 f2 lA lB lZ
          rintro e w5 ⟨rfl, hb5⟩
          have HB5 := Lib.hid (below_on HB4.out hb5)
          obtain ⟨⟨⟨x0, x1, x2, y0, y1, y2⟩, ⟨z0, z1, z2, f0, f1, f2⟩, lA, lB, lZ⟩, hv5⟩ := HAf.out _ HB5.out
          have HV5 := Lib.hid hv5
          clear hb5 hv5
          cases q4
          · have HEn : Hid (∀ x y z, Below w.heap.size w (((w5.setCell ⟨w.heap.size + 1 + 1, 0, none⟩ x).setCell ⟨w.heap.size + 1 + 1, 1, none⟩ y).setCell ⟨w.heap.size + 1 + 1, 2, none⟩ z)) := Lib.hid (fun x y z => ((HV5.out.setCell (by simp; omega) _).setCell (by simp; omega) _).setCell (by simp; omega) _)
            have HF : Hid (R = anyT) := Lib.hid (by rw [HJ.out]; rfl)
            obtain rfl := HF.out
            clear HJ
            go_wp2
            exact bodyPost_ret (v := .agg #[.int .i64 0, .slice none 0 0, .slice none 0 0]) (by simp [results, Tryd.results25, go_sem, z0, z1, z2]) rfl (.of (fresh_none (HEn.out _ _ _)))
          · have HF : Hid (R = unionP (bitsOf (ka ||| kb))) := Lib.hid (by rw [HJ.out]; rfl)
            obtain rfl := HF.out
            clear HJ
            go_wp2
            go_region_held3 (fun W => W.cell? ⟨w.heap.size, 0, none⟩ = some (.int .i64 a.kind) ∧ W.cell? ⟨w.heap.size, 1, none⟩ = some (.slice an a.names.length cn) ∧ W.cell? ⟨w.heap.size, 2, none⟩ = some (.slice aa a.args.length ca) ∧ W.cell? ⟨w.heap.size + 1, 0, none⟩ = some (.int .i64 b.kind) ∧ W.cell? ⟨w.heap.size + 1, 1, none⟩ = some (.slice bn b.names.length dn) ∧ W.cell? ⟨w.heap.size + 1, 2, none⟩ = some (.slice bb b.args.length db))
              (first | assumption | exact hst _ _ _ | exact (HAf.out _ (by repeat (first | exact HB5.out | assumption | refine Below.drew ?_ | refine Below.setCell ?_ (by simp; omega) _))).1.1)
              (first
                | (go_at_call 48
                   with_reducible refine (HKa.out _ (HAf.out _ (by repeat (first | exact HB5.out | assumption | refine Below.drew ?_ | refine Below.setCell ?_ (by simp; omega) _))).2).mono ?_
                   rintro e w6 ⟨rfl, hb6⟩
                   have HB6 : Below W0.heap.size W0 w6 := below_on (by repeat (first | exact HB5.out | assumption | refine Below.drew ?_ | refine Below.setCell ?_ (by simp; omega) _)) hb6)
                | (go_at_call 48
                   with_reducible refine (HKb.out _ (HAf.out _ (by repeat (first | exact HB5.out | assumption | refine Below.drew ?_ | refine Below.setCell ?_ (by simp; omega) _))).2).mono ?_
                   rintro e w6 ⟨rfl, hb6⟩
                   have HB6 : Below W0.heap.size W0 w6 := below_on (by repeat (first | exact HB5.out | assumption | refine Below.drew ?_ | refine Below.setCell ?_ (by simp; omega) _)) hb6)
                | (go_at_call 47
                   refine (HUn.out _ (HAf.out _ (by repeat (first | exact HB5.out | assumption | refine Below.drew ?_ | refine Below.setCell ?_ (by simp; omega) _))).2).mono ?_
                   intro e w8 hfr
                   have hfr9 := hfr
                   obtain ⟨vn, va, rfl, hfr2, hb8⟩ := hfr9
                   obtain ⟨xn, yn, xa, ya, rfl, rfl⟩ := (hfr2 _ (Nat.le_refl _) (fun _ _ _ => rfl)).shape
                   have HB8 : Below W0.heap.size W0 w8 := below_on (by repeat (first | exact HB5.out | assumption | refine Below.drew ?_ | refine Below.setCell ?_ (by simp; omega) _)) hb8
                   have HFin := Lib.hid (type_fin (HAf.out _ (by repeat (first | exact HB5.out | assumption | refine Below.drew ?_ | refine Below.setCell ?_ (by simp; omega) _))).2 ⟨HR.out.1, HR.out.2 _ (by repeat (first | exact HB5.out | assumption | refine Below.drew ?_ | refine Below.setCell ?_ (by simp; omega) _))⟩ hfr)
                   clear hfr hfr2 hb8
                   obtain ⟨⟨⟨x0, x1, x2, y0, y1, y2⟩, ⟨z0, z1, z2, f0, f1, f2⟩, lA, lB, lZ⟩, hv8⟩ := HAf.out _ HB8
                   have hst : ∀ x y z, (((w8.setCell ⟨w.heap.size + 1 + 1, 0, none⟩ x).setCell ⟨w.heap.size + 1 + 1, 1, none⟩ y).setCell ⟨w.heap.size + 1 + 1, 2, none⟩ z).cell? ⟨w.heap.size, 0, none⟩ = some (.int .i64 a.kind) ∧ (((w8.setCell ⟨w.heap.size + 1 + 1, 0, none⟩ x).setCell ⟨w.heap.size + 1 + 1, 1, none⟩ y).setCell ⟨w.heap.size + 1 + 1, 2, none⟩ z).cell? ⟨w.heap.size, 1, none⟩ = some (.slice an a.names.length cn) ∧ (((w8.setCell ⟨w.heap.size + 1 + 1, 0, none⟩ x).setCell ⟨w.heap.size + 1 + 1, 1, none⟩ y).setCell ⟨w.heap.size + 1 + 1, 2, none⟩ z).cell? ⟨w.heap.size, 2, none⟩ = some (.slice aa a.args.length ca) ∧ (((w8.setCell ⟨w.heap.size + 1 + 1, 0, none⟩ x).setCell ⟨w.heap.size + 1 + 1, 1, none⟩ y).setCell ⟨w.heap.size + 1 + 1, 2, none⟩ z).cell? ⟨w.heap.size + 1, 0, none⟩ = some (.int .i64 b.kind) ∧ (((w8.setCell ⟨w.heap.size + 1 + 1, 0, none⟩ x).setCell ⟨w.heap.size + 1 + 1, 1, none⟩ y).setCell ⟨w.heap.size + 1 + 1, 2, none⟩ z).cell? ⟨w.heap.size + 1, 1, none⟩ = some (.slice bn b.names.length dn) ∧ (((w8.setCell ⟨w.heap.size + 1 + 1, 0, none⟩ x).setCell ⟨w.heap.size + 1 + 1, 1, none⟩ y).setCell ⟨w.heap.size + 1 + 1, 2, none⟩ z).cell? ⟨w.heap.size + 1, 2, none⟩ = some (.slice bb b.args.length db) := fun x y z => by
                     refine ⟨?_, ?_, ?_, ?_, ?_, ?_⟩ <;> rw [World.cell?_setCell_far _ _ _ _ (by simp; try omega), World.cell?_setCell_far _ _ _ _ (by simp; try omega), World.cell?_setCell_far _ _ _ _ (by simp; try omega)] <;> assumption))
            go_wp2
            exact bodyPost_ret (v := .agg #[.int .i64 (unionP (bitsOf (ka ||| kb))).kind, .slice xn (unionP (bitsOf (ka ||| kb))).names.length yn, .slice xa (unionP (bitsOf (ka ||| kb))).args.length ya]) (by simp [results, Tryd.results25, go_sem, z0, z1, z2]) rfl (HFin.out _ _ _)
      · have HEn : Hid (∀ x y z, Below w.heap.size w (((w3.setCell ⟨w.heap.size + 1 + 1, 0, none⟩ x).setCell ⟨w.heap.size + 1 + 1, 1, none⟩ y).setCell ⟨w.heap.size + 1 + 1, 2, none⟩ z)) := Lib.hid (fun x y z => ((HV3.out.setCell (by simp; omega) _).setCell (by simp; omega) _).setCell (by simp; omega) _)
        have HTx := Lib.hid (HTa.out)
        have HF : Hid (R = a) := Lib.hid (by rw [HJ.out]; rfl)
        obtain rfl := HF.out
        clear HJ
        go_wp2
        exact bodyPost_ret (v := .agg #[.int .i64 R.kind, .slice an R.names.length cn, .slice aa R.args.length ca]) (by simp [results, Tryd.results25, go_sem, z0, z1, z2]) rfl ⟨_, _, rfl, HTx.out _ (HEn.out _ _ _), HEn.out _ _ _⟩
    · have HEn : Hid (∀ x y z, Below w.heap.size w (((w2.setCell ⟨w.heap.size + 1 + 1, 0, none⟩ x).setCell ⟨w.heap.size + 1 + 1, 1, none⟩ y).setCell ⟨w.heap.size + 1 + 1, 2, none⟩ z)) := Lib.hid (fun x y z => ((HV2.out.setCell (by simp; omega) _).setCell (by simp; omega) _).setCell (by simp; omega) _)
      have HTx := Lib.hid (HTb.out)
      have HF : Hid (R = b) := Lib.hid (by rw [HJ.out]; rfl)
      obtain rfl := HF.out
      clear HJ
      go_wp2
      exact bodyPost_ret (v := .agg #[.int .i64 R.kind, .slice bn R.names.length dn, .slice bb R.args.length db]) (by simp [results, Tryd.results25, go_sem, z0, z1, z2]) rfl ⟨_, _, rfl, HTx.out _ (HEn.out _ _ _), HEn.out _ _ _⟩
end TyD
end Go.Proofs.YthcdbmbimdkcfaaDoor
