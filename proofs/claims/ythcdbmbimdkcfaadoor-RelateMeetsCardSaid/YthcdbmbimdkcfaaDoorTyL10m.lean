/- RelateMeets: walked. -/
import Derived.Test.YthcdbmbimdkcfaaDoorTyLeastM
import Derived.Test.YthcdbmbimdkcfaaDoorTyRJoin
import Derived.Test.YthcdbmbimdkcfaaDoorTyL10a
import Derived.Deep.RegionHeld3
namespace Go.Proofs.YthcdbmbimdkcfaaDoor
open Go.RowKit ObjM
namespace TyD
open LexD (nameB WTab)

theorem join_self {a b : Ty} (oka : TyOk a) (okb : TyOk b) : TyOk (joinV a b) ∧ sameV (joinV a b) (joinV a b) = true := by
  by_cases h : bothV a b = true
  · obtain ⟨o1, o2⟩ := both_ok h
    obtain ⟨f1, f2, -⟩ := join_facts o1.check o2.check oka okb
    unfold subT at f2
    rw [Bool.and_eq_true] at f2
    exact ⟨f1, (sameV_iff _ _).2 ⟨(both_ok f2.1).2.check, rfl⟩⟩
  · have e : joinV a b = anyT := by rw [joinV_def, if_neg h]
    rw [e]
    exact ⟨anyT_ok, by decide +kernel⟩
set_option maxRecDepth 100000 in
set_option maxHeartbeats 16000000 in
theorem meets_u (a : Ty) (vn va : Value) (b : Ty) (un ua : Value) (w : World) (oka : TyOk a) (ha : TyAt w vn va a) (okb : TyOk b) (hb : TyAt w un ua b) (hT : WTab w) (hK : KTab w) :
    Calls Tryd.prog 6 #[.agg #[.int .i64 a.kind, vn, va], .agg #[.int .i64 b.kind, un, ua]] w (BoolB w true) := by
  have HTa := Lib.hid (fun (W : World) (h : Below w.heap.size w W) => ha.frame (Nat.le_refl _) h)
  have HTb := Lib.hid (fun (W : World) (h : Below w.heap.size w W) => hb.frame (Nat.le_refl _) h)
  have HAw := Lib.hid (fun (W : World) (h : Below w.heap.size w W) => awake_any W (hT.below h) (hK.below h))
  obtain ⟨an, cn, aa, ca, rfl, rfl⟩ := ha.shape
  obtain ⟨bn, dn, bb, db, rfl, rfl⟩ := hb.shape
  have HM := Lib.hid (fun (W : World) (h : Below w.heap.size w W) => meetT_any a b _ _ _ _ W oka okb (HTa.out _ h) (HTb.out _ h) (hT.below h))
  have HN := Lib.hid (fun (W : World) (h : Below w.heap.size w W) => refMeetT_any a b _ _ _ _ W oka okb (HTa.out _ h) (HTb.out _ h))
  have HJ := Lib.hid (fun (W : World) (h : Below w.heap.size w W) => join_any a b _ _ _ _ W oka okb (HTa.out _ h) (HTb.out _ h) (hT.below h) (hK.below h))
  have HJr := Lib.hid (fun (W : World) (h : Below w.heap.size w W) => refJoin_any a b _ _ _ _ W oka okb (HTa.out _ h) (HTb.out _ h))
  have HJf := Lib.hid (join_self oka okb)
  have HFa := Lib.hid (fun (h : [a, b].all fewV = true) => (least_facts oka okb (show fewV a = true by simp at h; exact h.1) (show fewV b = true by simp at h; exact h.2)).1)
  generalize joinV a b = J at HJ HJr HJf
  generalize meetT a b = oc at HM HN HFa
  have HFe := Lib.hid (fun (W : World) (h : Below w.heap.size w W) => fews_any [a, b] _ (W.alloc (.cells #[.int .i64 a.kind, .slice an a.names.length cn, .slice aa a.args.length ca, .int .i64 b.kind, .slice bn b.names.length dn, .slice bb b.args.length db] 25)) (row2_at (Has.new W 25 [.int .i64 a.kind, .slice an a.names.length cn, .slice aa a.args.length ca, .int .i64 b.kind, .slice bn b.names.length dn, .slice bb b.args.length db]) (HTa.out _ (h.alloc h.size _)) (HTb.out _ (h.alloc h.size _))) (by intro t ht; simp at ht; rcases ht with rfl | rfl <;> assumption) (by simp))
  generalize hfw : [a, b].all fewV = fw at HFe
  have HFw := Lib.hid hfw
  obtain ⟨hh0, hh1, hbw, hsz⟩ := box2w w [.int .i64 a.kind, .slice an a.names.length cn, .slice aa a.args.length ca] [.int .i64 b.kind, .slice bn b.names.length dn, .slice bb b.args.length db] 25 _ rfl
  have HOK := Lib.hid (⟨oka, okb⟩ : TyOk a ∧ TyOk b)
  clear hT hK hfw oka ha okb hb
  go_enter Tryd.func6, Tryd.ntmps6
  go_wp2_with fail
  change Calls _ _ _ (World.alloc (World.alloc w _) _) _
  generalize World.alloc (World.alloc w _) _ = W0 at hh0 hh1 hbw hsz ⊢
  have HAf : Hid (∀ W, Below W0.heap.size W0 W → (W.cell? ⟨w.heap.size, 0, none⟩ = some (.int .i64 a.kind) ∧ W.cell? ⟨w.heap.size, 1, none⟩ = some (.slice an a.names.length cn) ∧ W.cell? ⟨w.heap.size, 2, none⟩ = some (.slice aa a.args.length ca) ∧ w.heap.size < W.heap.size ∧ W.cell? ⟨w.heap.size + 1, 0, none⟩ = some (.int .i64 b.kind) ∧ W.cell? ⟨w.heap.size + 1, 1, none⟩ = some (.slice bn b.names.length dn) ∧ W.cell? ⟨w.heap.size + 1, 2, none⟩ = some (.slice bb b.args.length db) ∧ w.heap.size + 1 < W.heap.size) ∧ Below w.heap.size w W) := Lib.hid (fun W h => by
    have g0 := hh0.below h hh0.lt
    have g1 := hh1.below h hh1.lt
    exact ⟨⟨g0.cell 0, g0.cell 1, g0.cell 2, g0.lt, g1.cell 0, g1.cell 1, g1.cell 2, g1.lt⟩, hbw.trans (h.mono hbw.size)⟩)
  have HB0 := Lib.hid (Below.refl W0.heap.size W0)
  have HV0 := Lib.hid (HAf.out _ HB0.out).2
  clear hh0 hh1 hbw hsz
  refine (HAw.out _ HV0.out).mono ?_
  rintro e w1 ⟨rfl, hb1⟩
  have HB1 := Lib.hid (below_on HB0.out hb1)
  clear hb1
  obtain ⟨⟨x00, x01, x02, l0, x10, x11, x12, l1⟩, hv1⟩ := HAf.out _ HB1.out
  have HV1 := Lib.hid hv1
  clear hv1
  go_wp2_with fail
  refine (HFe.out _ HV1.out).mono ?_
  rintro e w2 ⟨rfl, hb2⟩
  have HB2 := Lib.hid (below_on (HB1.out.alloc HB1.out.size _) hb2)
  clear hb2
  clear x00 x01 x02 l0 x10 x11 x12 l1
  obtain ⟨⟨x00, x01, x02, l0, x10, x11, x12, l1⟩, hv2⟩ := HAf.out _ HB2.out
  have HV2 := Lib.hid hv2
  clear hv2
  cases fw
  · go_wp2
    go_ret
    exact ⟨rfl, HV2.out⟩
  · go_wp2_with fail
    refine (HM.out _ HV2.out).mono ?_
    clear x00 x01 x02 l0 x10 x11 x12 l1
    cases oc with
    | none =>
      rintro e w3 ⟨rfl, hb3⟩
      have HB3 := Lib.hid (below_on HB2.out hb3)
      clear hb3
      obtain ⟨⟨x00, x01, x02, l0, x10, x11, x12, l1⟩, hv3⟩ := HAf.out _ HB3.out
      have HV3 := Lib.hid hv3
      clear hv3
      have HB4 := Lib.hid (HB3.out.alloc HB3.out.size (.cells #[.int .i64 0, .slice none 0 0, .slice none 0 0] 25))
      have HV4 := Lib.hid (HAf.out _ HB4.out).2
      go_wp2_with fail
      refine (HN.out _ HV4.out).mono ?_
      rintro e w5 ⟨rfl, hb5⟩
      have HB5 := Lib.hid (below_on HB4.out hb5)
      clear hb5
      clear x00 x01 x02 l0 x10 x11 x12 l1
      obtain ⟨⟨x00, x01, x02, l0, x10, x11, x12, l1⟩, hv5⟩ := HAf.out _ HB5.out
      have HV5 := Lib.hid hv5
      clear hv5
      have HB6 := Lib.hid (HB5.out.alloc HB5.out.size (.cells #[.int .i64 0, .slice none 0 0, .slice none 0 0] 25))
      go_wp2
      generalize World.alloc w5 (.cells #[.int .i64 0, .slice none 0 0, .slice none 0 0] 25) = wz at HB6 ⊢
      have HS : Hid (∀ W, Below wz.heap.size wz W → (W.cell? ⟨w.heap.size, 0, none⟩ = some (.int .i64 a.kind) ∧ W.cell? ⟨w.heap.size, 1, none⟩ = some (.slice an a.names.length cn) ∧ W.cell? ⟨w.heap.size, 2, none⟩ = some (.slice aa a.args.length ca) ∧ W.cell? ⟨w.heap.size + 1, 0, none⟩ = some (.int .i64 b.kind) ∧ W.cell? ⟨w.heap.size + 1, 1, none⟩ = some (.slice bn b.names.length dn) ∧ W.cell? ⟨w.heap.size + 1, 2, none⟩ = some (.slice bb b.args.length db)) ∧ Below w.heap.size w W) := Lib.hid (fun W h => by
        obtain ⟨⟨g0, g1, g2, g3, g4, g5, g6, g7⟩, g8⟩ := HAf.out W (below_on HB6.out h)
        exact ⟨⟨g0, g1, g2, g4, g5, g6⟩, g8⟩)
      refine wp_region_held_drew (S := fun W => W.cell? ⟨w.heap.size, 0, none⟩ = some (.int .i64 a.kind) ∧ W.cell? ⟨w.heap.size, 1, none⟩ = some (.slice an a.names.length cn) ∧ W.cell? ⟨w.heap.size, 2, none⟩ = some (.slice aa a.args.length ca) ∧ W.cell? ⟨w.heap.size + 1, 0, none⟩ = some (.int .i64 b.kind) ∧ W.cell? ⟨w.heap.size + 1, 1, none⟩ = some (.slice bn b.names.length dn) ∧ W.cell? ⟨w.heap.size + 1, 2, none⟩ = some (.slice bb b.args.length db)) (by rfl) (HS.out _ (Below.refl _ _).drew).1 (fun hHeld => ?_)
      refine wpAnyH_take (i := 0) (oi := { dst := some 28, op := Op.move (.tmp 6), type := _, pos := _, after := _, guard := _ }) (v := .bool false) rfl (by kernel_rfl) (by kernel_rfl) (by kernel_rfl) (fun _ _ _ h => h) (Or.inl ⟨by rfl, ?_⟩) (HS.out _ (Below.refl _ _).drew).1 ?_
      · intro w' hs
        go_simp
      try simp only [Act.put, List.setIfInBounds_toArray, List.set_cons_zero, List.set_cons_succ]
      refine wpAnyH_take (i := 1) (oi := { dst := some 29, op := Op.move (.tmp 8), type := _, pos := _, after := _, guard := _ }) (v := .bool false) rfl (by kernel_rfl) (by kernel_rfl) (by kernel_rfl) (fun _ _ _ h => h) (Or.inl ⟨by rfl, ?_⟩) (HS.out _ (Below.refl _ _).drew).1 ?_
      · intro w' hs
        go_simp
      try simp only [Act.put, List.setIfInBounds_toArray, List.set_cons_zero, List.set_cons_succ]
      refine wpAnyH_take (i := 2) (oi := { dst := some 30, op := Op.binOp .eql 4 (.tmp 28) (.tmp 29) 4, type := _, pos := _, after := _, guard := _ }) (v := .bool true) rfl (by kernel_rfl) (by kernel_rfl) (by kernel_rfl) (fun _ _ _ h => h) (Or.inl ⟨by rfl, ?_⟩) (HS.out _ (Below.refl _ _).drew).1 ?_
      · intro w' hs
        go_simp
      try simp only [Act.put, List.setIfInBounds_toArray, List.set_cons_zero, List.set_cons_succ]
      refine wpAnyH_take (i := 3) (oi := { dst := some 31, op := Op.move (.tmp 30), type := _, pos := _, after := _, guard := _ }) (v := .bool true) rfl (by kernel_rfl) (by kernel_rfl) (by kernel_rfl) (fun _ _ _ h => h) (Or.inl ⟨by rfl, ?_⟩) (HS.out _ (Below.refl _ _).drew).1 ?_
      · intro w' hs
        go_simp
      try simp only [Act.put, List.setIfInBounds_toArray, List.set_cons_zero, List.set_cons_succ]
      refine wpAnyH_take (i := 4) (oi := { dst := some 32, op := Op.move (.tmp 6), type := _, pos := _, after := _, guard := _ }) (v := .bool false) rfl (by kernel_rfl) (by kernel_rfl) (by kernel_rfl) (fun _ _ _ h => h) (Or.inl ⟨by rfl, ?_⟩) (HS.out _ (Below.refl _ _).drew).1 ?_
      · intro w' hs
        go_simp
      try simp only [Act.put, List.setIfInBounds_toArray, List.set_cons_zero, List.set_cons_succ]
      refine wpAnyH_take (i := 5) (oi := { dst := some 33, op := Op.unOp .not 4 (.tmp 32), type := _, pos := _, after := _, guard := _ }) (v := .bool true) rfl (by kernel_rfl) (by kernel_rfl) (by kernel_rfl) (fun _ _ _ h => h) (Or.inl ⟨by rfl, ?_⟩) (HS.out _ (Below.refl _ _).drew).1 ?_
      · intro w' hs
        go_simp
      try simp only [Act.put, List.setIfInBounds_toArray, List.set_cons_zero, List.set_cons_succ]
      refine wpAnyH_take (i := 6) (oi := { dst := some 34, op := Op.move (.tmp 33), type := _, pos := _, after := _, guard := _ }) (v := .bool true) rfl (by kernel_rfl) (by kernel_rfl) (by kernel_rfl) (fun _ _ _ h => h) (Or.inl ⟨by rfl, ?_⟩) (HS.out _ (Below.refl _ _).drew).1 ?_
      · intro w' hs
        go_simp
      try simp only [Act.put, List.setIfInBounds_toArray, List.set_cons_zero, List.set_cons_succ]
      refine wpAnyH_take (i := 7) (oi := { dst := some 35, op := Op.load 25 (.tmp 5), type := _, pos := _, after := _, guard := _ }) (v := undef) rfl (by kernel_rfl) (by kernel_rfl) (by kernel_rfl) (fun _ _ _ h => h) (Or.inr ⟨by rfl, rfl⟩) (HS.out _ (Below.refl _ _).drew).1 ?_
      try simp only [Act.put, List.setIfInBounds_toArray, List.set_cons_zero, List.set_cons_succ]
      refine wpAnyH_take (i := 8) (oi := { dst := some 36, op := Op.load 25 (.tmp 7), type := _, pos := _, after := _, guard := _ }) (v := undef) rfl (by kernel_rfl) (by kernel_rfl) (by kernel_rfl) (fun _ _ _ h => h) (Or.inr ⟨by rfl, rfl⟩) (HS.out _ (Below.refl _ _).drew).1 ?_
      try simp only [Act.put, List.setIfInBounds_toArray, List.set_cons_zero, List.set_cons_succ]
      refine wpAnyH_take (i := 9) (oi := { dst := some 37, op := Op.call { callee := .value (.func 23), args := #[.tmp 35, .tmp 36], argTypes := _ }, type := _, pos := _, after := _, guard := _ }) (v := undef) rfl (by kernel_rfl) (by kernel_rfl) (by kernel_rfl) (fun _ _ _ h => h) (Or.inr ⟨by rfl, rfl⟩) (HS.out _ (Below.refl _ _).drew).1 ?_
      try simp only [Act.put, List.setIfInBounds_toArray, List.set_cons_zero, List.set_cons_succ]
      have p1 : Below wz.heap.size wz wz.drew := (Below.refl wz.heap.size wz).drew
      refine wpAnyH_take (i := 10) (oi := { dst := some 38, op := Op.pick (.tmp 34) (.const (.bool true)) (.tmp 37), type := _, pos := _, after := _, guard := _ }) (v := .bool true) rfl (by kernel_rfl) (by kernel_rfl) (by kernel_rfl) (fun _ _ _ h => h) (Or.inl ⟨by rfl, ?_⟩) (HS.out _ p1).1 ?_
      · intro w' hs
        go_simp
      try simp only [Act.put, List.setIfInBounds_toArray, List.set_cons_zero, List.set_cons_succ]
      refine wpAnyH_take (i := 11) (oi := { dst := some 39, op := Op.pick (.tmp 31) (.tmp 38) (.const (.bool false)), type := _, pos := _, after := _, guard := _ }) (v := .bool true) rfl (by kernel_rfl) (by kernel_rfl) (by kernel_rfl) (fun _ _ _ h => h) (Or.inl ⟨by rfl, ?_⟩) (HS.out _ p1).1 ?_
      · intro w' hs
        go_simp
      try simp only [Act.put, List.setIfInBounds_toArray, List.set_cons_zero, List.set_cons_succ]
      refine wpAnyH_take (i := 12) (oi := { dst := some 40, op := Op.move (.tmp 39), type := _, pos := _, after := _, guard := _ }) (v := .bool true) rfl (by kernel_rfl) (by kernel_rfl) (by kernel_rfl) (fun _ _ _ h => h) (Or.inl ⟨by rfl, ?_⟩) (HS.out _ p1).1 ?_
      · intro w' hs
        go_simp
      try simp only [Act.put, List.setIfInBounds_toArray, List.set_cons_zero, List.set_cons_succ]
      refine wpAnyH_take (i := 13) (oi := { dst := some 41, op := Op.load 25 (.tmp 2), type := _, pos := _, after := _, guard := _ }) (v := .agg #[.int .i64 a.kind, .slice an a.names.length cn, .slice aa a.args.length ca]) rfl (by kernel_rfl) (by kernel_rfl) (by kernel_rfl) (fun _ _ _ h => h) (Or.inl ⟨by rfl, ?_⟩) (HS.out _ p1).1 ?_
      · intro w' hs
        obtain ⟨s0, s1, s2, s3, s4, s5⟩ := hs
        go_simp
      try simp only [Act.put, List.setIfInBounds_toArray, List.set_cons_zero, List.set_cons_succ]
      refine wpAnyH_take (i := 14) (oi := { dst := some 42, op := Op.load 25 (.tmp 3), type := _, pos := _, after := _, guard := _ }) (v := .agg #[.int .i64 b.kind, .slice bn b.names.length dn, .slice bb b.args.length db]) rfl (by kernel_rfl) (by kernel_rfl) (by kernel_rfl) (fun _ _ _ h => h) (Or.inl ⟨by rfl, ?_⟩) (HS.out _ p1).1 ?_
      · intro w' hs
        obtain ⟨s0, s1, s2, s3, s4, s5⟩ := hs
        go_simp
      try simp only [Act.put, List.setIfInBounds_toArray, List.set_cons_zero, List.set_cons_succ]
      refine wpAnyH_take (i := 16) (oi := { dst := some 44, op := Op.load 25 (.tmp 2), type := _, pos := _, after := _, guard := _ }) (v := .agg #[.int .i64 a.kind, .slice an a.names.length cn, .slice aa a.args.length ca]) rfl (by kernel_rfl) (by kernel_rfl) (by kernel_rfl) (fun _ _ _ h => h) (Or.inl ⟨by rfl, ?_⟩) (HS.out _ p1).1 ?_
      · intro w' hs
        obtain ⟨s0, s1, s2, s3, s4, s5⟩ := hs
        go_simp
      try simp only [Act.put, List.setIfInBounds_toArray, List.set_cons_zero, List.set_cons_succ]
      refine wpAnyH_take (i := 17) (oi := { dst := some 45, op := Op.load 25 (.tmp 3), type := _, pos := _, after := _, guard := _ }) (v := .agg #[.int .i64 b.kind, .slice bn b.names.length dn, .slice bb b.args.length db]) rfl (by kernel_rfl) (by kernel_rfl) (by kernel_rfl) (fun _ _ _ h => h) (Or.inl ⟨by rfl, ?_⟩) (HS.out _ p1).1 ?_
      · intro w' hs
        obtain ⟨s0, s1, s2, s3, s4, s5⟩ := hs
        go_simp
      try simp only [Act.put, List.setIfInBounds_toArray, List.set_cons_zero, List.set_cons_succ]
      refine wpAnyH_ready (rs := [15]) (by kernel_rfl) (by simp) ?_
      refine AllReadyH.cons (o := { dst := some 43, op := Op.call { callee := .value (.func 24), args := #[.tmp 41, .tmp 42], argTypes := _ }, type := _, pos := _, after := _, guard := _ }) rfl (fun K hK => ?_) AllReadyH.nil
      go_simp
      refine (HJ.out _ (HS.out _ p1).2).mono ?_
      rintro e w10 ⟨jn, ja, rfl, hfr, hb10⟩
      have hj10 := hfr w10 (Nat.le_refl _) (fun _ _ _ => rfl)
      clear hfr
      obtain ⟨jn1, jn2, ja1, ja2, rfl, rfl⟩ := hj10.shape
      have p2 : Below wz.heap.size wz w10 := below_on p1 hb10
      refine hK.out _ _ (HS.out _ p2).1 (fun _ => ?_)
      clear hK K hb10
      try simp only [Act.put, List.setIfInBounds_toArray, List.set_cons_zero, List.set_cons_succ]
      refine wpAnyH_ready (rs := [18]) (by kernel_rfl) (by simp) ?_
      refine AllReadyH.cons (o := { dst := some 46, op := Op.call { callee := .value (.func 25), args := #[.tmp 44, .tmp 45], argTypes := _ }, type := _, pos := _, after := _, guard := _ }) rfl (fun K hK => ?_) AllReadyH.nil
      go_simp
      refine (HJr.out _ (HS.out _ p2).2).mono ?_
      rintro e w11 ⟨kn, ka, rfl, hk11, hb11⟩
      obtain ⟨kn1, kn2, ka1, ka2, rfl, rfl⟩ := hk11.shape
      have hj11 := hj10.frame (Nat.le_refl _) hb11
      have p3 : Below wz.heap.size wz w11 := below_on p2 hb11
      refine hK.out _ _ (HS.out _ p3).1 (fun _ => ?_)
      clear hK K hb11
      try simp only [Act.put, List.setIfInBounds_toArray, List.set_cons_zero, List.set_cons_succ]
      refine wpAnyH_ready (rs := [19]) (by kernel_rfl) (by simp) ?_
      refine AllReadyH.cons (o := { dst := some 47, op := Op.call { callee := .value (.func 23), args := #[.tmp 43, .tmp 46], argTypes := _ }, type := _, pos := _, after := _, guard := _ }) rfl (fun K hK => ?_) AllReadyH.nil
      go_simp
      have HC := refSame_any J J _ _ _ _ w11 HJf.out.1 HJf.out.1 hj11 hk11
      rw [HJf.out.2] at HC
      refine HC.mono ?_
      clear HC
      rintro e w12 ⟨rfl, hb12⟩
      have p4 : Below wz.heap.size wz w12 := below_on p3 hb12
      refine hK.out _ _ (HS.out _ p4).1 (fun _ => ?_)
      clear hK K hb12
      try simp only [Act.put, List.setIfInBounds_toArray, List.set_cons_zero, List.set_cons_succ]
      refine wpAnyH_take (i := 20) (oi := { dst := some 48, op := Op.pick (.tmp 40) (.tmp 47) (.const (.bool false)), type := _, pos := _, after := _, guard := _ }) (v := .bool true) rfl (by kernel_rfl) (by kernel_rfl) (by kernel_rfl) (fun _ _ _ h => h) (Or.inl ⟨by rfl, ?_⟩) (HS.out _ p4).1 ?_
      · intro w' hs
        go_simp
      try simp only [Act.put, List.setIfInBounds_toArray, List.set_cons_zero, List.set_cons_succ]
      refine wpAnyH_take (i := 21) (oi := { dst := some 4, op := Op.assign (.tmp 48), type := _, pos := _, after := _, guard := _ }) (v := .bool true) rfl (by kernel_rfl) (by kernel_rfl) (by kernel_rfl) (fun _ _ _ h => h) (Or.inl ⟨by rfl, ?_⟩) (HS.out _ p4).1 ?_
      · intro w' hs
        go_simp
      try simp only [Act.put, List.setIfInBounds_toArray, List.set_cons_zero, List.set_cons_succ]
      refine wpAnyH_done (by kernel_rfl) ?_ _
      go_wp2
      go_ret
      exact ⟨rfl, (HS.out _ p4).2⟩
    | some t =>
      rintro e w3 ⟨tn, ta, rfl, hs, hb3⟩
      have ht3 := hs.now
      obtain ⟨tn1, tn2, ta1, ta2, rfl, rfl⟩ := ht3.shape
      have HB3 := Lib.hid (below_on HB2.out hb3)
      clear hb3 hs
      obtain ⟨⟨x00, x01, x02, l0, x10, x11, x12, l1⟩, hv3⟩ := HAf.out _ HB3.out
      have HV3 := Lib.hid hv3
      clear hv3
      have hx3 := Has.new w3 25 [.int .i64 t.kind, .slice tn1 t.names.length tn2, .slice ta1 t.args.length ta2]
      have hb4 : Below w3.heap.size w3 (w3.alloc (.cells #[.int .i64 t.kind, .slice tn1 t.names.length tn2, .slice ta1 t.args.length ta2] 25)) := (Below.refl _ w3).alloc (Nat.le_refl _) _
      have HB4 := Lib.hid (below_on HB3.out hb4)
      have HV4 := Lib.hid (HAf.out _ HB4.out).2
      have HX3 := Lib.hid (⟨hx3, ht3.frame (Nat.le_refl _) hb4⟩ : _ ∧ _)
      have HS3 : Hid ((w3.alloc (.cells #[.int .i64 t.kind, .slice tn1 t.names.length tn2, .slice ta1 t.args.length ta2] 25)).heap.size = w3.heap.size + 1) := Lib.hid (by simp)
      clear hx3 hb4 ht3
      go_wp2_with fail
      refine (HN.out _ HV4.out).mono ?_
      rintro e w5 ⟨un, ua, rfl, hs, hb5⟩
      have hu5 := hs.now
      obtain ⟨un1, un2, ua1, ua2, rfl, rfl⟩ := hu5.shape
      have HB5 := Lib.hid (below_on HB4.out hb5)
      clear x00 x01 x02 l0 x10 x11 x12 l1
      obtain ⟨⟨x00, x01, x02, l0, x10, x11, x12, l1⟩, hv5⟩ := HAf.out _ HB5.out
      have HV5 := Lib.hid hv5
      clear hv5
      have hx5 := HX3.out.1.below hb5 (by rw [HS3.out]; omega)
      have ht5 := HX3.out.2.frame (Nat.le_refl _) hb5
      have hx7 := Has.new w5 25 [.int .i64 t.kind, .slice un1 t.names.length un2, .slice ua1 t.args.length ua2]
      have hb6 : Below w5.heap.size w5 (w5.alloc (.cells #[.int .i64 t.kind, .slice un1 t.names.length un2, .slice ua1 t.args.length ua2] 25)) := (Below.refl _ w5).alloc (Nat.le_refl _) _
      have hy5 := hx5.below hb6 hx5.lt
      have ht6 := ht5.frame (Nat.le_refl _) hb6
      have hu6 := hu5.frame (Nat.le_refl _) hb6
      have HB6 := Lib.hid (below_on HB5.out hb6)
      clear hs hb5 hx5 ht5 hu5 hb6 HX3 HS3
      have HOt := Lib.hid ((HFa.out HFw.out) t rfl)
      go_wp2
      generalize World.alloc w5 (.cells #[.int .i64 t.kind, .slice un1 t.names.length un2, .slice ua1 t.args.length ua2] 25) = wz at HB6 hx7 hy5 ht6 hu6 ⊢
      have HT5 := Lib.hid (fun (W : World) (h : Below wz.heap.size wz W) => ht6.frame (Nat.le_refl _) h)
      have HT7 := Lib.hid (fun (W : World) (h : Below wz.heap.size wz W) => hu6.frame (Nat.le_refl _) h)
      have HS : Hid (∀ W, Below wz.heap.size wz W → (W.cell? ⟨w.heap.size, 0, none⟩ = some (.int .i64 a.kind) ∧ W.cell? ⟨w.heap.size, 1, none⟩ = some (.slice an a.names.length cn) ∧ W.cell? ⟨w.heap.size, 2, none⟩ = some (.slice aa a.args.length ca) ∧ W.cell? ⟨w.heap.size + 1, 0, none⟩ = some (.int .i64 b.kind) ∧ W.cell? ⟨w.heap.size + 1, 1, none⟩ = some (.slice bn b.names.length dn) ∧ W.cell? ⟨w.heap.size + 1, 2, none⟩ = some (.slice bb b.args.length db) ∧ W.cell? ⟨w3.heap.size, 0, none⟩ = some (.int .i64 t.kind) ∧ W.cell? ⟨w3.heap.size, 1, none⟩ = some (.slice tn1 t.names.length tn2) ∧ W.cell? ⟨w3.heap.size, 2, none⟩ = some (.slice ta1 t.args.length ta2) ∧ W.cell? ⟨w5.heap.size, 0, none⟩ = some (.int .i64 t.kind) ∧ W.cell? ⟨w5.heap.size, 1, none⟩ = some (.slice un1 t.names.length un2) ∧ W.cell? ⟨w5.heap.size, 2, none⟩ = some (.slice ua1 t.args.length ua2)) ∧ Below w.heap.size w W) := Lib.hid (fun W h => by
        obtain ⟨⟨g0, g1, g2, g3, g4, g5, g6, g7⟩, g8⟩ := HAf.out W (below_on HB6.out h)
        have i5 := hy5.below h hy5.lt
        have i7 := hx7.below h hx7.lt
        exact ⟨⟨g0, g1, g2, g4, g5, g6, i5.cell 0, i5.cell 1, i5.cell 2, i7.cell 0, i7.cell 1, i7.cell 2⟩, g8⟩)
      have HSm : Hid (∀ W, Below w.heap.size w W → TyAt W (.slice tn1 t.names.length tn2) (.slice ta1 t.args.length ta2) t → TyAt W (.slice un1 t.names.length un2) (.slice ua1 t.args.length ua2) t → Calls Tryd.prog 23 #[.agg #[.int .i64 t.kind, .slice tn1 t.names.length tn2, .slice ta1 t.args.length ta2], .agg #[.int .i64 t.kind, .slice un1 t.names.length un2, .slice ua1 t.args.length ua2]] W (BoolB W true)) := Lib.hid (fun W _ h1 h2 => by
        have h := refSame_any t t _ _ _ _ W HOt.out.1 HOt.out.1 h1 h2
        rwa [(sameV_iff t t).2 ⟨(precT_parts HOt.out.2.1).1, rfl⟩] at h)
      clear hy5 hx7 ht6 hu6
      refine wp_region_held_drew (S := fun W => W.cell? ⟨w.heap.size, 0, none⟩ = some (.int .i64 a.kind) ∧ W.cell? ⟨w.heap.size, 1, none⟩ = some (.slice an a.names.length cn) ∧ W.cell? ⟨w.heap.size, 2, none⟩ = some (.slice aa a.args.length ca) ∧ W.cell? ⟨w.heap.size + 1, 0, none⟩ = some (.int .i64 b.kind) ∧ W.cell? ⟨w.heap.size + 1, 1, none⟩ = some (.slice bn b.names.length dn) ∧ W.cell? ⟨w.heap.size + 1, 2, none⟩ = some (.slice bb b.args.length db) ∧ W.cell? ⟨w3.heap.size, 0, none⟩ = some (.int .i64 t.kind) ∧ W.cell? ⟨w3.heap.size, 1, none⟩ = some (.slice tn1 t.names.length tn2) ∧ W.cell? ⟨w3.heap.size, 2, none⟩ = some (.slice ta1 t.args.length ta2) ∧ W.cell? ⟨w5.heap.size, 0, none⟩ = some (.int .i64 t.kind) ∧ W.cell? ⟨w5.heap.size, 1, none⟩ = some (.slice un1 t.names.length un2) ∧ W.cell? ⟨w5.heap.size, 2, none⟩ = some (.slice ua1 t.args.length ua2)) (by rfl) (HS.out _ (Below.refl _ _).drew).1 (fun hHeld => ?_)
      refine wpAnyH_take (i := 0) (oi := { dst := some 28, op := Op.move (.tmp 6), type := _, pos := _, after := _, guard := _ }) (v := .bool true) rfl (by kernel_rfl) (by kernel_rfl) (by kernel_rfl) (fun _ _ _ h => h) (Or.inl ⟨by rfl, ?_⟩) (HS.out _ (Below.refl _ _).drew).1 ?_
      · intro w' hs
        go_simp
      try simp only [Act.put, List.setIfInBounds_toArray, List.set_cons_zero, List.set_cons_succ]
      refine wpAnyH_take (i := 1) (oi := { dst := some 29, op := Op.move (.tmp 8), type := _, pos := _, after := _, guard := _ }) (v := .bool true) rfl (by kernel_rfl) (by kernel_rfl) (by kernel_rfl) (fun _ _ _ h => h) (Or.inl ⟨by rfl, ?_⟩) (HS.out _ (Below.refl _ _).drew).1 ?_
      · intro w' hs
        go_simp
      try simp only [Act.put, List.setIfInBounds_toArray, List.set_cons_zero, List.set_cons_succ]
      refine wpAnyH_take (i := 2) (oi := { dst := some 30, op := Op.binOp .eql 4 (.tmp 28) (.tmp 29) 4, type := _, pos := _, after := _, guard := _ }) (v := .bool true) rfl (by kernel_rfl) (by kernel_rfl) (by kernel_rfl) (fun _ _ _ h => h) (Or.inl ⟨by rfl, ?_⟩) (HS.out _ (Below.refl _ _).drew).1 ?_
      · intro w' hs
        go_simp
      try simp only [Act.put, List.setIfInBounds_toArray, List.set_cons_zero, List.set_cons_succ]
      refine wpAnyH_take (i := 3) (oi := { dst := some 31, op := Op.move (.tmp 30), type := _, pos := _, after := _, guard := _ }) (v := .bool true) rfl (by kernel_rfl) (by kernel_rfl) (by kernel_rfl) (fun _ _ _ h => h) (Or.inl ⟨by rfl, ?_⟩) (HS.out _ (Below.refl _ _).drew).1 ?_
      · intro w' hs
        go_simp
      try simp only [Act.put, List.setIfInBounds_toArray, List.set_cons_zero, List.set_cons_succ]
      refine wpAnyH_take (i := 4) (oi := { dst := some 32, op := Op.move (.tmp 6), type := _, pos := _, after := _, guard := _ }) (v := .bool true) rfl (by kernel_rfl) (by kernel_rfl) (by kernel_rfl) (fun _ _ _ h => h) (Or.inl ⟨by rfl, ?_⟩) (HS.out _ (Below.refl _ _).drew).1 ?_
      · intro w' hs
        go_simp
      try simp only [Act.put, List.setIfInBounds_toArray, List.set_cons_zero, List.set_cons_succ]
      refine wpAnyH_take (i := 5) (oi := { dst := some 33, op := Op.unOp .not 4 (.tmp 32), type := _, pos := _, after := _, guard := _ }) (v := .bool false) rfl (by kernel_rfl) (by kernel_rfl) (by kernel_rfl) (fun _ _ _ h => h) (Or.inl ⟨by rfl, ?_⟩) (HS.out _ (Below.refl _ _).drew).1 ?_
      · intro w' hs
        go_simp
      try simp only [Act.put, List.setIfInBounds_toArray, List.set_cons_zero, List.set_cons_succ]
      refine wpAnyH_take (i := 6) (oi := { dst := some 34, op := Op.move (.tmp 33), type := _, pos := _, after := _, guard := _ }) (v := .bool false) rfl (by kernel_rfl) (by kernel_rfl) (by kernel_rfl) (fun _ _ _ h => h) (Or.inl ⟨by rfl, ?_⟩) (HS.out _ (Below.refl _ _).drew).1 ?_
      · intro w' hs
        go_simp
      try simp only [Act.put, List.setIfInBounds_toArray, List.set_cons_zero, List.set_cons_succ]
      refine wpAnyH_take (i := 7) (oi := { dst := some 35, op := Op.load 25 (.tmp 5), type := _, pos := _, after := _, guard := _ }) (v := .agg #[.int .i64 t.kind, .slice tn1 t.names.length tn2, .slice ta1 t.args.length ta2]) rfl (by kernel_rfl) (by kernel_rfl) (by kernel_rfl) (fun _ _ _ h => h) (Or.inl ⟨by rfl, ?_⟩) (HS.out _ (Below.refl _ _).drew).1 ?_
      · intro w' hs
        obtain ⟨s0, s1, s2, s3, s4, s5, s6, s7, s8, s9, s10, s11⟩ := hs
        go_simp
      try simp only [Act.put, List.setIfInBounds_toArray, List.set_cons_zero, List.set_cons_succ]
      refine wpAnyH_take (i := 8) (oi := { dst := some 36, op := Op.load 25 (.tmp 7), type := _, pos := _, after := _, guard := _ }) (v := .agg #[.int .i64 t.kind, .slice un1 t.names.length un2, .slice ua1 t.args.length ua2]) rfl (by kernel_rfl) (by kernel_rfl) (by kernel_rfl) (fun _ _ _ h => h) (Or.inl ⟨by rfl, ?_⟩) (HS.out _ (Below.refl _ _).drew).1 ?_
      · intro w' hs
        obtain ⟨s0, s1, s2, s3, s4, s5, s6, s7, s8, s9, s10, s11⟩ := hs
        go_simp
      try simp only [Act.put, List.setIfInBounds_toArray, List.set_cons_zero, List.set_cons_succ]
      refine wpAnyH_ready (rs := [9]) (by kernel_rfl) (by simp) ?_
      refine AllReadyH.cons (o := { dst := some 37, op := Op.call { callee := .value (.func 23), args := #[.tmp 35, .tmp 36], argTypes := _ }, type := _, pos := _, after := _, guard := _ }) rfl (fun K hK => ?_) AllReadyH.nil
      go_simp
      refine (HSm.out _ (HS.out _ (Below.refl _ _).drew).2 (HT5.out _ (Below.refl _ _).drew) (HT7.out _ (Below.refl _ _).drew)).mono ?_
      rintro e w9 ⟨rfl, hb9⟩
      have p1 : Below wz.heap.size wz w9 := ((Below.refl wz.heap.size wz).drew).trans hb9
      refine hK.out _ _ (HS.out _ p1).1 (fun _ => ?_)
      clear hK K hb9
      try simp only [Act.put, List.setIfInBounds_toArray, List.set_cons_zero, List.set_cons_succ]
      refine wpAnyH_take (i := 10) (oi := { dst := some 38, op := Op.pick (.tmp 34) (.const (.bool true)) (.tmp 37), type := _, pos := _, after := _, guard := _ }) (v := .bool true) rfl (by kernel_rfl) (by kernel_rfl) (by kernel_rfl) (fun _ _ _ h => h) (Or.inl ⟨by rfl, ?_⟩) (HS.out _ p1).1 ?_
      · intro w' hs
        go_simp
      try simp only [Act.put, List.setIfInBounds_toArray, List.set_cons_zero, List.set_cons_succ]
      refine wpAnyH_take (i := 11) (oi := { dst := some 39, op := Op.pick (.tmp 31) (.tmp 38) (.const (.bool false)), type := _, pos := _, after := _, guard := _ }) (v := .bool true) rfl (by kernel_rfl) (by kernel_rfl) (by kernel_rfl) (fun _ _ _ h => h) (Or.inl ⟨by rfl, ?_⟩) (HS.out _ p1).1 ?_
      · intro w' hs
        go_simp
      try simp only [Act.put, List.setIfInBounds_toArray, List.set_cons_zero, List.set_cons_succ]
      refine wpAnyH_take (i := 12) (oi := { dst := some 40, op := Op.move (.tmp 39), type := _, pos := _, after := _, guard := _ }) (v := .bool true) rfl (by kernel_rfl) (by kernel_rfl) (by kernel_rfl) (fun _ _ _ h => h) (Or.inl ⟨by rfl, ?_⟩) (HS.out _ p1).1 ?_
      · intro w' hs
        go_simp
      try simp only [Act.put, List.setIfInBounds_toArray, List.set_cons_zero, List.set_cons_succ]
      refine wpAnyH_take (i := 13) (oi := { dst := some 41, op := Op.load 25 (.tmp 2), type := _, pos := _, after := _, guard := _ }) (v := .agg #[.int .i64 a.kind, .slice an a.names.length cn, .slice aa a.args.length ca]) rfl (by kernel_rfl) (by kernel_rfl) (by kernel_rfl) (fun _ _ _ h => h) (Or.inl ⟨by rfl, ?_⟩) (HS.out _ p1).1 ?_
      · intro w' hs
        obtain ⟨s0, s1, s2, s3, s4, s5, s6, s7, s8, s9, s10, s11⟩ := hs
        go_simp
      try simp only [Act.put, List.setIfInBounds_toArray, List.set_cons_zero, List.set_cons_succ]
      refine wpAnyH_take (i := 14) (oi := { dst := some 42, op := Op.load 25 (.tmp 3), type := _, pos := _, after := _, guard := _ }) (v := .agg #[.int .i64 b.kind, .slice bn b.names.length dn, .slice bb b.args.length db]) rfl (by kernel_rfl) (by kernel_rfl) (by kernel_rfl) (fun _ _ _ h => h) (Or.inl ⟨by rfl, ?_⟩) (HS.out _ p1).1 ?_
      · intro w' hs
        obtain ⟨s0, s1, s2, s3, s4, s5, s6, s7, s8, s9, s10, s11⟩ := hs
        go_simp
      try simp only [Act.put, List.setIfInBounds_toArray, List.set_cons_zero, List.set_cons_succ]
      refine wpAnyH_take (i := 16) (oi := { dst := some 44, op := Op.load 25 (.tmp 2), type := _, pos := _, after := _, guard := _ }) (v := .agg #[.int .i64 a.kind, .slice an a.names.length cn, .slice aa a.args.length ca]) rfl (by kernel_rfl) (by kernel_rfl) (by kernel_rfl) (fun _ _ _ h => h) (Or.inl ⟨by rfl, ?_⟩) (HS.out _ p1).1 ?_
      · intro w' hs
        obtain ⟨s0, s1, s2, s3, s4, s5, s6, s7, s8, s9, s10, s11⟩ := hs
        go_simp
      try simp only [Act.put, List.setIfInBounds_toArray, List.set_cons_zero, List.set_cons_succ]
      refine wpAnyH_take (i := 17) (oi := { dst := some 45, op := Op.load 25 (.tmp 3), type := _, pos := _, after := _, guard := _ }) (v := .agg #[.int .i64 b.kind, .slice bn b.names.length dn, .slice bb b.args.length db]) rfl (by kernel_rfl) (by kernel_rfl) (by kernel_rfl) (fun _ _ _ h => h) (Or.inl ⟨by rfl, ?_⟩) (HS.out _ p1).1 ?_
      · intro w' hs
        obtain ⟨s0, s1, s2, s3, s4, s5, s6, s7, s8, s9, s10, s11⟩ := hs
        go_simp
      try simp only [Act.put, List.setIfInBounds_toArray, List.set_cons_zero, List.set_cons_succ]
      refine wpAnyH_ready (rs := [15]) (by kernel_rfl) (by simp) ?_
      refine AllReadyH.cons (o := { dst := some 43, op := Op.call { callee := .value (.func 24), args := #[.tmp 41, .tmp 42], argTypes := _ }, type := _, pos := _, after := _, guard := _ }) rfl (fun K hK => ?_) AllReadyH.nil
      go_simp
      refine (HJ.out _ (HS.out _ p1).2).mono ?_
      rintro e w10 ⟨jn, ja, rfl, hfr, hb10⟩
      have hj10 := hfr w10 (Nat.le_refl _) (fun _ _ _ => rfl)
      clear hfr
      obtain ⟨jn1, jn2, ja1, ja2, rfl, rfl⟩ := hj10.shape
      have p2 : Below wz.heap.size wz w10 := below_on p1 hb10
      refine hK.out _ _ (HS.out _ p2).1 (fun _ => ?_)
      clear hK K hb10
      try simp only [Act.put, List.setIfInBounds_toArray, List.set_cons_zero, List.set_cons_succ]
      refine wpAnyH_ready (rs := [18]) (by kernel_rfl) (by simp) ?_
      refine AllReadyH.cons (o := { dst := some 46, op := Op.call { callee := .value (.func 25), args := #[.tmp 44, .tmp 45], argTypes := _ }, type := _, pos := _, after := _, guard := _ }) rfl (fun K hK => ?_) AllReadyH.nil
      go_simp
      refine (HJr.out _ (HS.out _ p2).2).mono ?_
      rintro e w11 ⟨kn, ka, rfl, hk11, hb11⟩
      obtain ⟨kn1, kn2, ka1, ka2, rfl, rfl⟩ := hk11.shape
      have hj11 := hj10.frame (Nat.le_refl _) hb11
      have p3 : Below wz.heap.size wz w11 := below_on p2 hb11
      refine hK.out _ _ (HS.out _ p3).1 (fun _ => ?_)
      clear hK K hb11
      try simp only [Act.put, List.setIfInBounds_toArray, List.set_cons_zero, List.set_cons_succ]
      refine wpAnyH_ready (rs := [19]) (by kernel_rfl) (by simp) ?_
      refine AllReadyH.cons (o := { dst := some 47, op := Op.call { callee := .value (.func 23), args := #[.tmp 43, .tmp 46], argTypes := _ }, type := _, pos := _, after := _, guard := _ }) rfl (fun K hK => ?_) AllReadyH.nil
      go_simp
      have HC := refSame_any J J _ _ _ _ w11 HJf.out.1 HJf.out.1 hj11 hk11
      rw [HJf.out.2] at HC
      refine HC.mono ?_
      clear HC
      rintro e w12 ⟨rfl, hb12⟩
      have p4 : Below wz.heap.size wz w12 := below_on p3 hb12
      refine hK.out _ _ (HS.out _ p4).1 (fun _ => ?_)
      clear hK K hb12
      try simp only [Act.put, List.setIfInBounds_toArray, List.set_cons_zero, List.set_cons_succ]
      refine wpAnyH_take (i := 20) (oi := { dst := some 48, op := Op.pick (.tmp 40) (.tmp 47) (.const (.bool false)), type := _, pos := _, after := _, guard := _ }) (v := .bool true) rfl (by kernel_rfl) (by kernel_rfl) (by kernel_rfl) (fun _ _ _ h => h) (Or.inl ⟨by rfl, ?_⟩) (HS.out _ p4).1 ?_
      · intro w' hs
        go_simp
      try simp only [Act.put, List.setIfInBounds_toArray, List.set_cons_zero, List.set_cons_succ]
      refine wpAnyH_take (i := 21) (oi := { dst := some 4, op := Op.assign (.tmp 48), type := _, pos := _, after := _, guard := _ }) (v := .bool true) rfl (by kernel_rfl) (by kernel_rfl) (by kernel_rfl) (fun _ _ _ h => h) (Or.inl ⟨by rfl, ?_⟩) (HS.out _ p4).1 ?_
      · intro w' hs
        go_simp
      try simp only [Act.put, List.setIfInBounds_toArray, List.set_cons_zero, List.set_cons_succ]
      refine wpAnyH_done (by kernel_rfl) ?_ _
      go_wp2
      go_ret
      exact ⟨rfl, (HS.out _ p4).2⟩
end TyD
end Go.Proofs.YthcdbmbimdkcfaaDoor
