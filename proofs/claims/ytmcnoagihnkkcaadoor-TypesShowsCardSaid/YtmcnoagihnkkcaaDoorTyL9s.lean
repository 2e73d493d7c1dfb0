/- TypesShows: walked. -/
import Derived.Test.YtmcnoagihnkkcaaDoorTyAw9
import Derived.Test.YtmcnoagihnkkcaaDoorTyRShowP
import Derived.Test.YtmcnoagihnkkcaaDoorTyInj2
import Derived.Test.YtmcnoagihnkkcaaDoorTyWt
import Derived.Test.YtmcnoagihnkkcaaDoorTyLike
import Derived.Deep.RegionHeld3
namespace Go.Proofs.YtmcnoagihnkkcaaDoor
open Go.RowKit ObjM
namespace TyD
open LexD (nameB WTab)

set_option maxRecDepth 100000 in
set_option maxHeartbeats 32000000 in
theorem shows_u (hJ : JoinC) (a : Ty) (vn va : Value) (b : Ty) (un ua : Value) (w : World) (oka : TyOk a) (ha : TyAt w vn va a) (okb : TyOk b) (hb : TyAt w un ua b) (hT : WTab w) (hK : KTab w) (hN : NTab w) :
    Calls Tryd.prog 3 #[.agg #[.int .i64 a.kind, vn, va], .agg #[.int .i64 b.kind, un, ua]] w (BoolB w true) := by
  have HTa := Lib.hid (fun (W : World) (hb : Below w.heap.size w W) => ha.frame (Nat.le_refl _) hb)
  have HTb := Lib.hid (fun (W : World) (hc : Below w.heap.size w W) => hb.frame (Nat.le_refl _) hc)
  have HAw := Lib.hid (fun (W : World) (h : Below w.heap.size w W) => awake9_any hJ W (hT.below h) (hK.below h) (hN.below h))
  have HFa := Lib.hid (fun (W : World) (h : Below w.heap.size w W) => few_any a _ _ W oka (HTa.out _ h))
  have HFb := Lib.hid (fun (W : World) (h : Below w.heap.size w W) => few_any b _ _ W okb (HTb.out _ h))
  have HSt0 := Lib.hid (fun (hf : fewV a = true) (W : World) (h : Below w.heap.size w W) => show_any hJ a _ _ W oka (few_wt oka hf) (HTa.out _ h) (hT.below h) (hN.below h))
  have HSu0 := Lib.hid (fun (hf : fewV b = true) (W : World) (h : Below w.heap.size w W) => show_any hJ b _ _ W okb (few_wt okb hf) (HTb.out _ h) (hT.below h) (hN.below h))
  have HSr0 := Lib.hid (fun (hf : fewV a = true) (W : World) (h : Below w.heap.size w W) => refShow_any a _ _ W oka (few_wt oka hf) (HTa.out _ h))
  have HSm := Lib.hid (fun (W : World) (h : Below w.heap.size w W) => same_any a b _ _ _ _ W oka okb (HTa.out _ h) (HTb.out _ h) (hT.below h))
  have HRm := Lib.hid (fun (W : World) (h : Below w.heap.size w W) => refSame_any a b _ _ _ _ W oka okb (HTa.out _ h) (HTb.out _ h))
  have HCa := Lib.hid (fun (W : World) (h : Below w.heap.size w W) => refCheck_any a _ _ W (HTa.out _ h) oka)
  have HCb := Lib.hid (fun (W : World) (h : Below w.heap.size w W) => refCheck_any b _ _ W (HTb.out _ h) okb)
  have HQ : Hid (checkV a = true → checkV b = true → (sameV a b = true ↔ showV a = showV b)) := Lib.hid (fun h1 h2 => by
    rw [sameV_iff]
    unfold showV
    rw [if_pos h1, if_pos h2]
    exact ⟨fun h => by rw [h.2], fun h => ⟨h1, txt_inj h1 h2 h⟩⟩)
  obtain ⟨an, cn, aa, ca, rfl, rfl⟩ := ha.shape
  obtain ⟨bn, dn, bb, db, rfl, rfl⟩ := hb.shape
  generalize fewV a = f1 at HFa HSt0 HSr0
  generalize fewV b = f2 at HFb HSu0
  generalize checkV a = q1 at HCa HQ
  generalize checkV b = q2 at HCb HQ
  generalize showV a = sa at HSt0 HSr0 HQ
  generalize showV b = sb at HSu0 HQ
  generalize sameV a b = qs at HSm HRm HQ
  obtain ⟨hh0, hh1, hbw, hsz⟩ := box2 w [.int .i64 a.kind, .slice an a.names.length cn, .slice aa a.args.length ca] [.int .i64 b.kind, .slice bn b.names.length dn, .slice bb b.args.length db] 25 _ rfl
  clear ha hb oka okb hT hK hN hJ
  go_enter Tryd.func3, Tryd.ntmps3
  go_wp2_with fail
  change Calls _ _ _ (World.alloc (World.alloc w _) _) _
  generalize World.alloc (World.alloc w _) _ = W0 at hh0 hh1 hbw hsz ⊢
  have HAf : Hid (∀ W, Below W0.heap.size W0 W → (W.cell? ⟨w.heap.size, 0, none⟩ = some (.int .i64 a.kind) ∧ W.cell? ⟨w.heap.size, 1, none⟩ = some (.slice an a.names.length cn) ∧ W.cell? ⟨w.heap.size, 2, none⟩ = some (.slice aa a.args.length ca) ∧ W.cell? ⟨w.heap.size + 1, 0, none⟩ = some (.int .i64 b.kind) ∧ W.cell? ⟨w.heap.size + 1, 1, none⟩ = some (.slice bn b.names.length dn) ∧ W.cell? ⟨w.heap.size + 1, 2, none⟩ = some (.slice bb b.args.length db)) ∧ (w.heap.size < W.heap.size ∧ w.heap.size + 1 < W.heap.size) ∧ Below w.heap.size w W) := Lib.hid (fun W h => by
    have g0 := hh0.below h hh0.lt
    have g1 := hh1.below h hh1.lt
    exact ⟨⟨g0.cell 0, g0.cell 1, g0.cell 2, g1.cell 0, g1.cell 1, g1.cell 2⟩, ⟨g0.lt, g1.lt⟩, hbw.trans (h.mono hbw.size)⟩)
  have HB0 := Lib.hid (Below.refl W0.heap.size W0)
  clear hh0 hh1 hbw hsz
  refine (HAw.out _ (HAf.out _ HB0.out).2.2).mono ?_
  rintro e w1 ⟨rfl, hb1⟩
  have HB1 := Lib.hid (below_in HB0.out hb1)
  clear hb1
  obtain ⟨⟨x0, x1, x2, y0, y1, y2⟩, ⟨lx, ly⟩, -⟩ := HAf.out _ HB1.out
  go_wp2_with fail
  refine (HFa.out _ (HAf.out _ HB1.out).2.2).mono ?_
  rintro e w9 ⟨rfl, hb9⟩
  have HB9 := Lib.hid (below_in HB1.out hb9)
  clear hb9
  clear x0 x1 x2 y0 y1 y2 lx ly
  obtain ⟨⟨x0, x1, x2, y0, y1, y2⟩, ⟨lx, ly⟩, -⟩ := HAf.out _ HB9.out
  cases f1
  · have HE := Lib.hid (HAf.out _ HB9.out).2.2
    go_wp2
    go_ret
    exact ⟨rfl, HE.out⟩
  · go_wp2_with fail
    refine (HFb.out _ (HAf.out _ HB9.out).2.2).mono ?_
    rintro e w2 ⟨rfl, hb2⟩
    have HB2 := Lib.hid (below_in HB9.out hb2)
    clear hb2
    clear x0 x1 x2 y0 y1 y2 lx ly
    obtain ⟨⟨x0, x1, x2, y0, y1, y2⟩, ⟨lx, ly⟩, -⟩ := HAf.out _ HB2.out
    cases f2
    · have HE := Lib.hid (HAf.out _ HB2.out).2.2
      go_wp2
      go_ret
      exact ⟨rfl, HE.out⟩
    · have HSt := Lib.hid (HSt0.out (by simp))
      have HSu := Lib.hid (HSu0.out (by simp))
      have HSr := Lib.hid (HSr0.out (by simp))
      have HS : Hid (∀ W, Below w2.heap.size w2 W → (W.cell? ⟨w.heap.size, 0, none⟩ = some (.int .i64 a.kind) ∧ W.cell? ⟨w.heap.size, 1, none⟩ = some (.slice an a.names.length cn) ∧ W.cell? ⟨w.heap.size, 2, none⟩ = some (.slice aa a.args.length ca) ∧ W.cell? ⟨w.heap.size + 1, 0, none⟩ = some (.int .i64 b.kind) ∧ W.cell? ⟨w.heap.size + 1, 1, none⟩ = some (.slice bn b.names.length dn) ∧ W.cell? ⟨w.heap.size + 1, 2, none⟩ = some (.slice bb b.args.length db)) ∧ Below w.heap.size w W) := Lib.hid (fun W hW => ⟨(HAf.out _ (below_in HB2.out hW)).1, (HAf.out _ (below_in HB2.out hW)).2.2⟩)
      clear HSt0 HSu0 HSr0
      go_wp2
      clear x0 x1 x2 y0 y1 y2 lx ly
      cases q1
      · have p0 : Below w2.heap.size w2 w2.drew := (Below.refl _ _).drew
        refine wp_region_held_drew (S := fun W => W.cell? ⟨w.heap.size, 0, none⟩ = some (.int .i64 a.kind) ∧ W.cell? ⟨w.heap.size, 1, none⟩ = some (.slice an a.names.length cn) ∧ W.cell? ⟨w.heap.size, 2, none⟩ = some (.slice aa a.args.length ca) ∧ W.cell? ⟨w.heap.size + 1, 0, none⟩ = some (.int .i64 b.kind) ∧ W.cell? ⟨w.heap.size + 1, 1, none⟩ = some (.slice bn b.names.length dn) ∧ W.cell? ⟨w.heap.size + 1, 2, none⟩ = some (.slice bb b.args.length db)) (by rfl) (HS.out _ p0).1 (fun hHeld => ?_)
        refine wpAnyH_take (i := 0) (oi := { dst := some 15, op := Op.load 25 (.tmp 2), type := _, pos := _, after := _, guard := _ }) (v := .agg #[.int .i64 a.kind, .slice an a.names.length cn, .slice aa a.args.length ca]) rfl (by kernel_rfl) (by kernel_rfl) (by kernel_rfl) (fun _ _ _ h => h) (Or.inl ⟨by rfl, ?_⟩) (HS.out _ p0).1 ?_
        · intro w' hs
          obtain ⟨c0, c1, c2, c3, c4, c5⟩ := hs
          go_simp
        try simp only [Act.put, List.setIfInBounds_toArray, List.set_cons_zero, List.set_cons_succ]
        refine wpAnyH_take (i := 2) (oi := { dst := some 17, op := Op.load 25 (.tmp 2), type := _, pos := _, after := _, guard := _ }) (v := .agg #[.int .i64 a.kind, .slice an a.names.length cn, .slice aa a.args.length ca]) rfl (by kernel_rfl) (by kernel_rfl) (by kernel_rfl) (fun _ _ _ h => h) (Or.inl ⟨by rfl, ?_⟩) (HS.out _ p0).1 ?_
        · intro w' hs
          obtain ⟨c0, c1, c2, c3, c4, c5⟩ := hs
          go_simp
        try simp only [Act.put, List.setIfInBounds_toArray, List.set_cons_zero, List.set_cons_succ]
        refine wpAnyH_ready (rs := [1]) (by kernel_rfl) (by simp) ?_
        refine AllReadyH.cons (o := { dst := some 16, op := Op.call { callee := .value (.func 8), args := #[.tmp 15], argTypes := _ }, type := _, pos := _, after := _, guard := _ }) rfl (fun K hK => ?_) AllReadyH.nil
        go_simp
        refine (HSt.out _ (HS.out _ p0).2).mono ?_
        rintro e v1 ⟨rfl, hb1⟩
        have p1 : Below w2.heap.size w2 v1 := below_in p0 hb1
        refine hK.out _ _ (HS.out _ p1).1 (fun _ => ?_)
        clear hK K hb1
        try simp only [Act.put, List.setIfInBounds_toArray, List.set_cons_zero, List.set_cons_succ]
        refine wpAnyH_ready (rs := [3]) (by kernel_rfl) (by simp) ?_
        refine AllReadyH.cons (o := { dst := some 18, op := Op.call { callee := .value (.func 9), args := #[.tmp 17], argTypes := _ }, type := _, pos := _, after := _, guard := _ }) rfl (fun K hK => ?_) AllReadyH.nil
        go_simp
        refine (HSr.out _ (HS.out _ p1).2).mono ?_
        rintro e v2 ⟨rfl, hb2⟩
        have p2 : Below w2.heap.size w2 v2 := below_in p1 hb2
        refine hK.out _ _ (HS.out _ p2).1 (fun _ => ?_)
        clear hK K hb2
        try simp only [Act.put, List.setIfInBounds_toArray, List.set_cons_zero, List.set_cons_succ]
        refine wpAnyH_take (i := 4) (oi := { dst := some 19, op := Op.binOp .eql 9 (.tmp 16) (.tmp 18) 9, type := _, pos := _, after := _, guard := _ }) (v := .bool true) rfl (by kernel_rfl) (by kernel_rfl) (by kernel_rfl) (fun _ _ _ h => h) (Or.inl ⟨by rfl, ?_⟩) (HS.out _ p2).1 ?_
        · intro w' hs
          go_simp
        try simp only [Act.put, List.setIfInBounds_toArray, List.set_cons_zero, List.set_cons_succ]
        refine wpAnyH_take (i := 5) (oi := { dst := some 20, op := Op.move (.tmp 19), type := _, pos := _, after := _, guard := _ }) (v := .bool true) rfl (by kernel_rfl) (by kernel_rfl) (by kernel_rfl) (fun _ _ _ h => h) (Or.inl ⟨by rfl, ?_⟩) (HS.out _ p2).1 ?_
        · intro w' hs
          go_simp
        try simp only [Act.put, List.setIfInBounds_toArray, List.set_cons_zero, List.set_cons_succ]
        refine wpAnyH_take (i := 6) (oi := { dst := some 21, op := Op.load 25 (.tmp 2), type := _, pos := _, after := _, guard := _ }) (v := .agg #[.int .i64 a.kind, .slice an a.names.length cn, .slice aa a.args.length ca]) rfl (by kernel_rfl) (by kernel_rfl) (by kernel_rfl) (fun _ _ _ h => h) (Or.inl ⟨by rfl, ?_⟩) (HS.out _ p2).1 ?_
        · intro w' hs
          obtain ⟨c0, c1, c2, c3, c4, c5⟩ := hs
          go_simp
        try simp only [Act.put, List.setIfInBounds_toArray, List.set_cons_zero, List.set_cons_succ]
        refine wpAnyH_take (i := 7) (oi := { dst := some 22, op := Op.load 25 (.tmp 3), type := _, pos := _, after := _, guard := _ }) (v := .agg #[.int .i64 b.kind, .slice bn b.names.length dn, .slice bb b.args.length db]) rfl (by kernel_rfl) (by kernel_rfl) (by kernel_rfl) (fun _ _ _ h => h) (Or.inl ⟨by rfl, ?_⟩) (HS.out _ p2).1 ?_
        · intro w' hs
          obtain ⟨c0, c1, c2, c3, c4, c5⟩ := hs
          go_simp
        try simp only [Act.put, List.setIfInBounds_toArray, List.set_cons_zero, List.set_cons_succ]
        refine wpAnyH_take (i := 9) (oi := { dst := some 24, op := Op.load 25 (.tmp 2), type := _, pos := _, after := _, guard := _ }) (v := .agg #[.int .i64 a.kind, .slice an a.names.length cn, .slice aa a.args.length ca]) rfl (by kernel_rfl) (by kernel_rfl) (by kernel_rfl) (fun _ _ _ h => h) (Or.inl ⟨by rfl, ?_⟩) (HS.out _ p2).1 ?_
        · intro w' hs
          obtain ⟨c0, c1, c2, c3, c4, c5⟩ := hs
          go_simp
        try simp only [Act.put, List.setIfInBounds_toArray, List.set_cons_zero, List.set_cons_succ]
        refine wpAnyH_take (i := 10) (oi := { dst := some 25, op := Op.load 25 (.tmp 3), type := _, pos := _, after := _, guard := _ }) (v := .agg #[.int .i64 b.kind, .slice bn b.names.length dn, .slice bb b.args.length db]) rfl (by kernel_rfl) (by kernel_rfl) (by kernel_rfl) (fun _ _ _ h => h) (Or.inl ⟨by rfl, ?_⟩) (HS.out _ p2).1 ?_
        · intro w' hs
          obtain ⟨c0, c1, c2, c3, c4, c5⟩ := hs
          go_simp
        try simp only [Act.put, List.setIfInBounds_toArray, List.set_cons_zero, List.set_cons_succ]
        refine wpAnyH_ready (rs := [8]) (by kernel_rfl) (by simp) ?_
        refine AllReadyH.cons (o := { dst := some 23, op := Op.call { callee := .value (.func 10), args := #[.tmp 21, .tmp 22], argTypes := _ }, type := _, pos := _, after := _, guard := _ }) rfl (fun K hK => ?_) AllReadyH.nil
        go_simp
        refine (HSm.out _ (HS.out _ p2).2).mono ?_
        rintro e v3 ⟨rfl, hb3⟩
        have p3 : Below w2.heap.size w2 v3 := below_in p2 hb3
        refine hK.out _ _ (HS.out _ p3).1 (fun _ => ?_)
        clear hK K hb3
        try simp only [Act.put, List.setIfInBounds_toArray, List.set_cons_zero, List.set_cons_succ]
        refine wpAnyH_ready (rs := [11]) (by kernel_rfl) (by simp) ?_
        refine AllReadyH.cons (o := { dst := some 26, op := Op.call { callee := .value (.func 11), args := #[.tmp 24, .tmp 25], argTypes := _ }, type := _, pos := _, after := _, guard := _ }) rfl (fun K hK => ?_) AllReadyH.nil
        go_simp
        refine (HRm.out _ (HS.out _ p3).2).mono ?_
        rintro e v4 ⟨rfl, hb4⟩
        have p4 : Below w2.heap.size w2 v4 := below_in p3 hb4
        refine hK.out _ _ (HS.out _ p4).1 (fun _ => ?_)
        clear hK K hb4
        try simp only [Act.put, List.setIfInBounds_toArray, List.set_cons_zero, List.set_cons_succ]
        refine wpAnyH_take (i := 12) (oi := { dst := some 27, op := Op.binOp .eql 4 (.tmp 23) (.tmp 26) 4, type := _, pos := _, after := _, guard := _ }) (v := .bool true) rfl (by kernel_rfl) (by kernel_rfl) (by kernel_rfl) (fun _ _ _ h => h) (Or.inl ⟨by rfl, ?_⟩) (HS.out _ p4).1 ?_
        · intro w' hs
          go_simp
        try simp only [Act.put, List.setIfInBounds_toArray, List.set_cons_zero, List.set_cons_succ]
        refine wpAnyH_take (i := 13) (oi := { dst := some 28, op := Op.pick (.tmp 20) (.tmp 27) (.const (.bool false)), type := _, pos := _, after := _, guard := _ }) (v := .bool true) rfl (by kernel_rfl) (by kernel_rfl) (by kernel_rfl) (fun _ _ _ h => h) (Or.inl ⟨by rfl, ?_⟩) (HS.out _ p4).1 ?_
        · intro w' hs
          go_simp
        try simp only [Act.put, List.setIfInBounds_toArray, List.set_cons_zero, List.set_cons_succ]
        refine wpAnyH_take (i := 14) (oi := { dst := some 29, op := Op.move (.tmp 28), type := _, pos := _, after := _, guard := _ }) (v := .bool true) rfl (by kernel_rfl) (by kernel_rfl) (by kernel_rfl) (fun _ _ _ h => h) (Or.inl ⟨by rfl, ?_⟩) (HS.out _ p4).1 ?_
        · intro w' hs
          go_simp
        try simp only [Act.put, List.setIfInBounds_toArray, List.set_cons_zero, List.set_cons_succ]
        refine wpAnyH_take (i := 15) (oi := { dst := some 30, op := Op.load 25 (.tmp 2), type := _, pos := _, after := _, guard := _ }) (v := .agg #[.int .i64 a.kind, .slice an a.names.length cn, .slice aa a.args.length ca]) rfl (by kernel_rfl) (by kernel_rfl) (by kernel_rfl) (fun _ _ _ h => h) (Or.inl ⟨by rfl, ?_⟩) (HS.out _ p4).1 ?_
        · intro w' hs
          obtain ⟨c0, c1, c2, c3, c4, c5⟩ := hs
          go_simp
        try simp only [Act.put, List.setIfInBounds_toArray, List.set_cons_zero, List.set_cons_succ]
        refine wpAnyH_ready (rs := [16]) (by kernel_rfl) (by simp) ?_
        refine AllReadyH.cons (o := { dst := some 31, op := Op.call { callee := .value (.func 12), args := #[.tmp 30], argTypes := _ }, type := _, pos := _, after := _, guard := _ }) rfl (fun K hK => ?_) AllReadyH.nil
        go_simp
        refine (HCa.out _ (HS.out _ p4).2).mono ?_
        rintro e v5 ⟨rfl, hb5⟩
        have p5 : Below w2.heap.size w2 v5 := below_in p4 hb5
        refine hK.out _ _ (HS.out _ p5).1 (fun _ => ?_)
        clear hK K hb5
        try simp only [Act.put, List.setIfInBounds_toArray, List.set_cons_zero, List.set_cons_succ]
        refine wpAnyH_take (i := 17) (oi := { dst := some 32, op := Op.unOp .not 4 (.tmp 31), type := _, pos := _, after := _, guard := _ }) (v := .bool true) rfl (by kernel_rfl) (by kernel_rfl) (by kernel_rfl) (fun _ _ _ h => h) (Or.inl ⟨by rfl, ?_⟩) (HS.out _ p5).1 ?_
        · intro w' hs
          go_simp
        try simp only [Act.put, List.setIfInBounds_toArray, List.set_cons_zero, List.set_cons_succ]
        refine wpAnyH_take (i := 18) (oi := { dst := some 33, op := Op.move (.tmp 32), type := _, pos := _, after := _, guard := _ }) (v := .bool true) rfl (by kernel_rfl) (by kernel_rfl) (by kernel_rfl) (fun _ _ _ h => h) (Or.inl ⟨by rfl, ?_⟩) (HS.out _ p5).1 ?_
        · intro w' hs
          go_simp
        try simp only [Act.put, List.setIfInBounds_toArray, List.set_cons_zero, List.set_cons_succ]
        refine wpAnyH_take (i := 19) (oi := { dst := some 34, op := Op.load 25 (.tmp 3), type := _, pos := _, after := _, guard := _ }) (v := undef) rfl (by kernel_rfl) (by kernel_rfl) (by kernel_rfl) (fun _ _ _ h => h) (Or.inr ⟨by rfl, rfl⟩) (HS.out _ p5).1 ?_
        try simp only [Act.put, List.setIfInBounds_toArray, List.set_cons_zero, List.set_cons_succ]
        refine wpAnyH_take (i := 20) (oi := { dst := some 35, op := Op.call { callee := .value (.func 12), args := #[.tmp 34], argTypes := _ }, type := _, pos := _, after := _, guard := _ }) (v := undef) rfl (by kernel_rfl) (by kernel_rfl) (by kernel_rfl) (fun _ _ _ h => h) (Or.inr ⟨by rfl, rfl⟩) (HS.out _ p5).1 ?_
        try simp only [Act.put, List.setIfInBounds_toArray, List.set_cons_zero, List.set_cons_succ]
        refine wpAnyH_take (i := 21) (oi := { dst := some 36, op := Op.unOp .not 4 (.tmp 35), type := _, pos := _, after := _, guard := _ }) (v := undef) rfl (by kernel_rfl) (by kernel_rfl) (by kernel_rfl) (fun _ _ _ h => h) (Or.inr ⟨by rfl, rfl⟩) (HS.out _ p5).1 ?_
        try simp only [Act.put, List.setIfInBounds_toArray, List.set_cons_zero, List.set_cons_succ]
        refine wpAnyH_take (i := 22) (oi := { dst := some 37, op := Op.pick (.tmp 33) (.const (.bool true)) (.tmp 36), type := _, pos := _, after := _, guard := _ }) (v := .bool true) rfl (by kernel_rfl) (by kernel_rfl) (by kernel_rfl) (fun _ _ _ h => h) (Or.inl ⟨by rfl, ?_⟩) (HS.out _ p5).1 ?_
        · intro w' hs
          go_simp
        try simp only [Act.put, List.setIfInBounds_toArray, List.set_cons_zero, List.set_cons_succ]
        refine wpAnyH_take (i := 23) (oi := { dst := some 38, op := Op.move (.tmp 37), type := _, pos := _, after := _, guard := _ }) (v := .bool true) rfl (by kernel_rfl) (by kernel_rfl) (by kernel_rfl) (fun _ _ _ h => h) (Or.inl ⟨by rfl, ?_⟩) (HS.out _ p5).1 ?_
        · intro w' hs
          go_simp
        try simp only [Act.put, List.setIfInBounds_toArray, List.set_cons_zero, List.set_cons_succ]
        refine wpAnyH_take (i := 24) (oi := { dst := some 39, op := Op.load 25 (.tmp 2), type := _, pos := _, after := _, guard := _ }) (v := undef) rfl (by kernel_rfl) (by kernel_rfl) (by kernel_rfl) (fun _ _ _ h => h) (Or.inr ⟨by rfl, rfl⟩) (HS.out _ p5).1 ?_
        try simp only [Act.put, List.setIfInBounds_toArray, List.set_cons_zero, List.set_cons_succ]
        refine wpAnyH_take (i := 25) (oi := { dst := some 40, op := Op.call { callee := .value (.func 8), args := #[.tmp 39], argTypes := _ }, type := _, pos := _, after := _, guard := _ }) (v := undef) rfl (by kernel_rfl) (by kernel_rfl) (by kernel_rfl) (fun _ _ _ h => h) (Or.inr ⟨by rfl, rfl⟩) (HS.out _ p5).1 ?_
        try simp only [Act.put, List.setIfInBounds_toArray, List.set_cons_zero, List.set_cons_succ]
        refine wpAnyH_take (i := 26) (oi := { dst := some 41, op := Op.load 25 (.tmp 3), type := _, pos := _, after := _, guard := _ }) (v := undef) rfl (by kernel_rfl) (by kernel_rfl) (by kernel_rfl) (fun _ _ _ h => h) (Or.inr ⟨by rfl, rfl⟩) (HS.out _ p5).1 ?_
        try simp only [Act.put, List.setIfInBounds_toArray, List.set_cons_zero, List.set_cons_succ]
        refine wpAnyH_take (i := 27) (oi := { dst := some 42, op := Op.call { callee := .value (.func 8), args := #[.tmp 41], argTypes := _ }, type := _, pos := _, after := _, guard := _ }) (v := undef) rfl (by kernel_rfl) (by kernel_rfl) (by kernel_rfl) (fun _ _ _ h => h) (Or.inr ⟨by rfl, rfl⟩) (HS.out _ p5).1 ?_
        try simp only [Act.put, List.setIfInBounds_toArray, List.set_cons_zero, List.set_cons_succ]
        refine wpAnyH_take (i := 28) (oi := { dst := some 43, op := Op.binOp .eql 9 (.tmp 40) (.tmp 42) 9, type := _, pos := _, after := _, guard := _ }) (v := undef) rfl (by kernel_rfl) (by kernel_rfl) (by kernel_rfl) (fun _ _ _ h => h) (Or.inr ⟨by rfl, rfl⟩) (HS.out _ p5).1 ?_
        try simp only [Act.put, List.setIfInBounds_toArray, List.set_cons_zero, List.set_cons_succ]
        refine wpAnyH_take (i := 29) (oi := { dst := some 44, op := Op.load 25 (.tmp 2), type := _, pos := _, after := _, guard := _ }) (v := undef) rfl (by kernel_rfl) (by kernel_rfl) (by kernel_rfl) (fun _ _ _ h => h) (Or.inr ⟨by rfl, rfl⟩) (HS.out _ p5).1 ?_
        try simp only [Act.put, List.setIfInBounds_toArray, List.set_cons_zero, List.set_cons_succ]
        refine wpAnyH_take (i := 30) (oi := { dst := some 45, op := Op.load 25 (.tmp 3), type := _, pos := _, after := _, guard := _ }) (v := undef) rfl (by kernel_rfl) (by kernel_rfl) (by kernel_rfl) (fun _ _ _ h => h) (Or.inr ⟨by rfl, rfl⟩) (HS.out _ p5).1 ?_
        try simp only [Act.put, List.setIfInBounds_toArray, List.set_cons_zero, List.set_cons_succ]
        refine wpAnyH_take (i := 31) (oi := { dst := some 46, op := Op.call { callee := .value (.func 10), args := #[.tmp 44, .tmp 45], argTypes := _ }, type := _, pos := _, after := _, guard := _ }) (v := undef) rfl (by kernel_rfl) (by kernel_rfl) (by kernel_rfl) (fun _ _ _ h => h) (Or.inr ⟨by rfl, rfl⟩) (HS.out _ p5).1 ?_
        try simp only [Act.put, List.setIfInBounds_toArray, List.set_cons_zero, List.set_cons_succ]
        refine wpAnyH_take (i := 32) (oi := { dst := some 47, op := Op.binOp .eql 4 (.tmp 43) (.tmp 46) 4, type := _, pos := _, after := _, guard := _ }) (v := undef) rfl (by kernel_rfl) (by kernel_rfl) (by kernel_rfl) (fun _ _ _ h => h) (Or.inr ⟨by rfl, rfl⟩) (HS.out _ p5).1 ?_
        try simp only [Act.put, List.setIfInBounds_toArray, List.set_cons_zero, List.set_cons_succ]
        refine wpAnyH_take (i := 33) (oi := { dst := some 48, op := Op.pick (.tmp 38) (.const (.bool true)) (.tmp 47), type := _, pos := _, after := _, guard := _ }) (v := .bool true) rfl (by kernel_rfl) (by kernel_rfl) (by kernel_rfl) (fun _ _ _ h => h) (Or.inl ⟨by rfl, ?_⟩) (HS.out _ p5).1 ?_
        · intro w' hs
          go_simp
        try simp only [Act.put, List.setIfInBounds_toArray, List.set_cons_zero, List.set_cons_succ]
        refine wpAnyH_take (i := 34) (oi := { dst := some 49, op := Op.pick (.tmp 29) (.tmp 48) (.const (.bool false)), type := _, pos := _, after := _, guard := _ }) (v := .bool true) rfl (by kernel_rfl) (by kernel_rfl) (by kernel_rfl) (fun _ _ _ h => h) (Or.inl ⟨by rfl, ?_⟩) (HS.out _ p5).1 ?_
        · intro w' hs
          go_simp
        try simp only [Act.put, List.setIfInBounds_toArray, List.set_cons_zero, List.set_cons_succ]
        refine wpAnyH_take (i := 35) (oi := { dst := some 4, op := Op.assign (.tmp 49), type := _, pos := _, after := _, guard := _ }) (v := .bool true) rfl (by kernel_rfl) (by kernel_rfl) (by kernel_rfl) (fun _ _ _ h => h) (Or.inl ⟨by rfl, ?_⟩) (HS.out _ p5).1 ?_
        · intro w' hs
          go_simp
        try simp only [Act.put, List.setIfInBounds_toArray, List.set_cons_zero, List.set_cons_succ]
        refine wpAnyH_done (by kernel_rfl) ?_ _
        go_wp2
        go_ret
        exact ⟨rfl, (HS.out _ p5).2⟩
      · cases q2
        · have p0 : Below w2.heap.size w2 w2.drew := (Below.refl _ _).drew
          refine wp_region_held_drew (S := fun W => W.cell? ⟨w.heap.size, 0, none⟩ = some (.int .i64 a.kind) ∧ W.cell? ⟨w.heap.size, 1, none⟩ = some (.slice an a.names.length cn) ∧ W.cell? ⟨w.heap.size, 2, none⟩ = some (.slice aa a.args.length ca) ∧ W.cell? ⟨w.heap.size + 1, 0, none⟩ = some (.int .i64 b.kind) ∧ W.cell? ⟨w.heap.size + 1, 1, none⟩ = some (.slice bn b.names.length dn) ∧ W.cell? ⟨w.heap.size + 1, 2, none⟩ = some (.slice bb b.args.length db)) (by rfl) (HS.out _ p0).1 (fun hHeld => ?_)
          refine wpAnyH_take (i := 0) (oi := { dst := some 15, op := Op.load 25 (.tmp 2), type := _, pos := _, after := _, guard := _ }) (v := .agg #[.int .i64 a.kind, .slice an a.names.length cn, .slice aa a.args.length ca]) rfl (by kernel_rfl) (by kernel_rfl) (by kernel_rfl) (fun _ _ _ h => h) (Or.inl ⟨by rfl, ?_⟩) (HS.out _ p0).1 ?_
          · intro w' hs
            obtain ⟨c0, c1, c2, c3, c4, c5⟩ := hs
            go_simp
          try simp only [Act.put, List.setIfInBounds_toArray, List.set_cons_zero, List.set_cons_succ]
          refine wpAnyH_take (i := 2) (oi := { dst := some 17, op := Op.load 25 (.tmp 2), type := _, pos := _, after := _, guard := _ }) (v := .agg #[.int .i64 a.kind, .slice an a.names.length cn, .slice aa a.args.length ca]) rfl (by kernel_rfl) (by kernel_rfl) (by kernel_rfl) (fun _ _ _ h => h) (Or.inl ⟨by rfl, ?_⟩) (HS.out _ p0).1 ?_
          · intro w' hs
            obtain ⟨c0, c1, c2, c3, c4, c5⟩ := hs
            go_simp
          try simp only [Act.put, List.setIfInBounds_toArray, List.set_cons_zero, List.set_cons_succ]
          refine wpAnyH_ready (rs := [1]) (by kernel_rfl) (by simp) ?_
          refine AllReadyH.cons (o := { dst := some 16, op := Op.call { callee := .value (.func 8), args := #[.tmp 15], argTypes := _ }, type := _, pos := _, after := _, guard := _ }) rfl (fun K hK => ?_) AllReadyH.nil
          go_simp
          refine (HSt.out _ (HS.out _ p0).2).mono ?_
          rintro e v1 ⟨rfl, hb1⟩
          have p1 : Below w2.heap.size w2 v1 := below_in p0 hb1
          refine hK.out _ _ (HS.out _ p1).1 (fun _ => ?_)
          clear hK K hb1
          try simp only [Act.put, List.setIfInBounds_toArray, List.set_cons_zero, List.set_cons_succ]
          refine wpAnyH_ready (rs := [3]) (by kernel_rfl) (by simp) ?_
          refine AllReadyH.cons (o := { dst := some 18, op := Op.call { callee := .value (.func 9), args := #[.tmp 17], argTypes := _ }, type := _, pos := _, after := _, guard := _ }) rfl (fun K hK => ?_) AllReadyH.nil
          go_simp
          refine (HSr.out _ (HS.out _ p1).2).mono ?_
          rintro e v2 ⟨rfl, hb2⟩
          have p2 : Below w2.heap.size w2 v2 := below_in p1 hb2
          refine hK.out _ _ (HS.out _ p2).1 (fun _ => ?_)
          clear hK K hb2
          try simp only [Act.put, List.setIfInBounds_toArray, List.set_cons_zero, List.set_cons_succ]
          refine wpAnyH_take (i := 4) (oi := { dst := some 19, op := Op.binOp .eql 9 (.tmp 16) (.tmp 18) 9, type := _, pos := _, after := _, guard := _ }) (v := .bool true) rfl (by kernel_rfl) (by kernel_rfl) (by kernel_rfl) (fun _ _ _ h => h) (Or.inl ⟨by rfl, ?_⟩) (HS.out _ p2).1 ?_
          · intro w' hs
            go_simp
          try simp only [Act.put, List.setIfInBounds_toArray, List.set_cons_zero, List.set_cons_succ]
          refine wpAnyH_take (i := 5) (oi := { dst := some 20, op := Op.move (.tmp 19), type := _, pos := _, after := _, guard := _ }) (v := .bool true) rfl (by kernel_rfl) (by kernel_rfl) (by kernel_rfl) (fun _ _ _ h => h) (Or.inl ⟨by rfl, ?_⟩) (HS.out _ p2).1 ?_
          · intro w' hs
            go_simp
          try simp only [Act.put, List.setIfInBounds_toArray, List.set_cons_zero, List.set_cons_succ]
          refine wpAnyH_take (i := 6) (oi := { dst := some 21, op := Op.load 25 (.tmp 2), type := _, pos := _, after := _, guard := _ }) (v := .agg #[.int .i64 a.kind, .slice an a.names.length cn, .slice aa a.args.length ca]) rfl (by kernel_rfl) (by kernel_rfl) (by kernel_rfl) (fun _ _ _ h => h) (Or.inl ⟨by rfl, ?_⟩) (HS.out _ p2).1 ?_
          · intro w' hs
            obtain ⟨c0, c1, c2, c3, c4, c5⟩ := hs
            go_simp
          try simp only [Act.put, List.setIfInBounds_toArray, List.set_cons_zero, List.set_cons_succ]
          refine wpAnyH_take (i := 7) (oi := { dst := some 22, op := Op.load 25 (.tmp 3), type := _, pos := _, after := _, guard := _ }) (v := .agg #[.int .i64 b.kind, .slice bn b.names.length dn, .slice bb b.args.length db]) rfl (by kernel_rfl) (by kernel_rfl) (by kernel_rfl) (fun _ _ _ h => h) (Or.inl ⟨by rfl, ?_⟩) (HS.out _ p2).1 ?_
          · intro w' hs
            obtain ⟨c0, c1, c2, c3, c4, c5⟩ := hs
            go_simp
          try simp only [Act.put, List.setIfInBounds_toArray, List.set_cons_zero, List.set_cons_succ]
          refine wpAnyH_take (i := 9) (oi := { dst := some 24, op := Op.load 25 (.tmp 2), type := _, pos := _, after := _, guard := _ }) (v := .agg #[.int .i64 a.kind, .slice an a.names.length cn, .slice aa a.args.length ca]) rfl (by kernel_rfl) (by kernel_rfl) (by kernel_rfl) (fun _ _ _ h => h) (Or.inl ⟨by rfl, ?_⟩) (HS.out _ p2).1 ?_
          · intro w' hs
            obtain ⟨c0, c1, c2, c3, c4, c5⟩ := hs
            go_simp
          try simp only [Act.put, List.setIfInBounds_toArray, List.set_cons_zero, List.set_cons_succ]
          refine wpAnyH_take (i := 10) (oi := { dst := some 25, op := Op.load 25 (.tmp 3), type := _, pos := _, after := _, guard := _ }) (v := .agg #[.int .i64 b.kind, .slice bn b.names.length dn, .slice bb b.args.length db]) rfl (by kernel_rfl) (by kernel_rfl) (by kernel_rfl) (fun _ _ _ h => h) (Or.inl ⟨by rfl, ?_⟩) (HS.out _ p2).1 ?_
          · intro w' hs
            obtain ⟨c0, c1, c2, c3, c4, c5⟩ := hs
            go_simp
          try simp only [Act.put, List.setIfInBounds_toArray, List.set_cons_zero, List.set_cons_succ]
          refine wpAnyH_ready (rs := [8]) (by kernel_rfl) (by simp) ?_
          refine AllReadyH.cons (o := { dst := some 23, op := Op.call { callee := .value (.func 10), args := #[.tmp 21, .tmp 22], argTypes := _ }, type := _, pos := _, after := _, guard := _ }) rfl (fun K hK => ?_) AllReadyH.nil
          go_simp
          refine (HSm.out _ (HS.out _ p2).2).mono ?_
          rintro e v3 ⟨rfl, hb3⟩
          have p3 : Below w2.heap.size w2 v3 := below_in p2 hb3
          refine hK.out _ _ (HS.out _ p3).1 (fun _ => ?_)
          clear hK K hb3
          try simp only [Act.put, List.setIfInBounds_toArray, List.set_cons_zero, List.set_cons_succ]
          refine wpAnyH_ready (rs := [11]) (by kernel_rfl) (by simp) ?_
          refine AllReadyH.cons (o := { dst := some 26, op := Op.call { callee := .value (.func 11), args := #[.tmp 24, .tmp 25], argTypes := _ }, type := _, pos := _, after := _, guard := _ }) rfl (fun K hK => ?_) AllReadyH.nil
          go_simp
          refine (HRm.out _ (HS.out _ p3).2).mono ?_
          rintro e v4 ⟨rfl, hb4⟩
          have p4 : Below w2.heap.size w2 v4 := below_in p3 hb4
          refine hK.out _ _ (HS.out _ p4).1 (fun _ => ?_)
          clear hK K hb4
          try simp only [Act.put, List.setIfInBounds_toArray, List.set_cons_zero, List.set_cons_succ]
          refine wpAnyH_take (i := 12) (oi := { dst := some 27, op := Op.binOp .eql 4 (.tmp 23) (.tmp 26) 4, type := _, pos := _, after := _, guard := _ }) (v := .bool true) rfl (by kernel_rfl) (by kernel_rfl) (by kernel_rfl) (fun _ _ _ h => h) (Or.inl ⟨by rfl, ?_⟩) (HS.out _ p4).1 ?_
          · intro w' hs
            go_simp
          try simp only [Act.put, List.setIfInBounds_toArray, List.set_cons_zero, List.set_cons_succ]
          refine wpAnyH_take (i := 13) (oi := { dst := some 28, op := Op.pick (.tmp 20) (.tmp 27) (.const (.bool false)), type := _, pos := _, after := _, guard := _ }) (v := .bool true) rfl (by kernel_rfl) (by kernel_rfl) (by kernel_rfl) (fun _ _ _ h => h) (Or.inl ⟨by rfl, ?_⟩) (HS.out _ p4).1 ?_
          · intro w' hs
            go_simp
          try simp only [Act.put, List.setIfInBounds_toArray, List.set_cons_zero, List.set_cons_succ]
          refine wpAnyH_take (i := 14) (oi := { dst := some 29, op := Op.move (.tmp 28), type := _, pos := _, after := _, guard := _ }) (v := .bool true) rfl (by kernel_rfl) (by kernel_rfl) (by kernel_rfl) (fun _ _ _ h => h) (Or.inl ⟨by rfl, ?_⟩) (HS.out _ p4).1 ?_
          · intro w' hs
            go_simp
          try simp only [Act.put, List.setIfInBounds_toArray, List.set_cons_zero, List.set_cons_succ]
          refine wpAnyH_take (i := 15) (oi := { dst := some 30, op := Op.load 25 (.tmp 2), type := _, pos := _, after := _, guard := _ }) (v := .agg #[.int .i64 a.kind, .slice an a.names.length cn, .slice aa a.args.length ca]) rfl (by kernel_rfl) (by kernel_rfl) (by kernel_rfl) (fun _ _ _ h => h) (Or.inl ⟨by rfl, ?_⟩) (HS.out _ p4).1 ?_
          · intro w' hs
            obtain ⟨c0, c1, c2, c3, c4, c5⟩ := hs
            go_simp
          try simp only [Act.put, List.setIfInBounds_toArray, List.set_cons_zero, List.set_cons_succ]
          refine wpAnyH_ready (rs := [16]) (by kernel_rfl) (by simp) ?_
          refine AllReadyH.cons (o := { dst := some 31, op := Op.call { callee := .value (.func 12), args := #[.tmp 30], argTypes := _ }, type := _, pos := _, after := _, guard := _ }) rfl (fun K hK => ?_) AllReadyH.nil
          go_simp
          refine (HCa.out _ (HS.out _ p4).2).mono ?_
          rintro e v5 ⟨rfl, hb5⟩
          have p5 : Below w2.heap.size w2 v5 := below_in p4 hb5
          refine hK.out _ _ (HS.out _ p5).1 (fun _ => ?_)
          clear hK K hb5
          try simp only [Act.put, List.setIfInBounds_toArray, List.set_cons_zero, List.set_cons_succ]
          refine wpAnyH_take (i := 17) (oi := { dst := some 32, op := Op.unOp .not 4 (.tmp 31), type := _, pos := _, after := _, guard := _ }) (v := .bool false) rfl (by kernel_rfl) (by kernel_rfl) (by kernel_rfl) (fun _ _ _ h => h) (Or.inl ⟨by rfl, ?_⟩) (HS.out _ p5).1 ?_
          · intro w' hs
            go_simp
          try simp only [Act.put, List.setIfInBounds_toArray, List.set_cons_zero, List.set_cons_succ]
          refine wpAnyH_take (i := 18) (oi := { dst := some 33, op := Op.move (.tmp 32), type := _, pos := _, after := _, guard := _ }) (v := .bool false) rfl (by kernel_rfl) (by kernel_rfl) (by kernel_rfl) (fun _ _ _ h => h) (Or.inl ⟨by rfl, ?_⟩) (HS.out _ p5).1 ?_
          · intro w' hs
            go_simp
          try simp only [Act.put, List.setIfInBounds_toArray, List.set_cons_zero, List.set_cons_succ]
          refine wpAnyH_take (i := 19) (oi := { dst := some 34, op := Op.load 25 (.tmp 3), type := _, pos := _, after := _, guard := _ }) (v := .agg #[.int .i64 b.kind, .slice bn b.names.length dn, .slice bb b.args.length db]) rfl (by kernel_rfl) (by kernel_rfl) (by kernel_rfl) (fun _ _ _ h => h) (Or.inl ⟨by rfl, ?_⟩) (HS.out _ p5).1 ?_
          · intro w' hs
            obtain ⟨c0, c1, c2, c3, c4, c5⟩ := hs
            go_simp
          try simp only [Act.put, List.setIfInBounds_toArray, List.set_cons_zero, List.set_cons_succ]
          refine wpAnyH_ready (rs := [20]) (by kernel_rfl) (by simp) ?_
          refine AllReadyH.cons (o := { dst := some 35, op := Op.call { callee := .value (.func 12), args := #[.tmp 34], argTypes := _ }, type := _, pos := _, after := _, guard := _ }) rfl (fun K hK => ?_) AllReadyH.nil
          go_simp
          refine (HCb.out _ (HS.out _ p5).2).mono ?_
          rintro e v6 ⟨rfl, hb6⟩
          have p6 : Below w2.heap.size w2 v6 := below_in p5 hb6
          refine hK.out _ _ (HS.out _ p6).1 (fun _ => ?_)
          clear hK K hb6
          try simp only [Act.put, List.setIfInBounds_toArray, List.set_cons_zero, List.set_cons_succ]
          refine wpAnyH_take (i := 21) (oi := { dst := some 36, op := Op.unOp .not 4 (.tmp 35), type := _, pos := _, after := _, guard := _ }) (v := .bool true) rfl (by kernel_rfl) (by kernel_rfl) (by kernel_rfl) (fun _ _ _ h => h) (Or.inl ⟨by rfl, ?_⟩) (HS.out _ p6).1 ?_
          · intro w' hs
            go_simp
          try simp only [Act.put, List.setIfInBounds_toArray, List.set_cons_zero, List.set_cons_succ]
          refine wpAnyH_take (i := 22) (oi := { dst := some 37, op := Op.pick (.tmp 33) (.const (.bool true)) (.tmp 36), type := _, pos := _, after := _, guard := _ }) (v := .bool true) rfl (by kernel_rfl) (by kernel_rfl) (by kernel_rfl) (fun _ _ _ h => h) (Or.inl ⟨by rfl, ?_⟩) (HS.out _ p6).1 ?_
          · intro w' hs
            go_simp
          try simp only [Act.put, List.setIfInBounds_toArray, List.set_cons_zero, List.set_cons_succ]
          refine wpAnyH_take (i := 23) (oi := { dst := some 38, op := Op.move (.tmp 37), type := _, pos := _, after := _, guard := _ }) (v := .bool true) rfl (by kernel_rfl) (by kernel_rfl) (by kernel_rfl) (fun _ _ _ h => h) (Or.inl ⟨by rfl, ?_⟩) (HS.out _ p6).1 ?_
          · intro w' hs
            go_simp
          try simp only [Act.put, List.setIfInBounds_toArray, List.set_cons_zero, List.set_cons_succ]
          refine wpAnyH_take (i := 24) (oi := { dst := some 39, op := Op.load 25 (.tmp 2), type := _, pos := _, after := _, guard := _ }) (v := undef) rfl (by kernel_rfl) (by kernel_rfl) (by kernel_rfl) (fun _ _ _ h => h) (Or.inr ⟨by rfl, rfl⟩) (HS.out _ p6).1 ?_
          try simp only [Act.put, List.setIfInBounds_toArray, List.set_cons_zero, List.set_cons_succ]
          refine wpAnyH_take (i := 25) (oi := { dst := some 40, op := Op.call { callee := .value (.func 8), args := #[.tmp 39], argTypes := _ }, type := _, pos := _, after := _, guard := _ }) (v := undef) rfl (by kernel_rfl) (by kernel_rfl) (by kernel_rfl) (fun _ _ _ h => h) (Or.inr ⟨by rfl, rfl⟩) (HS.out _ p6).1 ?_
          try simp only [Act.put, List.setIfInBounds_toArray, List.set_cons_zero, List.set_cons_succ]
          refine wpAnyH_take (i := 26) (oi := { dst := some 41, op := Op.load 25 (.tmp 3), type := _, pos := _, after := _, guard := _ }) (v := undef) rfl (by kernel_rfl) (by kernel_rfl) (by kernel_rfl) (fun _ _ _ h => h) (Or.inr ⟨by rfl, rfl⟩) (HS.out _ p6).1 ?_
          try simp only [Act.put, List.setIfInBounds_toArray, List.set_cons_zero, List.set_cons_succ]
          refine wpAnyH_take (i := 27) (oi := { dst := some 42, op := Op.call { callee := .value (.func 8), args := #[.tmp 41], argTypes := _ }, type := _, pos := _, after := _, guard := _ }) (v := undef) rfl (by kernel_rfl) (by kernel_rfl) (by kernel_rfl) (fun _ _ _ h => h) (Or.inr ⟨by rfl, rfl⟩) (HS.out _ p6).1 ?_
          try simp only [Act.put, List.setIfInBounds_toArray, List.set_cons_zero, List.set_cons_succ]
          refine wpAnyH_take (i := 28) (oi := { dst := some 43, op := Op.binOp .eql 9 (.tmp 40) (.tmp 42) 9, type := _, pos := _, after := _, guard := _ }) (v := undef) rfl (by kernel_rfl) (by kernel_rfl) (by kernel_rfl) (fun _ _ _ h => h) (Or.inr ⟨by rfl, rfl⟩) (HS.out _ p6).1 ?_
          try simp only [Act.put, List.setIfInBounds_toArray, List.set_cons_zero, List.set_cons_succ]
          refine wpAnyH_take (i := 29) (oi := { dst := some 44, op := Op.load 25 (.tmp 2), type := _, pos := _, after := _, guard := _ }) (v := undef) rfl (by kernel_rfl) (by kernel_rfl) (by kernel_rfl) (fun _ _ _ h => h) (Or.inr ⟨by rfl, rfl⟩) (HS.out _ p6).1 ?_
          try simp only [Act.put, List.setIfInBounds_toArray, List.set_cons_zero, List.set_cons_succ]
          refine wpAnyH_take (i := 30) (oi := { dst := some 45, op := Op.load 25 (.tmp 3), type := _, pos := _, after := _, guard := _ }) (v := undef) rfl (by kernel_rfl) (by kernel_rfl) (by kernel_rfl) (fun _ _ _ h => h) (Or.inr ⟨by rfl, rfl⟩) (HS.out _ p6).1 ?_
          try simp only [Act.put, List.setIfInBounds_toArray, List.set_cons_zero, List.set_cons_succ]
          refine wpAnyH_take (i := 31) (oi := { dst := some 46, op := Op.call { callee := .value (.func 10), args := #[.tmp 44, .tmp 45], argTypes := _ }, type := _, pos := _, after := _, guard := _ }) (v := undef) rfl (by kernel_rfl) (by kernel_rfl) (by kernel_rfl) (fun _ _ _ h => h) (Or.inr ⟨by rfl, rfl⟩) (HS.out _ p6).1 ?_
          try simp only [Act.put, List.setIfInBounds_toArray, List.set_cons_zero, List.set_cons_succ]
          refine wpAnyH_take (i := 32) (oi := { dst := some 47, op := Op.binOp .eql 4 (.tmp 43) (.tmp 46) 4, type := _, pos := _, after := _, guard := _ }) (v := undef) rfl (by kernel_rfl) (by kernel_rfl) (by kernel_rfl) (fun _ _ _ h => h) (Or.inr ⟨by rfl, rfl⟩) (HS.out _ p6).1 ?_
          try simp only [Act.put, List.setIfInBounds_toArray, List.set_cons_zero, List.set_cons_succ]
          refine wpAnyH_take (i := 33) (oi := { dst := some 48, op := Op.pick (.tmp 38) (.const (.bool true)) (.tmp 47), type := _, pos := _, after := _, guard := _ }) (v := .bool true) rfl (by kernel_rfl) (by kernel_rfl) (by kernel_rfl) (fun _ _ _ h => h) (Or.inl ⟨by rfl, ?_⟩) (HS.out _ p6).1 ?_
          · intro w' hs
            go_simp
          try simp only [Act.put, List.setIfInBounds_toArray, List.set_cons_zero, List.set_cons_succ]
          refine wpAnyH_take (i := 34) (oi := { dst := some 49, op := Op.pick (.tmp 29) (.tmp 48) (.const (.bool false)), type := _, pos := _, after := _, guard := _ }) (v := .bool true) rfl (by kernel_rfl) (by kernel_rfl) (by kernel_rfl) (fun _ _ _ h => h) (Or.inl ⟨by rfl, ?_⟩) (HS.out _ p6).1 ?_
          · intro w' hs
            go_simp
          try simp only [Act.put, List.setIfInBounds_toArray, List.set_cons_zero, List.set_cons_succ]
          refine wpAnyH_take (i := 35) (oi := { dst := some 4, op := Op.assign (.tmp 49), type := _, pos := _, after := _, guard := _ }) (v := .bool true) rfl (by kernel_rfl) (by kernel_rfl) (by kernel_rfl) (fun _ _ _ h => h) (Or.inl ⟨by rfl, ?_⟩) (HS.out _ p6).1 ?_
          · intro w' hs
            go_simp
          try simp only [Act.put, List.setIfInBounds_toArray, List.set_cons_zero, List.set_cons_succ]
          refine wpAnyH_done (by kernel_rfl) ?_ _
          go_wp2
          go_ret
          exact ⟨rfl, (HS.out _ p6).2⟩
        · have HQ2 := Lib.hid (HQ.out (by simp) (by simp))
          have hqs : (sa.toList == sb.toList) = qs := by
            rw [ByteArray.toList_eq, ByteArray.toList_eq]
            by_cases h : sa = sb
            · rw [HQ2.out.2 h, h]
              simp
            · cases qs
              · simp
                exact fun e => h (ba_ext (by rw [e]))
              · exact absurd (HQ2.out.1 rfl) h
          have p0 : Below w2.heap.size w2 w2.drew := (Below.refl _ _).drew
          refine wp_region_held_drew (S := fun W => W.cell? ⟨w.heap.size, 0, none⟩ = some (.int .i64 a.kind) ∧ W.cell? ⟨w.heap.size, 1, none⟩ = some (.slice an a.names.length cn) ∧ W.cell? ⟨w.heap.size, 2, none⟩ = some (.slice aa a.args.length ca) ∧ W.cell? ⟨w.heap.size + 1, 0, none⟩ = some (.int .i64 b.kind) ∧ W.cell? ⟨w.heap.size + 1, 1, none⟩ = some (.slice bn b.names.length dn) ∧ W.cell? ⟨w.heap.size + 1, 2, none⟩ = some (.slice bb b.args.length db)) (by rfl) (HS.out _ p0).1 (fun hHeld => ?_)
          refine wpAnyH_take (i := 0) (oi := { dst := some 15, op := Op.load 25 (.tmp 2), type := _, pos := _, after := _, guard := _ }) (v := .agg #[.int .i64 a.kind, .slice an a.names.length cn, .slice aa a.args.length ca]) rfl (by kernel_rfl) (by kernel_rfl) (by kernel_rfl) (fun _ _ _ h => h) (Or.inl ⟨by rfl, ?_⟩) (HS.out _ p0).1 ?_
          · intro w' hs
            obtain ⟨c0, c1, c2, c3, c4, c5⟩ := hs
            go_simp
          try simp only [Act.put, List.setIfInBounds_toArray, List.set_cons_zero, List.set_cons_succ]
          refine wpAnyH_take (i := 2) (oi := { dst := some 17, op := Op.load 25 (.tmp 2), type := _, pos := _, after := _, guard := _ }) (v := .agg #[.int .i64 a.kind, .slice an a.names.length cn, .slice aa a.args.length ca]) rfl (by kernel_rfl) (by kernel_rfl) (by kernel_rfl) (fun _ _ _ h => h) (Or.inl ⟨by rfl, ?_⟩) (HS.out _ p0).1 ?_
          · intro w' hs
            obtain ⟨c0, c1, c2, c3, c4, c5⟩ := hs
            go_simp
          try simp only [Act.put, List.setIfInBounds_toArray, List.set_cons_zero, List.set_cons_succ]
          refine wpAnyH_ready (rs := [1]) (by kernel_rfl) (by simp) ?_
          refine AllReadyH.cons (o := { dst := some 16, op := Op.call { callee := .value (.func 8), args := #[.tmp 15], argTypes := _ }, type := _, pos := _, after := _, guard := _ }) rfl (fun K hK => ?_) AllReadyH.nil
          go_simp
          refine (HSt.out _ (HS.out _ p0).2).mono ?_
          rintro e v1 ⟨rfl, hb1⟩
          have p1 : Below w2.heap.size w2 v1 := below_in p0 hb1
          refine hK.out _ _ (HS.out _ p1).1 (fun _ => ?_)
          clear hK K hb1
          try simp only [Act.put, List.setIfInBounds_toArray, List.set_cons_zero, List.set_cons_succ]
          refine wpAnyH_ready (rs := [3]) (by kernel_rfl) (by simp) ?_
          refine AllReadyH.cons (o := { dst := some 18, op := Op.call { callee := .value (.func 9), args := #[.tmp 17], argTypes := _ }, type := _, pos := _, after := _, guard := _ }) rfl (fun K hK => ?_) AllReadyH.nil
          go_simp
          refine (HSr.out _ (HS.out _ p1).2).mono ?_
          rintro e v2 ⟨rfl, hb2⟩
          have p2 : Below w2.heap.size w2 v2 := below_in p1 hb2
          refine hK.out _ _ (HS.out _ p2).1 (fun _ => ?_)
          clear hK K hb2
          try simp only [Act.put, List.setIfInBounds_toArray, List.set_cons_zero, List.set_cons_succ]
          refine wpAnyH_take (i := 4) (oi := { dst := some 19, op := Op.binOp .eql 9 (.tmp 16) (.tmp 18) 9, type := _, pos := _, after := _, guard := _ }) (v := .bool true) rfl (by kernel_rfl) (by kernel_rfl) (by kernel_rfl) (fun _ _ _ h => h) (Or.inl ⟨by rfl, ?_⟩) (HS.out _ p2).1 ?_
          · intro w' hs
            go_simp
          try simp only [Act.put, List.setIfInBounds_toArray, List.set_cons_zero, List.set_cons_succ]
          refine wpAnyH_take (i := 5) (oi := { dst := some 20, op := Op.move (.tmp 19), type := _, pos := _, after := _, guard := _ }) (v := .bool true) rfl (by kernel_rfl) (by kernel_rfl) (by kernel_rfl) (fun _ _ _ h => h) (Or.inl ⟨by rfl, ?_⟩) (HS.out _ p2).1 ?_
          · intro w' hs
            go_simp
          try simp only [Act.put, List.setIfInBounds_toArray, List.set_cons_zero, List.set_cons_succ]
          refine wpAnyH_take (i := 6) (oi := { dst := some 21, op := Op.load 25 (.tmp 2), type := _, pos := _, after := _, guard := _ }) (v := .agg #[.int .i64 a.kind, .slice an a.names.length cn, .slice aa a.args.length ca]) rfl (by kernel_rfl) (by kernel_rfl) (by kernel_rfl) (fun _ _ _ h => h) (Or.inl ⟨by rfl, ?_⟩) (HS.out _ p2).1 ?_
          · intro w' hs
            obtain ⟨c0, c1, c2, c3, c4, c5⟩ := hs
            go_simp
          try simp only [Act.put, List.setIfInBounds_toArray, List.set_cons_zero, List.set_cons_succ]
          refine wpAnyH_take (i := 7) (oi := { dst := some 22, op := Op.load 25 (.tmp 3), type := _, pos := _, after := _, guard := _ }) (v := .agg #[.int .i64 b.kind, .slice bn b.names.length dn, .slice bb b.args.length db]) rfl (by kernel_rfl) (by kernel_rfl) (by kernel_rfl) (fun _ _ _ h => h) (Or.inl ⟨by rfl, ?_⟩) (HS.out _ p2).1 ?_
          · intro w' hs
            obtain ⟨c0, c1, c2, c3, c4, c5⟩ := hs
            go_simp
          try simp only [Act.put, List.setIfInBounds_toArray, List.set_cons_zero, List.set_cons_succ]
          refine wpAnyH_take (i := 9) (oi := { dst := some 24, op := Op.load 25 (.tmp 2), type := _, pos := _, after := _, guard := _ }) (v := .agg #[.int .i64 a.kind, .slice an a.names.length cn, .slice aa a.args.length ca]) rfl (by kernel_rfl) (by kernel_rfl) (by kernel_rfl) (fun _ _ _ h => h) (Or.inl ⟨by rfl, ?_⟩) (HS.out _ p2).1 ?_
          · intro w' hs
            obtain ⟨c0, c1, c2, c3, c4, c5⟩ := hs
            go_simp
          try simp only [Act.put, List.setIfInBounds_toArray, List.set_cons_zero, List.set_cons_succ]
          refine wpAnyH_take (i := 10) (oi := { dst := some 25, op := Op.load 25 (.tmp 3), type := _, pos := _, after := _, guard := _ }) (v := .agg #[.int .i64 b.kind, .slice bn b.names.length dn, .slice bb b.args.length db]) rfl (by kernel_rfl) (by kernel_rfl) (by kernel_rfl) (fun _ _ _ h => h) (Or.inl ⟨by rfl, ?_⟩) (HS.out _ p2).1 ?_
          · intro w' hs
            obtain ⟨c0, c1, c2, c3, c4, c5⟩ := hs
            go_simp
          try simp only [Act.put, List.setIfInBounds_toArray, List.set_cons_zero, List.set_cons_succ]
          refine wpAnyH_ready (rs := [8]) (by kernel_rfl) (by simp) ?_
          refine AllReadyH.cons (o := { dst := some 23, op := Op.call { callee := .value (.func 10), args := #[.tmp 21, .tmp 22], argTypes := _ }, type := _, pos := _, after := _, guard := _ }) rfl (fun K hK => ?_) AllReadyH.nil
          go_simp
          refine (HSm.out _ (HS.out _ p2).2).mono ?_
          rintro e v3 ⟨rfl, hb3⟩
          have p3 : Below w2.heap.size w2 v3 := below_in p2 hb3
          refine hK.out _ _ (HS.out _ p3).1 (fun _ => ?_)
          clear hK K hb3
          try simp only [Act.put, List.setIfInBounds_toArray, List.set_cons_zero, List.set_cons_succ]
          refine wpAnyH_ready (rs := [11]) (by kernel_rfl) (by simp) ?_
          refine AllReadyH.cons (o := { dst := some 26, op := Op.call { callee := .value (.func 11), args := #[.tmp 24, .tmp 25], argTypes := _ }, type := _, pos := _, after := _, guard := _ }) rfl (fun K hK => ?_) AllReadyH.nil
          go_simp
          refine (HRm.out _ (HS.out _ p3).2).mono ?_
          rintro e v4 ⟨rfl, hb4⟩
          have p4 : Below w2.heap.size w2 v4 := below_in p3 hb4
          refine hK.out _ _ (HS.out _ p4).1 (fun _ => ?_)
          clear hK K hb4
          try simp only [Act.put, List.setIfInBounds_toArray, List.set_cons_zero, List.set_cons_succ]
          refine wpAnyH_take (i := 12) (oi := { dst := some 27, op := Op.binOp .eql 4 (.tmp 23) (.tmp 26) 4, type := _, pos := _, after := _, guard := _ }) (v := .bool true) rfl (by kernel_rfl) (by kernel_rfl) (by kernel_rfl) (fun _ _ _ h => h) (Or.inl ⟨by rfl, ?_⟩) (HS.out _ p4).1 ?_
          · intro w' hs
            go_simp
          try simp only [Act.put, List.setIfInBounds_toArray, List.set_cons_zero, List.set_cons_succ]
          refine wpAnyH_take (i := 13) (oi := { dst := some 28, op := Op.pick (.tmp 20) (.tmp 27) (.const (.bool false)), type := _, pos := _, after := _, guard := _ }) (v := .bool true) rfl (by kernel_rfl) (by kernel_rfl) (by kernel_rfl) (fun _ _ _ h => h) (Or.inl ⟨by rfl, ?_⟩) (HS.out _ p4).1 ?_
          · intro w' hs
            go_simp
          try simp only [Act.put, List.setIfInBounds_toArray, List.set_cons_zero, List.set_cons_succ]
          refine wpAnyH_take (i := 14) (oi := { dst := some 29, op := Op.move (.tmp 28), type := _, pos := _, after := _, guard := _ }) (v := .bool true) rfl (by kernel_rfl) (by kernel_rfl) (by kernel_rfl) (fun _ _ _ h => h) (Or.inl ⟨by rfl, ?_⟩) (HS.out _ p4).1 ?_
          · intro w' hs
            go_simp
          try simp only [Act.put, List.setIfInBounds_toArray, List.set_cons_zero, List.set_cons_succ]
          refine wpAnyH_take (i := 15) (oi := { dst := some 30, op := Op.load 25 (.tmp 2), type := _, pos := _, after := _, guard := _ }) (v := .agg #[.int .i64 a.kind, .slice an a.names.length cn, .slice aa a.args.length ca]) rfl (by kernel_rfl) (by kernel_rfl) (by kernel_rfl) (fun _ _ _ h => h) (Or.inl ⟨by rfl, ?_⟩) (HS.out _ p4).1 ?_
          · intro w' hs
            obtain ⟨c0, c1, c2, c3, c4, c5⟩ := hs
            go_simp
          try simp only [Act.put, List.setIfInBounds_toArray, List.set_cons_zero, List.set_cons_succ]
          refine wpAnyH_ready (rs := [16]) (by kernel_rfl) (by simp) ?_
          refine AllReadyH.cons (o := { dst := some 31, op := Op.call { callee := .value (.func 12), args := #[.tmp 30], argTypes := _ }, type := _, pos := _, after := _, guard := _ }) rfl (fun K hK => ?_) AllReadyH.nil
          go_simp
          refine (HCa.out _ (HS.out _ p4).2).mono ?_
          rintro e v5 ⟨rfl, hb5⟩
          have p5 : Below w2.heap.size w2 v5 := below_in p4 hb5
          refine hK.out _ _ (HS.out _ p5).1 (fun _ => ?_)
          clear hK K hb5
          try simp only [Act.put, List.setIfInBounds_toArray, List.set_cons_zero, List.set_cons_succ]
          refine wpAnyH_take (i := 17) (oi := { dst := some 32, op := Op.unOp .not 4 (.tmp 31), type := _, pos := _, after := _, guard := _ }) (v := .bool false) rfl (by kernel_rfl) (by kernel_rfl) (by kernel_rfl) (fun _ _ _ h => h) (Or.inl ⟨by rfl, ?_⟩) (HS.out _ p5).1 ?_
          · intro w' hs
            go_simp
          try simp only [Act.put, List.setIfInBounds_toArray, List.set_cons_zero, List.set_cons_succ]
          refine wpAnyH_take (i := 18) (oi := { dst := some 33, op := Op.move (.tmp 32), type := _, pos := _, after := _, guard := _ }) (v := .bool false) rfl (by kernel_rfl) (by kernel_rfl) (by kernel_rfl) (fun _ _ _ h => h) (Or.inl ⟨by rfl, ?_⟩) (HS.out _ p5).1 ?_
          · intro w' hs
            go_simp
          try simp only [Act.put, List.setIfInBounds_toArray, List.set_cons_zero, List.set_cons_succ]
          refine wpAnyH_take (i := 19) (oi := { dst := some 34, op := Op.load 25 (.tmp 3), type := _, pos := _, after := _, guard := _ }) (v := .agg #[.int .i64 b.kind, .slice bn b.names.length dn, .slice bb b.args.length db]) rfl (by kernel_rfl) (by kernel_rfl) (by kernel_rfl) (fun _ _ _ h => h) (Or.inl ⟨by rfl, ?_⟩) (HS.out _ p5).1 ?_
          · intro w' hs
            obtain ⟨c0, c1, c2, c3, c4, c5⟩ := hs
            go_simp
          try simp only [Act.put, List.setIfInBounds_toArray, List.set_cons_zero, List.set_cons_succ]
          refine wpAnyH_ready (rs := [20]) (by kernel_rfl) (by simp) ?_
          refine AllReadyH.cons (o := { dst := some 35, op := Op.call { callee := .value (.func 12), args := #[.tmp 34], argTypes := _ }, type := _, pos := _, after := _, guard := _ }) rfl (fun K hK => ?_) AllReadyH.nil
          go_simp
          refine (HCb.out _ (HS.out _ p5).2).mono ?_
          rintro e v6 ⟨rfl, hb6⟩
          have p6 : Below w2.heap.size w2 v6 := below_in p5 hb6
          refine hK.out _ _ (HS.out _ p6).1 (fun _ => ?_)
          clear hK K hb6
          try simp only [Act.put, List.setIfInBounds_toArray, List.set_cons_zero, List.set_cons_succ]
          refine wpAnyH_take (i := 21) (oi := { dst := some 36, op := Op.unOp .not 4 (.tmp 35), type := _, pos := _, after := _, guard := _ }) (v := .bool false) rfl (by kernel_rfl) (by kernel_rfl) (by kernel_rfl) (fun _ _ _ h => h) (Or.inl ⟨by rfl, ?_⟩) (HS.out _ p6).1 ?_
          · intro w' hs
            go_simp
          try simp only [Act.put, List.setIfInBounds_toArray, List.set_cons_zero, List.set_cons_succ]
          refine wpAnyH_take (i := 22) (oi := { dst := some 37, op := Op.pick (.tmp 33) (.const (.bool true)) (.tmp 36), type := _, pos := _, after := _, guard := _ }) (v := .bool false) rfl (by kernel_rfl) (by kernel_rfl) (by kernel_rfl) (fun _ _ _ h => h) (Or.inl ⟨by rfl, ?_⟩) (HS.out _ p6).1 ?_
          · intro w' hs
            go_simp
          try simp only [Act.put, List.setIfInBounds_toArray, List.set_cons_zero, List.set_cons_succ]
          refine wpAnyH_take (i := 23) (oi := { dst := some 38, op := Op.move (.tmp 37), type := _, pos := _, after := _, guard := _ }) (v := .bool false) rfl (by kernel_rfl) (by kernel_rfl) (by kernel_rfl) (fun _ _ _ h => h) (Or.inl ⟨by rfl, ?_⟩) (HS.out _ p6).1 ?_
          · intro w' hs
            go_simp
          try simp only [Act.put, List.setIfInBounds_toArray, List.set_cons_zero, List.set_cons_succ]
          refine wpAnyH_take (i := 24) (oi := { dst := some 39, op := Op.load 25 (.tmp 2), type := _, pos := _, after := _, guard := _ }) (v := .agg #[.int .i64 a.kind, .slice an a.names.length cn, .slice aa a.args.length ca]) rfl (by kernel_rfl) (by kernel_rfl) (by kernel_rfl) (fun _ _ _ h => h) (Or.inl ⟨by rfl, ?_⟩) (HS.out _ p6).1 ?_
          · intro w' hs
            obtain ⟨c0, c1, c2, c3, c4, c5⟩ := hs
            go_simp
          try simp only [Act.put, List.setIfInBounds_toArray, List.set_cons_zero, List.set_cons_succ]
          refine wpAnyH_take (i := 26) (oi := { dst := some 41, op := Op.load 25 (.tmp 3), type := _, pos := _, after := _, guard := _ }) (v := .agg #[.int .i64 b.kind, .slice bn b.names.length dn, .slice bb b.args.length db]) rfl (by kernel_rfl) (by kernel_rfl) (by kernel_rfl) (fun _ _ _ h => h) (Or.inl ⟨by rfl, ?_⟩) (HS.out _ p6).1 ?_
          · intro w' hs
            obtain ⟨c0, c1, c2, c3, c4, c5⟩ := hs
            go_simp
          try simp only [Act.put, List.setIfInBounds_toArray, List.set_cons_zero, List.set_cons_succ]
          refine wpAnyH_take (i := 29) (oi := { dst := some 44, op := Op.load 25 (.tmp 2), type := _, pos := _, after := _, guard := _ }) (v := .agg #[.int .i64 a.kind, .slice an a.names.length cn, .slice aa a.args.length ca]) rfl (by kernel_rfl) (by kernel_rfl) (by kernel_rfl) (fun _ _ _ h => h) (Or.inl ⟨by rfl, ?_⟩) (HS.out _ p6).1 ?_
          · intro w' hs
            obtain ⟨c0, c1, c2, c3, c4, c5⟩ := hs
            go_simp
          try simp only [Act.put, List.setIfInBounds_toArray, List.set_cons_zero, List.set_cons_succ]
          refine wpAnyH_take (i := 30) (oi := { dst := some 45, op := Op.load 25 (.tmp 3), type := _, pos := _, after := _, guard := _ }) (v := .agg #[.int .i64 b.kind, .slice bn b.names.length dn, .slice bb b.args.length db]) rfl (by kernel_rfl) (by kernel_rfl) (by kernel_rfl) (fun _ _ _ h => h) (Or.inl ⟨by rfl, ?_⟩) (HS.out _ p6).1 ?_
          · intro w' hs
            obtain ⟨c0, c1, c2, c3, c4, c5⟩ := hs
            go_simp
          try simp only [Act.put, List.setIfInBounds_toArray, List.set_cons_zero, List.set_cons_succ]
          refine wpAnyH_ready (rs := [25]) (by kernel_rfl) (by simp) ?_
          refine AllReadyH.cons (o := { dst := some 40, op := Op.call { callee := .value (.func 8), args := #[.tmp 39], argTypes := _ }, type := _, pos := _, after := _, guard := _ }) rfl (fun K hK => ?_) AllReadyH.nil
          go_simp
          refine (HSt.out _ (HS.out _ p6).2).mono ?_
          rintro e v7 ⟨rfl, hb7⟩
          have p7 : Below w2.heap.size w2 v7 := below_in p6 hb7
          refine hK.out _ _ (HS.out _ p7).1 (fun _ => ?_)
          clear hK K hb7
          try simp only [Act.put, List.setIfInBounds_toArray, List.set_cons_zero, List.set_cons_succ]
          refine wpAnyH_ready (rs := [27]) (by kernel_rfl) (by simp) ?_
          refine AllReadyH.cons (o := { dst := some 42, op := Op.call { callee := .value (.func 8), args := #[.tmp 41], argTypes := _ }, type := _, pos := _, after := _, guard := _ }) rfl (fun K hK => ?_) AllReadyH.nil
          go_simp
          refine (HSu.out _ (HS.out _ p7).2).mono ?_
          rintro e v8 ⟨rfl, hb8⟩
          have p8 : Below w2.heap.size w2 v8 := below_in p7 hb8
          refine hK.out _ _ (HS.out _ p8).1 (fun _ => ?_)
          clear hK K hb8
          try simp only [Act.put, List.setIfInBounds_toArray, List.set_cons_zero, List.set_cons_succ]
          refine wpAnyH_take (i := 28) (oi := { dst := some 43, op := Op.binOp .eql 9 (.tmp 40) (.tmp 42) 9, type := _, pos := _, after := _, guard := _ }) (v := .bool qs) rfl (by kernel_rfl) (by kernel_rfl) (by kernel_rfl) (fun _ _ _ h => h) (Or.inl ⟨by rfl, ?_⟩) (HS.out _ p8).1 ?_
          · intro w' hs
            go_simp
          try simp only [Act.put, List.setIfInBounds_toArray, List.set_cons_zero, List.set_cons_succ]
          refine wpAnyH_ready (rs := [31]) (by kernel_rfl) (by simp) ?_
          refine AllReadyH.cons (o := { dst := some 46, op := Op.call { callee := .value (.func 10), args := #[.tmp 44, .tmp 45], argTypes := _ }, type := _, pos := _, after := _, guard := _ }) rfl (fun K hK => ?_) AllReadyH.nil
          go_simp
          refine (HSm.out _ (HS.out _ p8).2).mono ?_
          rintro e v9 ⟨rfl, hb9⟩
          have p9 : Below w2.heap.size w2 v9 := below_in p8 hb9
          refine hK.out _ _ (HS.out _ p9).1 (fun _ => ?_)
          clear hK K hb9
          try simp only [Act.put, List.setIfInBounds_toArray, List.set_cons_zero, List.set_cons_succ]
          refine wpAnyH_take (i := 32) (oi := { dst := some 47, op := Op.binOp .eql 4 (.tmp 43) (.tmp 46) 4, type := _, pos := _, after := _, guard := _ }) (v := .bool true) rfl (by kernel_rfl) (by kernel_rfl) (by kernel_rfl) (fun _ _ _ h => h) (Or.inl ⟨by rfl, ?_⟩) (HS.out _ p9).1 ?_
          · intro w' hs
            go_simp
          try simp only [Act.put, List.setIfInBounds_toArray, List.set_cons_zero, List.set_cons_succ]
          refine wpAnyH_take (i := 33) (oi := { dst := some 48, op := Op.pick (.tmp 38) (.const (.bool true)) (.tmp 47), type := _, pos := _, after := _, guard := _ }) (v := .bool true) rfl (by kernel_rfl) (by kernel_rfl) (by kernel_rfl) (fun _ _ _ h => h) (Or.inl ⟨by rfl, ?_⟩) (HS.out _ p9).1 ?_
          · intro w' hs
            go_simp
          try simp only [Act.put, List.setIfInBounds_toArray, List.set_cons_zero, List.set_cons_succ]
          refine wpAnyH_take (i := 34) (oi := { dst := some 49, op := Op.pick (.tmp 29) (.tmp 48) (.const (.bool false)), type := _, pos := _, after := _, guard := _ }) (v := .bool true) rfl (by kernel_rfl) (by kernel_rfl) (by kernel_rfl) (fun _ _ _ h => h) (Or.inl ⟨by rfl, ?_⟩) (HS.out _ p9).1 ?_
          · intro w' hs
            go_simp
          try simp only [Act.put, List.setIfInBounds_toArray, List.set_cons_zero, List.set_cons_succ]
          refine wpAnyH_take (i := 35) (oi := { dst := some 4, op := Op.assign (.tmp 49), type := _, pos := _, after := _, guard := _ }) (v := .bool true) rfl (by kernel_rfl) (by kernel_rfl) (by kernel_rfl) (fun _ _ _ h => h) (Or.inl ⟨by rfl, ?_⟩) (HS.out _ p9).1 ?_
          · intro w' hs
            go_simp
          try simp only [Act.put, List.setIfInBounds_toArray, List.set_cons_zero, List.set_cons_succ]
          refine wpAnyH_done (by kernel_rfl) ?_ _
          go_wp2
          go_ret
          exact ⟨rfl, (HS.out _ p9).2⟩
end TyD
end Go.Proofs.YtmcnoagihnkkcaaDoor
