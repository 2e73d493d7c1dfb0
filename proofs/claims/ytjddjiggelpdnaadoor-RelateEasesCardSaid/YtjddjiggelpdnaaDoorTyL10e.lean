/- RelateEases: both answers are one. -/
import Derived.Test.YtjddjiggelpdnaaDoorTyL10a
import Derived.Test.YtjddjiggelpdnaaDoorTyRTopE
import Derived.Deep.RegionHeld3
namespace Go.Proofs.YtjddjiggelpdnaaDoor
open Go.RowKit ObjM
namespace TyD
open LexD (nameB WTab)

set_option maxRecDepth 100000 in
set_option maxHeartbeats 16000000 in
theorem eases_u (a : Ty) (vn va : Value) (b : Ty) (un ua : Value) (w : World) (oka : TyOk a) (ha : TyAt w vn va a) (okb : TyOk b) (hb : TyAt w un ua b) (hT : WTab w) (hK : KTab w) :
    Calls Tryd.prog 4 #[.agg #[.int .i64 a.kind, vn, va], .agg #[.int .i64 b.kind, un, ua]] w (BoolB w true) := by
  have HTa := Lib.hid (fun (W : World) (h : Below w.heap.size w W) => ha.frame (Nat.le_refl _) h)
  have HTb := Lib.hid (fun (W : World) (h : Below w.heap.size w W) => hb.frame (Nat.le_refl _) h)
  have HAw := Lib.hid (fun (W : World) (h : Below w.heap.size w W) => awake_any W (hT.below h) (hK.below h))
  have HP := Lib.hid (fun (W : World) (h : Below w.heap.size w W) => easeT_any a b _ _ _ _ W oka okb (HTa.out _ h) (HTb.out _ h) (hT.below h) (hK.below h))
  have HQ := Lib.hid (fun (W : World) (h : Below w.heap.size w W) => refEaseT_any a b _ _ _ _ W oka okb (HTa.out _ h) (HTb.out _ h))
  clear hT hK
  generalize easeT a b = q at HP HQ
  obtain ⟨an, cn, aa, ca, rfl, rfl⟩ := ha.shape
  obtain ⟨bn, dn, bb, db, rfl, rfl⟩ := hb.shape
  obtain ⟨hh0, hh1, hbw, hsz⟩ := box2w w [.int .i64 a.kind, .slice an a.names.length cn, .slice aa a.args.length ca] [.int .i64 b.kind, .slice bn b.names.length dn, .slice bb b.args.length db] 25 _ rfl
  have HAf : Hid (∀ W, Below (w.heap.size + 1 + 1) ((w.alloc (.cells #[.int .i64 a.kind, .slice an a.names.length cn, .slice aa a.args.length ca] 25)).alloc (.cells #[.int .i64 b.kind, .slice bn b.names.length dn, .slice bb b.args.length db] 25)) W → (W.cell? ⟨w.heap.size, 0, none⟩ = some (.int .i64 a.kind) ∧ W.cell? ⟨w.heap.size, 1, none⟩ = some (.slice an a.names.length cn) ∧ W.cell? ⟨w.heap.size, 2, none⟩ = some (.slice aa a.args.length ca) ∧ W.cell? ⟨w.heap.size + 1, 0, none⟩ = some (.int .i64 b.kind) ∧ W.cell? ⟨w.heap.size + 1, 1, none⟩ = some (.slice bn b.names.length dn) ∧ W.cell? ⟨w.heap.size + 1, 2, none⟩ = some (.slice bb b.args.length db) ∧ w.heap.size < W.heap.size ∧ w.heap.size + 1 < W.heap.size) ∧ Below w.heap.size w W) := Lib.hid (fun W h => by
    have g0 := hh0.below h (by omega)
    have g1 := hh1.below h (by omega)
    exact ⟨⟨g0.cell 0, g0.cell 1, g0.cell 2, g1.cell 0, g1.cell 1, g1.cell 2, g0.lt, g1.lt⟩, hbw.trans (h.mono (by omega))⟩)
  have HB0 : Hid (Below (w.heap.size + 1 + 1) ((w.alloc (.cells #[.int .i64 a.kind, .slice an a.names.length cn, .slice aa a.args.length ca] 25)).alloc (.cells #[.int .i64 b.kind, .slice bn b.names.length dn, .slice bb b.args.length db] 25)) ((w.alloc (.cells #[.int .i64 a.kind, .slice an a.names.length cn, .slice aa a.args.length ca] 25)).alloc (.cells #[.int .i64 b.kind, .slice bn b.names.length dn, .slice bb b.args.length db] 25))) := Lib.hid (Below.refl _ _)
  have HW0 := Lib.hid (HAf.out _ HB0.out).2
  have HFx : Hid (∀ W W', Below (w.heap.size + 1 + 1) ((w.alloc (.cells #[.int .i64 a.kind, .slice an a.names.length cn, .slice aa a.args.length ca] 25)).alloc (.cells #[.int .i64 b.kind, .slice bn b.names.length dn, .slice bb b.args.length db] 25)) W → Below W.heap.size W W' → Below (w.heap.size + 1 + 1) ((w.alloc (.cells #[.int .i64 a.kind, .slice an a.names.length cn, .slice aa a.args.length ca] 25)).alloc (.cells #[.int .i64 b.kind, .slice bn b.names.length dn, .slice bb b.args.length db] 25)) W') := Lib.hid (fun W W' h1 h2 => h1.trans (h2.mono (by have := h1.size; rw [hsz] at this; exact this)))
  clear ha hb hbw hsz hh0 hh1
  obtain ⟨fw, hfw⟩ : ∃ fw, [a, b].all fewV = fw := ⟨_, rfl⟩
  cases fw
  · clear HP HQ
    go_enter Tryd.func4, Tryd.ntmps4
    go_wp2_with fail
    refine (HAw.out _ HW0.out).mono ?_
    rintro e w1 ⟨rfl, hb⟩
    have HB1 := Lib.hid (HFx.out _ _ HB0.out hb)
    obtain ⟨⟨x0, x1, x2, y0, y1, y2, lX, lY⟩, hw⟩ := HAf.out _ HB1.out
    have HW1 := Lib.hid hw
    clear hb hw
    have HS : Hid (∀ W, Below w1.heap.size w1 W → (fun W' => W'.cell? ⟨w.heap.size, 0, none⟩ = some (.int .i64 a.kind) ∧ W'.cell? ⟨w.heap.size, 1, none⟩ = some (.slice an a.names.length cn) ∧ W'.cell? ⟨w.heap.size, 2, none⟩ = some (.slice aa a.args.length ca) ∧ W'.cell? ⟨w.heap.size + 1, 0, none⟩ = some (.int .i64 b.kind) ∧ W'.cell? ⟨w.heap.size + 1, 1, none⟩ = some (.slice bn b.names.length dn) ∧ W'.cell? ⟨w.heap.size + 1, 2, none⟩ = some (.slice bb b.args.length db)) W ∧ Below w.heap.size w W) := Lib.hid (fun W h => by
      obtain ⟨⟨g0, g1, g2, g3, g4, g5, g6, g7⟩, g8⟩ := HAf.out W (HFx.out _ _ HB1.out h)
      exact ⟨⟨g0, g1, g2, g3, g4, g5⟩, g8⟩)
    have HFe := Lib.hid (fun (W : World) (h : Below w.heap.size w W) => fews_any [a, b] _ _ (row2_at (Has.new W 25 [.int .i64 a.kind, .slice an a.names.length cn, .slice aa a.args.length ca, .int .i64 b.kind, .slice bn b.names.length dn, .slice bb b.args.length db]) (HTa.out _ (h.alloc h.size _)) (HTb.out _ (h.alloc h.size _))) (by simp; exact ⟨oka, okb⟩) (by simp))
    rw [hfw] at HFe
    clear hfw
    go_wp2
    refine wp_region_held_drew (S := fun W' => W'.cell? ⟨w.heap.size, 0, none⟩ = some (.int .i64 a.kind) ∧ W'.cell? ⟨w.heap.size, 1, none⟩ = some (.slice an a.names.length cn) ∧ W'.cell? ⟨w.heap.size, 2, none⟩ = some (.slice aa a.args.length ca) ∧ W'.cell? ⟨w.heap.size + 1, 0, none⟩ = some (.int .i64 b.kind) ∧ W'.cell? ⟨w.heap.size + 1, 1, none⟩ = some (.slice bn b.names.length dn) ∧ W'.cell? ⟨w.heap.size + 1, 2, none⟩ = some (.slice bb b.args.length db)) (by kernel_rfl) (HS.out _ (Below.refl _ _).drew).1 (fun _ => ?_)
    refine wpAnyH_take (i := 0) (oi := { dst := some 7, op := Op.load 25 (.tmp 2), type := _, pos := _, after := _, guard := _ }) (v := .agg #[.int .i64 a.kind, .slice an a.names.length cn, .slice aa a.args.length ca]) rfl (by kernel_rfl) (by kernel_rfl) (by kernel_rfl) (fun _ _ _ h => h) (Or.inl ⟨by rfl, ?_⟩) (HS.out _ (Below.refl _ _).drew).1 ?_
    · intro w' hs
      obtain ⟨c0, c1, c2, c3, c4, c5⟩ := hs
      go_simp
    try simp only [Act.put, List.setIfInBounds_toArray, List.set_cons_zero, List.set_cons_succ]
    refine wpAnyH_take (i := 1) (oi := { dst := some 8, op := Op.load 25 (.tmp 3), type := _, pos := _, after := _, guard := _ }) (v := .agg #[.int .i64 b.kind, .slice bn b.names.length dn, .slice bb b.args.length db]) rfl (by kernel_rfl) (by kernel_rfl) (by kernel_rfl) (fun _ _ _ h => h) (Or.inl ⟨by rfl, ?_⟩) (HS.out _ (Below.refl _ _).drew).1 ?_
    · intro w' hs
      obtain ⟨c0, c1, c2, c3, c4, c5⟩ := hs
      go_simp
    try simp only [Act.put, List.setIfInBounds_toArray, List.set_cons_zero, List.set_cons_succ]
    refine wpAnyH_ready (rs := [2]) (by kernel_rfl) (by simp) ?_
    refine AllReadyH.cons (o := { dst := some 9, op := Op.buildSlice 23 2 #[(0, .tmp 7), (1, .tmp 8)], type := _, pos := _, after := _, guard := _ }) rfl (fun K hK => ?_) AllReadyH.nil
    go_simp
    refine hK.out _ _ (HS.out _ ((Below.refl _ _).drew.alloc (Nat.le_refl _) _)).1 (fun _ => ?_)
    clear hK K
    try simp only [Act.put, List.setIfInBounds_toArray, List.set_cons_zero, List.set_cons_succ]
    refine wpAnyH_ready (rs := [3]) (by kernel_rfl) (by simp) ?_
    refine AllReadyH.cons (o := { dst := some 10, op := Op.call { callee := .value (.func 14), args := #[.tmp 9], argTypes := _ }, type := _, pos := _, after := _, guard := _ }) rfl (fun K hK => ?_) AllReadyH.nil
    go_simp
    refine (HFe.out w1.drew (HS.out _ (Below.refl _ _).drew).2).mono ?_
    rintro e w5 ⟨rfl, hb5⟩
    have p1 : Below w1.heap.size w1 w5 := (((Below.refl w1.heap.size w1).drew).alloc (Nat.le_refl _) _).trans (hb5.mono (by simp))
    refine hK.out _ _ (HS.out _ p1).1 (fun _ => ?_)
    clear hK K hb5
    try simp only [Act.put, List.setIfInBounds_toArray, List.set_cons_zero, List.set_cons_succ]
    refine wpAnyH_take (i := 4) (oi := { dst := some 11, op := Op.unOp .not 4 (.tmp 10), type := _, pos := _, after := _, guard := _ }) (v := .bool true) rfl (by kernel_rfl) (by kernel_rfl) (by kernel_rfl) (fun _ _ _ h => h) (Or.inl ⟨by rfl, ?_⟩) (HS.out _ p1).1 ?_
    · intro w' hs
      obtain ⟨c0, c1, c2, c3, c4, c5⟩ := hs
      go_simp
    try simp only [Act.put, List.setIfInBounds_toArray, List.set_cons_zero, List.set_cons_succ]
    refine wpAnyH_take (i := 5) (oi := { dst := some 12, op := Op.move (.tmp 11), type := _, pos := _, after := _, guard := _ }) (v := .bool true) rfl (by kernel_rfl) (by kernel_rfl) (by kernel_rfl) (fun _ _ _ h => h) (Or.inl ⟨by rfl, ?_⟩) (HS.out _ p1).1 ?_
    · intro w' hs
      obtain ⟨c0, c1, c2, c3, c4, c5⟩ := hs
      go_simp
    try simp only [Act.put, List.setIfInBounds_toArray, List.set_cons_zero, List.set_cons_succ]
    refine wpAnyH_take (i := 6) (oi := { dst := some 13, op := Op.load 25 (.tmp 2), type := _, pos := _, after := _, guard := _ }) (v := undef) rfl (by kernel_rfl) (by kernel_rfl) (by kernel_rfl) (fun _ _ _ h => h) (Or.inr ⟨by rfl, rfl⟩) (HS.out _ p1).1 ?_
    try simp only [Act.put, List.setIfInBounds_toArray, List.set_cons_zero, List.set_cons_succ]
    refine wpAnyH_take (i := 7) (oi := { dst := some 14, op := Op.load 25 (.tmp 3), type := _, pos := _, after := _, guard := _ }) (v := undef) rfl (by kernel_rfl) (by kernel_rfl) (by kernel_rfl) (fun _ _ _ h => h) (Or.inr ⟨by rfl, rfl⟩) (HS.out _ p1).1 ?_
    try simp only [Act.put, List.setIfInBounds_toArray, List.set_cons_zero, List.set_cons_succ]
    refine wpAnyH_take (i := 8) (oi := { dst := some 15, op := Op.call { callee := .value (.func 17), args := #[.tmp 13, .tmp 14], argTypes := _ }, type := _, pos := _, after := _, guard := _ }) (v := undef) rfl (by kernel_rfl) (by kernel_rfl) (by kernel_rfl) (fun _ _ _ h => h) (Or.inr ⟨by rfl, rfl⟩) (HS.out _ p1).1 ?_
    try simp only [Act.put, List.setIfInBounds_toArray, List.set_cons_zero, List.set_cons_succ]
    refine wpAnyH_take (i := 9) (oi := { dst := some 16, op := Op.load 25 (.tmp 2), type := _, pos := _, after := _, guard := _ }) (v := undef) rfl (by kernel_rfl) (by kernel_rfl) (by kernel_rfl) (fun _ _ _ h => h) (Or.inr ⟨by rfl, rfl⟩) (HS.out _ p1).1 ?_
    try simp only [Act.put, List.setIfInBounds_toArray, List.set_cons_zero, List.set_cons_succ]
    refine wpAnyH_take (i := 10) (oi := { dst := some 17, op := Op.load 25 (.tmp 3), type := _, pos := _, after := _, guard := _ }) (v := undef) rfl (by kernel_rfl) (by kernel_rfl) (by kernel_rfl) (fun _ _ _ h => h) (Or.inr ⟨by rfl, rfl⟩) (HS.out _ p1).1 ?_
    try simp only [Act.put, List.setIfInBounds_toArray, List.set_cons_zero, List.set_cons_succ]
    refine wpAnyH_take (i := 11) (oi := { dst := some 18, op := Op.call { callee := .value (.func 18), args := #[.tmp 16, .tmp 17], argTypes := _ }, type := _, pos := _, after := _, guard := _ }) (v := undef) rfl (by kernel_rfl) (by kernel_rfl) (by kernel_rfl) (fun _ _ _ h => h) (Or.inr ⟨by rfl, rfl⟩) (HS.out _ p1).1 ?_
    try simp only [Act.put, List.setIfInBounds_toArray, List.set_cons_zero, List.set_cons_succ]
    refine wpAnyH_take (i := 12) (oi := { dst := some 19, op := Op.binOp .eql 4 (.tmp 15) (.tmp 18) 4, type := _, pos := _, after := _, guard := _ }) (v := undef) rfl (by kernel_rfl) (by kernel_rfl) (by kernel_rfl) (fun _ _ _ h => h) (Or.inr ⟨by rfl, rfl⟩) (HS.out _ p1).1 ?_
    try simp only [Act.put, List.setIfInBounds_toArray, List.set_cons_zero, List.set_cons_succ]
    refine wpAnyH_take (i := 13) (oi := { dst := some 20, op := Op.pick (.tmp 12) (.const (.bool true)) (.tmp 19), type := _, pos := _, after := _, guard := _ }) (v := .bool true) rfl (by kernel_rfl) (by kernel_rfl) (by kernel_rfl) (fun _ _ _ h => h) (Or.inl ⟨by rfl, ?_⟩) (HS.out _ p1).1 ?_
    · intro w' hs
      obtain ⟨c0, c1, c2, c3, c4, c5⟩ := hs
      go_simp
    try simp only [Act.put, List.setIfInBounds_toArray, List.set_cons_zero, List.set_cons_succ]
    refine wpAnyH_take (i := 14) (oi := { dst := some 4, op := Op.assign (.tmp 20), type := _, pos := _, after := _, guard := _ }) (v := .bool true) rfl (by kernel_rfl) (by kernel_rfl) (by kernel_rfl) (fun _ _ _ h => h) (Or.inl ⟨by rfl, ?_⟩) (HS.out _ p1).1 ?_
    · intro w' hs
      obtain ⟨c0, c1, c2, c3, c4, c5⟩ := hs
      go_simp
    try simp only [Act.put, List.setIfInBounds_toArray, List.set_cons_zero, List.set_cons_succ]
    refine wpAnyH_done (by kernel_rfl) ?_ _
    go_wp2
    go_ret
    exact ⟨rfl, (HS.out _ p1).2⟩
  · cases q
    · go_enter Tryd.func4, Tryd.ntmps4
      go_wp2_with fail
      refine (HAw.out _ HW0.out).mono ?_
      rintro e w1 ⟨rfl, hb⟩
      have HB1 := Lib.hid (HFx.out _ _ HB0.out hb)
      obtain ⟨⟨x0, x1, x2, y0, y1, y2, lX, lY⟩, hw⟩ := HAf.out _ HB1.out
      have HW1 := Lib.hid hw
      clear hb hw
      have HS : Hid (∀ W, Below w1.heap.size w1 W → (fun W' => W'.cell? ⟨w.heap.size, 0, none⟩ = some (.int .i64 a.kind) ∧ W'.cell? ⟨w.heap.size, 1, none⟩ = some (.slice an a.names.length cn) ∧ W'.cell? ⟨w.heap.size, 2, none⟩ = some (.slice aa a.args.length ca) ∧ W'.cell? ⟨w.heap.size + 1, 0, none⟩ = some (.int .i64 b.kind) ∧ W'.cell? ⟨w.heap.size + 1, 1, none⟩ = some (.slice bn b.names.length dn) ∧ W'.cell? ⟨w.heap.size + 1, 2, none⟩ = some (.slice bb b.args.length db)) W ∧ Below w.heap.size w W) := Lib.hid (fun W h => by
        obtain ⟨⟨g0, g1, g2, g3, g4, g5, g6, g7⟩, g8⟩ := HAf.out W (HFx.out _ _ HB1.out h)
        exact ⟨⟨g0, g1, g2, g3, g4, g5⟩, g8⟩)
      have HFe := Lib.hid (fun (W : World) (h : Below w.heap.size w W) => fews_any [a, b] _ _ (row2_at (Has.new W 25 [.int .i64 a.kind, .slice an a.names.length cn, .slice aa a.args.length ca, .int .i64 b.kind, .slice bn b.names.length dn, .slice bb b.args.length db]) (HTa.out _ (h.alloc h.size _)) (HTb.out _ (h.alloc h.size _))) (by simp; exact ⟨oka, okb⟩) (by simp))
      rw [hfw] at HFe
      clear hfw
      go_wp2
      refine wp_region_held_drew (S := fun W' => W'.cell? ⟨w.heap.size, 0, none⟩ = some (.int .i64 a.kind) ∧ W'.cell? ⟨w.heap.size, 1, none⟩ = some (.slice an a.names.length cn) ∧ W'.cell? ⟨w.heap.size, 2, none⟩ = some (.slice aa a.args.length ca) ∧ W'.cell? ⟨w.heap.size + 1, 0, none⟩ = some (.int .i64 b.kind) ∧ W'.cell? ⟨w.heap.size + 1, 1, none⟩ = some (.slice bn b.names.length dn) ∧ W'.cell? ⟨w.heap.size + 1, 2, none⟩ = some (.slice bb b.args.length db)) (by kernel_rfl) (HS.out _ (Below.refl _ _).drew).1 (fun _ => ?_)
      refine wpAnyH_take (i := 0) (oi := { dst := some 7, op := Op.load 25 (.tmp 2), type := _, pos := _, after := _, guard := _ }) (v := .agg #[.int .i64 a.kind, .slice an a.names.length cn, .slice aa a.args.length ca]) rfl (by kernel_rfl) (by kernel_rfl) (by kernel_rfl) (fun _ _ _ h => h) (Or.inl ⟨by rfl, ?_⟩) (HS.out _ (Below.refl _ _).drew).1 ?_
      · intro w' hs
        obtain ⟨c0, c1, c2, c3, c4, c5⟩ := hs
        go_simp
      try simp only [Act.put, List.setIfInBounds_toArray, List.set_cons_zero, List.set_cons_succ]
      refine wpAnyH_take (i := 1) (oi := { dst := some 8, op := Op.load 25 (.tmp 3), type := _, pos := _, after := _, guard := _ }) (v := .agg #[.int .i64 b.kind, .slice bn b.names.length dn, .slice bb b.args.length db]) rfl (by kernel_rfl) (by kernel_rfl) (by kernel_rfl) (fun _ _ _ h => h) (Or.inl ⟨by rfl, ?_⟩) (HS.out _ (Below.refl _ _).drew).1 ?_
      · intro w' hs
        obtain ⟨c0, c1, c2, c3, c4, c5⟩ := hs
        go_simp
      try simp only [Act.put, List.setIfInBounds_toArray, List.set_cons_zero, List.set_cons_succ]
      refine wpAnyH_ready (rs := [2]) (by kernel_rfl) (by simp) ?_
      refine AllReadyH.cons (o := { dst := some 9, op := Op.buildSlice 23 2 #[(0, .tmp 7), (1, .tmp 8)], type := _, pos := _, after := _, guard := _ }) rfl (fun K hK => ?_) AllReadyH.nil
      go_simp
      refine hK.out _ _ (HS.out _ ((Below.refl _ _).drew.alloc (Nat.le_refl _) _)).1 (fun _ => ?_)
      clear hK K
      try simp only [Act.put, List.setIfInBounds_toArray, List.set_cons_zero, List.set_cons_succ]
      refine wpAnyH_ready (rs := [3]) (by kernel_rfl) (by simp) ?_
      refine AllReadyH.cons (o := { dst := some 10, op := Op.call { callee := .value (.func 14), args := #[.tmp 9], argTypes := _ }, type := _, pos := _, after := _, guard := _ }) rfl (fun K hK => ?_) AllReadyH.nil
      go_simp
      refine (HFe.out w1.drew (HS.out _ (Below.refl _ _).drew).2).mono ?_
      rintro e w5 ⟨rfl, hb5⟩
      have p1 : Below w1.heap.size w1 w5 := (((Below.refl w1.heap.size w1).drew).alloc (Nat.le_refl _) _).trans (hb5.mono (by simp))
      refine hK.out _ _ (HS.out _ p1).1 (fun _ => ?_)
      clear hK K hb5
      try simp only [Act.put, List.setIfInBounds_toArray, List.set_cons_zero, List.set_cons_succ]
      refine wpAnyH_take (i := 4) (oi := { dst := some 11, op := Op.unOp .not 4 (.tmp 10), type := _, pos := _, after := _, guard := _ }) (v := .bool false) rfl (by kernel_rfl) (by kernel_rfl) (by kernel_rfl) (fun _ _ _ h => h) (Or.inl ⟨by rfl, ?_⟩) (HS.out _ p1).1 ?_
      · intro w' hs
        obtain ⟨c0, c1, c2, c3, c4, c5⟩ := hs
        go_simp
      try simp only [Act.put, List.setIfInBounds_toArray, List.set_cons_zero, List.set_cons_succ]
      refine wpAnyH_take (i := 5) (oi := { dst := some 12, op := Op.move (.tmp 11), type := _, pos := _, after := _, guard := _ }) (v := .bool false) rfl (by kernel_rfl) (by kernel_rfl) (by kernel_rfl) (fun _ _ _ h => h) (Or.inl ⟨by rfl, ?_⟩) (HS.out _ p1).1 ?_
      · intro w' hs
        obtain ⟨c0, c1, c2, c3, c4, c5⟩ := hs
        go_simp
      try simp only [Act.put, List.setIfInBounds_toArray, List.set_cons_zero, List.set_cons_succ]
      refine wpAnyH_take (i := 6) (oi := { dst := some 13, op := Op.load 25 (.tmp 2), type := _, pos := _, after := _, guard := _ }) (v := .agg #[.int .i64 a.kind, .slice an a.names.length cn, .slice aa a.args.length ca]) rfl (by kernel_rfl) (by kernel_rfl) (by kernel_rfl) (fun _ _ _ h => h) (Or.inl ⟨by rfl, ?_⟩) (HS.out _ p1).1 ?_
      · intro w' hs
        obtain ⟨c0, c1, c2, c3, c4, c5⟩ := hs
        go_simp
      try simp only [Act.put, List.setIfInBounds_toArray, List.set_cons_zero, List.set_cons_succ]
      refine wpAnyH_take (i := 7) (oi := { dst := some 14, op := Op.load 25 (.tmp 3), type := _, pos := _, after := _, guard := _ }) (v := .agg #[.int .i64 b.kind, .slice bn b.names.length dn, .slice bb b.args.length db]) rfl (by kernel_rfl) (by kernel_rfl) (by kernel_rfl) (fun _ _ _ h => h) (Or.inl ⟨by rfl, ?_⟩) (HS.out _ p1).1 ?_
      · intro w' hs
        obtain ⟨c0, c1, c2, c3, c4, c5⟩ := hs
        go_simp
      try simp only [Act.put, List.setIfInBounds_toArray, List.set_cons_zero, List.set_cons_succ]
      refine wpAnyH_take (i := 9) (oi := { dst := some 16, op := Op.load 25 (.tmp 2), type := _, pos := _, after := _, guard := _ }) (v := .agg #[.int .i64 a.kind, .slice an a.names.length cn, .slice aa a.args.length ca]) rfl (by kernel_rfl) (by kernel_rfl) (by kernel_rfl) (fun _ _ _ h => h) (Or.inl ⟨by rfl, ?_⟩) (HS.out _ p1).1 ?_
      · intro w' hs
        obtain ⟨c0, c1, c2, c3, c4, c5⟩ := hs
        go_simp
      try simp only [Act.put, List.setIfInBounds_toArray, List.set_cons_zero, List.set_cons_succ]
      refine wpAnyH_take (i := 10) (oi := { dst := some 17, op := Op.load 25 (.tmp 3), type := _, pos := _, after := _, guard := _ }) (v := .agg #[.int .i64 b.kind, .slice bn b.names.length dn, .slice bb b.args.length db]) rfl (by kernel_rfl) (by kernel_rfl) (by kernel_rfl) (fun _ _ _ h => h) (Or.inl ⟨by rfl, ?_⟩) (HS.out _ p1).1 ?_
      · intro w' hs
        obtain ⟨c0, c1, c2, c3, c4, c5⟩ := hs
        go_simp
      try simp only [Act.put, List.setIfInBounds_toArray, List.set_cons_zero, List.set_cons_succ]
      refine wpAnyH_ready (rs := [8]) (by kernel_rfl) (by simp) ?_
      refine AllReadyH.cons (o := { dst := some 15, op := Op.call { callee := .value (.func 17), args := #[.tmp 13, .tmp 14], argTypes := _ }, type := _, pos := _, after := _, guard := _ }) rfl (fun K hK => ?_) AllReadyH.nil
      go_simp
      refine (HP.out _ (HS.out _ p1).2).mono ?_
      rintro e w6 ⟨rfl, hb6⟩
      have p2 := p1.trans (hb6.mono p1.size)
      refine hK.out _ _ (HS.out _ p2).1 (fun _ => ?_)
      clear hK K hb6
      try simp only [Act.put, List.setIfInBounds_toArray, List.set_cons_zero, List.set_cons_succ]
      refine wpAnyH_ready (rs := [11]) (by kernel_rfl) (by simp) ?_
      refine AllReadyH.cons (o := { dst := some 18, op := Op.call { callee := .value (.func 18), args := #[.tmp 16, .tmp 17], argTypes := _ }, type := _, pos := _, after := _, guard := _ }) rfl (fun K hK => ?_) AllReadyH.nil
      go_simp
      refine (HQ.out _ (HS.out _ p2).2).mono ?_
      rintro e w7 ⟨rfl, hb7⟩
      have p3 := p2.trans (hb7.mono p2.size)
      refine hK.out _ _ (HS.out _ p3).1 (fun _ => ?_)
      clear hK K hb7
      try simp only [Act.put, List.setIfInBounds_toArray, List.set_cons_zero, List.set_cons_succ]
      refine wpAnyH_take (i := 12) (oi := { dst := some 19, op := Op.binOp .eql 4 (.tmp 15) (.tmp 18) 4, type := _, pos := _, after := _, guard := _ }) (v := .bool true) rfl (by kernel_rfl) (by kernel_rfl) (by kernel_rfl) (fun _ _ _ h => h) (Or.inl ⟨by rfl, ?_⟩) (HS.out _ p3).1 ?_
      · intro w' hs
        obtain ⟨c0, c1, c2, c3, c4, c5⟩ := hs
        go_simp
      try simp only [Act.put, List.setIfInBounds_toArray, List.set_cons_zero, List.set_cons_succ]
      refine wpAnyH_take (i := 13) (oi := { dst := some 20, op := Op.pick (.tmp 12) (.const (.bool true)) (.tmp 19), type := _, pos := _, after := _, guard := _ }) (v := .bool true) rfl (by kernel_rfl) (by kernel_rfl) (by kernel_rfl) (fun _ _ _ h => h) (Or.inl ⟨by rfl, ?_⟩) (HS.out _ p3).1 ?_
      · intro w' hs
        obtain ⟨c0, c1, c2, c3, c4, c5⟩ := hs
        go_simp
      try simp only [Act.put, List.setIfInBounds_toArray, List.set_cons_zero, List.set_cons_succ]
      refine wpAnyH_take (i := 14) (oi := { dst := some 4, op := Op.assign (.tmp 20), type := _, pos := _, after := _, guard := _ }) (v := .bool true) rfl (by kernel_rfl) (by kernel_rfl) (by kernel_rfl) (fun _ _ _ h => h) (Or.inl ⟨by rfl, ?_⟩) (HS.out _ p3).1 ?_
      · intro w' hs
        obtain ⟨c0, c1, c2, c3, c4, c5⟩ := hs
        go_simp
      try simp only [Act.put, List.setIfInBounds_toArray, List.set_cons_zero, List.set_cons_succ]
      refine wpAnyH_done (by kernel_rfl) ?_ _
      go_wp2
      go_ret
      exact ⟨rfl, (HS.out _ p3).2⟩
    · go_enter Tryd.func4, Tryd.ntmps4
      go_wp2_with fail
      refine (HAw.out _ HW0.out).mono ?_
      rintro e w1 ⟨rfl, hb⟩
      have HB1 := Lib.hid (HFx.out _ _ HB0.out hb)
      obtain ⟨⟨x0, x1, x2, y0, y1, y2, lX, lY⟩, hw⟩ := HAf.out _ HB1.out
      have HW1 := Lib.hid hw
      clear hb hw
      have HS : Hid (∀ W, Below w1.heap.size w1 W → (fun W' => W'.cell? ⟨w.heap.size, 0, none⟩ = some (.int .i64 a.kind) ∧ W'.cell? ⟨w.heap.size, 1, none⟩ = some (.slice an a.names.length cn) ∧ W'.cell? ⟨w.heap.size, 2, none⟩ = some (.slice aa a.args.length ca) ∧ W'.cell? ⟨w.heap.size + 1, 0, none⟩ = some (.int .i64 b.kind) ∧ W'.cell? ⟨w.heap.size + 1, 1, none⟩ = some (.slice bn b.names.length dn) ∧ W'.cell? ⟨w.heap.size + 1, 2, none⟩ = some (.slice bb b.args.length db)) W ∧ Below w.heap.size w W) := Lib.hid (fun W h => by
        obtain ⟨⟨g0, g1, g2, g3, g4, g5, g6, g7⟩, g8⟩ := HAf.out W (HFx.out _ _ HB1.out h)
        exact ⟨⟨g0, g1, g2, g3, g4, g5⟩, g8⟩)
      have HFe := Lib.hid (fun (W : World) (h : Below w.heap.size w W) => fews_any [a, b] _ _ (row2_at (Has.new W 25 [.int .i64 a.kind, .slice an a.names.length cn, .slice aa a.args.length ca, .int .i64 b.kind, .slice bn b.names.length dn, .slice bb b.args.length db]) (HTa.out _ (h.alloc h.size _)) (HTb.out _ (h.alloc h.size _))) (by simp; exact ⟨oka, okb⟩) (by simp))
      rw [hfw] at HFe
      clear hfw
      go_wp2
      refine wp_region_held_drew (S := fun W' => W'.cell? ⟨w.heap.size, 0, none⟩ = some (.int .i64 a.kind) ∧ W'.cell? ⟨w.heap.size, 1, none⟩ = some (.slice an a.names.length cn) ∧ W'.cell? ⟨w.heap.size, 2, none⟩ = some (.slice aa a.args.length ca) ∧ W'.cell? ⟨w.heap.size + 1, 0, none⟩ = some (.int .i64 b.kind) ∧ W'.cell? ⟨w.heap.size + 1, 1, none⟩ = some (.slice bn b.names.length dn) ∧ W'.cell? ⟨w.heap.size + 1, 2, none⟩ = some (.slice bb b.args.length db)) (by kernel_rfl) (HS.out _ (Below.refl _ _).drew).1 (fun _ => ?_)
      refine wpAnyH_take (i := 0) (oi := { dst := some 7, op := Op.load 25 (.tmp 2), type := _, pos := _, after := _, guard := _ }) (v := .agg #[.int .i64 a.kind, .slice an a.names.length cn, .slice aa a.args.length ca]) rfl (by kernel_rfl) (by kernel_rfl) (by kernel_rfl) (fun _ _ _ h => h) (Or.inl ⟨by rfl, ?_⟩) (HS.out _ (Below.refl _ _).drew).1 ?_
      · intro w' hs
        obtain ⟨c0, c1, c2, c3, c4, c5⟩ := hs
        go_simp
      try simp only [Act.put, List.setIfInBounds_toArray, List.set_cons_zero, List.set_cons_succ]
      refine wpAnyH_take (i := 1) (oi := { dst := some 8, op := Op.load 25 (.tmp 3), type := _, pos := _, after := _, guard := _ }) (v := .agg #[.int .i64 b.kind, .slice bn b.names.length dn, .slice bb b.args.length db]) rfl (by kernel_rfl) (by kernel_rfl) (by kernel_rfl) (fun _ _ _ h => h) (Or.inl ⟨by rfl, ?_⟩) (HS.out _ (Below.refl _ _).drew).1 ?_
      · intro w' hs
        obtain ⟨c0, c1, c2, c3, c4, c5⟩ := hs
        go_simp
      try simp only [Act.put, List.setIfInBounds_toArray, List.set_cons_zero, List.set_cons_succ]
      refine wpAnyH_ready (rs := [2]) (by kernel_rfl) (by simp) ?_
      refine AllReadyH.cons (o := { dst := some 9, op := Op.buildSlice 23 2 #[(0, .tmp 7), (1, .tmp 8)], type := _, pos := _, after := _, guard := _ }) rfl (fun K hK => ?_) AllReadyH.nil
      go_simp
      refine hK.out _ _ (HS.out _ ((Below.refl _ _).drew.alloc (Nat.le_refl _) _)).1 (fun _ => ?_)
      clear hK K
      try simp only [Act.put, List.setIfInBounds_toArray, List.set_cons_zero, List.set_cons_succ]
      refine wpAnyH_ready (rs := [3]) (by kernel_rfl) (by simp) ?_
      refine AllReadyH.cons (o := { dst := some 10, op := Op.call { callee := .value (.func 14), args := #[.tmp 9], argTypes := _ }, type := _, pos := _, after := _, guard := _ }) rfl (fun K hK => ?_) AllReadyH.nil
      go_simp
      refine (HFe.out w1.drew (HS.out _ (Below.refl _ _).drew).2).mono ?_
      rintro e w5 ⟨rfl, hb5⟩
      have p1 : Below w1.heap.size w1 w5 := (((Below.refl w1.heap.size w1).drew).alloc (Nat.le_refl _) _).trans (hb5.mono (by simp))
      refine hK.out _ _ (HS.out _ p1).1 (fun _ => ?_)
      clear hK K hb5
      try simp only [Act.put, List.setIfInBounds_toArray, List.set_cons_zero, List.set_cons_succ]
      refine wpAnyH_take (i := 4) (oi := { dst := some 11, op := Op.unOp .not 4 (.tmp 10), type := _, pos := _, after := _, guard := _ }) (v := .bool false) rfl (by kernel_rfl) (by kernel_rfl) (by kernel_rfl) (fun _ _ _ h => h) (Or.inl ⟨by rfl, ?_⟩) (HS.out _ p1).1 ?_
      · intro w' hs
        obtain ⟨c0, c1, c2, c3, c4, c5⟩ := hs
        go_simp
      try simp only [Act.put, List.setIfInBounds_toArray, List.set_cons_zero, List.set_cons_succ]
      refine wpAnyH_take (i := 5) (oi := { dst := some 12, op := Op.move (.tmp 11), type := _, pos := _, after := _, guard := _ }) (v := .bool false) rfl (by kernel_rfl) (by kernel_rfl) (by kernel_rfl) (fun _ _ _ h => h) (Or.inl ⟨by rfl, ?_⟩) (HS.out _ p1).1 ?_
      · intro w' hs
        obtain ⟨c0, c1, c2, c3, c4, c5⟩ := hs
        go_simp
      try simp only [Act.put, List.setIfInBounds_toArray, List.set_cons_zero, List.set_cons_succ]
      refine wpAnyH_take (i := 6) (oi := { dst := some 13, op := Op.load 25 (.tmp 2), type := _, pos := _, after := _, guard := _ }) (v := .agg #[.int .i64 a.kind, .slice an a.names.length cn, .slice aa a.args.length ca]) rfl (by kernel_rfl) (by kernel_rfl) (by kernel_rfl) (fun _ _ _ h => h) (Or.inl ⟨by rfl, ?_⟩) (HS.out _ p1).1 ?_
      · intro w' hs
        obtain ⟨c0, c1, c2, c3, c4, c5⟩ := hs
        go_simp
      try simp only [Act.put, List.setIfInBounds_toArray, List.set_cons_zero, List.set_cons_succ]
      refine wpAnyH_take (i := 7) (oi := { dst := some 14, op := Op.load 25 (.tmp 3), type := _, pos := _, after := _, guard := _ }) (v := .agg #[.int .i64 b.kind, .slice bn b.names.length dn, .slice bb b.args.length db]) rfl (by kernel_rfl) (by kernel_rfl) (by kernel_rfl) (fun _ _ _ h => h) (Or.inl ⟨by rfl, ?_⟩) (HS.out _ p1).1 ?_
      · intro w' hs
        obtain ⟨c0, c1, c2, c3, c4, c5⟩ := hs
        go_simp
      try simp only [Act.put, List.setIfInBounds_toArray, List.set_cons_zero, List.set_cons_succ]
      refine wpAnyH_take (i := 9) (oi := { dst := some 16, op := Op.load 25 (.tmp 2), type := _, pos := _, after := _, guard := _ }) (v := .agg #[.int .i64 a.kind, .slice an a.names.length cn, .slice aa a.args.length ca]) rfl (by kernel_rfl) (by kernel_rfl) (by kernel_rfl) (fun _ _ _ h => h) (Or.inl ⟨by rfl, ?_⟩) (HS.out _ p1).1 ?_
      · intro w' hs
        obtain ⟨c0, c1, c2, c3, c4, c5⟩ := hs
        go_simp
      try simp only [Act.put, List.setIfInBounds_toArray, List.set_cons_zero, List.set_cons_succ]
      refine wpAnyH_take (i := 10) (oi := { dst := some 17, op := Op.load 25 (.tmp 3), type := _, pos := _, after := _, guard := _ }) (v := .agg #[.int .i64 b.kind, .slice bn b.names.length dn, .slice bb b.args.length db]) rfl (by kernel_rfl) (by kernel_rfl) (by kernel_rfl) (fun _ _ _ h => h) (Or.inl ⟨by rfl, ?_⟩) (HS.out _ p1).1 ?_
      · intro w' hs
        obtain ⟨c0, c1, c2, c3, c4, c5⟩ := hs
        go_simp
      try simp only [Act.put, List.setIfInBounds_toArray, List.set_cons_zero, List.set_cons_succ]
      refine wpAnyH_ready (rs := [8]) (by kernel_rfl) (by simp) ?_
      refine AllReadyH.cons (o := { dst := some 15, op := Op.call { callee := .value (.func 17), args := #[.tmp 13, .tmp 14], argTypes := _ }, type := _, pos := _, after := _, guard := _ }) rfl (fun K hK => ?_) AllReadyH.nil
      go_simp
      refine (HP.out _ (HS.out _ p1).2).mono ?_
      rintro e w6 ⟨rfl, hb6⟩
      have p2 := p1.trans (hb6.mono p1.size)
      refine hK.out _ _ (HS.out _ p2).1 (fun _ => ?_)
      clear hK K hb6
      try simp only [Act.put, List.setIfInBounds_toArray, List.set_cons_zero, List.set_cons_succ]
      refine wpAnyH_ready (rs := [11]) (by kernel_rfl) (by simp) ?_
      refine AllReadyH.cons (o := { dst := some 18, op := Op.call { callee := .value (.func 18), args := #[.tmp 16, .tmp 17], argTypes := _ }, type := _, pos := _, after := _, guard := _ }) rfl (fun K hK => ?_) AllReadyH.nil
      go_simp
      refine (HQ.out _ (HS.out _ p2).2).mono ?_
      rintro e w7 ⟨rfl, hb7⟩
      have p3 := p2.trans (hb7.mono p2.size)
      refine hK.out _ _ (HS.out _ p3).1 (fun _ => ?_)
      clear hK K hb7
      try simp only [Act.put, List.setIfInBounds_toArray, List.set_cons_zero, List.set_cons_succ]
      refine wpAnyH_take (i := 12) (oi := { dst := some 19, op := Op.binOp .eql 4 (.tmp 15) (.tmp 18) 4, type := _, pos := _, after := _, guard := _ }) (v := .bool true) rfl (by kernel_rfl) (by kernel_rfl) (by kernel_rfl) (fun _ _ _ h => h) (Or.inl ⟨by rfl, ?_⟩) (HS.out _ p3).1 ?_
      · intro w' hs
        obtain ⟨c0, c1, c2, c3, c4, c5⟩ := hs
        go_simp
      try simp only [Act.put, List.setIfInBounds_toArray, List.set_cons_zero, List.set_cons_succ]
      refine wpAnyH_take (i := 13) (oi := { dst := some 20, op := Op.pick (.tmp 12) (.const (.bool true)) (.tmp 19), type := _, pos := _, after := _, guard := _ }) (v := .bool true) rfl (by kernel_rfl) (by kernel_rfl) (by kernel_rfl) (fun _ _ _ h => h) (Or.inl ⟨by rfl, ?_⟩) (HS.out _ p3).1 ?_
      · intro w' hs
        obtain ⟨c0, c1, c2, c3, c4, c5⟩ := hs
        go_simp
      try simp only [Act.put, List.setIfInBounds_toArray, List.set_cons_zero, List.set_cons_succ]
      refine wpAnyH_take (i := 14) (oi := { dst := some 4, op := Op.assign (.tmp 20), type := _, pos := _, after := _, guard := _ }) (v := .bool true) rfl (by kernel_rfl) (by kernel_rfl) (by kernel_rfl) (fun _ _ _ h => h) (Or.inl ⟨by rfl, ?_⟩) (HS.out _ p3).1 ?_
      · intro w' hs
        obtain ⟨c0, c1, c2, c3, c4, c5⟩ := hs
        go_simp
      try simp only [Act.put, List.setIfInBounds_toArray, List.set_cons_zero, List.set_cons_succ]
      refine wpAnyH_done (by kernel_rfl) ?_ _
      go_wp2
      go_ret
      exact ⟨rfl, (HS.out _ p3).2⟩
end TyD
end Go.Proofs.YtjddjiggelpdnaaDoor
