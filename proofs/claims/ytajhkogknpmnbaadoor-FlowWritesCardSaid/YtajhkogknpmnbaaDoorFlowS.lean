/- FlowPosts. -/
import Derived.Test.YtajhkogknpmnbaaDoorFlowR
import Derived.Deep.RegionHeld3
import Derived.Test.YtajhkogknpmnbaaDoorTables
import Derived.Test.YtajhkogknpmnbaaDoorRows
namespace Go.Proofs.YtajhkogknpmnbaaDoor
open Go.RowKit ObjM
namespace FlowD
open FlowM InstrM InstrD LabelD

set_option maxRecDepth 100000 in
set_option maxHeartbeats 16000000 in
theorem flowPosts_u (p : PrV) (w : World) (hW : p.wn ≤ 1000000 → ∃ ws, WordsAt w p ws) (hT : Tabs w) (hBr : Bru w) (hgb : 0 < w.heap.size) :
    Calls Tryd.prog 4 #[p.agg] w fun e w' => e = .returned (.bool true) ∧ Below w.heap.size w w' := by
  obtain ⟨hx, hb⟩ := pr_box w p
  have HTB : Hid (∀ W, Below w.heap.size w W → Tabs W ∧ Bru W ∧ 0 < W.heap.size) := Lib.hid fun W hW => ⟨hT.below hW, fun j hj => (hW.cell (p := ⟨_, j, none⟩) hgb).trans (hBr j hj), Nat.lt_of_lt_of_le hgb hW.size⟩
  have HFe := Lib.hid (fun W => few_any p W)
  have HAw := Lib.hid (awake_any _ (HTB.out _ hb).1 (HTB.out _ hb).2.1 (HTB.out _ hb).2.2)
  clear hT hBr hgb
  have HWs := Lib.hid hW
  clear hW
  obtain ⟨a0, n0, c0, rg, wa, wn, wk, a3, n3, c3, a4, n4, c4, a5, n5, c5⟩ := p
  simp only [PrV.cells] at hx hb HAw
  have HX : Hid (∀ W, Below (w.heap.size + 1) (w.alloc (.cells #[.slice a0 n0 c0, .int .i64 rg, .slice wa wn wk, .slice a3 n3 c3, .slice a4 n4 c4, .slice a5 n5 c5] 28)) W → (fun W' => W'.cell? ⟨w.heap.size, 0, none⟩ = some (.slice a0 n0 c0) ∧ W'.cell? ⟨w.heap.size, 1, none⟩ = some (.int .i64 rg) ∧ W'.cell? ⟨w.heap.size, 2, none⟩ = some (.slice wa wn wk) ∧ W'.cell? ⟨w.heap.size, 3, none⟩ = some (.slice a3 n3 c3) ∧ W'.cell? ⟨w.heap.size, 4, none⟩ = some (.slice a4 n4 c4) ∧ W'.cell? ⟨w.heap.size, 5, none⟩ = some (.slice a5 n5 c5)) W ∧ w.heap.size < W.heap.size ∧ Below w.heap.size w W) := Lib.hid (fun W hW => by
    have g := hx.below hW (by omega)
    exact ⟨⟨g.cell 0, g.cell 1, g.cell 2, g.cell 3, g.cell 4, g.cell 5⟩, g.lt, hb.trans (hW.mono (by omega))⟩)
  have hsz0 : (w.alloc (.cells #[.slice a0 n0 c0, .int .i64 rg, .slice wa wn wk, .slice a3 n3 c3, .slice a4 n4 c4, .slice a5 n5 c5] 28)).heap.size = w.heap.size + 1 := by simp
  simp only [PrV.agg] at HFe ⊢
  have HS0 := Lib.hid hsz0
  clear hx hb hsz0
  by_cases hfw : wn ≤ 40
  · obtain ⟨ws, hw⟩ := HWs.out (by simp only; omega)
    obtain rfl : wn = ws.length := hw.len
    have h64 : ws.length ≤ 64 := by omega
    have HP := Lib.hid (fun (W : World) (hW : Below w.heap.size w W) => posts_any _ ws W (hw.below hW) (HTB.out _ hW).1 (HTB.out _ hW).2.1 (HTB.out _ hW).2.2 h64)
    have HQ := Lib.hid (fun (W : World) (hW : Below w.heap.size w W) => refPosts_any _ ws W (hw.below hW) h64)
    simp only [PrV.agg] at HP HQ
    rw [decide_eq_true hfw] at HFe
    have hw64 := h64
    clear HWs hw
    go_enter Tryd.func4, Tryd.ntmps4
    go_wp2_with fail
    refine HAw.out.mono ?_
    rintro e w1 ⟨rfl, hb1⟩
    rw [HS0.out] at hb1
    have HB1 := Lib.hid hb1
    have hsz1 : w.heap.size + 1 ≤ w1.heap.size := by have := hb1.size; rwa [HS0.out] at this
    obtain ⟨⟨x0, x1, x2, x3, x4, x5⟩, lx, -⟩ := HX.out _ hb1
    have HS : Hid (∀ W, Below w1.heap.size w1 W → (fun W' => W'.cell? ⟨w.heap.size, 0, none⟩ = some (.slice a0 n0 c0) ∧ W'.cell? ⟨w.heap.size, 1, none⟩ = some (.int .i64 rg) ∧ W'.cell? ⟨w.heap.size, 2, none⟩ = some (.slice wa ws.length wk) ∧ W'.cell? ⟨w.heap.size, 3, none⟩ = some (.slice a3 n3 c3) ∧ W'.cell? ⟨w.heap.size, 4, none⟩ = some (.slice a4 n4 c4) ∧ W'.cell? ⟨w.heap.size, 5, none⟩ = some (.slice a5 n5 c5)) W ∧ Below w.heap.size w W) := Lib.hid (fun W h => by
      have h2 := HX.out W (HB1.out.trans (h.mono hsz1))
      exact ⟨h2.1, h2.2.2⟩)
    clear hb1 HAw HX HS0
    go_wp2
    refine wp_region_held_drew (S := fun W' => W'.cell? ⟨w.heap.size, 0, none⟩ = some (.slice a0 n0 c0) ∧ W'.cell? ⟨w.heap.size, 1, none⟩ = some (.int .i64 rg) ∧ W'.cell? ⟨w.heap.size, 2, none⟩ = some (.slice wa ws.length wk) ∧ W'.cell? ⟨w.heap.size, 3, none⟩ = some (.slice a3 n3 c3) ∧ W'.cell? ⟨w.heap.size, 4, none⟩ = some (.slice a4 n4 c4) ∧ W'.cell? ⟨w.heap.size, 5, none⟩ = some (.slice a5 n5 c5)) (by kernel_rfl) (HS.out _ (Below.refl _ _).drew).1 (fun _ => ?_)
    refine wpAnyH_take (i := 0) (oi := { dst := some 5, op := Op.load 28 (.tmp 1), type := _, pos := _, after := _, guard := _ }) (v := .agg #[.slice a0 n0 c0, .int .i64 rg, .slice wa ws.length wk, .slice a3 n3 c3, .slice a4 n4 c4, .slice a5 n5 c5]) rfl (by kernel_rfl) (by kernel_rfl) (by kernel_rfl) (fun _ _ _ h => h) (Or.inl ⟨by rfl, ?_⟩) (HS.out _ (Below.refl _ _).drew).1 ?_
    · intro w' hs
      obtain ⟨c0, c1, c2, c3, c4, c5⟩ := hs
      go_simp
    try simp only [Act.put, List.setIfInBounds_toArray, List.set_cons_zero, List.set_cons_succ]
    refine wpAnyH_ready (rs := [1]) (by kernel_rfl) (by simp) ?_
    refine AllReadyH.cons (o := { dst := some 6, op := Op.call { callee := .value (.func 10), args := #[.tmp 5], argTypes := _ }, type := _, pos := _, after := _, guard := _ }) rfl (fun K hK => ?_) AllReadyH.nil
    go_simp
    refine (HFe.out _).mono ?_
    rintro e w5 ⟨rfl, hb5⟩
    have p1 : Below w1.heap.size w1 w5 := ((Below.refl w1.heap.size w1).drew).trans (hb5.mono (by simp))
    refine hK.out _ _ (HS.out _ p1).1 (fun _ => ?_)
    clear hK K hb5
    try simp only [Act.put, List.setIfInBounds_toArray, List.set_cons_zero, List.set_cons_succ]
    refine wpAnyH_take (i := 2) (oi := { dst := some 7, op := Op.unOp .not 4 (.tmp 6), type := _, pos := _, after := _, guard := _ }) (v := .bool false) rfl (by kernel_rfl) (by kernel_rfl) (by kernel_rfl) (fun _ _ _ h => h) (Or.inl ⟨by rfl, ?_⟩) (HS.out _ p1).1 ?_
    · intro w' hs
      obtain ⟨c0, c1, c2, c3, c4, c5⟩ := hs
      go_simp
    try simp only [Act.put, List.setIfInBounds_toArray, List.set_cons_zero, List.set_cons_succ]
    refine wpAnyH_take (i := 3) (oi := { dst := some 8, op := Op.move (.tmp 7), type := _, pos := _, after := _, guard := _ }) (v := .bool false) rfl (by kernel_rfl) (by kernel_rfl) (by kernel_rfl) (fun _ _ _ h => h) (Or.inl ⟨by rfl, ?_⟩) (HS.out _ p1).1 ?_
    · intro w' hs
      obtain ⟨c0, c1, c2, c3, c4, c5⟩ := hs
      go_simp
    try simp only [Act.put, List.setIfInBounds_toArray, List.set_cons_zero, List.set_cons_succ]
    refine wpAnyH_take (i := 4) (oi := { dst := some 9, op := Op.load 28 (.tmp 1), type := _, pos := _, after := _, guard := _ }) (v := .agg #[.slice a0 n0 c0, .int .i64 rg, .slice wa ws.length wk, .slice a3 n3 c3, .slice a4 n4 c4, .slice a5 n5 c5]) rfl (by kernel_rfl) (by kernel_rfl) (by kernel_rfl) (fun _ _ _ h => h) (Or.inl ⟨by rfl, ?_⟩) (HS.out _ p1).1 ?_
    · intro w' hs
      obtain ⟨c0, c1, c2, c3, c4, c5⟩ := hs
      go_simp
    try simp only [Act.put, List.setIfInBounds_toArray, List.set_cons_zero, List.set_cons_succ]
    refine wpAnyH_take (i := 6) (oi := { dst := some 11, op := Op.load 28 (.tmp 1), type := _, pos := _, after := _, guard := _ }) (v := .agg #[.slice a0 n0 c0, .int .i64 rg, .slice wa ws.length wk, .slice a3 n3 c3, .slice a4 n4 c4, .slice a5 n5 c5]) rfl (by kernel_rfl) (by kernel_rfl) (by kernel_rfl) (fun _ _ _ h => h) (Or.inl ⟨by rfl, ?_⟩) (HS.out _ p1).1 ?_
    · intro w' hs
      obtain ⟨c0, c1, c2, c3, c4, c5⟩ := hs
      go_simp
    try simp only [Act.put, List.setIfInBounds_toArray, List.set_cons_zero, List.set_cons_succ]
    refine wpAnyH_ready (rs := [5]) (by kernel_rfl) (by simp) ?_
    refine AllReadyH.cons (o := { dst := some 10, op := Op.call { callee := .value (.func 14), args := #[.tmp 9], argTypes := _ }, type := _, pos := _, after := _, guard := _ }) rfl (fun K hK => ?_) AllReadyH.nil
    go_simp
    refine (HP.out _ (HS.out _ p1).2).mono ?_
    rintro e w6 ⟨Q6, R6, rfl, hQ6, hrow6, hlen6, hsp6, hb6⟩
    have p2 := p1.trans (hb6.mono p1.size)
    have H6 : Hid (R6.length = ws.length ∧ (∀ (n : Nat) (h : n < R6.length), PostSpec (nextW ws) ws.length n R6[n]) ∧ RowAt w6 Q6 R6) := Lib.hid ⟨hlen6, hsp6, hrow6⟩
    clear hQ6 hrow6 hlen6 hsp6 hb6
    refine hK.out _ _ (HS.out _ p2).1 (fun _ => ?_)
    clear hK K
    try simp only [Act.put, List.setIfInBounds_toArray, List.set_cons_zero, List.set_cons_succ]
    refine wpAnyH_ready (rs := [7]) (by kernel_rfl) (by simp) ?_
    refine AllReadyH.cons (o := { dst := some 12, op := Op.call { callee := .value (.func 15), args := #[.tmp 11], argTypes := _ }, type := _, pos := _, after := _, guard := _ }) rfl (fun K hK => ?_) AllReadyH.nil
    go_simp
    refine (HQ.out _ (HS.out _ p2).2).mono ?_
    rintro e w7 ⟨R7, hR7, hri7⟩
    obtain ⟨hlen6, hsp6, hrow6⟩ := H6.out
    obtain ⟨a7, k7, c7, rfl, ho7, hk7, hb7⟩ := hri7.out
    have p3 := p2.trans (hb7.mono p2.size)
    have HSm : Hid (Calls Tryd.prog 11 #[.slice (some ⟨Q6, 0, none⟩) ws.length ws.length, .slice a7 k7 c7] w7 fun e w' => e = .returned (.bool true) ∧ Below w7.heap.size w7 w') := Lib.hid (by
      have he : R6 = R7 := posts_same ⟨hlen6, hsp6⟩ hR7
      have h := same_any (some ⟨Q6, 0, none⟩) a7 ws.length k7 ws.length c7 R6 R7 w7 ⟨hlen6.symm, fun _ => ⟨Q6, rfl, hrow6.below hb7 hrow6.lt⟩⟩ (rowV_of ho7) (by omega)
      rw [decide_eq_true he] at h
      exact h.mono (fun e w' hh => ⟨hh.1, hh.2.toBelow _ (Nat.le_refl _) (by simp)⟩))
    clear H6 hlen6 hsp6 hrow6 hR7 hri7 ho7 hk7 hb7
    refine hK.out _ _ (HS.out _ p3).1 (fun _ => ?_)
    clear hK K
    try simp only [Act.put, List.setIfInBounds_toArray, List.set_cons_zero, List.set_cons_succ]
    refine wpAnyH_ready (rs := [8]) (by kernel_rfl) (by simp) ?_
    refine AllReadyH.cons (o := { dst := some 13, op := Op.call { callee := .value (.func 11), args := #[.tmp 10, .tmp 12], argTypes := _ }, type := _, pos := _, after := _, guard := _ }) rfl (fun K hK => ?_) AllReadyH.nil
    go_simp
    refine HSm.out.mono ?_
    rintro e w8 ⟨rfl, hb8⟩
    have p4 := p3.trans (hb8.mono p3.size)
    refine hK.out _ _ (HS.out _ p4).1 (fun _ => ?_)
    clear hK K
    try simp only [Act.put, List.setIfInBounds_toArray, List.set_cons_zero, List.set_cons_succ]
    refine wpAnyH_take (i := 9) (oi := { dst := some 14, op := Op.pick (.tmp 8) (.const (.bool true)) (.tmp 13), type := _, pos := _, after := _, guard := _ }) (v := .bool true) rfl (by kernel_rfl) (by kernel_rfl) (by kernel_rfl) (fun _ _ _ h => h) (Or.inl ⟨by rfl, ?_⟩) (HS.out _ p4).1 ?_
    · intro w' hs
      obtain ⟨c0, c1, c2, c3, c4, c5⟩ := hs
      go_simp
    try simp only [Act.put, List.setIfInBounds_toArray, List.set_cons_zero, List.set_cons_succ]
    refine wpAnyH_take (i := 10) (oi := { dst := some 2, op := Op.assign (.tmp 14), type := _, pos := _, after := _, guard := _ }) (v := .bool true) rfl (by kernel_rfl) (by kernel_rfl) (by kernel_rfl) (fun _ _ _ h => h) (Or.inl ⟨by rfl, ?_⟩) (HS.out _ p4).1 ?_
    · intro w' hs
      obtain ⟨c0, c1, c2, c3, c4, c5⟩ := hs
      go_simp
    try simp only [Act.put, List.setIfInBounds_toArray, List.set_cons_zero, List.set_cons_succ]
    refine wpAnyH_done (by kernel_rfl) ?_ _
    go_wp2
    go_ret
    exact ⟨rfl, (HS.out _ p4).2⟩
  · rw [decide_eq_false hfw] at HFe
    clear HWs
    go_enter Tryd.func4, Tryd.ntmps4
    go_wp2_with fail
    refine HAw.out.mono ?_
    rintro e w1 ⟨rfl, hb1⟩
    rw [HS0.out] at hb1
    have HB1 := Lib.hid hb1
    have hsz1 : w.heap.size + 1 ≤ w1.heap.size := by have := hb1.size; rwa [HS0.out] at this
    obtain ⟨⟨x0, x1, x2, x3, x4, x5⟩, lx, -⟩ := HX.out _ hb1
    have HS : Hid (∀ W, Below w1.heap.size w1 W → (fun W' => W'.cell? ⟨w.heap.size, 0, none⟩ = some (.slice a0 n0 c0) ∧ W'.cell? ⟨w.heap.size, 1, none⟩ = some (.int .i64 rg) ∧ W'.cell? ⟨w.heap.size, 2, none⟩ = some (.slice wa wn wk) ∧ W'.cell? ⟨w.heap.size, 3, none⟩ = some (.slice a3 n3 c3) ∧ W'.cell? ⟨w.heap.size, 4, none⟩ = some (.slice a4 n4 c4) ∧ W'.cell? ⟨w.heap.size, 5, none⟩ = some (.slice a5 n5 c5)) W ∧ Below w.heap.size w W) := Lib.hid (fun W h => by
      have h2 := HX.out W (HB1.out.trans (h.mono hsz1))
      exact ⟨h2.1, h2.2.2⟩)
    clear hb1 HAw HX HS0
    go_wp2
    refine wp_region_held_drew (S := fun W' => W'.cell? ⟨w.heap.size, 0, none⟩ = some (.slice a0 n0 c0) ∧ W'.cell? ⟨w.heap.size, 1, none⟩ = some (.int .i64 rg) ∧ W'.cell? ⟨w.heap.size, 2, none⟩ = some (.slice wa wn wk) ∧ W'.cell? ⟨w.heap.size, 3, none⟩ = some (.slice a3 n3 c3) ∧ W'.cell? ⟨w.heap.size, 4, none⟩ = some (.slice a4 n4 c4) ∧ W'.cell? ⟨w.heap.size, 5, none⟩ = some (.slice a5 n5 c5)) (by kernel_rfl) (HS.out _ (Below.refl _ _).drew).1 (fun _ => ?_)
    refine wpAnyH_take (i := 0) (oi := { dst := some 5, op := Op.load 28 (.tmp 1), type := _, pos := _, after := _, guard := _ }) (v := .agg #[.slice a0 n0 c0, .int .i64 rg, .slice wa wn wk, .slice a3 n3 c3, .slice a4 n4 c4, .slice a5 n5 c5]) rfl (by kernel_rfl) (by kernel_rfl) (by kernel_rfl) (fun _ _ _ h => h) (Or.inl ⟨by rfl, ?_⟩) (HS.out _ (Below.refl _ _).drew).1 ?_
    · intro w' hs
      obtain ⟨c0, c1, c2, c3, c4, c5⟩ := hs
      go_simp
    try simp only [Act.put, List.setIfInBounds_toArray, List.set_cons_zero, List.set_cons_succ]
    refine wpAnyH_ready (rs := [1]) (by kernel_rfl) (by simp) ?_
    refine AllReadyH.cons (o := { dst := some 6, op := Op.call { callee := .value (.func 10), args := #[.tmp 5], argTypes := _ }, type := _, pos := _, after := _, guard := _ }) rfl (fun K hK => ?_) AllReadyH.nil
    go_simp
    refine (HFe.out _).mono ?_
    rintro e w5 ⟨rfl, hb5⟩
    have p1 : Below w1.heap.size w1 w5 := ((Below.refl w1.heap.size w1).drew).trans (hb5.mono (by simp))
    refine hK.out _ _ (HS.out _ p1).1 (fun _ => ?_)
    clear hK K hb5
    try simp only [Act.put, List.setIfInBounds_toArray, List.set_cons_zero, List.set_cons_succ]
    refine wpAnyH_take (i := 2) (oi := { dst := some 7, op := Op.unOp .not 4 (.tmp 6), type := _, pos := _, after := _, guard := _ }) (v := .bool true) rfl (by kernel_rfl) (by kernel_rfl) (by kernel_rfl) (fun _ _ _ h => h) (Or.inl ⟨by rfl, ?_⟩) (HS.out _ p1).1 ?_
    · intro w' hs
      obtain ⟨c0, c1, c2, c3, c4, c5⟩ := hs
      go_simp
    try simp only [Act.put, List.setIfInBounds_toArray, List.set_cons_zero, List.set_cons_succ]
    refine wpAnyH_take (i := 3) (oi := { dst := some 8, op := Op.move (.tmp 7), type := _, pos := _, after := _, guard := _ }) (v := .bool true) rfl (by kernel_rfl) (by kernel_rfl) (by kernel_rfl) (fun _ _ _ h => h) (Or.inl ⟨by rfl, ?_⟩) (HS.out _ p1).1 ?_
    · intro w' hs
      obtain ⟨c0, c1, c2, c3, c4, c5⟩ := hs
      go_simp
    try simp only [Act.put, List.setIfInBounds_toArray, List.set_cons_zero, List.set_cons_succ]
    refine wpAnyH_take (i := 4) (oi := { dst := some 9, op := Op.load 28 (.tmp 1), type := _, pos := _, after := _, guard := _ }) (v := undef) rfl (by kernel_rfl) (by kernel_rfl) (by kernel_rfl) (fun _ _ _ h => h) (Or.inr ⟨by rfl, rfl⟩) (HS.out _ p1).1 ?_
    try simp only [Act.put, List.setIfInBounds_toArray, List.set_cons_zero, List.set_cons_succ]
    refine wpAnyH_take (i := 5) (oi := { dst := some 10, op := Op.call { callee := .value (.func 14), args := #[.tmp 9], argTypes := _ }, type := _, pos := _, after := _, guard := _ }) (v := undef) rfl (by kernel_rfl) (by kernel_rfl) (by kernel_rfl) (fun _ _ _ h => h) (Or.inr ⟨by rfl, rfl⟩) (HS.out _ p1).1 ?_
    try simp only [Act.put, List.setIfInBounds_toArray, List.set_cons_zero, List.set_cons_succ]
    refine wpAnyH_take (i := 6) (oi := { dst := some 11, op := Op.load 28 (.tmp 1), type := _, pos := _, after := _, guard := _ }) (v := undef) rfl (by kernel_rfl) (by kernel_rfl) (by kernel_rfl) (fun _ _ _ h => h) (Or.inr ⟨by rfl, rfl⟩) (HS.out _ p1).1 ?_
    try simp only [Act.put, List.setIfInBounds_toArray, List.set_cons_zero, List.set_cons_succ]
    refine wpAnyH_take (i := 7) (oi := { dst := some 12, op := Op.call { callee := .value (.func 15), args := #[.tmp 11], argTypes := _ }, type := _, pos := _, after := _, guard := _ }) (v := undef) rfl (by kernel_rfl) (by kernel_rfl) (by kernel_rfl) (fun _ _ _ h => h) (Or.inr ⟨by rfl, rfl⟩) (HS.out _ p1).1 ?_
    try simp only [Act.put, List.setIfInBounds_toArray, List.set_cons_zero, List.set_cons_succ]
    refine wpAnyH_take (i := 8) (oi := { dst := some 13, op := Op.call { callee := .value (.func 11), args := #[.tmp 10, .tmp 12], argTypes := _ }, type := _, pos := _, after := _, guard := _ }) (v := undef) rfl (by kernel_rfl) (by kernel_rfl) (by kernel_rfl) (fun _ _ _ h => h) (Or.inr ⟨by rfl, rfl⟩) (HS.out _ p1).1 ?_
    try simp only [Act.put, List.setIfInBounds_toArray, List.set_cons_zero, List.set_cons_succ]
    refine wpAnyH_take (i := 9) (oi := { dst := some 14, op := Op.pick (.tmp 8) (.const (.bool true)) (.tmp 13), type := _, pos := _, after := _, guard := _ }) (v := .bool true) rfl (by kernel_rfl) (by kernel_rfl) (by kernel_rfl) (fun _ _ _ h => h) (Or.inl ⟨by rfl, ?_⟩) (HS.out _ p1).1 ?_
    · intro w' hs
      obtain ⟨c0, c1, c2, c3, c4, c5⟩ := hs
      go_simp
    try simp only [Act.put, List.setIfInBounds_toArray, List.set_cons_zero, List.set_cons_succ]
    refine wpAnyH_take (i := 10) (oi := { dst := some 2, op := Op.assign (.tmp 14), type := _, pos := _, after := _, guard := _ }) (v := .bool true) rfl (by kernel_rfl) (by kernel_rfl) (by kernel_rfl) (fun _ _ _ h => h) (Or.inl ⟨by rfl, ?_⟩) (HS.out _ p1).1 ?_
    · intro w' hs
      obtain ⟨c0, c1, c2, c3, c4, c5⟩ := hs
      go_simp
    try simp only [Act.put, List.setIfInBounds_toArray, List.set_cons_zero, List.set_cons_succ]
    refine wpAnyH_done (by kernel_rfl) ?_ _
    go_wp2
    go_ret
    exact ⟨rfl, (HS.out _ p1).2⟩
end FlowD
end Go.Proofs.YtajhkogknpmnbaaDoor
namespace Go.Proofs.YtajhkogknpmnbaaDoor
open Go.RowKit ObjM
namespace FlowD
open FlowM InstrM InstrD LabelD

theorem nextV_len (ws : List Nat) (at_ : Int) : (nextV ws at_).length ≤ 2 := by
  unfold nextV
  split
  · simp
  · unfold leadV bothV
    split
    · simp
    split
    · simp
    split
    · split <;> simp
    · simp
set_option maxRecDepth 100000 in
set_option maxHeartbeats 16000000 in
theorem flowNext_u (p : PrV) (at_ : Int) (w : World) (ha : -9223372036854775808 ≤ at_ ∧ at_ ≤ 9223372036854775807) (hW : p.wn ≤ 1000000 → ∃ ws, WordsAt w p ws) (hT : Tabs w) (hBr : Bru w) (hgb : 0 < w.heap.size) :
    Calls Tryd.prog 3 #[p.agg, .int .i64 at_] w fun e w' => e = .returned (.bool true) ∧ Below w.heap.size w w' := by
  obtain ⟨hx, hb⟩ := pr_box w p
  have HTB : Hid (∀ W, Below w.heap.size w W → Tabs W ∧ Bru W ∧ 0 < W.heap.size) := Lib.hid fun W hW => ⟨hT.below hW, fun j hj => (hW.cell (p := ⟨_, j, none⟩) hgb).trans (hBr j hj), Nat.lt_of_lt_of_le hgb hW.size⟩
  have HFe := Lib.hid (fun W => few_any p W)
  have HAw := Lib.hid (awake_any _ (HTB.out _ hb).1 (HTB.out _ hb).2.1 (HTB.out _ hb).2.2)
  clear hT hBr hgb
  have HWs := Lib.hid hW
  clear hW
  obtain ⟨a0, n0, c0, rg, wa, wn, wk, a3, n3, c3, a4, n4, c4, a5, n5, c5⟩ := p
  simp only [PrV.cells] at hx hb HAw
  have HX : Hid (∀ W, Below (w.heap.size + 1) (w.alloc (.cells #[.slice a0 n0 c0, .int .i64 rg, .slice wa wn wk, .slice a3 n3 c3, .slice a4 n4 c4, .slice a5 n5 c5] 28)) W → (fun W' => W'.cell? ⟨w.heap.size, 0, none⟩ = some (.slice a0 n0 c0) ∧ W'.cell? ⟨w.heap.size, 1, none⟩ = some (.int .i64 rg) ∧ W'.cell? ⟨w.heap.size, 2, none⟩ = some (.slice wa wn wk) ∧ W'.cell? ⟨w.heap.size, 3, none⟩ = some (.slice a3 n3 c3) ∧ W'.cell? ⟨w.heap.size, 4, none⟩ = some (.slice a4 n4 c4) ∧ W'.cell? ⟨w.heap.size, 5, none⟩ = some (.slice a5 n5 c5)) W ∧ w.heap.size < W.heap.size ∧ Below w.heap.size w W) := Lib.hid (fun W hW => by
    have g := hx.below hW (by omega)
    exact ⟨⟨g.cell 0, g.cell 1, g.cell 2, g.cell 3, g.cell 4, g.cell 5⟩, g.lt, hb.trans (hW.mono (by omega))⟩)
  have hsz0 : (w.alloc (.cells #[.slice a0 n0 c0, .int .i64 rg, .slice wa wn wk, .slice a3 n3 c3, .slice a4 n4 c4, .slice a5 n5 c5] 28)).heap.size = w.heap.size + 1 := by simp
  simp only [PrV.agg] at HFe ⊢
  have HS0 := Lib.hid hsz0
  clear hx hb hsz0
  by_cases hfw : wn ≤ 40
  · obtain ⟨ws, hw⟩ := HWs.out (by simp only; omega)
    obtain rfl : wn = ws.length := hw.len
    have h64 : ws.length ≤ 64 := by omega
    have HP := Lib.hid (fun (W : World) (hW : Below w.heap.size w W) => next_any _ ws at_ W (hw.below hW) ha (HTB.out _ hW).1)
    have HQ := Lib.hid (fun (W : World) (hW : Below w.heap.size w W) => refNext_any _ ws at_ W (hw.below hW) ha)
    have hl2 : (nextV ws at_).length ≤ 2 := nextV_len ws at_
    generalize nextV ws at_ = R at HP HQ hl2
    simp only [PrV.agg] at HP HQ
    rw [decide_eq_true hfw] at HFe
    have hw64 := h64
    clear HWs hw
    go_enter Tryd.func3, Tryd.ntmps3
    go_wp2_with fail
    refine HAw.out.mono ?_
    rintro e w1 ⟨rfl, hb1⟩
    rw [HS0.out] at hb1
    have HB1 := Lib.hid hb1
    have hsz1 : w.heap.size + 1 ≤ w1.heap.size := by have := hb1.size; rwa [HS0.out] at this
    obtain ⟨⟨x0, x1, x2, x3, x4, x5⟩, lx, -⟩ := HX.out _ hb1
    have HS : Hid (∀ W, Below w1.heap.size w1 W → (fun W' => W'.cell? ⟨w.heap.size, 0, none⟩ = some (.slice a0 n0 c0) ∧ W'.cell? ⟨w.heap.size, 1, none⟩ = some (.int .i64 rg) ∧ W'.cell? ⟨w.heap.size, 2, none⟩ = some (.slice wa ws.length wk) ∧ W'.cell? ⟨w.heap.size, 3, none⟩ = some (.slice a3 n3 c3) ∧ W'.cell? ⟨w.heap.size, 4, none⟩ = some (.slice a4 n4 c4) ∧ W'.cell? ⟨w.heap.size, 5, none⟩ = some (.slice a5 n5 c5)) W ∧ Below w.heap.size w W) := Lib.hid (fun W h => by
      have h2 := HX.out W (HB1.out.trans (h.mono hsz1))
      exact ⟨h2.1, h2.2.2⟩)
    clear hb1 HAw HX HS0
    go_wp2
    refine wp_region_held_drew (S := fun W' => W'.cell? ⟨w.heap.size, 0, none⟩ = some (.slice a0 n0 c0) ∧ W'.cell? ⟨w.heap.size, 1, none⟩ = some (.int .i64 rg) ∧ W'.cell? ⟨w.heap.size, 2, none⟩ = some (.slice wa ws.length wk) ∧ W'.cell? ⟨w.heap.size, 3, none⟩ = some (.slice a3 n3 c3) ∧ W'.cell? ⟨w.heap.size, 4, none⟩ = some (.slice a4 n4 c4) ∧ W'.cell? ⟨w.heap.size, 5, none⟩ = some (.slice a5 n5 c5)) (by kernel_rfl) (HS.out _ (Below.refl _ _).drew).1 (fun _ => ?_)
    refine wpAnyH_take (i := 0) (oi := { dst := some 7, op := Op.load 28 (.tmp 2), type := _, pos := _, after := _, guard := _ }) (v := .agg #[.slice a0 n0 c0, .int .i64 rg, .slice wa ws.length wk, .slice a3 n3 c3, .slice a4 n4 c4, .slice a5 n5 c5]) rfl (by kernel_rfl) (by kernel_rfl) (by kernel_rfl) (fun _ _ _ h => h) (Or.inl ⟨by rfl, ?_⟩) (HS.out _ (Below.refl _ _).drew).1 ?_
    · intro w' hs
      obtain ⟨c0, c1, c2, c3, c4, c5⟩ := hs
      go_simp
    try simp only [Act.put, List.setIfInBounds_toArray, List.set_cons_zero, List.set_cons_succ]
    refine wpAnyH_ready (rs := [1]) (by kernel_rfl) (by simp) ?_
    refine AllReadyH.cons (o := { dst := some 8, op := Op.call { callee := .value (.func 10), args := #[.tmp 7], argTypes := _ }, type := _, pos := _, after := _, guard := _ }) rfl (fun K hK => ?_) AllReadyH.nil
    go_simp
    refine (HFe.out _).mono ?_
    rintro e w5 ⟨rfl, hb5⟩
    have p1 : Below w1.heap.size w1 w5 := ((Below.refl w1.heap.size w1).drew).trans (hb5.mono (by simp))
    refine hK.out _ _ (HS.out _ p1).1 (fun _ => ?_)
    clear hK K hb5
    try simp only [Act.put, List.setIfInBounds_toArray, List.set_cons_zero, List.set_cons_succ]
    refine wpAnyH_take (i := 2) (oi := { dst := some 9, op := Op.unOp .not 4 (.tmp 8), type := _, pos := _, after := _, guard := _ }) (v := .bool false) rfl (by kernel_rfl) (by kernel_rfl) (by kernel_rfl) (fun _ _ _ h => h) (Or.inl ⟨by rfl, ?_⟩) (HS.out _ p1).1 ?_
    · intro w' hs
      obtain ⟨c0, c1, c2, c3, c4, c5⟩ := hs
      go_simp
    try simp only [Act.put, List.setIfInBounds_toArray, List.set_cons_zero, List.set_cons_succ]
    refine wpAnyH_take (i := 3) (oi := { dst := some 10, op := Op.move (.tmp 9), type := _, pos := _, after := _, guard := _ }) (v := .bool false) rfl (by kernel_rfl) (by kernel_rfl) (by kernel_rfl) (fun _ _ _ h => h) (Or.inl ⟨by rfl, ?_⟩) (HS.out _ p1).1 ?_
    · intro w' hs
      obtain ⟨c0, c1, c2, c3, c4, c5⟩ := hs
      go_simp
    try simp only [Act.put, List.setIfInBounds_toArray, List.set_cons_zero, List.set_cons_succ]
    refine wpAnyH_take (i := 4) (oi := { dst := some 11, op := Op.load 28 (.tmp 2), type := _, pos := _, after := _, guard := _ }) (v := .agg #[.slice a0 n0 c0, .int .i64 rg, .slice wa ws.length wk, .slice a3 n3 c3, .slice a4 n4 c4, .slice a5 n5 c5]) rfl (by kernel_rfl) (by kernel_rfl) (by kernel_rfl) (fun _ _ _ h => h) (Or.inl ⟨by rfl, ?_⟩) (HS.out _ p1).1 ?_
    · intro w' hs
      obtain ⟨c0, c1, c2, c3, c4, c5⟩ := hs
      go_simp
    try simp only [Act.put, List.setIfInBounds_toArray, List.set_cons_zero, List.set_cons_succ]
    refine wpAnyH_take (i := 5) (oi := { dst := some 12, op := Op.move (.tmp 1), type := _, pos := _, after := _, guard := _ }) (v := .int .i64 at_) rfl (by kernel_rfl) (by kernel_rfl) (by kernel_rfl) (fun _ _ _ h => h) (Or.inl ⟨by rfl, ?_⟩) (HS.out _ p1).1 ?_
    · intro w' hs
      obtain ⟨c0, c1, c2, c3, c4, c5⟩ := hs
      go_simp
    try simp only [Act.put, List.setIfInBounds_toArray, List.set_cons_zero, List.set_cons_succ]
    refine wpAnyH_take (i := 7) (oi := { dst := some 14, op := Op.load 28 (.tmp 2), type := _, pos := _, after := _, guard := _ }) (v := .agg #[.slice a0 n0 c0, .int .i64 rg, .slice wa ws.length wk, .slice a3 n3 c3, .slice a4 n4 c4, .slice a5 n5 c5]) rfl (by kernel_rfl) (by kernel_rfl) (by kernel_rfl) (fun _ _ _ h => h) (Or.inl ⟨by rfl, ?_⟩) (HS.out _ p1).1 ?_
    · intro w' hs
      obtain ⟨c0, c1, c2, c3, c4, c5⟩ := hs
      go_simp
    try simp only [Act.put, List.setIfInBounds_toArray, List.set_cons_zero, List.set_cons_succ]
    refine wpAnyH_take (i := 8) (oi := { dst := some 15, op := Op.move (.tmp 1), type := _, pos := _, after := _, guard := _ }) (v := .int .i64 at_) rfl (by kernel_rfl) (by kernel_rfl) (by kernel_rfl) (fun _ _ _ h => h) (Or.inl ⟨by rfl, ?_⟩) (HS.out _ p1).1 ?_
    · intro w' hs
      obtain ⟨c0, c1, c2, c3, c4, c5⟩ := hs
      go_simp
    try simp only [Act.put, List.setIfInBounds_toArray, List.set_cons_zero, List.set_cons_succ]
    refine wpAnyH_ready (rs := [6]) (by kernel_rfl) (by simp) ?_
    refine AllReadyH.cons (o := { dst := some 13, op := Op.call { callee := .value (.func 12), args := #[.tmp 11, .tmp 12], argTypes := _ }, type := _, pos := _, after := _, guard := _ }) rfl (fun K hK => ?_) AllReadyH.nil
    go_simp
    refine (HP.out _ (HS.out _ p1).2).mono ?_
    rintro e w6 ⟨v6, rfl, ho6, hb6⟩
    obtain ⟨a6, k6, c6, rfl⟩ := own_slice_of ho6
    have p2 := p1.trans (hb6.mono p1.size)
    refine hK.out _ _ (HS.out _ p2).1 (fun _ => ?_)
    clear hK K
    try simp only [Act.put, List.setIfInBounds_toArray, List.set_cons_zero, List.set_cons_succ]
    refine wpAnyH_ready (rs := [9]) (by kernel_rfl) (by simp) ?_
    refine AllReadyH.cons (o := { dst := some 16, op := Op.call { callee := .value (.func 13), args := #[.tmp 14, .tmp 15], argTypes := _ }, type := _, pos := _, after := _, guard := _ }) rfl (fun K hK => ?_) AllReadyH.nil
    go_simp
    refine (HQ.out _ (HS.out _ p2).2).mono ?_
    rintro e w7 ⟨v7, rfl, ho7, hb7⟩
    obtain ⟨a7, k7, c7, rfl⟩ := own_slice_of ho7
    have p3 := p2.trans (hb7.mono p2.size)
    have HSm : Hid (Calls Tryd.prog 11 #[.slice a6 k6 c6, .slice a7 k7 c7] w7 fun e w' => e = .returned (.bool true) ∧ Below w7.heap.size w7 w') := Lib.hid (by
      have h := same_any a6 a7 k6 k7 c6 c7 R R w7 ((rowV_of ho6).keeps (Keeps.below' hb7 [])) (rowV_of ho7) (by omega)
      rw [decide_eq_true rfl] at h
      exact h.mono (fun e w' hh => ⟨hh.1, hh.2.toBelow _ (Nat.le_refl _) (by simp)⟩))
    refine hK.out _ _ (HS.out _ p3).1 (fun _ => ?_)
    clear hK K
    try simp only [Act.put, List.setIfInBounds_toArray, List.set_cons_zero, List.set_cons_succ]
    refine wpAnyH_ready (rs := [10]) (by kernel_rfl) (by simp) ?_
    refine AllReadyH.cons (o := { dst := some 17, op := Op.call { callee := .value (.func 11), args := #[.tmp 13, .tmp 16], argTypes := _ }, type := _, pos := _, after := _, guard := _ }) rfl (fun K hK => ?_) AllReadyH.nil
    go_simp
    refine HSm.out.mono ?_
    rintro e w8 ⟨rfl, hb8⟩
    have p4 := p3.trans (hb8.mono p3.size)
    refine hK.out _ _ (HS.out _ p4).1 (fun _ => ?_)
    clear hK K
    try simp only [Act.put, List.setIfInBounds_toArray, List.set_cons_zero, List.set_cons_succ]
    refine wpAnyH_take (i := 11) (oi := { dst := some 18, op := Op.pick (.tmp 10) (.const (.bool true)) (.tmp 17), type := _, pos := _, after := _, guard := _ }) (v := .bool true) rfl (by kernel_rfl) (by kernel_rfl) (by kernel_rfl) (fun _ _ _ h => h) (Or.inl ⟨by rfl, ?_⟩) (HS.out _ p4).1 ?_
    · intro w' hs
      obtain ⟨c0, c1, c2, c3, c4, c5⟩ := hs
      go_simp
    try simp only [Act.put, List.setIfInBounds_toArray, List.set_cons_zero, List.set_cons_succ]
    refine wpAnyH_take (i := 12) (oi := { dst := some 4, op := Op.assign (.tmp 18), type := _, pos := _, after := _, guard := _ }) (v := .bool true) rfl (by kernel_rfl) (by kernel_rfl) (by kernel_rfl) (fun _ _ _ h => h) (Or.inl ⟨by rfl, ?_⟩) (HS.out _ p4).1 ?_
    · intro w' hs
      obtain ⟨c0, c1, c2, c3, c4, c5⟩ := hs
      go_simp
    try simp only [Act.put, List.setIfInBounds_toArray, List.set_cons_zero, List.set_cons_succ]
    refine wpAnyH_done (by kernel_rfl) ?_ _
    go_wp2
    go_ret
    exact ⟨rfl, (HS.out _ p4).2⟩
  · rw [decide_eq_false hfw] at HFe
    clear HWs
    go_enter Tryd.func3, Tryd.ntmps3
    go_wp2_with fail
    refine HAw.out.mono ?_
    rintro e w1 ⟨rfl, hb1⟩
    rw [HS0.out] at hb1
    have HB1 := Lib.hid hb1
    have hsz1 : w.heap.size + 1 ≤ w1.heap.size := by have := hb1.size; rwa [HS0.out] at this
    obtain ⟨⟨x0, x1, x2, x3, x4, x5⟩, lx, -⟩ := HX.out _ hb1
    have HS : Hid (∀ W, Below w1.heap.size w1 W → (fun W' => W'.cell? ⟨w.heap.size, 0, none⟩ = some (.slice a0 n0 c0) ∧ W'.cell? ⟨w.heap.size, 1, none⟩ = some (.int .i64 rg) ∧ W'.cell? ⟨w.heap.size, 2, none⟩ = some (.slice wa wn wk) ∧ W'.cell? ⟨w.heap.size, 3, none⟩ = some (.slice a3 n3 c3) ∧ W'.cell? ⟨w.heap.size, 4, none⟩ = some (.slice a4 n4 c4) ∧ W'.cell? ⟨w.heap.size, 5, none⟩ = some (.slice a5 n5 c5)) W ∧ Below w.heap.size w W) := Lib.hid (fun W h => by
      have h2 := HX.out W (HB1.out.trans (h.mono hsz1))
      exact ⟨h2.1, h2.2.2⟩)
    clear hb1 HAw HX HS0
    go_wp2
    refine wp_region_held_drew (S := fun W' => W'.cell? ⟨w.heap.size, 0, none⟩ = some (.slice a0 n0 c0) ∧ W'.cell? ⟨w.heap.size, 1, none⟩ = some (.int .i64 rg) ∧ W'.cell? ⟨w.heap.size, 2, none⟩ = some (.slice wa wn wk) ∧ W'.cell? ⟨w.heap.size, 3, none⟩ = some (.slice a3 n3 c3) ∧ W'.cell? ⟨w.heap.size, 4, none⟩ = some (.slice a4 n4 c4) ∧ W'.cell? ⟨w.heap.size, 5, none⟩ = some (.slice a5 n5 c5)) (by kernel_rfl) (HS.out _ (Below.refl _ _).drew).1 (fun _ => ?_)
    refine wpAnyH_take (i := 0) (oi := { dst := some 7, op := Op.load 28 (.tmp 2), type := _, pos := _, after := _, guard := _ }) (v := .agg #[.slice a0 n0 c0, .int .i64 rg, .slice wa wn wk, .slice a3 n3 c3, .slice a4 n4 c4, .slice a5 n5 c5]) rfl (by kernel_rfl) (by kernel_rfl) (by kernel_rfl) (fun _ _ _ h => h) (Or.inl ⟨by rfl, ?_⟩) (HS.out _ (Below.refl _ _).drew).1 ?_
    · intro w' hs
      obtain ⟨c0, c1, c2, c3, c4, c5⟩ := hs
      go_simp
    try simp only [Act.put, List.setIfInBounds_toArray, List.set_cons_zero, List.set_cons_succ]
    refine wpAnyH_ready (rs := [1]) (by kernel_rfl) (by simp) ?_
    refine AllReadyH.cons (o := { dst := some 8, op := Op.call { callee := .value (.func 10), args := #[.tmp 7], argTypes := _ }, type := _, pos := _, after := _, guard := _ }) rfl (fun K hK => ?_) AllReadyH.nil
    go_simp
    refine (HFe.out _).mono ?_
    rintro e w5 ⟨rfl, hb5⟩
    have p1 : Below w1.heap.size w1 w5 := ((Below.refl w1.heap.size w1).drew).trans (hb5.mono (by simp))
    refine hK.out _ _ (HS.out _ p1).1 (fun _ => ?_)
    clear hK K hb5
    try simp only [Act.put, List.setIfInBounds_toArray, List.set_cons_zero, List.set_cons_succ]
    refine wpAnyH_take (i := 2) (oi := { dst := some 9, op := Op.unOp .not 4 (.tmp 8), type := _, pos := _, after := _, guard := _ }) (v := .bool true) rfl (by kernel_rfl) (by kernel_rfl) (by kernel_rfl) (fun _ _ _ h => h) (Or.inl ⟨by rfl, ?_⟩) (HS.out _ p1).1 ?_
    · intro w' hs
      obtain ⟨c0, c1, c2, c3, c4, c5⟩ := hs
      go_simp
    try simp only [Act.put, List.setIfInBounds_toArray, List.set_cons_zero, List.set_cons_succ]
    refine wpAnyH_take (i := 3) (oi := { dst := some 10, op := Op.move (.tmp 9), type := _, pos := _, after := _, guard := _ }) (v := .bool true) rfl (by kernel_rfl) (by kernel_rfl) (by kernel_rfl) (fun _ _ _ h => h) (Or.inl ⟨by rfl, ?_⟩) (HS.out _ p1).1 ?_
    · intro w' hs
      obtain ⟨c0, c1, c2, c3, c4, c5⟩ := hs
      go_simp
    try simp only [Act.put, List.setIfInBounds_toArray, List.set_cons_zero, List.set_cons_succ]
    refine wpAnyH_take (i := 4) (oi := { dst := some 11, op := Op.load 28 (.tmp 2), type := _, pos := _, after := _, guard := _ }) (v := undef) rfl (by kernel_rfl) (by kernel_rfl) (by kernel_rfl) (fun _ _ _ h => h) (Or.inr ⟨by rfl, rfl⟩) (HS.out _ p1).1 ?_
    try simp only [Act.put, List.setIfInBounds_toArray, List.set_cons_zero, List.set_cons_succ]
    refine wpAnyH_take (i := 5) (oi := { dst := some 12, op := Op.move (.tmp 1), type := _, pos := _, after := _, guard := _ }) (v := undef) rfl (by kernel_rfl) (by kernel_rfl) (by kernel_rfl) (fun _ _ _ h => h) (Or.inr ⟨by rfl, rfl⟩) (HS.out _ p1).1 ?_
    try simp only [Act.put, List.setIfInBounds_toArray, List.set_cons_zero, List.set_cons_succ]
    refine wpAnyH_take (i := 6) (oi := { dst := some 13, op := Op.call { callee := .value (.func 12), args := #[.tmp 11, .tmp 12], argTypes := _ }, type := _, pos := _, after := _, guard := _ }) (v := undef) rfl (by kernel_rfl) (by kernel_rfl) (by kernel_rfl) (fun _ _ _ h => h) (Or.inr ⟨by rfl, rfl⟩) (HS.out _ p1).1 ?_
    try simp only [Act.put, List.setIfInBounds_toArray, List.set_cons_zero, List.set_cons_succ]
    refine wpAnyH_take (i := 7) (oi := { dst := some 14, op := Op.load 28 (.tmp 2), type := _, pos := _, after := _, guard := _ }) (v := undef) rfl (by kernel_rfl) (by kernel_rfl) (by kernel_rfl) (fun _ _ _ h => h) (Or.inr ⟨by rfl, rfl⟩) (HS.out _ p1).1 ?_
    try simp only [Act.put, List.setIfInBounds_toArray, List.set_cons_zero, List.set_cons_succ]
    refine wpAnyH_take (i := 8) (oi := { dst := some 15, op := Op.move (.tmp 1), type := _, pos := _, after := _, guard := _ }) (v := undef) rfl (by kernel_rfl) (by kernel_rfl) (by kernel_rfl) (fun _ _ _ h => h) (Or.inr ⟨by rfl, rfl⟩) (HS.out _ p1).1 ?_
    try simp only [Act.put, List.setIfInBounds_toArray, List.set_cons_zero, List.set_cons_succ]
    refine wpAnyH_take (i := 9) (oi := { dst := some 16, op := Op.call { callee := .value (.func 13), args := #[.tmp 14, .tmp 15], argTypes := _ }, type := _, pos := _, after := _, guard := _ }) (v := undef) rfl (by kernel_rfl) (by kernel_rfl) (by kernel_rfl) (fun _ _ _ h => h) (Or.inr ⟨by rfl, rfl⟩) (HS.out _ p1).1 ?_
    try simp only [Act.put, List.setIfInBounds_toArray, List.set_cons_zero, List.set_cons_succ]
    refine wpAnyH_take (i := 10) (oi := { dst := some 17, op := Op.call { callee := .value (.func 11), args := #[.tmp 13, .tmp 16], argTypes := _ }, type := _, pos := _, after := _, guard := _ }) (v := undef) rfl (by kernel_rfl) (by kernel_rfl) (by kernel_rfl) (fun _ _ _ h => h) (Or.inr ⟨by rfl, rfl⟩) (HS.out _ p1).1 ?_
    try simp only [Act.put, List.setIfInBounds_toArray, List.set_cons_zero, List.set_cons_succ]
    refine wpAnyH_take (i := 11) (oi := { dst := some 18, op := Op.pick (.tmp 10) (.const (.bool true)) (.tmp 17), type := _, pos := _, after := _, guard := _ }) (v := .bool true) rfl (by kernel_rfl) (by kernel_rfl) (by kernel_rfl) (fun _ _ _ h => h) (Or.inl ⟨by rfl, ?_⟩) (HS.out _ p1).1 ?_
    · intro w' hs
      obtain ⟨c0, c1, c2, c3, c4, c5⟩ := hs
      go_simp
    try simp only [Act.put, List.setIfInBounds_toArray, List.set_cons_zero, List.set_cons_succ]
    refine wpAnyH_take (i := 12) (oi := { dst := some 4, op := Op.assign (.tmp 18), type := _, pos := _, after := _, guard := _ }) (v := .bool true) rfl (by kernel_rfl) (by kernel_rfl) (by kernel_rfl) (fun _ _ _ h => h) (Or.inl ⟨by rfl, ?_⟩) (HS.out _ p1).1 ?_
    · intro w' hs
      obtain ⟨c0, c1, c2, c3, c4, c5⟩ := hs
      go_simp
    try simp only [Act.put, List.setIfInBounds_toArray, List.set_cons_zero, List.set_cons_succ]
    refine wpAnyH_done (by kernel_rfl) ?_ _
    go_wp2
    go_ret
    exact ⟨rfl, (HS.out _ p1).2⟩
end FlowD
end Go.Proofs.YtajhkogknpmnbaaDoor
namespace Go.Proofs.YtajhkogknpmnbaaDoor
open Go.RowKit ObjM Go.ChangeShapes Go.Shelf
namespace FlowD
open InstrM InstrD LabelD

theorem flat2 {α : Type} (f g : Nat → α) (n k : Nat) (h : k < n) : ((List.range n).flatMap fun i => [f i, g i])[k * 2]? = some (f k) ∧ ((List.range n).flatMap fun i => [f i, g i])[k * 2 + 1]? = some (g k) := by
  have hl : ∀ m, ((List.range m).flatMap fun i => [f i, g i]).length = m * 2 := by
    intro m
    induction m with
    | zero => rfl
    | succ m ih => rw [List.range_succ, List.flatMap_append, List.length_append, ih]; simp; omega
  induction n with
  | zero => omega
  | succ n ih =>
    rw [List.range_succ, List.flatMap_append]
    by_cases hk : k < n
    · rw [List.getElem?_append_left (by rw [hl]; omega), List.getElem?_append_left (by rw [hl]; omega)]
      exact ih hk
    · obtain rfl : k = n := by omega
      rw [List.getElem?_append_right (by rw [hl]; omega), List.getElem?_append_right (by rw [hl]; omega), hl]
      simp
def strV (l : List UInt8) : Value := .string ⟨l.toArray⟩
def lowV : List Value := (List.range 33).flatMap fun i => [strV (nameL i), strV (formL i)]
def highV : List Value := (List.range 31).flatMap fun i => [strV (if i = 0 then [] else nameL (i + 32)), strV (if i = 0 then [] else formL (i + 32))]
theorem gLow : Tryd.prog.globalNamed "ravelin/instr.lows" = some 1 := by kernel_rfl
theorem gHigh : Tryd.prog.globalNamed "ravelin/instr.highs" = some 2 := by kernel_rfl
theorem tLow : (Tryd.prog.globals[1]?).map (·.type) = some 105 := by kernel_rfl
theorem tHigh : (Tryd.prog.globals[2]?).map (·.type) = some 106 := by kernel_rfl
theorem locLow : (List.range lowV.length).map (Tables.locate Tryd.prog 4 105 (Rows.laid_ravelin_instr_lows (H := Unit))) = lowV.map some := by kernel_rfl
theorem locHigh : (List.range highV.length).map (Tables.locate Tryd.prog 4 106 (Rows.laid_ravelin_instr_highs (H := Unit))) = highV.map some := by kernel_rfl

theorem tabs_mk {W : World} {r1 r2 : List (String × DataW Unit)} (h1 : laidMet Tryd.prog (("ravelin/instr.lows", Rows.laid_ravelin_instr_lows) :: r1) W) (h2 : laidMet Tryd.prog (("ravelin/instr.highs", Rows.laid_ravelin_instr_highs) :: r2) W) : Tabs W := by
  have c1 := Tables.cells_of_head 4 gLow tLow h1 locLow
  have c2 := Tables.cells_of_head 4 gHigh tHigh h2 locHigh
  have a0 := c1 (0 * 2) _ (flat2 _ _ 33 0 (by omega)).1
  have a1 := c2 (0 * 2) _ (flat2 _ _ 31 0 (by omega)).1
  refine ⟨World.block_lt_of_cell? W _ a0, World.block_lt_of_cell? W _ a1, fun k hk => ⟨c1 _ _ (flat2 _ _ 33 k hk).1, c1 _ _ (flat2 _ _ 33 k hk).2⟩, fun k h1 hk => ?_⟩
  have e1 := c2 _ _ (flat2 _ _ 31 k hk).1
  have e2 := c2 _ _ (flat2 _ _ 31 k hk).2
  rw [if_neg (by omega)] at e1 e2
  exact ⟨e1, e2⟩
theorem gBru : Tryd.prog.globalNamed "math/bits.deBruijn64tab" = some 0 := by kernel_rfl
theorem tBru : (Tryd.prog.globals[0]?).map (·.type) = some 104 := by kernel_rfl
theorem locBru : (List.range 64).map (Tables.locate Tryd.prog 3 104 (Rows.laid_math_bits_deBruijn64tab (H := Unit))) = (Lib.deBruijn64tab.map fun (k : Nat) => Value.int .u8 (k : Int)).map some := by kernel_rfl
theorem bru_of {W : World} {r : List (String × DataW Unit)} (h : laidMet Tryd.prog (("math/bits.deBruijn64tab", Rows.laid_math_bits_deBruijn64tab) :: r) W) : Bru W := by
  intro j hj
  have c := Tables.cells_of_head 3 (vs := Lib.deBruijn64tab.map fun (k : Nat) => Value.int .u8 (k : Int)) gBru tBru h locBru
  refine c j _ ?_
  rw [List.getElem?_map, List.getElem?_eq_getElem hj]
  simp [List.getD, hj]
theorem tabs18 {W : World} (h : laidMet Tryd.prog [("math/bits.deBruijn64tab", Rows.laid_math_bits_deBruijn64tab), ("ravelin/instr.lows", Rows.laid_ravelin_instr_lows), ("ravelin/instr.highs", Rows.laid_ravelin_instr_highs)] W) : Tabs W ∧ Bru W ∧ 0 < W.heap.size := by
  have hb := bru_of h
  exact ⟨tabs_mk h.tail h.tail.tail, hb, World.block_lt_of_cell? W ⟨0, 0, none⟩ (hb 0 (by decide))⟩
section
variable {H : Type} {enc : TypeId × Value → H}
set_option maxRecDepth 100000 in
theorem flowPosts_w {r : Reach} {b0 : Nat} {d0 : DataW H} {p0 : List MemPlace} {s0 : Nat → Bool} (v0 : Value) (W : World) (g0 : Value.okWide Tryd.prog W r b0 28 v0) (h0 : DataW.Trod enc Tryd.prog W 0 s0 true 28 v0 d0 p0) (hT : Tabs W ∧ Bru W ∧ 0 < W.heap.size) :
    Calls Tryd.prog 4 #[v0] W fun e w' => e = .returned (.bool true) ∧ Below W.heap.size W w' := by
  obtain ⟨p, rfl, hp⟩ := open_proto g0 h0
  exact flowPosts_u p W hp hT.1 hT.2.1 hT.2.2
set_option maxRecDepth 100000 in
theorem flowNext_w {r : Reach} {b0 : Nat} {d0 : DataW H} {p0 : List MemPlace} {s0 : Nat → Bool} (v0 : Value) (at_ : Int) (ha : -9223372036854775808 ≤ at_ ∧ at_ ≤ 9223372036854775807) (W : World) (g0 : Value.okWide Tryd.prog W r b0 28 v0) (h0 : DataW.Trod enc Tryd.prog W 0 s0 true 28 v0 d0 p0) (hT : Tabs W ∧ Bru W ∧ 0 < W.heap.size) :
    Calls Tryd.prog 3 #[v0, .int .i64 at_] W fun e w' => e = .returned (.bool true) ∧ Below W.heap.size W w' := by
  obtain ⟨p, rfl, hp⟩ := open_proto g0 h0
  exact flowNext_u p at_ W ha hp hT.1 hT.2.1 hT.2.2
end
end FlowD
end Go.Proofs.YtajhkogknpmnbaaDoor
