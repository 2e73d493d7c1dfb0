/- The walk of TraceLow. -/
import Derived.Test.YticgpfigjkgfaaaDoorTraceAwake
import Derived.Deep.RegionHeld3
import Derived.Test.YticgpfigjkgfaaaDoorRows
namespace Go.Proofs.YticgpfigjkgfaaaDoor
open Go.RowKit Go.WideShapes Go.ChangeShapes Go.Deep ObjM
namespace TraceD
open LabelM LabelD NumD

theorem beginsB_self (l : List Ev) : beginsB l l = true := by
  have := beginsB_append l []
  simpa using this
theorem masks_desc : Tryd.prog.cellTypes Tryd.prog.depth 25 = some (List.replicate 8 24) := by kernel_rfl
theorem open_masks {W : World} {r : Reach} {b0 : Nat} {v : Value} (h : Value.okWide Tryd.prog W r b0 25 v) :
    ∃ m0 m1 m2 m3 m4 m5 m6 m7 : Nat, v = .agg #[.int .u64 (m0 : Int), .int .u64 (m1 : Int), .int .u64 (m2 : Int), .int .u64 (m3 : Int), .int .u64 (m4 : Int), .int .u64 (m5 : Int), .int .u64 (m6 : Int), .int .u64 (m7 : Int)] ∧ ∀ j, [m0, m1, m2, m3, m4, m5, m6, m7].getD j 0 < M64 := by
  obtain ⟨cs, rfl, hl, hc⟩ := Shell.arr_cells Tryd.underlying25 masks_desc h
  rw [show Tryd.prog.cellsOf 25 = 8 by kernel_rfl] at hl
  have hx : ∀ (i : Nat) x, cs[i]? = some x → ∃ n : Nat, x = .int .u64 (n : Int) ∧ n < M64 := by
    intro i x hi
    obtain ⟨u, hu, hok⟩ := hc i x hi
    have : u = 24 := by
      have := List.mem_of_getElem? hu
      exact List.eq_of_mem_replicate this
    subst this
    obtain ⟨n, rfl, hn⟩ := Shell.ok_int Tryd.underlying24 hok
    have hb := Shell.has_u64 hn
    exact ⟨n.toNat, by rw [Int.toNat_of_nonneg hb.1], by unfold M64; omega⟩
  match cs, hl, hx with
  | [c0, c1, c2, c3, c4, c5, c6, c7], _, hx =>
    obtain ⟨m0, rfl, h0⟩ := hx 0 c0 rfl
    obtain ⟨m1, rfl, h1⟩ := hx 1 c1 rfl
    obtain ⟨m2, rfl, h2⟩ := hx 2 c2 rfl
    obtain ⟨m3, rfl, h3⟩ := hx 3 c3 rfl
    obtain ⟨m4, rfl, h4⟩ := hx 4 c4 rfl
    obtain ⟨m5, rfl, h5⟩ := hx 5 c5 rfl
    obtain ⟨m6, rfl, h6⟩ := hx 6 c6 rfl
    obtain ⟨m7, rfl, h7⟩ := hx 7 c7 rfl
    refine ⟨m0, m1, m2, m3, m4, m5, m6, m7, rfl, fun j => ?_⟩
    match j with
    | 0 => exact h0
    | 1 => exact h1
    | 2 => exact h2
    | 3 => exact h3
    | 4 => exact h4
    | 5 => exact h5
    | 6 => exact h6
    | 7 => exact h7
    | j + 8 => exact (by decide : (0 : Nat) < M64)

set_option maxRecDepth 100000 in
set_option maxHeartbeats 4000000 in
theorem traceLow_any (l : List Ev) (v : Value) (m0 m1 m2 m3 m4 m5 m6 m7 see : Nat) (hms : ∀ j, [m0, m1, m2, m3, m4, m5, m6, m7].getD j 0 < M64) (hse : see < M64) (hlb : l.length * 40 ≤ 140737488355328) (hs : ∀ e ∈ l, e.s.size ≤ 140737488355328) (w : World) (hv : EvsAt w v l) (hT : Tab w) :
    Calls Tryd.prog 3 #[v, .agg #[.int .u64 (m0 : Int), .int .u64 (m1 : Int), .int .u64 (m2 : Int), .int .u64 (m3 : Int), .int .u64 (m4 : Int), .int .u64 (m5 : Int), .int .u64 (m6 : Int), .int .u64 (m7 : Int)], .int .u64 (see : Int)] w
      fun e w' => e = .returned (.bool true) ∧ Below w.heap.size w w' := by
  have hA1 : ∀ o : Go.Obj, Below w.heap.size w (w.alloc o) := fun o => (Below.refl _ w).alloc (Nat.le_refl _) o
  have HA := fun o => Lib.hid (awake_any (w.alloc o) (hT.below (hA1 o)))
  have HFw := fun (W : World) (hb : Below w.heap.size w W) => Lib.hid (few_any l v hs W (hv.below hb))
  have HL := fun (W : World) (hb : Below w.heap.size w W) => Lib.hid (low_any l v m0 m1 m2 m3 m4 m5 m6 m7 see hms hse hlb W (hv.below hb))
  have HR := fun (W : World) (hb : Below w.heap.size w W) => Lib.hid (refLow_any l v m0 m1 m2 m3 m4 m5 m6 m7 see hms hse hlb W (hv.below hb))
  have HM := fun (W : World) (u1 u2 : Value) h1 h2 => Lib.hid (same_self (visL [m0, m1, m2, m3, m4, m5, m6, m7] see l) u1 u2 W h1 h2 (beginsB_self _))
  obtain ⟨vl, hvl⟩ : ∃ x, visL [m0, m1, m2, m3, m4, m5, m6, m7] see l = x := ⟨_, rfl⟩
  simp only [hvl] at HL HR HM
  obtain ⟨av, cv, rfl⟩ := hv.shape
  clear hms hse hlb hs hT hv hvl
  cases hf : fewFrom 0 l
  · rw [hf] at HFw
    clear hf
    go_enter Tryd.func3, Tryd.ntmps3
    go_wp2_with fail
    with_reducible refine ((HA _).out).mono ?_
    rintro e w1 ⟨rfl, hb1⟩
    have _hX := (Has.new w 25 [.int .u64 (m0 : Int), .int .u64 (m1 : Int), .int .u64 (m2 : Int), .int .u64 (m3 : Int), .int .u64 (m4 : Int), .int .u64 (m5 : Int), .int .u64 (m6 : Int), .int .u64 (m7 : Int)]).below hb1 (by simp)
    have B0 := Lib.hid ((hA1 _).trans (hb1.mono (by simp)))
    clear hb1
    have BW := Lib.hid (fun (W' : World) (hb : Below w1.heap.size w1 W') => B0.out.trans (hb.mono B0.out.size))
    clear HA
    go_wp2
    refine wp_region_held_drew (S := fun _ => True) (by kernel_rfl) trivial (fun _ => ?_)
    refine wpAnyH_take (i := 0) (oi := { dst := some 9, op := Op.move (.tmp 0), type := _, pos := _, after := _, guard := _ }) (v := .slice av l.length cv) rfl (by kernel_rfl) (by kernel_rfl) (by kernel_rfl) (fun _ _ _ h => h) (Or.inl ⟨by rfl, ?_⟩) trivial ?_
    · intro w _
      go_simp
    try simp only [Act.put, List.setIfInBounds_toArray, List.set_cons_zero, List.set_cons_succ]
    refine wpAnyH_ready (rs := [1]) (by kernel_rfl) (by simp) ?_
    refine AllReadyH.cons (o := { dst := some 10, op := Op.call { callee := .value (.func 9), args := #[.tmp 9], argTypes := _ }, type := _, pos := _, after := _, guard := _ }) rfl (fun K hK => ?_) AllReadyH.nil
    go_simp
    refine ((HFw _ (BW.out _ ((Below.refl _ _).drew))).out).mono ?_
    rintro e x1 ⟨rfl, hb⟩
    have q1 : Below w1.heap.size w1 x1 := ((Below.refl _ _).drew).trans (hb.mono (by simp))
    clear hb
    refine hK.out _ _ trivial (fun _ => ?_)
    clear hK K
    try simp only [Act.put, List.setIfInBounds_toArray, List.set_cons_zero, List.set_cons_succ]
    refine wpAnyH_take (i := 2) (oi := { dst := some 11, op := Op.unOp .not 4 (.tmp 10), type := _, pos := _, after := _, guard := _ }) (v := .bool true) rfl (by kernel_rfl) (by kernel_rfl) (by kernel_rfl) (fun _ _ _ h => h) (Or.inl ⟨by rfl, ?_⟩) trivial ?_
    · intro w _
      go_simp
    try simp only [Act.put, List.setIfInBounds_toArray, List.set_cons_zero, List.set_cons_succ]
    refine wpAnyH_take (i := 3) (oi := { dst := some 12, op := Op.move (.tmp 11), type := _, pos := _, after := _, guard := _ }) (v := .bool true) rfl (by kernel_rfl) (by kernel_rfl) (by kernel_rfl) (fun _ _ _ h => h) (Or.inl ⟨by rfl, ?_⟩) trivial ?_
    · intro w _
      go_simp
    try simp only [Act.put, List.setIfInBounds_toArray, List.set_cons_zero, List.set_cons_succ]
    refine wpAnyH_take (i := 4) (oi := { dst := some 13, op := Op.move (.tmp 0), type := _, pos := _, after := _, guard := _ }) (v := undef) rfl (by kernel_rfl) (by kernel_rfl) (by kernel_rfl) (fun _ _ _ h => h) (Or.inr ⟨by rfl, rfl⟩) trivial ?_
    try simp only [Act.put, List.setIfInBounds_toArray, List.set_cons_zero, List.set_cons_succ]
    refine wpAnyH_take (i := 5) (oi := { dst := some 14, op := Op.load 25 (.tmp 4), type := _, pos := _, after := _, guard := _ }) (v := undef) rfl (by kernel_rfl) (by kernel_rfl) (by kernel_rfl) (fun _ _ _ h => h) (Or.inr ⟨by rfl, rfl⟩) trivial ?_
    try simp only [Act.put, List.setIfInBounds_toArray, List.set_cons_zero, List.set_cons_succ]
    refine wpAnyH_take (i := 6) (oi := { dst := some 15, op := Op.move (.tmp 2), type := _, pos := _, after := _, guard := _ }) (v := undef) rfl (by kernel_rfl) (by kernel_rfl) (by kernel_rfl) (fun _ _ _ h => h) (Or.inr ⟨by rfl, rfl⟩) trivial ?_
    try simp only [Act.put, List.setIfInBounds_toArray, List.set_cons_zero, List.set_cons_succ]
    refine wpAnyH_take (i := 7) (oi := { dst := some 16, op := Op.call { callee := .value (.func 11), args := #[.tmp 13, .tmp 14, .tmp 15], argTypes := _ }, type := _, pos := _, after := _, guard := _ }) (v := undef) rfl (by kernel_rfl) (by kernel_rfl) (by kernel_rfl) (fun _ _ _ h => h) (Or.inr ⟨by rfl, rfl⟩) trivial ?_
    try simp only [Act.put, List.setIfInBounds_toArray, List.set_cons_zero, List.set_cons_succ]
    refine wpAnyH_take (i := 8) (oi := { dst := some 17, op := Op.move (.tmp 0), type := _, pos := _, after := _, guard := _ }) (v := undef) rfl (by kernel_rfl) (by kernel_rfl) (by kernel_rfl) (fun _ _ _ h => h) (Or.inr ⟨by rfl, rfl⟩) trivial ?_
    try simp only [Act.put, List.setIfInBounds_toArray, List.set_cons_zero, List.set_cons_succ]
    refine wpAnyH_take (i := 9) (oi := { dst := some 18, op := Op.load 25 (.tmp 4), type := _, pos := _, after := _, guard := _ }) (v := undef) rfl (by kernel_rfl) (by kernel_rfl) (by kernel_rfl) (fun _ _ _ h => h) (Or.inr ⟨by rfl, rfl⟩) trivial ?_
    try simp only [Act.put, List.setIfInBounds_toArray, List.set_cons_zero, List.set_cons_succ]
    refine wpAnyH_take (i := 10) (oi := { dst := some 19, op := Op.move (.tmp 2), type := _, pos := _, after := _, guard := _ }) (v := undef) rfl (by kernel_rfl) (by kernel_rfl) (by kernel_rfl) (fun _ _ _ h => h) (Or.inr ⟨by rfl, rfl⟩) trivial ?_
    try simp only [Act.put, List.setIfInBounds_toArray, List.set_cons_zero, List.set_cons_succ]
    refine wpAnyH_take (i := 11) (oi := { dst := some 20, op := Op.call { callee := .value (.func 12), args := #[.tmp 17, .tmp 18, .tmp 19], argTypes := _ }, type := _, pos := _, after := _, guard := _ }) (v := undef) rfl (by kernel_rfl) (by kernel_rfl) (by kernel_rfl) (fun _ _ _ h => h) (Or.inr ⟨by rfl, rfl⟩) trivial ?_
    try simp only [Act.put, List.setIfInBounds_toArray, List.set_cons_zero, List.set_cons_succ]
    refine wpAnyH_take (i := 12) (oi := { dst := some 21, op := Op.call { callee := .value (.func 10), args := #[.tmp 16, .tmp 20], argTypes := _ }, type := _, pos := _, after := _, guard := _ }) (v := undef) rfl (by kernel_rfl) (by kernel_rfl) (by kernel_rfl) (fun _ _ _ h => h) (Or.inr ⟨by rfl, rfl⟩) trivial ?_
    try simp only [Act.put, List.setIfInBounds_toArray, List.set_cons_zero, List.set_cons_succ]
    refine wpAnyH_take (i := 13) (oi := { dst := some 22, op := Op.pick (.tmp 12) (.const (.bool true)) (.tmp 21), type := _, pos := _, after := _, guard := _ }) (v := .bool true) rfl (by kernel_rfl) (by kernel_rfl) (by kernel_rfl) (fun _ _ _ h => h) (Or.inl ⟨by rfl, ?_⟩) trivial ?_
    · intro w _
      go_simp
    try simp only [Act.put, List.setIfInBounds_toArray, List.set_cons_zero, List.set_cons_succ]
    refine wpAnyH_take (i := 14) (oi := { dst := some 6, op := Op.assign (.tmp 22), type := _, pos := _, after := _, guard := _ }) (v := .bool true) rfl (by kernel_rfl) (by kernel_rfl) (by kernel_rfl) (fun _ _ _ h => h) (Or.inl ⟨by rfl, ?_⟩) trivial ?_
    · intro w _
      go_simp
    try simp only [Act.put, List.setIfInBounds_toArray, List.set_cons_zero, List.set_cons_succ]
    refine wpAnyH_done (by kernel_rfl) ?_ _
    go_wp2
    go_ret
    exact ⟨rfl, BW.out _ q1⟩
  · rw [hf] at HFw
    clear hf
    go_enter Tryd.func3, Tryd.ntmps3
    go_wp2_with fail
    with_reducible refine ((HA _).out).mono ?_
    rintro e w1 ⟨rfl, hb1⟩
    have hX := (Has.new w 25 [.int .u64 (m0 : Int), .int .u64 (m1 : Int), .int .u64 (m2 : Int), .int .u64 (m3 : Int), .int .u64 (m4 : Int), .int .u64 (m5 : Int), .int .u64 (m6 : Int), .int .u64 (m7 : Int)]).below hb1 (by simp)
    have B0 := Lib.hid ((hA1 _).trans (hb1.mono (by simp)))
    clear hb1
    have HG : Hid (∀ W', Below w1.heap.size w1 W' → W'.cell? ⟨w.heap.size, 0, none⟩ = some (.int .u64 (m0 : Int)) ∧ W'.cell? ⟨w.heap.size, 1, none⟩ = some (.int .u64 (m1 : Int)) ∧ W'.cell? ⟨w.heap.size, 2, none⟩ = some (.int .u64 (m2 : Int)) ∧ W'.cell? ⟨w.heap.size, 3, none⟩ = some (.int .u64 (m3 : Int)) ∧
        W'.cell? ⟨w.heap.size, 4, none⟩ = some (.int .u64 (m4 : Int)) ∧ W'.cell? ⟨w.heap.size, 5, none⟩ = some (.int .u64 (m5 : Int)) ∧ W'.cell? ⟨w.heap.size, 6, none⟩ = some (.int .u64 (m6 : Int)) ∧ W'.cell? ⟨w.heap.size, 7, none⟩ = some (.int .u64 (m7 : Int))) := Lib.hid (fun W' hb => by
      have p := hX.below hb hX.lt
      exact ⟨p.cell 0, p.cell 1, p.cell 2, p.cell 3, p.cell 4, p.cell 5, p.cell 6, p.cell 7⟩)
    have s0 := HG.out w1 (Below.refl _ _)
    obtain ⟨a0, a1, a2, a3, a4, a5, a6, a7⟩ := HG.out w1 (Below.refl _ _)
    have BW := Lib.hid (fun (W' : World) (hb : Below w1.heap.size w1 W') => B0.out.trans (hb.mono B0.out.size))
    clear hX HA
    go_wp2
    go_region_held3 (fun W' => W'.cell? ⟨w.heap.size, 0, none⟩ = some (.int .u64 (m0 : Int)) ∧ W'.cell? ⟨w.heap.size, 1, none⟩ = some (.int .u64 (m1 : Int)) ∧ W'.cell? ⟨w.heap.size, 2, none⟩ = some (.int .u64 (m2 : Int)) ∧ W'.cell? ⟨w.heap.size, 3, none⟩ = some (.int .u64 (m3 : Int)) ∧
        W'.cell? ⟨w.heap.size, 4, none⟩ = some (.int .u64 (m4 : Int)) ∧ W'.cell? ⟨w.heap.size, 5, none⟩ = some (.int .u64 (m5 : Int)) ∧ W'.cell? ⟨w.heap.size, 6, none⟩ = some (.int .u64 (m6 : Int)) ∧ W'.cell? ⟨w.heap.size, 7, none⟩ = some (.int .u64 (m7 : Int))) (first | assumption | go_keep)
      (first
        | (go_at_call 9
           refine ((HFw _ (BW.out _ ((Below.refl _ _).drew))).out).mono ?_
           rintro e x1 ⟨rfl, hb⟩
           have q1 : Below w1.heap.size w1 x1 := ((Below.refl _ _).drew).trans (hb.mono (by simp))
           have s1 := HG.out x1 q1
           clear hb)
        | (go_at_call 11
           refine ((HL _ (BW.out _ q1)).out).mono ?_
           rintro e x2 ⟨u1, rfl, hu1, hb⟩
           have q2 : Below w1.heap.size w1 x2 := q1.trans (hb.mono q1.size)
           have s2 := HG.out x2 q2
           have V1 := Lib.hid (evs_of_own hu1)
           clear hb hu1)
        | (go_at_call 12
           refine ((HR _ (BW.out _ q2)).out).mono ?_
           rintro e x3 ⟨u2, rfl, hu2, hb⟩
           have q3 : Below w1.heap.size w1 x3 := q2.trans (hb.mono q2.size)
           have s3 := HG.out x3 q3
           have V2 := Lib.hid (evs_of_own hu2)
           have V3 := Lib.hid (V1.out.below hb)
           clear hb hu2)
        | (go_at_call 10
           refine ((HM _ _ _ V3.out V2.out).out).mono ?_
           rintro e x4 ⟨rfl, hb⟩
           have q4 : Below w1.heap.size w1 x4 := q3.trans (hb.mono q3.size)
           have s4 := HG.out x4 q4
           clear hb))
    all_goals
      go_wp2
      go_ret
      exact ⟨by first | rfl | (simp; done) | (simp [Act.put]; done), BW.out _ q4⟩
theorem cellsTab : Tryd.prog.cellsOf 73 = 20 := by kernel_rfl
theorem cellsU64 : Tryd.prog.cellsOf 23 = 1 := by kernel_rfl
theorem gPowType : (Tryd.prog.globals[0]?).map (·.type) = some 73 := by kernel_rfl
theorem tabs_of {W : World} (h : laidMetH Tryd.prog Rows.traceLowRow.laid W) : Tab W := by
  have h1 : laidMet Tryd.prog [("math/bits.deBruijn32tab", Rows.laid_math_bits_deBruijn32tab), ("math/bits.deBruijn64tab", Rows.laid_math_bits_deBruijn64tab), ("internal/strconv.uint64pow10", Rows.laid_internal_strconv_uint64pow10)] W := h
  exact Lib.tabIs_of_head (rest := []) gPow gPowType Tryd.underlying73 Tryd.underlying23 cellsU64 cellsTab h1.tail.tail
section
variable {H : Type} {enc : TypeId × Value → H}
theorem traceLow_u {r : Reach} {b0 : Nat} {d : DataW H} {ps : List MemPlace} {sp : Nat → Bool} (v v1 : Value) (x : Int) (w : World) (g0 : Value.okWide Tryd.prog w r b0 22 v) (h0 : DataW.Trod enc Tryd.prog w 0 sp true 22 v d ps)
    (hw : ∀ n ∈ d.weights Tryd.prog 22, n ≤ reachBytes) (g1 : Value.okWide Tryd.prog w r b0 25 v1) (hx : 0 ≤ x ∧ x ≤ 18446744073709551615) (hT : Tab w) :
    Calls Tryd.prog 3 #[v, v1, .int .u64 x] w fun e w' => e = .returned (.bool true) ∧ Below w.heap.size w w' := by
  obtain ⟨l, hv, hlb, hs⟩ := open_evs g0 h0 hw
  obtain ⟨m0, m1, m2, m3, m4, m5, m6, m7, rfl, hms⟩ := open_masks g1
  obtain ⟨n, rfl⟩ : ∃ n : Nat, x = n := ⟨x.toNat, by omega⟩
  exact traceLow_any l v m0 m1 m2 m3 m4 m5 m6 m7 n hms (by unfold M64; omega) hlb (fun e he => (hs e he).1) w hv hT
end
end TraceD
end Go.Proofs.YticgpfigjkgfaaaDoor
