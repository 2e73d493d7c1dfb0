/- The example of chapter 16: functions, the whole. (Written by mk_code3.py.) -/
import Derived.Test.YtmebhdffgpnplaaDoorCode2
import Derived.Test.YtmebhdffgpnplaaDoorTyCheck
namespace Go.Proofs.YtmebhdffgpnplaaDoor
open Go.RowKit ObjM
namespace CodeD
open InstrM InstrD TyD ValD LexD

theorem any_ty (w : World) : TyAt w (.slice none 0 0) (.slice none 0 0) (.mk 0 [] []) := .mk 0 [] [] _ _ (fun _ => .tuple #[]) (fun _ => .tuple #[]) (StrsAt.nil w) ⟨none, 0, rfl, by simp, by simp, fun _ => rfl, .inl rfl⟩ (fun i t h => by simp at h)
theorem any_ok : TyOk (.mk 0 [] []) := .mk 0 [] [] (by omega) (by simp) (by simp) (by simp) (by simp)
theorem any_check (w : World) (hT : WTab w) : Calls Tryd.prog 57 #[.agg #[.int .i64 0, .slice none 0 0, .slice none 0 0]] w fun e w' => e = .returned (.bool true) ∧ Below w.heap.size w w' := by
  have h := check_any (.mk 0 [] []) _ _ w (any_ty w) any_ok hT
  rw [show checkV (.mk 0 [] []) = true by decide +kernel] at h
  exact h
set_option maxRecDepth 100000 in
theorem p1_any (w : World) (hT : WTab w) : Calls Tryd.prog 60 #[.agg #[.int .i64 0, .slice none 0 0, .slice none 0 0]] w fun e w' => e = .returned (.bool false) ∧ Below w.heap.size w w' := by
  have hb1 : Below w.heap.size w (w.alloc (.cells #[.int .i64 0, .slice none 0 0, .slice none 0 0] 43)) := (Below.refl _ w).alloc (Nat.le_refl _) _
  have HC := Lib.hid (any_check _ (hT.below hb1))
  have HB1 := Lib.hid hb1
  clear hb1 hT
  go_enter Tryd.func60, Tryd.ntmps60
  go_wp2_with fail
  refine HC.out.mono ?_
  rintro e w1 ⟨rfl, hb⟩
  have HB := Lib.hid (HB1.out.trans (hb.mono HB1.out.size))
  clear hb HC
  go_wp2
  go_ret
  exact ⟨rfl, HB.out⟩
set_option maxRecDepth 100000 in
theorem below_any (w : World) : Calls Tryd.prog 62 #[.int .i64 0] w fun e w' => e = .returned (.bool false) ∧ Below w.heap.size w w' := by
  go_enter Tryd.func62, Tryd.ntmps62
  go_wp2
  go_ret
  exact ⟨rfl, Below.refl _ _⟩
theorem zero_check (w : World) : Calls Tryd.prog 82 #[.agg #[.int .i64 0, .int .i64 0, .string ⟨#[]⟩, .int .u64 0]] w fun e w' => e = .returned (.bool true) ∧ Below w.heap.size w w' := by
  have h := ValD.check_any ⟨0, 0, ⟨#[]⟩, 0⟩ w
  rw [show checkB ⟨0, 0, ⟨#[]⟩, 0⟩ = true by decide +kernel] at h
  exact h
set_option maxRecDepth 100000 in
set_option maxHeartbeats 4000000 in
theorem constant_any (w : World) : Calls Tryd.prog 65 #[.agg #[.int .i64 0, .int .i64 0, .string ⟨#[]⟩, .int .u64 0]] w fun e w' => e = .returned (.bool true) ∧ Below w.heap.size w w' := by
  have hb1 : Below w.heap.size w (w.alloc (.cells #[.int .i64 0, .int .i64 0, .string ⟨#[]⟩, .int .u64 0] 46)) := (Below.refl _ w).alloc (Nat.le_refl _) _
  have hx := Has.new w 46 [.int .i64 0, .int .i64 0, .string ⟨#[]⟩, .int .u64 0]
  have HC := Lib.hid (zero_check (w.alloc (.cells #[.int .i64 0, .int .i64 0, .string ⟨#[]⟩, .int .u64 0] 46)))
  have HB1 := Lib.hid hb1
  have HX := Lib.hid hx
  clear hb1 hx
  go_enter Tryd.func65, Tryd.ntmps65
  go_wp2_with fail
  refine HC.out.mono ?_
  rintro e w1 ⟨rfl, hb⟩
  have HB := Lib.hid (HB1.out.trans (hb.mono HB1.out.size))
  have h1 := HX.out.below hb HX.out.lt
  have c0 := h1.cell 0
  have c3 := h1.cell 3
  have l := h1.lt
  simp only [List.getElem?_cons_zero, List.getElem?_cons_succ] at c0 c3
  clear hb HC h1 HX HB1
  go_wp2
  go_ret
  exact ⟨rfl, HB.out⟩
set_option maxRecDepth 100000 in
theorem p2_any (w : World) : Calls Tryd.prog 64 #[.agg #[.int .i64 0, .int .i64 0, .string ⟨#[]⟩, .int .u64 0]] w fun e w' => e = .returned (.bool false) ∧ Below w.heap.size w w' := by
  have hb1 : Below w.heap.size w (w.alloc (.cells #[.int .i64 0, .int .i64 0, .string ⟨#[]⟩, .int .u64 0] 46)) := (Below.refl _ w).alloc (Nat.le_refl _) _
  have HC := Lib.hid (constant_any (w.alloc (.cells #[.int .i64 0, .int .i64 0, .string ⟨#[]⟩, .int .u64 0] 46)))
  have HB1 := Lib.hid hb1
  clear hb1
  go_enter Tryd.func64, Tryd.ntmps64
  go_wp2_with fail
  refine HC.out.mono ?_
  rintro e w1 ⟨rfl, hb⟩
  have HB := Lib.hid (HB1.out.trans (hb.mono HB1.out.size))
  clear hb HC
  go_wp2
  go_ret
  exact ⟨rfl, HB.out⟩
set_option maxRecDepth 100000 in
set_option maxHeartbeats 4000000 in
theorem index_types (g : Nat) (w : World) (h : Has w g 43 [.int .i64 0, .slice none 0 0, .slice none 0 0]) (hT : WTab w) : Calls Tryd.prog 79 #[.slice (some ⟨g, 0, none⟩) 1 1, .func (.func 60) #[] #[]] w fun e w' => e = .returned (.int .i64 (-1)) ∧ Below w.heap.size w w' := by
  have HC := Lib.hid (fun (W : World) (hW : Below w.heap.size w W) => p1_any W (hT.below hW))
  have HX := Lib.hid (fun (W : World) (hW : Below w.heap.size w W) => h.below hW h.lt)
  have hb0 := Below.refl w.heap.size w
  have h0 := h
  clear h hT
  go_enter Tryd.func79, Tryd.ntmps79
  go_wp2
  refine wp_loop_rounds 2 ?_
  rw [rounds_succ]
  have c0 := h0.cell 0
  have c1 := h0.cell 1
  have c2 := h0.cell 2
  have l0 := h0.lt
  simp only [List.getElem?_cons_zero, List.getElem?_cons_succ] at c0 c1 c2
  go_wp2_with fail
  refine (HC.out _ hb0).mono ?_
  rintro e w1 ⟨rfl, hb⟩
  have hb1 := hb0.trans (hb.mono hb0.size)
  have h1 := HX.out _ hb1
  clear hb h0 l0 c0 c1 c2
  go_wp2
  rw [rounds_succ]
  go_wp2
  go_ret
  exact ⟨rfl, hb1⟩
set_option maxRecDepth 100000 in
theorem contains_types (g : Nat) (w : World) (h : Has w g 43 [.int .i64 0, .slice none 0 0, .slice none 0 0]) (hT : WTab w) : Calls Tryd.prog 58 #[.slice (some ⟨g, 0, none⟩) 1 1, .func (.func 60) #[] #[]] w fun e w' => e = .returned (.bool false) ∧ Below w.heap.size w w' := by
  have HI := Lib.hid (index_types g w h hT)
  clear h hT
  go_enter Tryd.func58, Tryd.ntmps58
  go_wp2_with fail
  refine HI.out.mono ?_
  rintro e w1 ⟨rfl, hb⟩
  have HB := Lib.hid hb
  clear hb HI
  go_wp2
  go_ret
  exact ⟨rfl, HB.out⟩
set_option maxRecDepth 100000 in
set_option maxHeartbeats 4000000 in
theorem index_places (g : Nat) (w : World) (h : Has w g 3 [.int .i64 0, .int .i64 0]) : Calls Tryd.prog 80 #[.slice (some ⟨g, 0, none⟩) 2 2, .func (.func 62) #[] #[]] w fun e w' => e = .returned (.int .i64 (-1)) ∧ Below w.heap.size w w' := by
  have HC := Lib.hid (fun (W : World) (hW : Below w.heap.size w W) => below_any W)
  have HX := Lib.hid (fun (W : World) (hW : Below w.heap.size w W) => h.below hW h.lt)
  have hb0 := Below.refl w.heap.size w
  have h0 := h
  clear h
  go_enter Tryd.func80, Tryd.ntmps80
  go_wp2
  refine wp_loop_rounds 3 ?_
  rw [rounds_succ]
  have c0 := h0.cell 0
  have l0 := h0.lt
  simp only [List.getElem?_cons_zero] at c0
  go_wp2_with fail
  refine (HC.out _ hb0).mono ?_
  rintro e w1 ⟨rfl, hb⟩
  have hb1 := hb0.trans (hb.mono hb0.size)
  have h1 := HX.out _ hb1
  clear hb h0 l0 c0
  go_wp2
  rw [rounds_succ]
  have c0 := h1.cell 1
  have l1 := h1.lt
  simp only [List.getElem?_cons_zero, List.getElem?_cons_succ] at c0
  go_wp2_with fail
  refine (HC.out _ hb1).mono ?_
  rintro e w2 ⟨rfl, hb⟩
  have hb2 := hb1.trans (hb.mono hb1.size)
  have h2 := HX.out _ hb2
  clear hb h1 l1 c0
  go_wp2
  rw [rounds_succ]
  go_wp2
  go_ret
  exact ⟨rfl, hb2⟩
set_option maxRecDepth 100000 in
theorem contains_places (g : Nat) (w : World) (h : Has w g 3 [.int .i64 0, .int .i64 0]) : Calls Tryd.prog 61 #[.slice (some ⟨g, 0, none⟩) 2 2, .func (.func 62) #[] #[]] w fun e w' => e = .returned (.bool false) ∧ Below w.heap.size w w' := by
  have HI := Lib.hid (index_places g w h)
  clear h
  go_enter Tryd.func61, Tryd.ntmps61
  go_wp2_with fail
  refine HI.out.mono ?_
  rintro e w1 ⟨rfl, hb⟩
  have HB := Lib.hid hb
  clear hb HI
  go_wp2
  go_ret
  exact ⟨rfl, HB.out⟩
set_option maxRecDepth 100000 in
set_option maxHeartbeats 4000000 in
theorem index_consts (g : Nat) (w : World) (h : Has w g 46 [.int .i64 0, .int .i64 0, .string ⟨#[]⟩, .int .u64 0]) : Calls Tryd.prog 81 #[.slice (some ⟨g, 0, none⟩) 1 1, .func (.func 64) #[] #[]] w fun e w' => e = .returned (.int .i64 (-1)) ∧ Below w.heap.size w w' := by
  have HC := Lib.hid (fun (W : World) (hW : Below w.heap.size w W) => p2_any W)
  have HX := Lib.hid (fun (W : World) (hW : Below w.heap.size w W) => h.below hW h.lt)
  have hb0 := Below.refl w.heap.size w
  have h0 := h
  clear h
  go_enter Tryd.func81, Tryd.ntmps81
  go_wp2
  refine wp_loop_rounds 2 ?_
  rw [rounds_succ]
  have c0 := h0.cell 0
  have c1 := h0.cell 1
  have c2 := h0.cell 2
  have c3 := h0.cell 3
  have l0 := h0.lt
  simp only [List.getElem?_cons_zero, List.getElem?_cons_succ] at c0 c1 c2 c3
  go_wp2_with fail
  refine (HC.out _ hb0).mono ?_
  rintro e w1 ⟨rfl, hb⟩
  have hb1 := hb0.trans (hb.mono hb0.size)
  have h1 := HX.out _ hb1
  clear hb h0 l0 c0 c1 c2 c3
  go_wp2
  rw [rounds_succ]
  go_wp2
  go_ret
  exact ⟨rfl, hb1⟩
set_option maxRecDepth 100000 in
theorem contains_consts (g : Nat) (w : World) (h : Has w g 46 [.int .i64 0, .int .i64 0, .string ⟨#[]⟩, .int .u64 0]) : Calls Tryd.prog 63 #[.slice (some ⟨g, 0, none⟩) 1 1, .func (.func 64) #[] #[]] w fun e w' => e = .returned (.bool false) ∧ Below w.heap.size w w' := by
  have HI := Lib.hid (index_consts g w h)
  clear h
  go_enter Tryd.func63, Tryd.ntmps63
  go_wp2_with fail
  refine HI.out.mono ?_
  rintro e w1 ⟨rfl, hb⟩
  have HB := Lib.hid hb
  clear hb HI
  go_wp2
  go_ret
  exact ⟨rfl, HB.out⟩
set_option maxRecDepth 100000 in
set_option maxHeartbeats 4000000 in
theorem index_ups (_g : Nat) (w : World) : Calls Tryd.prog 83 #[.slice none 0 0, .func (.func 67) #[] #[]] w fun e w' => e = .returned (.int .i64 (-1)) ∧ Below w.heap.size w w' := by
  go_enter Tryd.func83, Tryd.ntmps83
  go_wp2
  refine wp_loop_rounds 1 ?_
  rw [rounds_succ]
  go_wp2
  go_ret
  exact ⟨rfl, Below.refl _ _⟩
set_option maxRecDepth 100000 in
theorem contains_ups (_g : Nat) (w : World) : Calls Tryd.prog 66 #[.slice none 0 0, .func (.func 67) #[] #[]] w fun e w' => e = .returned (.bool false) ∧ Below w.heap.size w w' := by
  have HI := Lib.hid (index_ups 0 w)
  skip
  go_enter Tryd.func66, Tryd.ntmps66
  go_wp2_with fail
  refine HI.out.mono ?_
  rintro e w1 ⟨rfl, hb⟩
  have HB := Lib.hid hb
  clear hb HI
  go_wp2
  go_ret
  exact ⟨rfl, HB.out⟩
set_option maxRecDepth 100000 in
set_option maxHeartbeats 4000000 in
theorem index_shapes (_g : Nat) (w : World) : Calls Tryd.prog 79 #[.slice none 0 0, .func (.func 59) #[] #[]] w fun e w' => e = .returned (.int .i64 (-1)) ∧ Below w.heap.size w w' := by
  go_enter Tryd.func79, Tryd.ntmps79
  go_wp2
  refine wp_loop_rounds 1 ?_
  rw [rounds_succ]
  go_wp2
  go_ret
  exact ⟨rfl, Below.refl _ _⟩
set_option maxRecDepth 100000 in
theorem contains_shapes (_g : Nat) (w : World) : Calls Tryd.prog 58 #[.slice none 0 0, .func (.func 59) #[] #[]] w fun e w' => e = .returned (.bool false) ∧ Below w.heap.size w w' := by
  have HI := Lib.hid (index_shapes 0 w)
  skip
  go_enter Tryd.func58, Tryd.ntmps58
  go_wp2_with fail
  refine HI.out.mono ?_
  rintro e w1 ⟨rfl, hb⟩
  have HB := Lib.hid hb
  clear hb HI
  go_wp2
  go_ret
  exact ⟨rfl, HB.out⟩
set_option maxRecDepth 100000 in
set_option maxHeartbeats 8000000 in
theorem proto_any (gT gW gC gP : Nat) (x : Int) (w : World) (hT : WTab w) (h : ExP w gT gW gC gP x) : Calls Tryd.prog 31 #[.agg #[.slice (some ⟨gT, 0, none⟩) 1 1, .int .i64 1, .slice (some ⟨gW, 0, none⟩) 2 2, .slice (some ⟨gC, 0, none⟩) 1 1, .slice none 0 0, .slice (some ⟨gP, 0, none⟩) 2 2]] w fun e w' => e = .returned (.bool true) ∧ Below w.heap.size w w' := by
  have hb1 : Below w.heap.size w (w.alloc (.cells #[.slice (some ⟨gT, 0, none⟩) 1 1, .int .i64 1, .slice (some ⟨gW, 0, none⟩) 2 2, .slice (some ⟨gC, 0, none⟩) 1 1, .slice none 0 0, .slice (some ⟨gP, 0, none⟩) 2 2] 38)) := (Below.refl _ w).alloc (Nat.le_refl _) _
  have hx := Has.new w 38 [.slice (some ⟨gT, 0, none⟩) 1 1, .int .i64 1, .slice (some ⟨gW, 0, none⟩) 2 2, .slice (some ⟨gC, 0, none⟩) 1 1, .slice none 0 0, .slice (some ⟨gP, 0, none⟩) 2 2]
  have HX : Hid (∀ W, Below (w.alloc (.cells #[.slice (some ⟨gT, 0, none⟩) 1 1, .int .i64 1, .slice (some ⟨gW, 0, none⟩) 2 2, .slice (some ⟨gC, 0, none⟩) 1 1, .slice none 0 0, .slice (some ⟨gP, 0, none⟩) 2 2] 38)).heap.size (w.alloc (.cells #[.slice (some ⟨gT, 0, none⟩) 1 1, .int .i64 1, .slice (some ⟨gW, 0, none⟩) 2 2, .slice (some ⟨gC, 0, none⟩) 1 1, .slice none 0 0, .slice (some ⟨gP, 0, none⟩) 2 2] 38)) W → Has W w.heap.size 38 [.slice (some ⟨gT, 0, none⟩) 1 1, .int .i64 1, .slice (some ⟨gW, 0, none⟩) 2 2, .slice (some ⟨gC, 0, none⟩) 1 1, .slice none 0 0, .slice (some ⟨gP, 0, none⟩) 2 2] ∧ ExP W gT gW gC gP x ∧ WTab W ∧ Below w.heap.size w W) := Lib.hid fun W hW => ⟨hx.below hW hx.lt, (h.below hb1).below hW, (hT.below hb1).below hW, hb1.trans (hW.mono hb1.size)⟩
  have HB0 := Lib.hid (Below.refl (w.alloc (.cells #[.slice (some ⟨gT, 0, none⟩) 1 1, .int .i64 1, .slice (some ⟨gW, 0, none⟩) 2 2, .slice (some ⟨gC, 0, none⟩) 1 1, .slice none 0 0, .slice (some ⟨gP, 0, none⟩) 2 2] 38)).heap.size (w.alloc (.cells #[.slice (some ⟨gT, 0, none⟩) 1 1, .int .i64 1, .slice (some ⟨gW, 0, none⟩) 2 2, .slice (some ⟨gC, 0, none⟩) 1 1, .slice none 0 0, .slice (some ⟨gP, 0, none⟩) 2 2] 38)))
  have HT0 := Lib.hid (contains_types gT _ (HX.out _ HB0.out).2.1.t (HX.out _ HB0.out).2.2.1)
  clear hb1 hx hT h
  go_enter Tryd.func31, Tryd.ntmps31
  go_wp2_with fail
  refine HT0.out.mono ?_
  rintro e w1 ⟨rfl, hb⟩
  have HB1 := Lib.hid (HB0.out.trans hb)
  have hx := HX.out _ HB1.out
  have HT1 := Lib.hid (contains_places gP _ hx.2.1.p)
  have y5 := hx.1.cell 5
  have ly := hx.1.lt
  simp only [List.getElem?_cons_zero, List.getElem?_cons_succ] at y5
  clear hb hx HT0 HB0
  go_wp2_with fail
  refine HT1.out.mono ?_
  rintro e w2 ⟨rfl, hb⟩
  have HB2 := Lib.hid (HB1.out.trans (hb.mono HB1.out.size))
  have hx := HX.out _ HB2.out
  have HT2 := Lib.hid (contains_consts gC _ hx.2.1.c)
  clear y5 ly
  have y3 := hx.1.cell 3
  have ly := hx.1.lt
  simp only [List.getElem?_cons_zero, List.getElem?_cons_succ] at y3
  clear hb hx HT1 HB1
  go_wp2_with fail
  refine HT2.out.mono ?_
  rintro e w3 ⟨rfl, hb⟩
  have HB3 := Lib.hid (HB2.out.trans (hb.mono HB2.out.size))
  have hx := HX.out _ HB3.out
  have HT3 := Lib.hid (contains_ups 0 w3)
  clear y3 ly
  have y4 := hx.1.cell 4
  have ly := hx.1.lt
  simp only [List.getElem?_cons_zero, List.getElem?_cons_succ] at y4
  clear hb hx HT2 HB2
  go_wp2_with fail
  refine HT3.out.mono ?_
  rintro e w4 ⟨rfl, hb⟩
  have HB4 := Lib.hid (HX.out _ (HB3.out.trans (hb.mono HB3.out.size))).2.2.2
  clear hb y4 ly HT3 HB3 HX
  go_wp2
  go_ret
  exact ⟨rfl, HB4.out⟩
set_option maxRecDepth 100000 in
set_option maxHeartbeats 8000000 in
theorem whole_any (gT gW gC gP gI : Nat) (w : World) (hI : Has w gI 38 [.slice (some ⟨gT, 0, none⟩) 1 1, .int .i64 1, .slice (some ⟨gW, 0, none⟩) 2 2, .slice (some ⟨gC, 0, none⟩) 1 1, .slice none 0 0, .slice (some ⟨gP, 0, none⟩) 2 2]) : Calls Tryd.prog 30 #[.agg #[.slice (some ⟨gI, 0, none⟩) 1 1, .slice none 0 0, .slice none 0 0, .int .u64 0, .int .u64 0, .int .u64 0, .int .u64 0, .int .u64 0, .int .u64 0, .int .u64 0, .int .u64 0]] w fun e w' => e = .returned (.bool true) ∧ Below w.heap.size w w' := by
  have hb1 : Below w.heap.size w (w.alloc (.cells #[.slice (some ⟨gI, 0, none⟩) 1 1, .slice none 0 0, .slice none 0 0, .int .u64 0, .int .u64 0, .int .u64 0, .int .u64 0, .int .u64 0, .int .u64 0, .int .u64 0, .int .u64 0] 29)) := (Below.refl _ w).alloc (Nat.le_refl _) _
  have HB1 := Lib.hid hb1
  have HS := Lib.hid (contains_shapes 0 (w.alloc (.cells #[.slice (some ⟨gI, 0, none⟩) 1 1, .slice none 0 0, .slice none 0 0, .int .u64 0, .int .u64 0, .int .u64 0, .int .u64 0, .int .u64 0, .int .u64 0, .int .u64 0, .int .u64 0] 29)))
  have y0 := hI.cell 0
  have y4 := hI.cell 4
  have ly := hI.lt
  simp only [List.getElem?_cons_zero, List.getElem?_cons_succ] at y0 y4
  clear hb1 hI
  go_enter Tryd.func30, Tryd.ntmps30
  go_wp2
  refine wp_loop_rounds 1 ?_
  rw [rounds_succ]
  go_wp2_with fail
  refine HS.out.mono ?_
  rintro e w2 ⟨rfl, hb⟩
  have HB2 := Lib.hid (HB1.out.trans (hb.mono HB1.out.size))
  clear hb HS
  go_wp2
  go_ret
  exact ⟨rfl, HB2.out⟩
end CodeD
end Go.Proofs.YtmebhdffgpnplaaDoor
