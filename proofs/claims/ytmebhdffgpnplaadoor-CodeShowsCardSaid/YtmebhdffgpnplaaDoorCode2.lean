/- The example of chapter 16: words. (Written by mk_code2.py.) -/
import Derived.Test.YtmebhdffgpnplaaDoorCode1
import Derived.Lib.OthersKept
import Derived.Deep.DeepCutAuto
namespace Go.Proofs.YtmebhdffgpnplaaDoor
open Go.RowKit ObjM
namespace CodeD
open InstrM InstrD

theorem answer_1 : answer 1 (kF 1) (wOf 1 (kF 1)) = .tuple #[.agg #[.int .i64 1, .int .i64 0, .int .i64 0, .int .i64 0, .int .i64 0], .int .i64 0] := by
  have h : wOf 1 (kF 1) = (1, 0) := by decide +kernel
  unfold answer
  rw [if_pos h]
  have h2 : (kF 1).a = 0 ∧ (kF 1).b = 0 ∧ (kF 1).c = 0 ∧ (kF 1).d = 0 := by decide +kernel
  rw [h2.1, h2.2.1, h2.2.2.1, h2.2.2.2]
  rfl
theorem decide_1 (W : World) (hT : Tabs W) : Calls Tryd.prog 21 #[.int .u32 1] W fun e w' => e = .returned (.tuple #[.agg #[.int .i64 1, .int .i64 0, .int .i64 0, .int .i64 0, .int .i64 0], .int .i64 0]) ∧ Below W.heap.size W w' := by
  rw [← answer_1]
  exact decode_any 1 (by decide) (by decide) W hT
theorem form_1 (W : World) (hT : Tabs W) : Calls Tryd.prog 46 #[.int .i64 1] W fun e w' => e = .returned (.string ⟨#[65, 68]⟩) ∧ Below W.heap.size W w' := by
  have h := form_any 1 (by decide) (by decide) W hT
  rw [show formOf 1 = [65, 68] by decide +kernel] at h
  exact h
theorem answer_35 : answer 35 (kF 35) (wOf 35 (kF 35)) = .tuple #[.agg #[.int .i64 35, .int .i64 0, .int .i64 0, .int .i64 0, .int .i64 0], .int .i64 0] := by
  have h : wOf 35 (kF 35) = (35, 0) := by decide +kernel
  unfold answer
  rw [if_pos h]
  have h2 : (kF 35).a = 0 ∧ (kF 35).b = 0 ∧ (kF 35).c = 0 ∧ (kF 35).d = 0 := by decide +kernel
  rw [h2.1, h2.2.1, h2.2.2.1, h2.2.2.2]
  rfl
theorem decide_35 (W : World) (hT : Tabs W) : Calls Tryd.prog 21 #[.int .u32 35] W fun e w' => e = .returned (.tuple #[.agg #[.int .i64 35, .int .i64 0, .int .i64 0, .int .i64 0, .int .i64 0], .int .i64 0]) ∧ Below W.heap.size W w' := by
  rw [← answer_35]
  exact decode_any 35 (by decide) (by decide) W hT
theorem form_35 (W : World) (hT : Tabs W) : Calls Tryd.prog 46 #[.int .i64 35] W fun e w' => e = .returned (.string ⟨#[65, 68]⟩) ∧ Below W.heap.size W w' := by
  have h := form_any 35 (by decide) (by decide) W hT
  rw [show formOf 35 = [65, 68] by decide +kernel] at h
  exact h
theorem answer_42 : answer 42 (kF 42) (wOf 42 (kF 42)) = .tuple #[.agg #[.int .i64 42, .int .i64 0, .int .i64 0, .int .i64 0, .int .i64 0], .int .i64 0] := by
  have h : wOf 42 (kF 42) = (42, 0) := by decide +kernel
  unfold answer
  rw [if_pos h]
  have h2 : (kF 42).a = 0 ∧ (kF 42).b = 0 ∧ (kF 42).c = 0 ∧ (kF 42).d = 0 := by decide +kernel
  rw [h2.1, h2.2.1, h2.2.2.1, h2.2.2.2]
  rfl
theorem decide_42 (W : World) (hT : Tabs W) : Calls Tryd.prog 21 #[.int .u32 42] W fun e w' => e = .returned (.tuple #[.agg #[.int .i64 42, .int .i64 0, .int .i64 0, .int .i64 0, .int .i64 0], .int .i64 0]) ∧ Below W.heap.size W w' := by
  rw [← answer_42]
  exact decode_any 42 (by decide) (by decide) W hT
theorem form_42 (W : World) (hT : Tabs W) : Calls Tryd.prog 46 #[.int .i64 42] W fun e w' => e = .returned (.string ⟨#[65]⟩) ∧ Below W.heap.size W w' := by
  have h := form_any 42 (by decide) (by decide) W hT
  rw [show formOf 42 = [65] by decide +kernel] at h
  exact h
set_option maxRecDepth 100000 in
set_option maxHeartbeats 16000000 in
theorem word_1_0 (gT gW gC gP gI : Nat) (w : World) (hT : Tabs w) (h : ExP w gT gW gC gP 1) : Calls Tryd.prog 32 #[.agg #[.slice (some ⟨gI, 0, none⟩) 1 1, .slice none 0 0, .slice none 0 0, .int .u64 0, .int .u64 0, .int .u64 0, .int .u64 0, .int .u64 0, .int .u64 0, .int .u64 0, .int .u64 0], .agg #[.slice (some ⟨gT, 0, none⟩) 1 1, .int .i64 1, .slice (some ⟨gW, 0, none⟩) 2 2, .slice (some ⟨gC, 0, none⟩) 1 1, .slice none 0 0, .slice (some ⟨gP, 0, none⟩) 2 2], .int .i64 0] w fun e w' => e = .returned (.bool true) ∧ Below w.heap.size w w' := by
  have HD := Lib.hid (fun W hT => decide_1 W hT)
  have HFo := Lib.hid (fun W hT => form_1 W hT)
  obtain ⟨W1, hW1⟩ : ∃ W1, w.alloc (.cells #[.slice (some ⟨gI, 0, none⟩) 1 1, .slice none 0 0, .slice none 0 0, .int .u64 0, .int .u64 0, .int .u64 0, .int .u64 0, .int .u64 0, .int .u64 0, .int .u64 0, .int .u64 0] 29) = W1 := ⟨_, rfl⟩
  have h1 : Has W1 w.heap.size 29 [.slice (some ⟨gI, 0, none⟩) 1 1, .slice none 0 0, .slice none 0 0, .int .u64 0, .int .u64 0, .int .u64 0, .int .u64 0, .int .u64 0, .int .u64 0, .int .u64 0, .int .u64 0] := by rw [← hW1]; exact Has.new w 29 _
  have s1 : W1.heap.size = w.heap.size + 1 := by rw [← hW1]; simp
  have b1 : Below w.heap.size w W1 := by rw [← hW1]; exact (Below.refl _ w).alloc (Nat.le_refl _) _
  have h2 := Has.new W1 38 [.slice (some ⟨gT, 0, none⟩) 1 1, .int .i64 1, .slice (some ⟨gW, 0, none⟩) 2 2, .slice (some ⟨gC, 0, none⟩) 1 1, .slice none 0 0, .slice (some ⟨gP, 0, none⟩) 2 2]
  have b2 : Below W1.heap.size W1 (W1.alloc (.cells #[.slice (some ⟨gT, 0, none⟩) 1 1, .int .i64 1, .slice (some ⟨gW, 0, none⟩) 2 2, .slice (some ⟨gC, 0, none⟩) 1 1, .slice none 0 0, .slice (some ⟨gP, 0, none⟩) 2 2] 38)) := (Below.refl _ W1).alloc (Nat.le_refl _) _
  rw [s1] at h2
  obtain ⟨W2, hW2⟩ : ∃ W2, W1.alloc (.cells #[.slice (some ⟨gT, 0, none⟩) 1 1, .int .i64 1, .slice (some ⟨gW, 0, none⟩) 2 2, .slice (some ⟨gC, 0, none⟩) 1 1, .slice none 0 0, .slice (some ⟨gP, 0, none⟩) 2 2] 38) = W2 := ⟨_, rfl⟩
  rw [hW2] at h2 b2
  have h12 := h1.below b2 h1.lt
  have b12 := b1.trans (b2.mono b1.size)
  have hE2 := h.below b12
  have hT2 := hT.below b12
  have HW : Hid ((w.alloc (.cells #[.slice (some ⟨gI, 0, none⟩) 1 1, .slice none 0 0, .slice none 0 0, .int .u64 0, .int .u64 0, .int .u64 0, .int .u64 0, .int .u64 0, .int .u64 0, .int .u64 0, .int .u64 0] 29)).alloc (.cells #[.slice (some ⟨gT, 0, none⟩) 1 1, .int .i64 1, .slice (some ⟨gW, 0, none⟩) 2 2, .slice (some ⟨gC, 0, none⟩) 1 1, .slice none 0 0, .slice (some ⟨gP, 0, none⟩) 2 2] 38) = W2) := Lib.hid (by rw [hW1, hW2])
  have y2 := h2.cell 2
  have ly := h2.lt
  have cw := hE2.ws.cell 0
  have lw := hE2.ws.lt
  simp only [List.getElem?_cons_zero, List.getElem?_cons_succ] at y2 cw
  have HA := Lib.hid (⟨h12, h2, hE2, hT2, b12⟩ : Has W2 w.heap.size 29 _ ∧ Has W2 (w.heap.size + 1) 38 _ ∧ ExP W2 gT gW gC gP 1 ∧ Tabs W2 ∧ Below w.heap.size w W2)
  clear h1 s1 b1 h2 b2 h12 hE2 hT2 b12 hW1 hW2 h hT
  go_enter Tryd.func32, Tryd.ntmps32
  go_upto_region 1 with fail
  rw [HW.out]
  clear HW
  go_wp2_with fail
  refine (HD.out _ HA.out.2.2.2.1).mono ?_
  rintro e w3 ⟨rfl, hb3⟩
  have hI := Has.new w3 65 [.int .i64 1, .int .i64 0, .int .i64 0, .int .i64 0, .int .i64 0]
  have b4 : Below w3.heap.size w3 (w3.alloc (.cells #[.int .i64 1, .int .i64 0, .int .i64 0, .int .i64 0, .int .i64 0] 65)) := (Below.refl _ w3).alloc (Nat.le_refl _) _
  obtain ⟨I, hIe⟩ : ∃ I, w3.heap.size = I := ⟨_, rfl⟩
  obtain ⟨W4, hW4⟩ : ∃ W4, w3.alloc (.cells #[.int .i64 1, .int .i64 0, .int .i64 0, .int .i64 0, .int .i64 0] 65) = W4 := ⟨_, rfl⟩
  have hIW : W2.heap.size ≤ I := by rw [← hIe]; exact hb3.size
  have s4 : W4.heap.size = I + 1 := by rw [← hW4, ← hIe]; simp
  rw [hW4] at hI b4
  rw [hIe] at hI
  have HX : Hid (∀ W, Below W4.heap.size W4 W → (W.cell? ⟨w.heap.size, 0, none⟩ = some (.slice (some ⟨gI, 0, none⟩) 1 1) ∧ W.cell? ⟨w.heap.size, 1, none⟩ = some (.slice none 0 0) ∧ W.cell? ⟨w.heap.size, 2, none⟩ = some (.slice none 0 0) ∧ W.cell? ⟨w.heap.size, 3, none⟩ = some (.int .u64 0) ∧ W.cell? ⟨w.heap.size, 4, none⟩ = some (.int .u64 0) ∧ W.cell? ⟨w.heap.size, 5, none⟩ = some (.int .u64 0) ∧ W.cell? ⟨w.heap.size, 6, none⟩ = some (.int .u64 0) ∧ W.cell? ⟨w.heap.size, 7, none⟩ = some (.int .u64 0) ∧ W.cell? ⟨w.heap.size, 8, none⟩ = some (.int .u64 0) ∧ W.cell? ⟨w.heap.size, 9, none⟩ = some (.int .u64 0) ∧ W.cell? ⟨w.heap.size, 10, none⟩ = some (.int .u64 0)) ∧ (W.cell? ⟨w.heap.size + 1, 0, none⟩ = some (.slice (some ⟨gT, 0, none⟩) 1 1) ∧ W.cell? ⟨w.heap.size + 1, 1, none⟩ = some (.int .i64 1) ∧ W.cell? ⟨w.heap.size + 1, 2, none⟩ = some (.slice (some ⟨gW, 0, none⟩) 2 2) ∧ W.cell? ⟨w.heap.size + 1, 3, none⟩ = some (.slice (some ⟨gC, 0, none⟩) 1 1) ∧ W.cell? ⟨w.heap.size + 1, 4, none⟩ = some (.slice none 0 0) ∧ W.cell? ⟨w.heap.size + 1, 5, none⟩ = some (.slice (some ⟨gP, 0, none⟩) 2 2)) ∧ (W.cell? ⟨I, 0, none⟩ = some (.int .i64 1) ∧ W.cell? ⟨I, 1, none⟩ = some (.int .i64 0) ∧ W.cell? ⟨I, 2, none⟩ = some (.int .i64 0) ∧ W.cell? ⟨I, 3, none⟩ = some (.int .i64 0) ∧ W.cell? ⟨I, 4, none⟩ = some (.int .i64 0)) ∧ w.heap.size < W.heap.size ∧ w.heap.size + 1 < W.heap.size ∧ I < W.heap.size ∧ ExP W gT gW gC gP 1 ∧ Tabs W ∧ Below w.heap.size w W) := Lib.hid fun W hW => by
    have k : Below W2.heap.size W2 W := (hb3.trans (b4.mono hb3.size)).trans (hW.mono (by omega))
    have g1 := HA.out.1.below k HA.out.1.lt
    have g2 := HA.out.2.1.below k HA.out.2.1.lt
    have g3 := hI.below hW hI.lt
    exact ⟨⟨g1.cell 0, g1.cell 1, g1.cell 2, g1.cell 3, g1.cell 4, g1.cell 5, g1.cell 6, g1.cell 7, g1.cell 8, g1.cell 9, g1.cell 10⟩, ⟨g2.cell 0, g2.cell 1, g2.cell 2, g2.cell 3, g2.cell 4, g2.cell 5⟩, ⟨g3.cell 0, g3.cell 1, g3.cell 2, g3.cell 3, g3.cell 4⟩, g1.lt, g2.lt, g3.lt, HA.out.2.2.1.below k, HA.out.2.2.2.1.below k, HA.out.2.2.2.2.trans (k.mono HA.out.2.2.2.2.size)⟩
  have HW4 := Lib.hid hW4
  have HIe := Lib.hid hIe
  have HS4 := Lib.hid s4
  have i0 := hI.cell 0
  have li := hI.lt
  simp only [List.getElem?_cons_zero] at i0
  obtain ⟨-, ⟨-, -, v2, -⟩, -, -, lv, -, hE4, hT4, hB4⟩ := HX.out W4 (Below.refl _ _)
  clear hb3 hI b4 hIW s4 y2 ly cw lw HD hW4 hIe HA
  go_upto_region 2 with fail
  rw [HW4.out, HIe.out]
  have HF4 := Lib.hid (HFo.out _ hT4)
  clear hB4 hE4 hT4 HFo
  go_wp2_with fail
  refine HF4.out.mono ?_
  rintro e w6 ⟨rfl, hb6⟩
  clear HF4 v2 lv i0 li
  go_wp2
  obtain ⟨It, hIt⟩ : ∃ It, w6.heap.size = It := ⟨_, rfl⟩
  obtain ⟨U0, hU0⟩ : ∃ U0, w6.iter ⟨#[65, 68]⟩ 0 = U0 := ⟨_, rfl⟩
  have hi0 : U0.heap[It]? = some (.stringIter ⟨#[65, 68]⟩ 0) := by rw [← hU0, ← hIt]; exact World.iter_heap w6 ⟨#[65, 68]⟩ 0
  have hk0 : Below W4.heap.size W4 U0 := by rw [← hU0]; exact hb6.alloc hb6.size _
  have hItW : W4.heap.size ≤ It := by rw [← hIt]; exact hb6.size
  rw [hU0]
  try rw [hIt]
  clear hb6 hU0 hIt
  refine wp_loop_rounds 3 ?_
  rw [rounds_succ]
  have hn := Lib.run_next_ascii_at (P := Tryd.prog) U0 It ⟨#[65, 68]⟩ 0
  have hnx : ∀ ty, (Instr.next (.pointer (some ⟨It, 0, none⟩)) true ty).run Tryd.prog U0 = .ok (.tuple #[.bool true, .int .i64 0, .int .i32 65]) (U0.iterAt It ⟨#[65, 68]⟩ 1) := fun ty => hn ty hi0 (by decide) (by decide)
  have hj := Lib.below_iterAt hk0 hItW ⟨#[65, 68]⟩ 1
  have hij := Lib.iterAt_heap U0 It ⟨#[65, 68]⟩ 0 1 hi0
  obtain ⟨⟨x0, x1, x2, x3, x4, x5, x6, x7, x8, x9, x10⟩, ⟨y0, y1, y2, y3, y4, y5⟩, ⟨z0, z1, z2, z3, z4⟩, lx, ly, lz, hE, hTb, hBw⟩ := HX.out _ hj
  have HFk := Lib.hid (fieldA_1 gT gW gC gP gI (U0.iterAt It ⟨#[65, 68]⟩ 1))
  have HJ := Lib.hid (⟨hj, hij⟩ : _ ∧ _)
  clear hn hTb hBw hE hj hij hi0 hk0
  go_wp2_with fail
  refine HFk.out.mono ?_
  rintro e U1 ⟨rfl, hb⟩
  have hk1 : Below W4.heap.size W4 U1 := HJ.out.1.trans (hb.mono HJ.out.1.size)
  have hi1 : U1.heap[It]? = some (.stringIter ⟨#[65, 68]⟩ 1) := (hb.block It (Array.getElem?_eq_some_iff.1 HJ.out.2).1).trans HJ.out.2
  clear hb HFk HJ hnx lx ly lz x0 x1 x2 x3 x4 x5 x6 x7 x8 x9 x10 y0 y1 y2 y3 y4 y5 z0 z1 z2 z3 z4
  go_wp2
  rw [rounds_succ]
  have hn := Lib.run_next_ascii_at (P := Tryd.prog) U1 It ⟨#[65, 68]⟩ 1
  have hnx : ∀ ty, (Instr.next (.pointer (some ⟨It, 0, none⟩)) true ty).run Tryd.prog U1 = .ok (.tuple #[.bool true, .int .i64 1, .int .i32 68]) (U1.iterAt It ⟨#[65, 68]⟩ 2) := fun ty => hn ty hi1 (by decide) (by decide)
  have hj := Lib.below_iterAt hk1 hItW ⟨#[65, 68]⟩ 2
  have hij := Lib.iterAt_heap U1 It ⟨#[65, 68]⟩ 1 2 hi1
  obtain ⟨⟨x0, x1, x2, x3, x4, x5, x6, x7, x8, x9, x10⟩, ⟨y0, y1, y2, y3, y4, y5⟩, ⟨z0, z1, z2, z3, z4⟩, lx, ly, lz, hE, hTb, hBw⟩ := HX.out _ hj
  have HFk := Lib.hid (fieldD_1 gT gW gC gP gI (U1.iterAt It ⟨#[65, 68]⟩ 2) hE)
  have HJ := Lib.hid (⟨hj, hij⟩ : _ ∧ _)
  clear hn hTb hBw hE hj hij hi1 hk1
  go_wp2_with fail
  refine HFk.out.mono ?_
  rintro e U2 ⟨rfl, hb⟩
  have hk2 : Below W4.heap.size W4 U2 := HJ.out.1.trans (hb.mono HJ.out.1.size)
  have hi2 : U2.heap[It]? = some (.stringIter ⟨#[65, 68]⟩ 2) := (hb.block It (Array.getElem?_eq_some_iff.1 HJ.out.2).1).trans HJ.out.2
  clear hb HFk HJ hnx lx ly lz x0 x1 x2 x3 x4 x5 x6 x7 x8 x9 x10 y0 y1 y2 y3 y4 y5 z0 z1 z2 z3 z4
  go_wp2
  rw [rounds_succ]
  have hnx : ∀ ty, (Instr.next (.pointer (some ⟨It, 0, none⟩)) true ty).run Tryd.prog U2 = .ok (.tuple #[.bool false]) U2 := fun ty => Lib.run_next_end_at U2 It ⟨#[65, 68]⟩ 2 ty hi2 (by decide)
  have HBe := Lib.hid (HX.out _ hk2).2.2.2.2.2.2.2.2
  clear hi2 hk2 HX
  go_wp2
  go_ret
  exact ⟨rfl, HBe.out⟩
set_option maxRecDepth 100000 in
set_option maxHeartbeats 16000000 in
theorem word_1_1 (gT gW gC gP gI : Nat) (w : World) (hT : Tabs w) (h : ExP w gT gW gC gP 1) : Calls Tryd.prog 32 #[.agg #[.slice (some ⟨gI, 0, none⟩) 1 1, .slice none 0 0, .slice none 0 0, .int .u64 0, .int .u64 0, .int .u64 0, .int .u64 0, .int .u64 0, .int .u64 0, .int .u64 0, .int .u64 0], .agg #[.slice (some ⟨gT, 0, none⟩) 1 1, .int .i64 1, .slice (some ⟨gW, 0, none⟩) 2 2, .slice (some ⟨gC, 0, none⟩) 1 1, .slice none 0 0, .slice (some ⟨gP, 0, none⟩) 2 2], .int .i64 1] w fun e w' => e = .returned (.bool true) ∧ Below w.heap.size w w' := by
  have HD := Lib.hid (fun W hT => decide_42 W hT)
  have HFo := Lib.hid (fun W hT => form_42 W hT)
  have HBr := Lib.hid (fun W => branches_1 W)
  obtain ⟨W1, hW1⟩ : ∃ W1, w.alloc (.cells #[.slice (some ⟨gI, 0, none⟩) 1 1, .slice none 0 0, .slice none 0 0, .int .u64 0, .int .u64 0, .int .u64 0, .int .u64 0, .int .u64 0, .int .u64 0, .int .u64 0, .int .u64 0] 29) = W1 := ⟨_, rfl⟩
  have h1 : Has W1 w.heap.size 29 [.slice (some ⟨gI, 0, none⟩) 1 1, .slice none 0 0, .slice none 0 0, .int .u64 0, .int .u64 0, .int .u64 0, .int .u64 0, .int .u64 0, .int .u64 0, .int .u64 0, .int .u64 0] := by rw [← hW1]; exact Has.new w 29 _
  have s1 : W1.heap.size = w.heap.size + 1 := by rw [← hW1]; simp
  have b1 : Below w.heap.size w W1 := by rw [← hW1]; exact (Below.refl _ w).alloc (Nat.le_refl _) _
  have h2 := Has.new W1 38 [.slice (some ⟨gT, 0, none⟩) 1 1, .int .i64 1, .slice (some ⟨gW, 0, none⟩) 2 2, .slice (some ⟨gC, 0, none⟩) 1 1, .slice none 0 0, .slice (some ⟨gP, 0, none⟩) 2 2]
  have b2 : Below W1.heap.size W1 (W1.alloc (.cells #[.slice (some ⟨gT, 0, none⟩) 1 1, .int .i64 1, .slice (some ⟨gW, 0, none⟩) 2 2, .slice (some ⟨gC, 0, none⟩) 1 1, .slice none 0 0, .slice (some ⟨gP, 0, none⟩) 2 2] 38)) := (Below.refl _ W1).alloc (Nat.le_refl _) _
  rw [s1] at h2
  obtain ⟨W2, hW2⟩ : ∃ W2, W1.alloc (.cells #[.slice (some ⟨gT, 0, none⟩) 1 1, .int .i64 1, .slice (some ⟨gW, 0, none⟩) 2 2, .slice (some ⟨gC, 0, none⟩) 1 1, .slice none 0 0, .slice (some ⟨gP, 0, none⟩) 2 2] 38) = W2 := ⟨_, rfl⟩
  rw [hW2] at h2 b2
  have h12 := h1.below b2 h1.lt
  have b12 := b1.trans (b2.mono b1.size)
  have hE2 := h.below b12
  have hT2 := hT.below b12
  have HW : Hid ((w.alloc (.cells #[.slice (some ⟨gI, 0, none⟩) 1 1, .slice none 0 0, .slice none 0 0, .int .u64 0, .int .u64 0, .int .u64 0, .int .u64 0, .int .u64 0, .int .u64 0, .int .u64 0, .int .u64 0] 29)).alloc (.cells #[.slice (some ⟨gT, 0, none⟩) 1 1, .int .i64 1, .slice (some ⟨gW, 0, none⟩) 2 2, .slice (some ⟨gC, 0, none⟩) 1 1, .slice none 0 0, .slice (some ⟨gP, 0, none⟩) 2 2] 38) = W2) := Lib.hid (by rw [hW1, hW2])
  have y2 := h2.cell 2
  have ly := h2.lt
  have cw := hE2.ws.cell 1
  have lw := hE2.ws.lt
  simp only [List.getElem?_cons_zero, List.getElem?_cons_succ] at y2 cw
  have HA := Lib.hid (⟨h12, h2, hE2, hT2, b12⟩ : Has W2 w.heap.size 29 _ ∧ Has W2 (w.heap.size + 1) 38 _ ∧ ExP W2 gT gW gC gP 1 ∧ Tabs W2 ∧ Below w.heap.size w W2)
  clear h1 s1 b1 h2 b2 h12 hE2 hT2 b12 hW1 hW2 h hT
  go_enter Tryd.func32, Tryd.ntmps32
  go_upto_region 1 with fail
  rw [HW.out]
  clear HW
  go_wp2_with fail
  refine (HD.out _ HA.out.2.2.2.1).mono ?_
  rintro e w3 ⟨rfl, hb3⟩
  have hI := Has.new w3 65 [.int .i64 42, .int .i64 0, .int .i64 0, .int .i64 0, .int .i64 0]
  have b4 : Below w3.heap.size w3 (w3.alloc (.cells #[.int .i64 42, .int .i64 0, .int .i64 0, .int .i64 0, .int .i64 0] 65)) := (Below.refl _ w3).alloc (Nat.le_refl _) _
  obtain ⟨I, hIe⟩ : ∃ I, w3.heap.size = I := ⟨_, rfl⟩
  obtain ⟨W4, hW4⟩ : ∃ W4, w3.alloc (.cells #[.int .i64 42, .int .i64 0, .int .i64 0, .int .i64 0, .int .i64 0] 65) = W4 := ⟨_, rfl⟩
  have hIW : W2.heap.size ≤ I := by rw [← hIe]; exact hb3.size
  have s4 : W4.heap.size = I + 1 := by rw [← hW4, ← hIe]; simp
  rw [hW4] at hI b4
  rw [hIe] at hI
  have HX : Hid (∀ W, Below W4.heap.size W4 W → (W.cell? ⟨w.heap.size, 0, none⟩ = some (.slice (some ⟨gI, 0, none⟩) 1 1) ∧ W.cell? ⟨w.heap.size, 1, none⟩ = some (.slice none 0 0) ∧ W.cell? ⟨w.heap.size, 2, none⟩ = some (.slice none 0 0) ∧ W.cell? ⟨w.heap.size, 3, none⟩ = some (.int .u64 0) ∧ W.cell? ⟨w.heap.size, 4, none⟩ = some (.int .u64 0) ∧ W.cell? ⟨w.heap.size, 5, none⟩ = some (.int .u64 0) ∧ W.cell? ⟨w.heap.size, 6, none⟩ = some (.int .u64 0) ∧ W.cell? ⟨w.heap.size, 7, none⟩ = some (.int .u64 0) ∧ W.cell? ⟨w.heap.size, 8, none⟩ = some (.int .u64 0) ∧ W.cell? ⟨w.heap.size, 9, none⟩ = some (.int .u64 0) ∧ W.cell? ⟨w.heap.size, 10, none⟩ = some (.int .u64 0)) ∧ (W.cell? ⟨w.heap.size + 1, 0, none⟩ = some (.slice (some ⟨gT, 0, none⟩) 1 1) ∧ W.cell? ⟨w.heap.size + 1, 1, none⟩ = some (.int .i64 1) ∧ W.cell? ⟨w.heap.size + 1, 2, none⟩ = some (.slice (some ⟨gW, 0, none⟩) 2 2) ∧ W.cell? ⟨w.heap.size + 1, 3, none⟩ = some (.slice (some ⟨gC, 0, none⟩) 1 1) ∧ W.cell? ⟨w.heap.size + 1, 4, none⟩ = some (.slice none 0 0) ∧ W.cell? ⟨w.heap.size + 1, 5, none⟩ = some (.slice (some ⟨gP, 0, none⟩) 2 2)) ∧ (W.cell? ⟨I, 0, none⟩ = some (.int .i64 42) ∧ W.cell? ⟨I, 1, none⟩ = some (.int .i64 0) ∧ W.cell? ⟨I, 2, none⟩ = some (.int .i64 0) ∧ W.cell? ⟨I, 3, none⟩ = some (.int .i64 0) ∧ W.cell? ⟨I, 4, none⟩ = some (.int .i64 0)) ∧ w.heap.size < W.heap.size ∧ w.heap.size + 1 < W.heap.size ∧ I < W.heap.size ∧ ExP W gT gW gC gP 1 ∧ Tabs W ∧ Below w.heap.size w W) := Lib.hid fun W hW => by
    have k : Below W2.heap.size W2 W := (hb3.trans (b4.mono hb3.size)).trans (hW.mono (by omega))
    have g1 := HA.out.1.below k HA.out.1.lt
    have g2 := HA.out.2.1.below k HA.out.2.1.lt
    have g3 := hI.below hW hI.lt
    exact ⟨⟨g1.cell 0, g1.cell 1, g1.cell 2, g1.cell 3, g1.cell 4, g1.cell 5, g1.cell 6, g1.cell 7, g1.cell 8, g1.cell 9, g1.cell 10⟩, ⟨g2.cell 0, g2.cell 1, g2.cell 2, g2.cell 3, g2.cell 4, g2.cell 5⟩, ⟨g3.cell 0, g3.cell 1, g3.cell 2, g3.cell 3, g3.cell 4⟩, g1.lt, g2.lt, g3.lt, HA.out.2.2.1.below k, HA.out.2.2.2.1.below k, HA.out.2.2.2.2.trans (k.mono HA.out.2.2.2.2.size)⟩
  have HW4 := Lib.hid hW4
  have HIe := Lib.hid hIe
  have HS4 := Lib.hid s4
  have i0 := hI.cell 0
  have li := hI.lt
  simp only [List.getElem?_cons_zero] at i0
  obtain ⟨-, ⟨-, -, v2, -⟩, -, -, lv, -, hE4, hT4, hB4⟩ := HX.out W4 (Below.refl _ _)
  have v0 := hE4.ws.cell 0
  have lv0 := hE4.ws.lt
  simp only [List.getElem?_cons_zero] at v0
  clear hb3 hI b4 hIW s4 y2 ly cw lw HD hW4 hIe HA
  go_upto_region 2 with fail
  rw [HW4.out, HIe.out]
  have HF4 := Lib.hid (HFo.out _ hT4)
  clear hB4 hE4 hT4 HFo
  go_wp2_with fail
  refine (HBr.out _).mono ?_
  rintro e w5 ⟨rfl, rfl⟩
  clear HBr v0 lv0
  go_wp2_with fail
  refine HF4.out.mono ?_
  rintro e w6 ⟨rfl, hb6⟩
  clear HF4 v2 lv i0 li
  go_wp2
  obtain ⟨It, hIt⟩ : ∃ It, w6.heap.size = It := ⟨_, rfl⟩
  obtain ⟨U0, hU0⟩ : ∃ U0, w6.iter ⟨#[65]⟩ 0 = U0 := ⟨_, rfl⟩
  have hi0 : U0.heap[It]? = some (.stringIter ⟨#[65]⟩ 0) := by rw [← hU0, ← hIt]; exact World.iter_heap w6 ⟨#[65]⟩ 0
  have hk0 : Below W4.heap.size W4 U0 := by rw [← hU0]; exact hb6.alloc hb6.size _
  have hItW : W4.heap.size ≤ It := by rw [← hIt]; exact hb6.size
  rw [hU0]
  try rw [hIt]
  clear hb6 hU0 hIt
  refine wp_loop_rounds 2 ?_
  rw [rounds_succ]
  have hn := Lib.run_next_ascii_at (P := Tryd.prog) U0 It ⟨#[65]⟩ 0
  have hnx : ∀ ty, (Instr.next (.pointer (some ⟨It, 0, none⟩)) true ty).run Tryd.prog U0 = .ok (.tuple #[.bool true, .int .i64 0, .int .i32 65]) (U0.iterAt It ⟨#[65]⟩ 1) := fun ty => hn ty hi0 (by decide) (by decide)
  have hj := Lib.below_iterAt hk0 hItW ⟨#[65]⟩ 1
  have hij := Lib.iterAt_heap U0 It ⟨#[65]⟩ 0 1 hi0
  obtain ⟨⟨x0, x1, x2, x3, x4, x5, x6, x7, x8, x9, x10⟩, ⟨y0, y1, y2, y3, y4, y5⟩, ⟨z0, z1, z2, z3, z4⟩, lx, ly, lz, hE, hTb, hBw⟩ := HX.out _ hj
  have HFk := Lib.hid (fieldA_42 gT gW gC gP gI (U0.iterAt It ⟨#[65]⟩ 1))
  have HJ := Lib.hid (⟨hj, hij⟩ : _ ∧ _)
  clear hn hTb hBw hE hj hij hi0 hk0
  go_wp2_with fail
  refine HFk.out.mono ?_
  rintro e U1 ⟨rfl, hb⟩
  have hk1 : Below W4.heap.size W4 U1 := HJ.out.1.trans (hb.mono HJ.out.1.size)
  have hi1 : U1.heap[It]? = some (.stringIter ⟨#[65]⟩ 1) := (hb.block It (Array.getElem?_eq_some_iff.1 HJ.out.2).1).trans HJ.out.2
  clear hb HFk HJ hnx lx ly lz x0 x1 x2 x3 x4 x5 x6 x7 x8 x9 x10 y0 y1 y2 y3 y4 y5 z0 z1 z2 z3 z4
  go_wp2
  rw [rounds_succ]
  have hnx : ∀ ty, (Instr.next (.pointer (some ⟨It, 0, none⟩)) true ty).run Tryd.prog U1 = .ok (.tuple #[.bool false]) U1 := fun ty => Lib.run_next_end_at U1 It ⟨#[65]⟩ 1 ty hi1 (by decide)
  have HBe := Lib.hid (HX.out _ hk1).2.2.2.2.2.2.2.2
  clear hi1 hk1 HX
  go_wp2
  go_ret
  exact ⟨rfl, HBe.out⟩
set_option maxRecDepth 100000 in
set_option maxHeartbeats 16000000 in
theorem word_35_0 (gT gW gC gP gI : Nat) (w : World) (hT : Tabs w) (h : ExP w gT gW gC gP 35) : Calls Tryd.prog 32 #[.agg #[.slice (some ⟨gI, 0, none⟩) 1 1, .slice none 0 0, .slice none 0 0, .int .u64 0, .int .u64 0, .int .u64 0, .int .u64 0, .int .u64 0, .int .u64 0, .int .u64 0, .int .u64 0], .agg #[.slice (some ⟨gT, 0, none⟩) 1 1, .int .i64 1, .slice (some ⟨gW, 0, none⟩) 2 2, .slice (some ⟨gC, 0, none⟩) 1 1, .slice none 0 0, .slice (some ⟨gP, 0, none⟩) 2 2], .int .i64 0] w fun e w' => e = .returned (.bool true) ∧ Below w.heap.size w w' := by
  have HD := Lib.hid (fun W hT => decide_35 W hT)
  have HFo := Lib.hid (fun W hT => form_35 W hT)
  obtain ⟨W1, hW1⟩ : ∃ W1, w.alloc (.cells #[.slice (some ⟨gI, 0, none⟩) 1 1, .slice none 0 0, .slice none 0 0, .int .u64 0, .int .u64 0, .int .u64 0, .int .u64 0, .int .u64 0, .int .u64 0, .int .u64 0, .int .u64 0] 29) = W1 := ⟨_, rfl⟩
  have h1 : Has W1 w.heap.size 29 [.slice (some ⟨gI, 0, none⟩) 1 1, .slice none 0 0, .slice none 0 0, .int .u64 0, .int .u64 0, .int .u64 0, .int .u64 0, .int .u64 0, .int .u64 0, .int .u64 0, .int .u64 0] := by rw [← hW1]; exact Has.new w 29 _
  have s1 : W1.heap.size = w.heap.size + 1 := by rw [← hW1]; simp
  have b1 : Below w.heap.size w W1 := by rw [← hW1]; exact (Below.refl _ w).alloc (Nat.le_refl _) _
  have h2 := Has.new W1 38 [.slice (some ⟨gT, 0, none⟩) 1 1, .int .i64 1, .slice (some ⟨gW, 0, none⟩) 2 2, .slice (some ⟨gC, 0, none⟩) 1 1, .slice none 0 0, .slice (some ⟨gP, 0, none⟩) 2 2]
  have b2 : Below W1.heap.size W1 (W1.alloc (.cells #[.slice (some ⟨gT, 0, none⟩) 1 1, .int .i64 1, .slice (some ⟨gW, 0, none⟩) 2 2, .slice (some ⟨gC, 0, none⟩) 1 1, .slice none 0 0, .slice (some ⟨gP, 0, none⟩) 2 2] 38)) := (Below.refl _ W1).alloc (Nat.le_refl _) _
  rw [s1] at h2
  obtain ⟨W2, hW2⟩ : ∃ W2, W1.alloc (.cells #[.slice (some ⟨gT, 0, none⟩) 1 1, .int .i64 1, .slice (some ⟨gW, 0, none⟩) 2 2, .slice (some ⟨gC, 0, none⟩) 1 1, .slice none 0 0, .slice (some ⟨gP, 0, none⟩) 2 2] 38) = W2 := ⟨_, rfl⟩
  rw [hW2] at h2 b2
  have h12 := h1.below b2 h1.lt
  have b12 := b1.trans (b2.mono b1.size)
  have hE2 := h.below b12
  have hT2 := hT.below b12
  have HW : Hid ((w.alloc (.cells #[.slice (some ⟨gI, 0, none⟩) 1 1, .slice none 0 0, .slice none 0 0, .int .u64 0, .int .u64 0, .int .u64 0, .int .u64 0, .int .u64 0, .int .u64 0, .int .u64 0, .int .u64 0] 29)).alloc (.cells #[.slice (some ⟨gT, 0, none⟩) 1 1, .int .i64 1, .slice (some ⟨gW, 0, none⟩) 2 2, .slice (some ⟨gC, 0, none⟩) 1 1, .slice none 0 0, .slice (some ⟨gP, 0, none⟩) 2 2] 38) = W2) := Lib.hid (by rw [hW1, hW2])
  have y2 := h2.cell 2
  have ly := h2.lt
  have cw := hE2.ws.cell 0
  have lw := hE2.ws.lt
  simp only [List.getElem?_cons_zero, List.getElem?_cons_succ] at y2 cw
  have HA := Lib.hid (⟨h12, h2, hE2, hT2, b12⟩ : Has W2 w.heap.size 29 _ ∧ Has W2 (w.heap.size + 1) 38 _ ∧ ExP W2 gT gW gC gP 35 ∧ Tabs W2 ∧ Below w.heap.size w W2)
  clear h1 s1 b1 h2 b2 h12 hE2 hT2 b12 hW1 hW2 h hT
  go_enter Tryd.func32, Tryd.ntmps32
  go_upto_region 1 with fail
  rw [HW.out]
  clear HW
  go_wp2_with fail
  refine (HD.out _ HA.out.2.2.2.1).mono ?_
  rintro e w3 ⟨rfl, hb3⟩
  have hI := Has.new w3 65 [.int .i64 35, .int .i64 0, .int .i64 0, .int .i64 0, .int .i64 0]
  have b4 : Below w3.heap.size w3 (w3.alloc (.cells #[.int .i64 35, .int .i64 0, .int .i64 0, .int .i64 0, .int .i64 0] 65)) := (Below.refl _ w3).alloc (Nat.le_refl _) _
  obtain ⟨I, hIe⟩ : ∃ I, w3.heap.size = I := ⟨_, rfl⟩
  obtain ⟨W4, hW4⟩ : ∃ W4, w3.alloc (.cells #[.int .i64 35, .int .i64 0, .int .i64 0, .int .i64 0, .int .i64 0] 65) = W4 := ⟨_, rfl⟩
  have hIW : W2.heap.size ≤ I := by rw [← hIe]; exact hb3.size
  have s4 : W4.heap.size = I + 1 := by rw [← hW4, ← hIe]; simp
  rw [hW4] at hI b4
  rw [hIe] at hI
  have HX : Hid (∀ W, Below W4.heap.size W4 W → (W.cell? ⟨w.heap.size, 0, none⟩ = some (.slice (some ⟨gI, 0, none⟩) 1 1) ∧ W.cell? ⟨w.heap.size, 1, none⟩ = some (.slice none 0 0) ∧ W.cell? ⟨w.heap.size, 2, none⟩ = some (.slice none 0 0) ∧ W.cell? ⟨w.heap.size, 3, none⟩ = some (.int .u64 0) ∧ W.cell? ⟨w.heap.size, 4, none⟩ = some (.int .u64 0) ∧ W.cell? ⟨w.heap.size, 5, none⟩ = some (.int .u64 0) ∧ W.cell? ⟨w.heap.size, 6, none⟩ = some (.int .u64 0) ∧ W.cell? ⟨w.heap.size, 7, none⟩ = some (.int .u64 0) ∧ W.cell? ⟨w.heap.size, 8, none⟩ = some (.int .u64 0) ∧ W.cell? ⟨w.heap.size, 9, none⟩ = some (.int .u64 0) ∧ W.cell? ⟨w.heap.size, 10, none⟩ = some (.int .u64 0)) ∧ (W.cell? ⟨w.heap.size + 1, 0, none⟩ = some (.slice (some ⟨gT, 0, none⟩) 1 1) ∧ W.cell? ⟨w.heap.size + 1, 1, none⟩ = some (.int .i64 1) ∧ W.cell? ⟨w.heap.size + 1, 2, none⟩ = some (.slice (some ⟨gW, 0, none⟩) 2 2) ∧ W.cell? ⟨w.heap.size + 1, 3, none⟩ = some (.slice (some ⟨gC, 0, none⟩) 1 1) ∧ W.cell? ⟨w.heap.size + 1, 4, none⟩ = some (.slice none 0 0) ∧ W.cell? ⟨w.heap.size + 1, 5, none⟩ = some (.slice (some ⟨gP, 0, none⟩) 2 2)) ∧ (W.cell? ⟨I, 0, none⟩ = some (.int .i64 35) ∧ W.cell? ⟨I, 1, none⟩ = some (.int .i64 0) ∧ W.cell? ⟨I, 2, none⟩ = some (.int .i64 0) ∧ W.cell? ⟨I, 3, none⟩ = some (.int .i64 0) ∧ W.cell? ⟨I, 4, none⟩ = some (.int .i64 0)) ∧ w.heap.size < W.heap.size ∧ w.heap.size + 1 < W.heap.size ∧ I < W.heap.size ∧ ExP W gT gW gC gP 35 ∧ Tabs W ∧ Below w.heap.size w W) := Lib.hid fun W hW => by
    have k : Below W2.heap.size W2 W := (hb3.trans (b4.mono hb3.size)).trans (hW.mono (by omega))
    have g1 := HA.out.1.below k HA.out.1.lt
    have g2 := HA.out.2.1.below k HA.out.2.1.lt
    have g3 := hI.below hW hI.lt
    exact ⟨⟨g1.cell 0, g1.cell 1, g1.cell 2, g1.cell 3, g1.cell 4, g1.cell 5, g1.cell 6, g1.cell 7, g1.cell 8, g1.cell 9, g1.cell 10⟩, ⟨g2.cell 0, g2.cell 1, g2.cell 2, g2.cell 3, g2.cell 4, g2.cell 5⟩, ⟨g3.cell 0, g3.cell 1, g3.cell 2, g3.cell 3, g3.cell 4⟩, g1.lt, g2.lt, g3.lt, HA.out.2.2.1.below k, HA.out.2.2.2.1.below k, HA.out.2.2.2.2.trans (k.mono HA.out.2.2.2.2.size)⟩
  have HW4 := Lib.hid hW4
  have HIe := Lib.hid hIe
  have HS4 := Lib.hid s4
  have i0 := hI.cell 0
  have li := hI.lt
  simp only [List.getElem?_cons_zero] at i0
  obtain ⟨-, ⟨-, -, v2, -⟩, -, -, lv, -, hE4, hT4, hB4⟩ := HX.out W4 (Below.refl _ _)
  clear hb3 hI b4 hIW s4 y2 ly cw lw HD hW4 hIe HA
  go_upto_region 2 with fail
  rw [HW4.out, HIe.out]
  have HF4 := Lib.hid (HFo.out _ hT4)
  clear hB4 hE4 hT4 HFo
  go_wp2_with fail
  refine HF4.out.mono ?_
  rintro e w6 ⟨rfl, hb6⟩
  clear HF4 v2 lv i0 li
  go_wp2
  obtain ⟨It, hIt⟩ : ∃ It, w6.heap.size = It := ⟨_, rfl⟩
  obtain ⟨U0, hU0⟩ : ∃ U0, w6.iter ⟨#[65, 68]⟩ 0 = U0 := ⟨_, rfl⟩
  have hi0 : U0.heap[It]? = some (.stringIter ⟨#[65, 68]⟩ 0) := by rw [← hU0, ← hIt]; exact World.iter_heap w6 ⟨#[65, 68]⟩ 0
  have hk0 : Below W4.heap.size W4 U0 := by rw [← hU0]; exact hb6.alloc hb6.size _
  have hItW : W4.heap.size ≤ It := by rw [← hIt]; exact hb6.size
  rw [hU0]
  try rw [hIt]
  clear hb6 hU0 hIt
  refine wp_loop_rounds 3 ?_
  rw [rounds_succ]
  have hn := Lib.run_next_ascii_at (P := Tryd.prog) U0 It ⟨#[65, 68]⟩ 0
  have hnx : ∀ ty, (Instr.next (.pointer (some ⟨It, 0, none⟩)) true ty).run Tryd.prog U0 = .ok (.tuple #[.bool true, .int .i64 0, .int .i32 65]) (U0.iterAt It ⟨#[65, 68]⟩ 1) := fun ty => hn ty hi0 (by decide) (by decide)
  have hj := Lib.below_iterAt hk0 hItW ⟨#[65, 68]⟩ 1
  have hij := Lib.iterAt_heap U0 It ⟨#[65, 68]⟩ 0 1 hi0
  obtain ⟨⟨x0, x1, x2, x3, x4, x5, x6, x7, x8, x9, x10⟩, ⟨y0, y1, y2, y3, y4, y5⟩, ⟨z0, z1, z2, z3, z4⟩, lx, ly, lz, hE, hTb, hBw⟩ := HX.out _ hj
  have HFk := Lib.hid (fieldA_35 gT gW gC gP gI (U0.iterAt It ⟨#[65, 68]⟩ 1))
  have HJ := Lib.hid (⟨hj, hij⟩ : _ ∧ _)
  clear hn hTb hBw hE hj hij hi0 hk0
  go_wp2_with fail
  refine HFk.out.mono ?_
  rintro e U1 ⟨rfl, hb⟩
  have hk1 : Below W4.heap.size W4 U1 := HJ.out.1.trans (hb.mono HJ.out.1.size)
  have hi1 : U1.heap[It]? = some (.stringIter ⟨#[65, 68]⟩ 1) := (hb.block It (Array.getElem?_eq_some_iff.1 HJ.out.2).1).trans HJ.out.2
  clear hb HFk HJ hnx lx ly lz x0 x1 x2 x3 x4 x5 x6 x7 x8 x9 x10 y0 y1 y2 y3 y4 y5 z0 z1 z2 z3 z4
  go_wp2
  rw [rounds_succ]
  have hn := Lib.run_next_ascii_at (P := Tryd.prog) U1 It ⟨#[65, 68]⟩ 1
  have hnx : ∀ ty, (Instr.next (.pointer (some ⟨It, 0, none⟩)) true ty).run Tryd.prog U1 = .ok (.tuple #[.bool true, .int .i64 1, .int .i32 68]) (U1.iterAt It ⟨#[65, 68]⟩ 2) := fun ty => hn ty hi1 (by decide) (by decide)
  have hj := Lib.below_iterAt hk1 hItW ⟨#[65, 68]⟩ 2
  have hij := Lib.iterAt_heap U1 It ⟨#[65, 68]⟩ 1 2 hi1
  obtain ⟨⟨x0, x1, x2, x3, x4, x5, x6, x7, x8, x9, x10⟩, ⟨y0, y1, y2, y3, y4, y5⟩, ⟨z0, z1, z2, z3, z4⟩, lx, ly, lz, hE, hTb, hBw⟩ := HX.out _ hj
  have HFk := Lib.hid (fieldD_35 gT gW gC gP gI (U1.iterAt It ⟨#[65, 68]⟩ 2) hE)
  have HJ := Lib.hid (⟨hj, hij⟩ : _ ∧ _)
  clear hn hTb hBw hE hj hij hi1 hk1
  go_wp2_with fail
  refine HFk.out.mono ?_
  rintro e U2 ⟨rfl, hb⟩
  have hk2 : Below W4.heap.size W4 U2 := HJ.out.1.trans (hb.mono HJ.out.1.size)
  have hi2 : U2.heap[It]? = some (.stringIter ⟨#[65, 68]⟩ 2) := (hb.block It (Array.getElem?_eq_some_iff.1 HJ.out.2).1).trans HJ.out.2
  clear hb HFk HJ hnx lx ly lz x0 x1 x2 x3 x4 x5 x6 x7 x8 x9 x10 y0 y1 y2 y3 y4 y5 z0 z1 z2 z3 z4
  go_wp2
  rw [rounds_succ]
  have hnx : ∀ ty, (Instr.next (.pointer (some ⟨It, 0, none⟩)) true ty).run Tryd.prog U2 = .ok (.tuple #[.bool false]) U2 := fun ty => Lib.run_next_end_at U2 It ⟨#[65, 68]⟩ 2 ty hi2 (by decide)
  have HBe := Lib.hid (HX.out _ hk2).2.2.2.2.2.2.2.2
  clear hi2 hk2 HX
  go_wp2
  go_ret
  exact ⟨rfl, HBe.out⟩
set_option maxRecDepth 100000 in
set_option maxHeartbeats 16000000 in
theorem word_35_1 (gT gW gC gP gI : Nat) (w : World) (hT : Tabs w) (h : ExP w gT gW gC gP 35) : Calls Tryd.prog 32 #[.agg #[.slice (some ⟨gI, 0, none⟩) 1 1, .slice none 0 0, .slice none 0 0, .int .u64 0, .int .u64 0, .int .u64 0, .int .u64 0, .int .u64 0, .int .u64 0, .int .u64 0, .int .u64 0], .agg #[.slice (some ⟨gT, 0, none⟩) 1 1, .int .i64 1, .slice (some ⟨gW, 0, none⟩) 2 2, .slice (some ⟨gC, 0, none⟩) 1 1, .slice none 0 0, .slice (some ⟨gP, 0, none⟩) 2 2], .int .i64 1] w fun e w' => e = .returned (.bool false) ∧ Below w.heap.size w w' := by
  have HD := Lib.hid (fun W hT => decide_42 W hT)
  have HFo := Lib.hid (fun W hT => form_42 W hT)
  have HBr := Lib.hid (fun W => branches_35 W)
  obtain ⟨W1, hW1⟩ : ∃ W1, w.alloc (.cells #[.slice (some ⟨gI, 0, none⟩) 1 1, .slice none 0 0, .slice none 0 0, .int .u64 0, .int .u64 0, .int .u64 0, .int .u64 0, .int .u64 0, .int .u64 0, .int .u64 0, .int .u64 0] 29) = W1 := ⟨_, rfl⟩
  have h1 : Has W1 w.heap.size 29 [.slice (some ⟨gI, 0, none⟩) 1 1, .slice none 0 0, .slice none 0 0, .int .u64 0, .int .u64 0, .int .u64 0, .int .u64 0, .int .u64 0, .int .u64 0, .int .u64 0, .int .u64 0] := by rw [← hW1]; exact Has.new w 29 _
  have s1 : W1.heap.size = w.heap.size + 1 := by rw [← hW1]; simp
  have b1 : Below w.heap.size w W1 := by rw [← hW1]; exact (Below.refl _ w).alloc (Nat.le_refl _) _
  have h2 := Has.new W1 38 [.slice (some ⟨gT, 0, none⟩) 1 1, .int .i64 1, .slice (some ⟨gW, 0, none⟩) 2 2, .slice (some ⟨gC, 0, none⟩) 1 1, .slice none 0 0, .slice (some ⟨gP, 0, none⟩) 2 2]
  have b2 : Below W1.heap.size W1 (W1.alloc (.cells #[.slice (some ⟨gT, 0, none⟩) 1 1, .int .i64 1, .slice (some ⟨gW, 0, none⟩) 2 2, .slice (some ⟨gC, 0, none⟩) 1 1, .slice none 0 0, .slice (some ⟨gP, 0, none⟩) 2 2] 38)) := (Below.refl _ W1).alloc (Nat.le_refl _) _
  rw [s1] at h2
  obtain ⟨W2, hW2⟩ : ∃ W2, W1.alloc (.cells #[.slice (some ⟨gT, 0, none⟩) 1 1, .int .i64 1, .slice (some ⟨gW, 0, none⟩) 2 2, .slice (some ⟨gC, 0, none⟩) 1 1, .slice none 0 0, .slice (some ⟨gP, 0, none⟩) 2 2] 38) = W2 := ⟨_, rfl⟩
  rw [hW2] at h2 b2
  have h12 := h1.below b2 h1.lt
  have b12 := b1.trans (b2.mono b1.size)
  have hE2 := h.below b12
  have hT2 := hT.below b12
  have HW : Hid ((w.alloc (.cells #[.slice (some ⟨gI, 0, none⟩) 1 1, .slice none 0 0, .slice none 0 0, .int .u64 0, .int .u64 0, .int .u64 0, .int .u64 0, .int .u64 0, .int .u64 0, .int .u64 0, .int .u64 0] 29)).alloc (.cells #[.slice (some ⟨gT, 0, none⟩) 1 1, .int .i64 1, .slice (some ⟨gW, 0, none⟩) 2 2, .slice (some ⟨gC, 0, none⟩) 1 1, .slice none 0 0, .slice (some ⟨gP, 0, none⟩) 2 2] 38) = W2) := Lib.hid (by rw [hW1, hW2])
  have y2 := h2.cell 2
  have ly := h2.lt
  have cw := hE2.ws.cell 1
  have lw := hE2.ws.lt
  simp only [List.getElem?_cons_zero, List.getElem?_cons_succ] at y2 cw
  have HA := Lib.hid (⟨h12, h2, hE2, hT2, b12⟩ : Has W2 w.heap.size 29 _ ∧ Has W2 (w.heap.size + 1) 38 _ ∧ ExP W2 gT gW gC gP 35 ∧ Tabs W2 ∧ Below w.heap.size w W2)
  clear h1 s1 b1 h2 b2 h12 hE2 hT2 b12 hW1 hW2 h hT
  go_enter Tryd.func32, Tryd.ntmps32
  go_upto_region 1 with fail
  rw [HW.out]
  clear HW
  go_wp2_with fail
  refine (HD.out _ HA.out.2.2.2.1).mono ?_
  rintro e w3 ⟨rfl, hb3⟩
  have hI := Has.new w3 65 [.int .i64 42, .int .i64 0, .int .i64 0, .int .i64 0, .int .i64 0]
  have b4 : Below w3.heap.size w3 (w3.alloc (.cells #[.int .i64 42, .int .i64 0, .int .i64 0, .int .i64 0, .int .i64 0] 65)) := (Below.refl _ w3).alloc (Nat.le_refl _) _
  obtain ⟨I, hIe⟩ : ∃ I, w3.heap.size = I := ⟨_, rfl⟩
  obtain ⟨W4, hW4⟩ : ∃ W4, w3.alloc (.cells #[.int .i64 42, .int .i64 0, .int .i64 0, .int .i64 0, .int .i64 0] 65) = W4 := ⟨_, rfl⟩
  have hIW : W2.heap.size ≤ I := by rw [← hIe]; exact hb3.size
  have s4 : W4.heap.size = I + 1 := by rw [← hW4, ← hIe]; simp
  rw [hW4] at hI b4
  rw [hIe] at hI
  have HX : Hid (∀ W, Below W4.heap.size W4 W → (W.cell? ⟨w.heap.size, 0, none⟩ = some (.slice (some ⟨gI, 0, none⟩) 1 1) ∧ W.cell? ⟨w.heap.size, 1, none⟩ = some (.slice none 0 0) ∧ W.cell? ⟨w.heap.size, 2, none⟩ = some (.slice none 0 0) ∧ W.cell? ⟨w.heap.size, 3, none⟩ = some (.int .u64 0) ∧ W.cell? ⟨w.heap.size, 4, none⟩ = some (.int .u64 0) ∧ W.cell? ⟨w.heap.size, 5, none⟩ = some (.int .u64 0) ∧ W.cell? ⟨w.heap.size, 6, none⟩ = some (.int .u64 0) ∧ W.cell? ⟨w.heap.size, 7, none⟩ = some (.int .u64 0) ∧ W.cell? ⟨w.heap.size, 8, none⟩ = some (.int .u64 0) ∧ W.cell? ⟨w.heap.size, 9, none⟩ = some (.int .u64 0) ∧ W.cell? ⟨w.heap.size, 10, none⟩ = some (.int .u64 0)) ∧ (W.cell? ⟨w.heap.size + 1, 0, none⟩ = some (.slice (some ⟨gT, 0, none⟩) 1 1) ∧ W.cell? ⟨w.heap.size + 1, 1, none⟩ = some (.int .i64 1) ∧ W.cell? ⟨w.heap.size + 1, 2, none⟩ = some (.slice (some ⟨gW, 0, none⟩) 2 2) ∧ W.cell? ⟨w.heap.size + 1, 3, none⟩ = some (.slice (some ⟨gC, 0, none⟩) 1 1) ∧ W.cell? ⟨w.heap.size + 1, 4, none⟩ = some (.slice none 0 0) ∧ W.cell? ⟨w.heap.size + 1, 5, none⟩ = some (.slice (some ⟨gP, 0, none⟩) 2 2)) ∧ (W.cell? ⟨I, 0, none⟩ = some (.int .i64 42) ∧ W.cell? ⟨I, 1, none⟩ = some (.int .i64 0) ∧ W.cell? ⟨I, 2, none⟩ = some (.int .i64 0) ∧ W.cell? ⟨I, 3, none⟩ = some (.int .i64 0) ∧ W.cell? ⟨I, 4, none⟩ = some (.int .i64 0)) ∧ w.heap.size < W.heap.size ∧ w.heap.size + 1 < W.heap.size ∧ I < W.heap.size ∧ ExP W gT gW gC gP 35 ∧ Tabs W ∧ Below w.heap.size w W) := Lib.hid fun W hW => by
    have k : Below W2.heap.size W2 W := (hb3.trans (b4.mono hb3.size)).trans (hW.mono (by omega))
    have g1 := HA.out.1.below k HA.out.1.lt
    have g2 := HA.out.2.1.below k HA.out.2.1.lt
    have g3 := hI.below hW hI.lt
    exact ⟨⟨g1.cell 0, g1.cell 1, g1.cell 2, g1.cell 3, g1.cell 4, g1.cell 5, g1.cell 6, g1.cell 7, g1.cell 8, g1.cell 9, g1.cell 10⟩, ⟨g2.cell 0, g2.cell 1, g2.cell 2, g2.cell 3, g2.cell 4, g2.cell 5⟩, ⟨g3.cell 0, g3.cell 1, g3.cell 2, g3.cell 3, g3.cell 4⟩, g1.lt, g2.lt, g3.lt, HA.out.2.2.1.below k, HA.out.2.2.2.1.below k, HA.out.2.2.2.2.trans (k.mono HA.out.2.2.2.2.size)⟩
  have HW4 := Lib.hid hW4
  have HIe := Lib.hid hIe
  have HS4 := Lib.hid s4
  have i0 := hI.cell 0
  have li := hI.lt
  simp only [List.getElem?_cons_zero] at i0
  obtain ⟨-, ⟨-, -, v2, -⟩, -, -, lv, -, hE4, hT4, hB4⟩ := HX.out W4 (Below.refl _ _)
  have v0 := hE4.ws.cell 0
  have lv0 := hE4.ws.lt
  simp only [List.getElem?_cons_zero] at v0
  clear hb3 hI b4 hIW s4 y2 ly cw lw HD hW4 hIe HA
  go_upto_region 2 with fail
  rw [HW4.out, HIe.out]
  have HB4 := Lib.hid hB4
  clear hB4 hE4 hT4 HX HW4 HIe HS4 HFo
  go_wp2_with fail
  refine (HBr.out _).mono ?_
  rintro e w5 ⟨rfl, rfl⟩
  go_wp2
  go_ret
  exact ⟨rfl, HB4.out⟩
end CodeD
end Go.Proofs.YtmebhdffgpnplaaDoor
