/- The example: a program of nothing is a tree. -/
import Derived.Test.YtakdmlaecidjaaaGreatDoorTree6
import Derived.Lib.Replace
import Derived.Lib.OthersKept
import Derived.LoopN
import Derived.Recover
namespace Go.Proofs.YtakdmlaecidjaaaGreatDoor
open Go.RowKit ObjM
namespace TreeD

/-- What the program's text lays. -/
structure Tb (w : World) : Prop where
  lt : 0 < w.heap.size
  w1 : w.cell? ⟨0, 1, none⟩ = some (.string ⟨#[99, 42, 98]⟩)
  w3 : w.cell? ⟨0, 3, none⟩ = some (.string ⟨#[115, 42]⟩)
  ml : ∃ m, w.cell? ⟨3, 0, none⟩ = some (.int .i64 m) ∧ 3 < w.heap.size
theorem Tb.below {w w' : World} {B : Nat} (h : Tb w) (hB : w.heap.size ≤ B) (hb : Below B w w') : Tb w' := by
  obtain ⟨m, hm, hl⟩ := h.ml
  have := h.lt
  exact ⟨Nat.lt_of_lt_of_le h.lt hb.size, (hb.cell (p := ⟨_, 1, none⟩) (by simp; omega)).trans h.w1, (hb.cell (p := ⟨_, 3, none⟩) (by simp; omega)).trans h.w3, m, (hb.cell (p := ⟨_, 0, none⟩) (by simp; omega)).trans hm, Nat.lt_of_lt_of_le hl hb.size⟩
theorem must_ok (n : Int) (w : World) : Calls Tryz.prog 31 #[.bool true, .int .i64 n] w fun e w' => e = .returned (.tuple #[]) ∧ w = w' := by
  go_enter Tryz.func31, Tryz.ntmps31
  go_wp2
  go_end0
  exact ⟨rfl, rfl⟩
def N0 : Value := .agg #[.int .i64 3, .string ⟨#[]⟩, .slice none 0 0, .int .i64 0]
def N1 (K : Nat) : Value := .agg #[.int .i64 1, .string ⟨#[]⟩, .slice (some ⟨K, 0, none⟩) 1 1, .int .i64 0]
set_option maxRecDepth 100000 in
set_option maxHeartbeats 4000000 in
theorem text0_ok (w : World) : Calls Tryz.prog 33 #[N0] w fun e w' => e = .returned (.bool true) ∧ Below w.heap.size w w' := by
  unfold N0
  go_enter Tryz.func33, Tryz.ntmps33
  go_wp2
  go_ret
  refine ⟨rfl, ?_⟩
  repeat (first | exact Below.refl _ _ | refine Below.alloc ?_ (by simp; try omega) _)
set_option maxRecDepth 100000 in
set_option maxHeartbeats 4000000 in
theorem text1_ok (K : Nat) (w : World) : Calls Tryz.prog 33 #[N1 K] w fun e w' => e = .returned (.bool true) ∧ Below w.heap.size w w' := by
  unfold N1
  go_enter Tryz.func33, Tryz.ntmps33
  go_wp2
  go_ret
  refine ⟨rfl, ?_⟩
  repeat (first | exact Below.refl _ _ | refine Below.alloc ?_ (by simp; try omega) _)
set_option maxRecDepth 100000 in
set_option maxHeartbeats 4000000 in
theorem last_ok (C : Nat) (w : World) : Calls Tryz.prog 54 #[.pointer (some ⟨C, 0, none⟩), N0] w fun e w' => e = .returned (.bool true) ∧ Below w.heap.size w w' := by
  unfold N0
  go_enter Tryz.func54, Tryz.ntmps54
  go_wp2
  refine wp_loop_rounds 1 ?_
  rw [rounds_succ]
  go_wp2
  go_ret
  refine ⟨rfl, ?_⟩
  repeat (first | exact Below.refl _ _ | refine Below.alloc ?_ (by simp; try omega) _)
set_option maxRecDepth 100000 in
set_option maxHeartbeats 4000000 in
theorem channels_ok (C K : Nat) (w : World) : Calls Tryz.prog 53 #[.pointer (some ⟨C, 0, none⟩), N1 K] w fun e w' => e = .returned (.bool true) ∧ Below w.heap.size w w' := by
  unfold N1
  go_enter Tryz.func53, Tryz.ntmps53
  go_wp2
  refine wp_loop_rounds 1 ?_
  rw [rounds_succ]
  go_wp2
  go_ret
  refine ⟨rfl, ?_⟩
  repeat (first | exact Below.refl _ _ | refine Below.alloc ?_ (by simp; try omega) _)
set_option maxRecDepth 100000 in
set_option maxHeartbeats 4000000 in
theorem rest0_ok (C : Nat) (w : World) : Calls Tryz.prog 34 #[.pointer (some ⟨C, 0, none⟩), N0] w fun e w' => e = .returned (.bool true) ∧ Below w.heap.size w w' := by
  have HL := fun W => Lib.hid (last_ok C W)
  unfold N0 at *
  go_enter Tryz.func34, Tryz.ntmps34
  go_wp2_with fail
  refine ((HL _).out).mono ?_
  rintro e w1 ⟨rfl, hb⟩
  have HB := Lib.hid (Below.trans ((Below.refl _ w).alloc (Nat.le_refl _) _) (hb.mono (by simp)))
  clear hb
  go_wp2
  go_ret
  exact ⟨rfl, HB.out⟩
set_option maxRecDepth 100000 in
set_option maxHeartbeats 4000000 in
theorem rest1_ok (C K : Nat) (w : World) : Calls Tryz.prog 34 #[.pointer (some ⟨C, 0, none⟩), N1 K] w fun e w' => e = .returned (.bool true) ∧ Below w.heap.size w w' := by
  have HL := fun W => Lib.hid (channels_ok C K W)
  unfold N1 at *
  go_enter Tryz.func34, Tryz.ntmps34
  go_wp2_with fail
  refine ((HL _).out).mono ?_
  rintro e w1 ⟨rfl, hb⟩
  have HB := Lib.hid (Below.trans ((Below.refl _ w).alloc (Nat.le_refl _) _) (hb.mono (by simp)))
  clear hb
  go_wp2
  go_ret
  exact ⟨rfl, HB.out⟩
set_option maxRecDepth 100000 in
theorem fits_b (w : World) : Calls Tryz.prog 47 #[.int .i32 98, .int .i64 3] w fun e w' => e = .returned (.bool true) ∧ w = w' := by
  go_enter Tryz.func47, Tryz.ntmps47
  go_wp2
  go_ret
  exact ⟨rfl, rfl⟩
theorem rep0 : Lib.replaceAll (⟨#[115, 42]⟩ : ByteArray).data.toList (⟨#[42]⟩ : ByteArray).data.toList (⟨#[]⟩ : ByteArray).data.toList = [115] := by decide +kernel
theorem rep1 : Lib.replaceAll (⟨#[99, 42, 98]⟩ : ByteArray).data.toList (⟨#[42]⟩ : ByteArray).data.toList (⟨#[]⟩ : ByteArray).data.toList = [99, 98] := by decide +kernel
theorem has0 : decide (0 ≤ Lib.indexByte (⟨#[115, 42]⟩ : ByteArray).data.toList 42) = true := by decide +kernel
theorem has1 : decide (0 ≤ Lib.indexByte (⟨#[99, 42, 98]⟩ : ByteArray).data.toList 42) = true := by decide +kernel
set_option maxRecDepth 100000 in
set_option maxHeartbeats 4000000 in
theorem kids0_ok (C : Nat) (w : World) (hT : Tb w) : Calls Tryz.prog 32 #[.pointer (some ⟨C, 0, none⟩), N0] w fun e w' => e = .returned (.bool true) ∧ Below w.heap.size w w' := by
  have HR := fun (W : World) (hb : Below w.heap.size w W) => Lib.hid (by
    obtain ⟨m, hm, _⟩ := (hT.below (Nat.le_refl _) hb).ml
    exact Tryz.strings_ReplaceAll ⟨#[115, 42]⟩ ⟨#[42]⟩ ⟨#[]⟩ m W (by decide) hm (by decide) (by decide +kernel))
  have HC := fun W => Lib.hid (Tryz.strings_Contains_one ⟨#[115, 42]⟩ 42 W)
  rw [rep0] at HR
  rw [has0] at HC
  have HB0 := Lib.hid ((Below.refl w.heap.size w).alloc (Nat.le_refl _) (.cells #[.int .i64 3, .string ⟨#[]⟩, .slice none 0 0, .int .i64 0] 35))
  have g3 := (hT.below (Nat.le_refl _) HB0.out).w3
  have gl := (hT.below (Nat.le_refl _) HB0.out).lt
  have HR0 := HR _ HB0.out
  unfold N0
  clear hT HR
  go_enter Tryz.func32, Tryz.ntmps32
  go_wp2_with fail
  refine (HR0.out).mono ?_
  rintro e w1 ⟨rfl, hb⟩
  have hN := (Has.new w 35 [.int .i64 3, .string ⟨#[]⟩, .slice none 0 0, .int .i64 0]).below hb (Has.new w 35 [.int .i64 3, .string ⟨#[]⟩, .slice none 0 0, .int .i64 0]).lt
  have HB1 := Lib.hid (HB0.out.trans (hb.mono HB0.out.size))
  have n2 := hN.cell 2
  have nl := hN.lt
  simp at n2
  clear hN hb
  go_wp2_with fail
  refine ((HC _).out).mono ?_
  rintro e w2 ⟨rfl, hw⟩
  subst hw
  go_wp2
  have hit : (World.iter w2 ⟨#[115, 42]⟩ 0).heap[w2.heap.size]? = some (.stringIter ⟨#[115, 42]⟩ 0) := World.iter_heap w2 _ 0
  have HB2 : Hid (Below w.heap.size w (World.iter w2 ⟨#[115, 42]⟩ 0)) := Lib.hid (HB1.out.alloc HB1.out.size _)
  have hK : w.heap.size ≤ w2.heap.size := HB1.out.size
  clear n2 nl
  generalize World.iter w2 ⟨#[115, 42]⟩ 0 = W0 at hit HB2 ⊢
  generalize w2.heap.size = K at hit hK ⊢
  refine wp_loop_rounds 3 ?_
  rw [rounds_succ]
  have hnx : ∀ ty, (Instr.next (.pointer (some ⟨K, 0, none⟩)) true ty).run Tryz.prog W0 = .ok (.tuple #[.bool true, .int .i64 0, .int .i32 115]) (W0.iterAt K ⟨#[115, 42]⟩ 1) := fun ty => Lib.run_next_ascii_at W0 K ⟨#[115, 42]⟩ 0 ty hit (by decide) (by decide)
  have hit2 := Lib.iterAt_heap W0 K ⟨#[115, 42]⟩ 0 1 hit
  have HB3 := Lib.hid (Lib.below_iterAt HB2.out hK ⟨#[115, 42]⟩ 1)
  generalize W0.iterAt K ⟨#[115, 42]⟩ 1 = W1 at hnx hit2 HB3
  go_wp2
  refine wp_loop_rounds 1 ?_
  rw [rounds_succ]
  go_wp2
  clear hnx hit
  rw [rounds_succ]
  have hnx : ∀ ty, (Instr.next (.pointer (some ⟨K, 0, none⟩)) true ty).run Tryz.prog W1 = .ok (.tuple #[.bool true, .int .i64 1, .int .i32 42]) (W1.iterAt K ⟨#[115, 42]⟩ 2) := fun ty => Lib.run_next_ascii_at W1 K ⟨#[115, 42]⟩ 1 ty hit2 (by decide) (by decide)
  have hit3 := Lib.iterAt_heap W1 K ⟨#[115, 42]⟩ 1 2 hit2
  have HB4 := Lib.hid (Lib.below_iterAt HB3.out hK ⟨#[115, 42]⟩ 2)
  generalize W1.iterAt K ⟨#[115, 42]⟩ 2 = W2 at hnx hit3 HB4
  go_wp2
  clear hnx hit2
  rw [rounds_succ]
  have hnx : ∀ ty, (Instr.next (.pointer (some ⟨K, 0, none⟩)) true ty).run Tryz.prog W2 = _ := fun ty => Lib.run_next_end_at W2 K ⟨#[115, 42]⟩ 2 ty hit3 (by decide)
  go_wp2
  go_ret
  exact ⟨rfl, HB4.out⟩
/-- A program of nothing, and the checker that looks at it. -/
structure Ex (w : World) (C G Q D : Nat) : Prop where
  c : Has w C 51 [.slice (some ⟨G, 0, none⟩) 2 2, .slice (some ⟨D, 0, none⟩) 2 2]
  g : Has w G 35 [.int .i64 3, .string ⟨#[]⟩, .slice none 0 0, .int .i64 0, .int .i64 1, .string ⟨#[]⟩, .slice (some ⟨Q, 0, none⟩) 1 1, .int .i64 0]
  q : Has w Q 3 [.int .i64 0]
theorem Ex.below {w w' : World} {C G Q D B : Nat} (h : Ex w C G Q D) (hB : w.heap.size ≤ B) (hb : Below B w w') : Ex w' C G Q D :=
  ⟨h.c.below hb (Nat.lt_of_lt_of_le h.c.lt hB), h.g.below hb (Nat.lt_of_lt_of_le h.g.lt hB), h.q.below hb (Nat.lt_of_lt_of_le h.q.lt hB)⟩
set_option maxRecDepth 100000 in
set_option maxHeartbeats 8000000 in
theorem kids1_ok (C G Q D : Nat) (w : World) (hT : Tb w) (hE : Ex w C G Q D) : Calls Tryz.prog 32 #[.pointer (some ⟨C, 0, none⟩), N1 Q] w fun e w' => e = .returned (.bool true) ∧ Below w.heap.size w w' := by
  have HR := fun (W : World) (hb : Below w.heap.size w W) => Lib.hid (by
    obtain ⟨m, hm, _⟩ := (hT.below (Nat.le_refl _) hb).ml
    exact Tryz.strings_ReplaceAll ⟨#[99, 42, 98]⟩ ⟨#[42]⟩ ⟨#[]⟩ m W (by decide) hm (by decide) (by decide +kernel))
  have HC := fun W => Lib.hid (Tryz.strings_Contains_one ⟨#[99, 42, 98]⟩ 42 W)
  rw [rep1] at HR
  rw [has1] at HC
  have HF := fun W => Lib.hid (fits_b W)
  have HB0 := Lib.hid ((Below.refl w.heap.size w).alloc (Nat.le_refl _) (.cells #[.int .i64 1, .string ⟨#[]⟩, .slice (some ⟨Q, 0, none⟩) 1 1, .int .i64 0] 35))
  have hN0 := Has.new w 35 [.int .i64 1, .string ⟨#[]⟩, .slice (some ⟨Q, 0, none⟩) 1 1, .int .i64 0]
  have g1 := (hT.below (Nat.le_refl _) HB0.out).w1
  have gl := (hT.below (Nat.le_refl _) HB0.out).lt
  have HR0 := HR _ HB0.out
  have HE := Lib.hid hE
  unfold N1
  clear hT HR hE
  go_enter Tryz.func32, Tryz.ntmps32
  go_wp2_with fail
  refine (HR0.out).mono ?_
  rintro e w1 ⟨rfl, hb⟩
  have hN := hN0.below hb hN0.lt
  have HB1 := Lib.hid (HB0.out.trans (hb.mono HB0.out.size))
  have n2 := hN.cell 2
  have nl := hN.lt
  simp at n2
  have HN := Lib.hid hN
  clear hN hb hN0
  go_wp2_with fail
  refine ((HC _).out).mono ?_
  rintro e w2 ⟨rfl, hw⟩
  subst hw
  go_wp2
  have hit : (World.iter w2 ⟨#[99, 42, 98]⟩ 0).heap[w2.heap.size]? = some (.stringIter ⟨#[99, 42, 98]⟩ 0) := World.iter_heap w2 _ 0
  have HB2 : Hid (Below w.heap.size w (World.iter w2 ⟨#[99, 42, 98]⟩ 0)) := Lib.hid (HB1.out.alloc HB1.out.size _)
  have HNb0 : Hid (Below w2.heap.size w2 (World.iter w2 ⟨#[99, 42, 98]⟩ 0)) := Lib.hid ((Below.refl _ w2).alloc (Nat.le_refl _) _)
  have hK : w.heap.size ≤ w2.heap.size := HB1.out.size
  have hKK : w2.heap.size ≤ w2.heap.size := Nat.le_refl _
  clear n2 nl
  generalize World.iter w2 ⟨#[99, 42, 98]⟩ 0 = W0 at hit HB2 HNb0 ⊢
  generalize hKe : w2.heap.size = K at hit hK hKK HNb0 ⊢
  refine wp_loop_rounds 4 ?_
  rw [rounds_succ]
  have hnx : ∀ ty, (Instr.next (.pointer (some ⟨K, 0, none⟩)) true ty).run Tryz.prog W0 = .ok (.tuple #[.bool true, .int .i64 0, .int .i32 99]) (W0.iterAt K ⟨#[99, 42, 98]⟩ 1) := fun ty => Lib.run_next_ascii_at W0 K ⟨#[99, 42, 98]⟩ 0 ty hit (by decide) (by decide)
  have hit2 := Lib.iterAt_heap W0 K ⟨#[99, 42, 98]⟩ 0 1 hit
  have HB3 := Lib.hid (Lib.below_iterAt HB2.out hK ⟨#[99, 42, 98]⟩ 1)
  have HNb1 := Lib.hid (Lib.below_iterAt HNb0.out hKK ⟨#[99, 42, 98]⟩ 1)
  generalize W0.iterAt K ⟨#[99, 42, 98]⟩ 1 = W1 at hnx hit2 HB3 HNb1
  go_wp2
  refine wp_loop_rounds 1 ?_
  rw [rounds_succ]
  go_wp2
  clear hnx hit
  rw [rounds_succ]
  have hnx : ∀ ty, (Instr.next (.pointer (some ⟨K, 0, none⟩)) true ty).run Tryz.prog W1 = .ok (.tuple #[.bool true, .int .i64 1, .int .i32 42]) (W1.iterAt K ⟨#[99, 42, 98]⟩ 2) := fun ty => Lib.run_next_ascii_at W1 K ⟨#[99, 42, 98]⟩ 1 ty hit2 (by decide) (by decide)
  have hit3 := Lib.iterAt_heap W1 K ⟨#[99, 42, 98]⟩ 1 2 hit2
  have HB4 := Lib.hid (Lib.below_iterAt HB3.out hK ⟨#[99, 42, 98]⟩ 2)
  have HNb2 := Lib.hid (Lib.below_iterAt HNb1.out hKK ⟨#[99, 42, 98]⟩ 2)
  generalize W1.iterAt K ⟨#[99, 42, 98]⟩ 2 = W2 at hnx hit3 HB4 HNb2
  go_wp2
  clear hnx hit2
  rw [rounds_succ]
  have hnx : ∀ ty, (Instr.next (.pointer (some ⟨K, 0, none⟩)) true ty).run Tryz.prog W2 = .ok (.tuple #[.bool true, .int .i64 2, .int .i32 98]) (W2.iterAt K ⟨#[99, 42, 98]⟩ 3) := fun ty => Lib.run_next_ascii_at W2 K ⟨#[99, 42, 98]⟩ 2 ty hit3 (by decide) (by decide)
  have hit4 := Lib.iterAt_heap W2 K ⟨#[99, 42, 98]⟩ 2 3 hit3
  have HB5 := Lib.hid (Lib.below_iterAt HB4.out hK ⟨#[99, 42, 98]⟩ 3)
  have HNb3 := Lib.hid (Lib.below_iterAt HNb2.out hKK ⟨#[99, 42, 98]⟩ 3)
  generalize W2.iterAt K ⟨#[99, 42, 98]⟩ 3 = W3 at hnx hit4 HB5 HNb3
  have hE3 := HE.out.below (Nat.le_refl _) HB5.out
  have hN3 := HN.out.below (hKe ▸ HNb3.out) HN.out.lt
  have n2 := hN3.cell 2
  have nl := hN3.lt
  have e0 := hE3.c.cell 0
  have el := hE3.c.lt
  have eg := hE3.g.cell 0
  have egl := hE3.g.lt
  have eq := hE3.q.cell 0
  have eql := hE3.q.lt
  simp at n2 e0 eg eq
  clear hE3 hN3
  go_wp2
  refine wp_loop_rounds 2 ?_
  rw [rounds_succ]
  go_wp2
  go_quiet ((go_at_call 47; exact quiet_left ((HF _).out)))
  have HB6 : Hid (Below w.heap.size w (W3.drewN nq)) := Lib.hid (below_drewN HB5.out nq)
  have hit5 : (W3.drewN nq).heap[K]? = some (.stringIter ⟨#[99, 42, 98]⟩ 3) := hit4
  generalize W3.drewN nq = W4 at HB6 hit5 ⊢
  go_wp2
  rw [rounds_succ]
  go_wp2
  clear hnx hit3
  rw [rounds_succ]
  have hnx : ∀ ty, (Instr.next (.pointer (some ⟨K, 0, none⟩)) true ty).run Tryz.prog W4 = _ := fun ty => Lib.run_next_end_at W4 K ⟨#[99, 42, 98]⟩ 3 ty hit5 (by decide)
  go_wp2
  go_ret
  exact ⟨rfl, HB6.out⟩
end TreeD
end Go.Proofs.YtakdmlaecidjaaaGreatDoor
