/- The example: a program of nothing is a tree. -/
import Derived.Test.YtmdkocegnbcgmaaGreatDoorZ21
import Derived.Lib.Replace
import Derived.Lib.OthersKept
import Derived.LoopN
import Derived.Recover
namespace Go.Proofs.YtmdkocegnbcgmaaGreatDoor
open Go.RowKit ObjM
namespace TreeD

/-- What the program's text lays. -/
structure Tb (w : World) : Prop where
  lt : 0 < w.heap.size
  w1 : w.cell? ⟨0, 1, none⟩ = some (.string ⟨#[99, 42, 98]⟩)
  w3 : w.cell? ⟨0, 3, none⟩ = some (.string ⟨#[115, 42]⟩)
  ml : ∃ m, w.cell? ⟨4, 0, none⟩ = some (.int .i64 m) ∧ 4 < w.heap.size
theorem Tb.below {w w' : World} {B : Nat} (h : Tb w) (hB : w.heap.size ≤ B) (hb : Below B w w') : Tb w' := by
  obtain ⟨m, hm, hl⟩ := h.ml
  have := h.lt
  exact ⟨Nat.lt_of_lt_of_le h.lt hb.size, (hb.cell (p := ⟨_, 1, none⟩) (by simp; omega)).trans h.w1, (hb.cell (p := ⟨_, 3, none⟩) (by simp; omega)).trans h.w3, m, (hb.cell (p := ⟨_, 0, none⟩) (by simp; omega)).trans hm, Nat.lt_of_lt_of_le hl hb.size⟩
theorem must_ok (n : Int) (w : World) : Calls Tryz.prog 92 #[.bool true, .int .i64 n] w fun e w' => e = .returned (.tuple #[]) ∧ w = w' := by
  go_enter Tryz.func92, Tryz.ntmps92
  go_wp2
  go_end0
  exact ⟨rfl, rfl⟩
def N0 : Value := .agg #[.int .i64 3, .string ⟨#[]⟩, .slice none 0 0, .int .i64 0]
def N1 (K : Nat) : Value := .agg #[.int .i64 1, .string ⟨#[]⟩, .slice (some ⟨K, 0, none⟩) 1 1, .int .i64 0]
set_option maxRecDepth 100000 in
set_option maxHeartbeats 4000000 in
theorem text0_ok (w : World) : Calls Tryz.prog 94 #[N0] w fun e w' => e = .returned (.bool true) ∧ Below w.heap.size w w' := by
  unfold N0
  go_enter Tryz.func94, Tryz.ntmps94
  go_wp2
  go_ret
  refine ⟨rfl, ?_⟩
  repeat (first | exact Below.refl _ _ | refine Below.alloc ?_ (by simp; try omega) _)
set_option maxRecDepth 100000 in
set_option maxHeartbeats 4000000 in
theorem text1_ok (K : Nat) (w : World) : Calls Tryz.prog 94 #[N1 K] w fun e w' => e = .returned (.bool true) ∧ Below w.heap.size w w' := by
  unfold N1
  go_enter Tryz.func94, Tryz.ntmps94
  go_wp2
  go_ret
  refine ⟨rfl, ?_⟩
  repeat (first | exact Below.refl _ _ | refine Below.alloc ?_ (by simp; try omega) _)
set_option maxRecDepth 100000 in
set_option maxHeartbeats 4000000 in
theorem last_ok (C : Nat) (w : World) : Calls Tryz.prog 112 #[.pointer (some ⟨C, 0, none⟩), N0] w fun e w' => e = .returned (.bool true) ∧ Below w.heap.size w w' := by
  unfold N0
  go_enter Tryz.func112, Tryz.ntmps112
  go_wp2
  refine wp_loop_rounds 1 ?_
  rw [rounds_succ]
  go_wp2
  go_ret
  refine ⟨rfl, ?_⟩
  repeat (first | exact Below.refl _ _ | refine Below.alloc ?_ (by simp; try omega) _)
set_option maxRecDepth 100000 in
set_option maxHeartbeats 4000000 in
theorem channels_ok (C K : Nat) (w : World) : Calls Tryz.prog 111 #[.pointer (some ⟨C, 0, none⟩), N1 K] w fun e w' => e = .returned (.bool true) ∧ Below w.heap.size w w' := by
  unfold N1
  go_enter Tryz.func111, Tryz.ntmps111
  go_wp2
  refine wp_loop_rounds 1 ?_
  rw [rounds_succ]
  go_wp2
  go_ret
  refine ⟨rfl, ?_⟩
  repeat (first | exact Below.refl _ _ | refine Below.alloc ?_ (by simp; try omega) _)
set_option maxRecDepth 100000 in
set_option maxHeartbeats 4000000 in
theorem rest0_ok (C : Nat) (w : World) : Calls Tryz.prog 95 #[.pointer (some ⟨C, 0, none⟩), N0] w fun e w' => e = .returned (.bool true) ∧ Below w.heap.size w w' := by
  have HL := fun W => Lib.hid (last_ok C W)
  unfold N0 at *
  go_enter Tryz.func95, Tryz.ntmps95
  go_wp2_with fail
  refine ((HL _).out).mono ?_
  rintro e w1 ⟨rfl, hb⟩
  have HB := Lib.hid (Below.trans ((Below.refl _ w).alloc (Nat.le_refl _) _) (hb.mono (by simp)))
  clear hb
  go_wp2
  go_ret
  exact ⟨rfl, HB.out⟩
set_option maxRecDepth 100000 in
set_option maxHeartbeats 4000000 in
theorem rest1_ok (C K : Nat) (w : World) : Calls Tryz.prog 95 #[.pointer (some ⟨C, 0, none⟩), N1 K] w fun e w' => e = .returned (.bool true) ∧ Below w.heap.size w w' := by
  have HL := fun W => Lib.hid (channels_ok C K W)
  unfold N1 at *
  go_enter Tryz.func95, Tryz.ntmps95
  go_wp2_with fail
  refine ((HL _).out).mono ?_
  rintro e w1 ⟨rfl, hb⟩
  have HB := Lib.hid (Below.trans ((Below.refl _ w).alloc (Nat.le_refl _) _) (hb.mono (by simp)))
  clear hb
  go_wp2
  go_ret
  exact ⟨rfl, HB.out⟩
set_option maxRecDepth 100000 in
theorem fits_b (w : World) : Calls Tryz.prog 104 #[.int .i32 98, .int .i64 3] w fun e w' => e = .returned (.bool true) ∧ w = w' := by
  go_enter Tryz.func104, Tryz.ntmps104
  go_wp2
  go_ret
  exact ⟨rfl, rfl⟩
theorem rep0 : Lib.replaceAll (⟨#[115, 42]⟩ : ByteArray).data.toList (⟨#[42]⟩ : ByteArray).data.toList (⟨#[]⟩ : ByteArray).data.toList = [115] := by decide +kernel
theorem rep1 : Lib.replaceAll (⟨#[99, 42, 98]⟩ : ByteArray).data.toList (⟨#[42]⟩ : ByteArray).data.toList (⟨#[]⟩ : ByteArray).data.toList = [99, 98] := by decide +kernel
theorem has0 : decide (0 ≤ Lib.indexByte (⟨#[115, 42]⟩ : ByteArray).data.toList 42) = true := by decide +kernel
theorem has1 : decide (0 ≤ Lib.indexByte (⟨#[99, 42, 98]⟩ : ByteArray).data.toList 42) = true := by decide +kernel
set_option maxRecDepth 100000 in
set_option maxHeartbeats 4000000 in
theorem kids0_ok (C : Nat) (w : World) (hT : Tb w) : Calls Tryz.prog 93 #[.pointer (some ⟨C, 0, none⟩), N0] w fun e w' => e = .returned (.bool true) ∧ Below w.heap.size w w' := by
  have HR := fun (W : World) (hb : Below w.heap.size w W) => Lib.hid (by
    obtain ⟨m, hm, _⟩ := (hT.below (Nat.le_refl _) hb).ml
    exact Tryz.strings_ReplaceAll ⟨#[115, 42]⟩ ⟨#[42]⟩ ⟨#[]⟩ m W (by decide) hm (by decide) (by decide +kernel))
  have HC := fun W => Lib.hid (Tryz.strings_Contains_one ⟨#[115, 42]⟩ 42 W)
  rw [rep0] at HR
  rw [has0] at HC
  have HB0 := Lib.hid ((Below.refl w.heap.size w).alloc (Nat.le_refl _) (.cells #[.int .i64 3, .string ⟨#[]⟩, .slice none 0 0, .int .i64 0] 40))
  have g3 := (hT.below (Nat.le_refl _) HB0.out).w3
  have gl := (hT.below (Nat.le_refl _) HB0.out).lt
  have HR0 := HR _ HB0.out
  unfold N0
  clear hT HR
  go_enter Tryz.func93, Tryz.ntmps93
  go_wp2_with fail
  refine (HR0.out).mono ?_
  rintro e w1 ⟨rfl, hb⟩
  have hN := (Has.new w 40 [.int .i64 3, .string ⟨#[]⟩, .slice none 0 0, .int .i64 0]).below hb (Has.new w 40 [.int .i64 3, .string ⟨#[]⟩, .slice none 0 0, .int .i64 0]).lt
  have HB1 := Lib.hid (HB0.out.trans (hb.mono HB0.out.size))
  have n2 := hN.cell 2
  have nl := hN.lt
  simp at n2
  clear hN hb
  go_wp2_with fail
  refine ((HC _).out).mono ?_
  rintro e w2 ⟨rfl, hw⟩
  subst hw
  go_wp2
  have hit : (World.iter w2 ⟨#[115, 42]⟩ 0).heap[w2.heap.size]? = some (.stringIter ⟨#[115, 42]⟩ 0) := World.iter_heap w2 _ 0
  have HB2 : Hid (Below w.heap.size w (World.iter w2 ⟨#[115, 42]⟩ 0)) := Lib.hid (HB1.out.alloc HB1.out.size _)
  have hK : w.heap.size ≤ w2.heap.size := HB1.out.size
  clear n2 nl
  generalize World.iter w2 ⟨#[115, 42]⟩ 0 = W0 at hit HB2 ⊢
  generalize w2.heap.size = K at hit hK ⊢
  refine wp_loop_rounds 3 ?_
  rw [rounds_succ]
  have hnx : ∀ ty, (Instr.next (.pointer (some ⟨K, 0, none⟩)) true ty).run Tryz.prog W0 = .ok (.tuple #[.bool true, .int .i64 0, .int .i32 115]) (W0.iterAt K ⟨#[115, 42]⟩ 1) := fun ty => Lib.run_next_ascii_at W0 K ⟨#[115, 42]⟩ 0 ty hit (by decide) (by decide)
  have hit2 := Lib.iterAt_heap W0 K ⟨#[115, 42]⟩ 0 1 hit
  have HB3 := Lib.hid (Lib.below_iterAt HB2.out hK ⟨#[115, 42]⟩ 1)
  generalize W0.iterAt K ⟨#[115, 42]⟩ 1 = W1 at hnx hit2 HB3
  go_wp2
  refine wp_loop_rounds 1 ?_
  rw [rounds_succ]
  go_wp2
  clear hnx hit
  rw [rounds_succ]
  have hnx : ∀ ty, (Instr.next (.pointer (some ⟨K, 0, none⟩)) true ty).run Tryz.prog W1 = .ok (.tuple #[.bool true, .int .i64 1, .int .i32 42]) (W1.iterAt K ⟨#[115, 42]⟩ 2) := fun ty => Lib.run_next_ascii_at W1 K ⟨#[115, 42]⟩ 1 ty hit2 (by decide) (by decide)
  have hit3 := Lib.iterAt_heap W1 K ⟨#[115, 42]⟩ 1 2 hit2
  have HB4 := Lib.hid (Lib.below_iterAt HB3.out hK ⟨#[115, 42]⟩ 2)
  generalize W1.iterAt K ⟨#[115, 42]⟩ 2 = W2 at hnx hit3 HB4
  go_wp2
  clear hnx hit2
  rw [rounds_succ]
  have hnx : ∀ ty, (Instr.next (.pointer (some ⟨K, 0, none⟩)) true ty).run Tryz.prog W2 = _ := fun ty => Lib.run_next_end_at W2 K ⟨#[115, 42]⟩ 2 ty hit3 (by decide)
  go_wp2
  go_ret
  exact ⟨rfl, HB4.out⟩
/-- A program of nothing, and the checker that looks at it. -/
structure Ex (w : World) (C G Q D : Nat) : Prop where
  c : Has w C 88 [.slice (some ⟨G, 0, none⟩) 2 2, .slice (some ⟨D, 0, none⟩) 2 2]
  g : Has w G 40 [.int .i64 3, .string ⟨#[]⟩, .slice none 0 0, .int .i64 0, .int .i64 1, .string ⟨#[]⟩, .slice (some ⟨Q, 0, none⟩) 1 1, .int .i64 0]
  q : Has w Q 3 [.int .i64 0]
theorem Ex.below {w w' : World} {C G Q D B : Nat} (h : Ex w C G Q D) (hB : w.heap.size ≤ B) (hb : Below B w w') : Ex w' C G Q D :=
  ⟨h.c.below hb (Nat.lt_of_lt_of_le h.c.lt hB), h.g.below hb (Nat.lt_of_lt_of_le h.g.lt hB), h.q.below hb (Nat.lt_of_lt_of_le h.q.lt hB)⟩
set_option maxRecDepth 100000 in
set_option maxHeartbeats 8000000 in
theorem kids1_ok (C G Q D : Nat) (w : World) (hT : Tb w) (hE : Ex w C G Q D) : Calls Tryz.prog 93 #[.pointer (some ⟨C, 0, none⟩), N1 Q] w fun e w' => e = .returned (.bool true) ∧ Below w.heap.size w w' := by
  have HR := fun (W : World) (hb : Below w.heap.size w W) => Lib.hid (by
    obtain ⟨m, hm, _⟩ := (hT.below (Nat.le_refl _) hb).ml
    exact Tryz.strings_ReplaceAll ⟨#[99, 42, 98]⟩ ⟨#[42]⟩ ⟨#[]⟩ m W (by decide) hm (by decide) (by decide +kernel))
  have HC := fun W => Lib.hid (Tryz.strings_Contains_one ⟨#[99, 42, 98]⟩ 42 W)
  rw [rep1] at HR
  rw [has1] at HC
  have HF := fun W => Lib.hid (fits_b W)
  have HB0 := Lib.hid ((Below.refl w.heap.size w).alloc (Nat.le_refl _) (.cells #[.int .i64 1, .string ⟨#[]⟩, .slice (some ⟨Q, 0, none⟩) 1 1, .int .i64 0] 40))
  have hN0 := Has.new w 40 [.int .i64 1, .string ⟨#[]⟩, .slice (some ⟨Q, 0, none⟩) 1 1, .int .i64 0]
  have g1 := (hT.below (Nat.le_refl _) HB0.out).w1
  have gl := (hT.below (Nat.le_refl _) HB0.out).lt
  have HR0 := HR _ HB0.out
  have HE := Lib.hid hE
  unfold N1
  clear hT HR hE
  go_enter Tryz.func93, Tryz.ntmps93
  go_wp2_with fail
  refine (HR0.out).mono ?_
  rintro e w1 ⟨rfl, hb⟩
  have hN := hN0.below hb hN0.lt
  have HB1 := Lib.hid (HB0.out.trans (hb.mono HB0.out.size))
  have n2 := hN.cell 2
  have nl := hN.lt
  simp at n2
  have HN := Lib.hid hN
  clear hN hb hN0
  go_wp2_with fail
  refine ((HC _).out).mono ?_
  rintro e w2 ⟨rfl, hw⟩
  subst hw
  go_wp2
  have hit : (World.iter w2 ⟨#[99, 42, 98]⟩ 0).heap[w2.heap.size]? = some (.stringIter ⟨#[99, 42, 98]⟩ 0) := World.iter_heap w2 _ 0
  have HB2 : Hid (Below w.heap.size w (World.iter w2 ⟨#[99, 42, 98]⟩ 0)) := Lib.hid (HB1.out.alloc HB1.out.size _)
  have HNb0 : Hid (Below w2.heap.size w2 (World.iter w2 ⟨#[99, 42, 98]⟩ 0)) := Lib.hid ((Below.refl _ w2).alloc (Nat.le_refl _) _)
  have hK : w.heap.size ≤ w2.heap.size := HB1.out.size
  have hKK : w2.heap.size ≤ w2.heap.size := Nat.le_refl _
  clear n2 nl
  generalize World.iter w2 ⟨#[99, 42, 98]⟩ 0 = W0 at hit HB2 HNb0 ⊢
  generalize hKe : w2.heap.size = K at hit hK hKK HNb0 ⊢
  refine wp_loop_rounds 4 ?_
  rw [rounds_succ]
  have hnx : ∀ ty, (Instr.next (.pointer (some ⟨K, 0, none⟩)) true ty).run Tryz.prog W0 = .ok (.tuple #[.bool true, .int .i64 0, .int .i32 99]) (W0.iterAt K ⟨#[99, 42, 98]⟩ 1) := fun ty => Lib.run_next_ascii_at W0 K ⟨#[99, 42, 98]⟩ 0 ty hit (by decide) (by decide)
  have hit2 := Lib.iterAt_heap W0 K ⟨#[99, 42, 98]⟩ 0 1 hit
  have HB3 := Lib.hid (Lib.below_iterAt HB2.out hK ⟨#[99, 42, 98]⟩ 1)
  have HNb1 := Lib.hid (Lib.below_iterAt HNb0.out hKK ⟨#[99, 42, 98]⟩ 1)
  generalize W0.iterAt K ⟨#[99, 42, 98]⟩ 1 = W1 at hnx hit2 HB3 HNb1
  go_wp2
  refine wp_loop_rounds 1 ?_
  rw [rounds_succ]
  go_wp2
  clear hnx hit
  rw [rounds_succ]
  have hnx : ∀ ty, (Instr.next (.pointer (some ⟨K, 0, none⟩)) true ty).run Tryz.prog W1 = .ok (.tuple #[.bool true, .int .i64 1, .int .i32 42]) (W1.iterAt K ⟨#[99, 42, 98]⟩ 2) := fun ty => Lib.run_next_ascii_at W1 K ⟨#[99, 42, 98]⟩ 1 ty hit2 (by decide) (by decide)
  have hit3 := Lib.iterAt_heap W1 K ⟨#[99, 42, 98]⟩ 1 2 hit2
  have HB4 := Lib.hid (Lib.below_iterAt HB3.out hK ⟨#[99, 42, 98]⟩ 2)
  have HNb2 := Lib.hid (Lib.below_iterAt HNb1.out hKK ⟨#[99, 42, 98]⟩ 2)
  generalize W1.iterAt K ⟨#[99, 42, 98]⟩ 2 = W2 at hnx hit3 HB4 HNb2
  go_wp2
  clear hnx hit2
  rw [rounds_succ]
  have hnx : ∀ ty, (Instr.next (.pointer (some ⟨K, 0, none⟩)) true ty).run Tryz.prog W2 = .ok (.tuple #[.bool true, .int .i64 2, .int .i32 98]) (W2.iterAt K ⟨#[99, 42, 98]⟩ 3) := fun ty => Lib.run_next_ascii_at W2 K ⟨#[99, 42, 98]⟩ 2 ty hit3 (by decide) (by decide)
  have hit4 := Lib.iterAt_heap W2 K ⟨#[99, 42, 98]⟩ 2 3 hit3
  have HB5 := Lib.hid (Lib.below_iterAt HB4.out hK ⟨#[99, 42, 98]⟩ 3)
  have HNb3 := Lib.hid (Lib.below_iterAt HNb2.out hKK ⟨#[99, 42, 98]⟩ 3)
  generalize W2.iterAt K ⟨#[99, 42, 98]⟩ 3 = W3 at hnx hit4 HB5 HNb3
  have hE3 := HE.out.below (Nat.le_refl _) HB5.out
  have hN3 := HN.out.below (hKe ▸ HNb3.out) HN.out.lt
  have n2 := hN3.cell 2
  have nl := hN3.lt
  have e0 := hE3.c.cell 0
  have el := hE3.c.lt
  have eg := hE3.g.cell 0
  have egl := hE3.g.lt
  have eq := hE3.q.cell 0
  have eql := hE3.q.lt
  simp at n2 e0 eg eq
  clear hE3 hN3
  go_wp2
  refine wp_loop_rounds 2 ?_
  rw [rounds_succ]
  go_wp2
  go_quiet ((go_at_call 104; exact quiet_left ((HF _).out)))
  have HB6 : Hid (Below w.heap.size w (W3.drewN nq)) := Lib.hid (below_drewN HB5.out nq)
  have hit5 : (W3.drewN nq).heap[K]? = some (.stringIter ⟨#[99, 42, 98]⟩ 3) := hit4
  generalize W3.drewN nq = W4 at HB6 hit5 ⊢
  go_wp2
  rw [rounds_succ]
  go_wp2
  clear hnx hit3
  rw [rounds_succ]
  have hnx : ∀ ty, (Instr.next (.pointer (some ⟨K, 0, none⟩)) true ty).run Tryz.prog W4 = _ := fun ty => Lib.run_next_end_at W4 K ⟨#[99, 42, 98]⟩ 3 ty hit5 (by decide)
  go_wp2
  go_ret
  exact ⟨rfl, HB6.out⟩
end TreeD
end Go.Proofs.YtmdkocegnbcgmaaGreatDoor
namespace Go.Proofs.YtmdkocegnbcgmaaGreatDoor
open Go.RowKit ObjM
namespace TreeD

def NodeDid (w0 : World) (B C G Q D : Nat) (b0 b1 : Bool) (e : Ending) (w' : World) : Prop :=
  e = .returned (.tuple #[]) ∧ Below B w0 w' ∧ Ex w' C G Q D ∧ Has w' D 4 [.bool b0, .bool b1]
set_option maxRecDepth 100000 in
set_option maxHeartbeats 8000000 in
theorem node0_ok (C G Q D B : Nat) (b0 b1 : Bool) (w0 w : World) (hT : ∀ W, Below B w0 W → Tb W) (hBw : B ≤ w.heap.size) (hb0 : Below B w0 w) (hE : Ex w C G Q D) (hD : Has w D 4 [.bool b0, .bool b1]) :
    Calls Tryz.prog 61 #[.pointer (some ⟨C, 0, none⟩), .int .i64 0] w (NodeDid w0 B C G Q D b0 b1) := by
  have HM := fun W => Lib.hid (must_ok 0 W)
  have HK := fun W (h : Tb W) => Lib.hid (kids0_ok C W h)
  have HX := fun W => Lib.hid (text0_ok W)
  have HR := fun W => Lib.hid (rest0_ok C W)
  have HT := Lib.hid hT
  have HE := Lib.hid (fun (W : World) (h : Below w.heap.size w W) => hE.below (Nat.le_refl _) h)
  have HD := Lib.hid (fun (W : World) (h : Below w.heap.size w W) => hD.below h hD.lt)
  have HB := Lib.hid hb0
  have e0 := hE.c.cell 0
  have el := hE.c.lt
  have g0 := hE.g.cell 0
  have g1 := hE.g.cell 1
  have g2 := hE.g.cell 2
  have g3 := hE.g.cell 3
  have gl := hE.g.lt
  simp at e0 g0 g1 g2 g3
  have hN := Has.new w 40 [.int .i64 3, .string ⟨#[]⟩, .slice none 0 0, .int .i64 0]
  have HB1 := Lib.hid ((Below.refl w.heap.size w).alloc (Nat.le_refl _) (.cells #[.int .i64 3, .string ⟨#[]⟩, .slice none 0 0, .int .i64 0] 40))
  have HN := Lib.hid hN
  clear hE hD hb0 hT hN
  simp only [N0] at HK HX HR
  go_enter Tryz.func61, Tryz.ntmps61
  go_wp2_with fail
  refine ((HM _).out).mono ?_
  rintro e w1 ⟨rfl, hw⟩
  subst hw
  go_wp2
  refine wp_loop_rounds 1 ?_
  rw [rounds_succ]
  go_wp2_with fail
  refine ((HK _ (HT.out _ (HB.out.trans (HB1.out.mono hBw)))).out).mono ?_
  rintro e w2 ⟨rfl, hb⟩
  have hN2 := HN.out.below hb HN.out.lt
  have HB2 := Lib.hid (HB1.out.trans (hb.mono HB1.out.size))
  have n0 := hN2.cell 0
  have n1 := hN2.cell 1
  have n2 := hN2.cell 2
  have n3 := hN2.cell 3
  have nl := hN2.lt
  simp at n0 n1 n2 n3
  have HN2 := Lib.hid hN2
  clear hb hN2
  go_wp2_with fail
  refine ((HM _).out).mono ?_
  rintro e w3 ⟨rfl, hw⟩
  subst hw
  go_wp2_with fail
  refine ((HX _).out).mono ?_
  rintro e w3 ⟨rfl, hb⟩
  have hN3 := HN2.out.below hb HN2.out.lt
  have HB3 := Lib.hid (HB2.out.trans (hb.mono HB2.out.size))
  clear hb n0 n1 n2 n3 nl
  have n0 := hN3.cell 0
  have n1 := hN3.cell 1
  have n2 := hN3.cell 2
  have n3 := hN3.cell 3
  have nl := hN3.lt
  simp at n0 n1 n2 n3
  clear hN3
  go_wp2_with fail
  refine ((HM _).out).mono ?_
  rintro e w4 ⟨rfl, hw⟩
  subst hw
  go_wp2_with fail
  refine ((HR _).out).mono ?_
  rintro e w4 ⟨rfl, hb⟩
  have HB4 := Lib.hid (HB3.out.trans (hb.mono HB3.out.size))
  clear hb
  go_wp2_with fail
  refine ((HM _).out).mono ?_
  rintro e w5 ⟨rfl, hw⟩
  subst hw
  go_wp2
  go_end0
  exact ⟨rfl, HB.out.trans (HB4.out.mono hBw), HE.out _ HB4.out, HD.out _ HB4.out⟩
set_option maxRecDepth 100000 in
set_option maxHeartbeats 8000000 in
theorem node1_ok (C G Q D B : Nat) (b1 : Bool) (w0 w : World) (hT : ∀ W, Below B w0 W → Tb W) (hBw : B ≤ w.heap.size) (hBD : B ≤ D) (hb0 : Below B w0 w) (hE : Ex w C G Q D) (hD : Has w D 4 [.bool false, .bool b1]) :
    Calls Tryz.prog 61 #[.pointer (some ⟨C, 0, none⟩), .int .i64 1] w (NodeDid w0 B C G Q D true b1) := by
  have HM := fun W => Lib.hid (must_ok 1 W)
  have HK := fun W (h : Tb W) (hE : Ex W C G Q D) => Lib.hid (kids1_ok C G Q D W h hE)
  have HX := fun W => Lib.hid (text1_ok Q W)
  have HR := fun W => Lib.hid (rest1_ok C Q W)
  have HT := Lib.hid hT
  have HB := Lib.hid hb0
  have nC : D ≠ C := hD.ne hE.c (by decide +kernel)
  have nG : D ≠ G := hD.ne hE.g (by decide +kernel)
  have nQ : D ≠ Q := hD.ne hE.q (by decide +kernel)
  have e0 := hE.c.cell 0
  have e1 := hE.c.cell 1
  have el := hE.c.lt
  have g4 := hE.g.cell 4
  have g5 := hE.g.cell 5
  have g6 := hE.g.cell 6
  have g7 := hE.g.cell 7
  have gl := hE.g.lt
  have q0 := hE.q.cell 0
  have ql := hE.q.lt
  have d0 := hD.cell 0
  have df := hD.frozen 0
  have dl := hD.lt
  simp at e0 e1 g4 g5 g6 g7 q0 d0
  have hDA : Has (w.setCell ⟨D, 0, none⟩ (.bool true)) D 4 [.bool true, .bool b1] := hD.set 0 (.bool true)
  have hEA : Ex (w.setCell ⟨D, 0, none⟩ (.bool true)) C G Q D := ⟨hE.c.keeps (Keeps.set _ D 0 _) (by simpa using nC.symm), hE.g.keeps (Keeps.set _ D 0 _) (by simpa using nG.symm), hE.q.keeps (Keeps.set _ D 0 _) (by simpa using nQ.symm)⟩
  have hBA : Below B w0 (w.setCell ⟨D, 0, none⟩ (.bool true)) := hb0.setCell (p := ⟨D, 0, none⟩) hBD _
  have hss : (w.setCell ⟨D, 0, none⟩ (.bool true)).heap.size = w.heap.size := by simp
  have hNs := Has.new (w.setCell ⟨D, 0, none⟩ (.bool true)) 40 [.int .i64 1, .string ⟨#[]⟩, .slice (some ⟨Q, 0, none⟩) 1 1, .int .i64 0]
  rw [hss] at hNs
  have hA : Below (w.setCell ⟨D, 0, none⟩ (.bool true)).heap.size (w.setCell ⟨D, 0, none⟩ (.bool true)) ((w.setCell ⟨D, 0, none⟩ (.bool true)).alloc (.cells #[.int .i64 1, .string ⟨#[]⟩, .slice (some ⟨Q, 0, none⟩) 1 1, .int .i64 0] 40)) := (Below.refl _ _).alloc (Nat.le_refl _) _
  have HBs : Hid (Below B w0 ((w.setCell ⟨D, 0, none⟩ (.bool true)).alloc (.cells #[.int .i64 1, .string ⟨#[]⟩, .slice (some ⟨Q, 0, none⟩) 1 1, .int .i64 0] 40))) := Lib.hid (hBA.trans (hA.mono (by rw [hss]; exact hBw)))
  have HEs : Hid (Ex ((w.setCell ⟨D, 0, none⟩ (.bool true)).alloc (.cells #[.int .i64 1, .string ⟨#[]⟩, .slice (some ⟨Q, 0, none⟩) 1 1, .int .i64 0] 40)) C G Q D) := Lib.hid (hEA.below (Nat.le_refl _) hA)
  have HDs : Hid (Has ((w.setCell ⟨D, 0, none⟩ (.bool true)).alloc (.cells #[.int .i64 1, .string ⟨#[]⟩, .slice (some ⟨Q, 0, none⟩) 1 1, .int .i64 0] 40)) D 4 [.bool true, .bool b1]) := Lib.hid (hDA.below hA hDA.lt)
  have hsz : B ≤ ((w.setCell ⟨D, 0, none⟩ (.bool true)).alloc (.cells #[.int .i64 1, .string ⟨#[]⟩, .slice (some ⟨Q, 0, none⟩) 1 1, .int .i64 0] 40)).heap.size := by simp; omega
  clear hE hD hb0 hT hA hEA hDA hBA hss nC nG nQ
  simp only [N1] at HK HX HR
  go_enter Tryz.func61, Tryz.ntmps61
  go_wp2_with fail
  refine ((HM _).out).mono ?_
  rintro e w1 ⟨rfl, hw⟩
  subst hw
  go_wp2
  refine wp_loop_rounds 2 ?_
  rw [rounds_succ]
  go_wp2_with fail
  refine ((HM _).out).mono ?_
  rintro e w1 ⟨rfl, hw⟩
  subst hw
  go_wp2
  change Code.rounds _ _ _ _ _ (World.alloc _ _)
  generalize World.alloc (w.setCell ⟨D, 0, none⟩ (.bool true)) (.cells #[.int .i64 1, .string ⟨#[]⟩, .slice (some ⟨Q, 0, none⟩) 1 1, .int .i64 0] 40) = w2 at HBs HEs HDs hNs hsz ⊢
  generalize w.heap.size = N at hNs ⊢
  clear e0 e1 el g4 g5 g6 g7 gl q0 ql d0 df dl
  have n0 := hNs.cell 0
  have n1 := hNs.cell 1
  have n2 := hNs.cell 2
  have n3 := hNs.cell 3
  have nl := hNs.lt
  simp at n0 n1 n2 n3
  have HN := Lib.hid hNs
  clear hNs
  rw [rounds_succ]
  go_wp2_with fail
  refine ((HK _ (HT.out _ HBs.out) HEs.out).out).mono ?_
  rintro e w3 ⟨rfl, hb⟩
  have HN3 := Lib.hid (HN.out.below hb HN.out.lt)
  have HB3 := Lib.hid hb
  clear hb n0 n1 n2 n3 nl
  have n0 := HN3.out.cell 0
  have n1 := HN3.out.cell 1
  have n2 := HN3.out.cell 2
  have n3 := HN3.out.cell 3
  have nl := HN3.out.lt
  simp at n0 n1 n2 n3
  go_wp2_with fail
  refine ((HM _).out).mono ?_
  rintro e w4 ⟨rfl, hw⟩
  subst hw
  go_wp2_with fail
  refine ((HX _).out).mono ?_
  rintro e w4 ⟨rfl, hb⟩
  have HN4 := Lib.hid (HN3.out.below hb HN3.out.lt)
  have HB4 := Lib.hid (HB3.out.trans (hb.mono HB3.out.size))
  clear hb n0 n1 n2 n3 nl
  have n0 := HN4.out.cell 0
  have n1 := HN4.out.cell 1
  have n2 := HN4.out.cell 2
  have n3 := HN4.out.cell 3
  have nl := HN4.out.lt
  simp at n0 n1 n2 n3
  go_wp2_with fail
  refine ((HM _).out).mono ?_
  rintro e w5 ⟨rfl, hw⟩
  subst hw
  go_wp2_with fail
  refine ((HR _).out).mono ?_
  rintro e w5 ⟨rfl, hb⟩
  have HB5 := Lib.hid (HB4.out.trans (hb.mono HB4.out.size))
  clear hb
  go_wp2_with fail
  refine ((HM _).out).mono ?_
  rintro e w6 ⟨rfl, hw⟩
  subst hw
  go_wp2
  go_end0
  exact ⟨rfl, HBs.out.trans (HB5.out.mono hsz), HEs.out.below (Nat.le_refl _) HB5.out, HDs.out.below HB5.out HDs.out.lt⟩
set_option maxRecDepth 100000 in
set_option maxHeartbeats 4000000 in
theorem whole_ok (C G Q D : Nat) (b1 : Bool) (w : World) (hE : Ex w C G Q D) (hD : Has w D 4 [.bool true, .bool b1]) :
    Calls Tryz.prog 62 #[.pointer (some ⟨C, 0, none⟩)] w fun e w' => e = .returned (.tuple #[]) ∧ w = w' := by
  have HM := fun n W => Lib.hid (must_ok n W)
  have e0 := hE.c.cell 0
  have e1 := hE.c.cell 1
  have el := hE.c.lt
  have g0 := hE.g.cell 0
  have g4 := hE.g.cell 4
  have gl := hE.g.lt
  have d0 := hD.cell 0
  have dl := hD.lt
  simp at e0 e1 g0 g4 d0
  clear hE hD
  go_enter Tryz.func62, Tryz.ntmps62
  go_wp2_with fail
  refine ((HM 0 _).out).mono ?_
  rintro e w1 ⟨rfl, hw⟩
  subst hw
  go_wp2_with fail
  refine ((HM 1 _).out).mono ?_
  rintro e w1 ⟨rfl, hw⟩
  subst hw
  go_wp2
  refine wp_loop_rounds 2 ?_
  rw [rounds_succ]
  go_wp2_with fail
  refine ((HM 1 _).out).mono ?_
  rintro e w1 ⟨rfl, hw⟩
  subst hw
  go_wp2
  rw [rounds_succ]
  go_wp2
  go_end0
  exact ⟨rfl, rfl⟩
end TreeD
end Go.Proofs.YtmdkocegnbcgmaaGreatDoor
