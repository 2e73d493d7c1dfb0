/- Sets of places: one word. -/
import Derived.Test.YtajhkogknpmnbaaDoorFlow4
import Derived.Test.YtajhkogknpmnbaaDoorLabelMath
namespace Go.Proofs.YtajhkogknpmnbaaDoor
open Go.RowKit ObjM
namespace FlowD

/-- A set of places in one word. -/
def SetAt (w : World) (G : Nat) (x : Nat) : Prop := Has w G 84 [.int .u64 (x : Int)]
theorem mk1 (w : World) : (Instr.makeSlice 54 (.int .i64 1) (.int .i64 1)).run Tryd.prog w = .ok (.slice (some ⟨w.heap.size, 0, none⟩) 1 1) (w.alloc (.cells #[.int .u64 0] 84)) := by kernel_rfl
set_option maxRecDepth 100000 in
theorem newSet_one (many : Int) (h1 : 1 ≤ many) (h2 : many ≤ 64) (w : World) : Calls Tryd.prog 32 #[.int .i64 many] w fun e w' => e = .returned (.slice (some ⟨w.heap.size, 0, none⟩) 1 1) ∧ SetAt w' w.heap.size 0 ∧ Below w.heap.size w w' := by
  have ha : IntKind.i64.wrap (many + 63) = many + 63 := IntWalk.i64_in _ (by omega)
  have hb : IntKind.i64.wrap ((many + 63).tdiv 64) = 1 := by
    rw [Int.tdiv_eq_ediv_of_nonneg (by omega), show (many + 63) / 64 = 1 by omega]
    rfl
  have hmk := mk1
  go_enter Tryd.func32, Tryd.ntmps32
  go_wp2
  go_ret
  exact ⟨rfl, Has.new w 84 _, (Below.refl _ w).alloc (Nat.le_refl _) _⟩
set_option maxRecDepth 100000 in
theorem has_one (G x c n : Nat) (hn : n < 64) (w : World) (h : SetAt w G x) (hx : x < LabelM.M64) : Calls Tryd.prog 56 #[.slice (some ⟨G, 0, none⟩) 1 c, .int .i64 (n : Int)] w fun e w' => e = .returned (.bool (x.testBit n)) ∧ w = w' := by
  have hc := h.cell 0
  have hl := h.lt
  simp only [List.getElem?_cons_zero] at hc
  have hn0 : n / 64 = 0 := by omega
  have hc2 : w.cell? ⟨G, n / 64, none⟩ = some (.int .u64 (x : Int)) := by rw [hn0]; exact hc
  have hi : (n : Int) / 64 < 1 := by omega
  have hm : (n : Int) % 64 = n := by omega
  go_enter Tryd.func56, Tryd.ntmps56
  go_wp2
  go_ret
  exact ⟨by rw [LabelM.bit_test x n hx]; rfl, rfl⟩
set_option maxRecDepth 100000 in
set_option maxHeartbeats 4000000 in
theorem add_one (G x c n : Nat) (hn : n < 64) (w : World) (h : SetAt w G x) (hx : x < LabelM.M64) : Calls Tryd.prog 35 #[.slice (some ⟨G, 0, none⟩) 1 c, .int .i64 (n : Int)] w fun e w' => e = .returned (.tuple #[]) ∧ SetAt w' G (x ||| 2 ^ n) ∧ Keeps [G] w w' := by
  have hc := h.cell 0
  have hl := h.lt
  simp only [List.getElem?_cons_zero] at hc
  have hn0 : n / 64 = 0 := by omega
  have hc2 : w.cell? ⟨G, n / 64, none⟩ = some (.int .u64 (x : Int)) := by rw [hn0]; exact hc
  have hf : w.frozen? ⟨G, n / 64, none⟩ = false := by rw [hn0]; exact h.frozen 0
  have hi : (n : Int) / 64 < 1 := by omega
  have hm : (n : Int) % 64 = n := by omega
  go_enter Tryd.func35, Tryd.ntmps35
  have hq : IntKind.i64.wrap ((n : Int) / 64) = 0 := by
    rw [show (n : Int) / 64 = 0 by omega]
    rfl
  have hq1 : (n : Int) / 64 = 0 := by omega
  have hc4 : w.drew.cell? ⟨G, 0, none⟩ = some (.int .u64 (x : Int)) := hc
  have hf4 : w.drew.frozen? ⟨G, 0, none⟩ = false := h.frozen 0
  have hf5 : w.frozen? ⟨G, 0, none⟩ = false := h.frozen 0
  have hp : (2 : Nat) ^ n < 18446744073709551616 := Nat.pow_lt_pow_right (m := n) (n := 64) (a := 2) (by decide) hn
  have hw2 : IntKind.u64.wrap (2 ^ n) = ((2 ^ n : Nat) : Int) := by
    rw [show (2 : Int) ^ n = ((2 ^ n : Nat) : Int) by simp]
    have h9 := Int.ofNat_lt.2 hp
    have h8 := Int.natCast_nonneg (2 ^ n)
    generalize ((2 ^ n : Nat) : Int) = q at h9 h8
    exact IntWalk.u64_in _ ⟨h8, by omega⟩
  have hv : bits BinOp.or IntKind.u64 (x : Int) (IntKind.u64.wrap (2 ^ n)) = ((x ||| 2 ^ n : Nat) : Int) := by
    rw [hw2]
    exact u64_or_nat _ _ hx hp
  have HV := Lib.hid hv
  have HH := Lib.hid (h.set 0 (.int .u64 ((x ||| 2 ^ n : Nat) : Int)))
  clear hc2 hf hi hv hw2 hp h
  go_wp2
  go_region
  rw [HV.out]
  go_wp2
  go_end0
  exact ⟨rfl, HH.out, (Keeps.set _ _ _ _).trans (Keeps.drew [] _) (by simp)⟩
end FlowD
end Go.Proofs.YtajhkogknpmnbaaDoor
namespace Go.Proofs.YtajhkogknpmnbaaDoor
open Go.RowKit ObjM
namespace FlowD

set_option maxRecDepth 100000 in
set_option maxHeartbeats 4000000 in
theorem fill_one (G x c : Nat) (w : World) (h : SetAt w G x) : Calls Tryd.prog 76 #[.slice (some ⟨G, 0, none⟩) 1 c] w fun e w' => e = .returned (.tuple #[]) ∧ SetAt w' G 18446744073709551615 ∧ Keeps [G] w w' := by
  have hc := h.cell 0
  have hl := h.lt
  have hf := h.frozen 0
  simp only [List.getElem?_cons_zero] at hc
  have HH : Hid (SetAt (w.setCell ⟨G, 0, none⟩ (.int .u64 18446744073709551615)) G 18446744073709551615 ∧ Keeps [G] w (w.setCell ⟨G, 0, none⟩ (.int .u64 18446744073709551615))) := Lib.hid ⟨h.set 0 (.int .u64 18446744073709551615), Keeps.set _ _ _ _⟩
  clear h
  go_enter Tryd.func76, Tryd.ntmps76
  go_wp2
  go_loopw [5] (fun i wr => (i = .int .i64 0 ∧ w = wr) ∨ (i = .int .i64 1 ∧ Hid (SetAt wr G 18446744073709551615 ∧ Keeps [G] w wr))) (fun i _ => 1 - (intOf i).toNat)
  case atStart => exact .inl ⟨rfl, rfl⟩
  case round =>
    rcases hrel with ⟨rfl, rfl⟩ | ⟨rfl, HD⟩
    · go_wp2
      go_roundw
      case rel => exact .inr ⟨by go_num, HH⟩
      case measure => simp [intOf]
    · clear hc hl hf HH
      go_wp2
      go_end0
      exact ⟨rfl, HD.out⟩
set_option maxRecDepth 100000 in
set_option maxHeartbeats 4000000 in
theorem clear_one (G x c : Nat) (w : World) (h : SetAt w G x) : Calls Tryd.prog 77 #[.slice (some ⟨G, 0, none⟩) 1 c] w fun e w' => e = .returned (.tuple #[]) ∧ SetAt w' G 0 ∧ Keeps [G] w w' := by
  have hc := h.cell 0
  have hl := h.lt
  have hf := h.frozen 0
  simp only [List.getElem?_cons_zero] at hc
  have HH : Hid (SetAt (w.setCell ⟨G, 0, none⟩ (.int .u64 0)) G 0 ∧ Keeps [G] w (w.setCell ⟨G, 0, none⟩ (.int .u64 0))) := Lib.hid ⟨h.set 0 (.int .u64 0), Keeps.set _ _ _ _⟩
  clear h
  go_enter Tryd.func77, Tryd.ntmps77
  go_wp2
  go_loopw [5] (fun i wr => (i = .int .i64 0 ∧ w = wr) ∨ (i = .int .i64 1 ∧ Hid (SetAt wr G 0 ∧ Keeps [G] w wr))) (fun i _ => 1 - (intOf i).toNat)
  case atStart => exact .inl ⟨rfl, rfl⟩
  case round =>
    rcases hrel with ⟨rfl, rfl⟩ | ⟨rfl, HD⟩
    · go_wp2
      go_roundw
      case rel => exact .inr ⟨by go_num, HH⟩
      case measure => simp [intOf]
    · clear hc hl hf HH
      go_wp2
      go_end0
      exact ⟨rfl, HD.out⟩
set_option maxRecDepth 100000 in
set_option maxHeartbeats 4000000 in
theorem keep_one (G H x y c d : Nat) (w : World) (h : SetAt w G x) (k : SetAt w H y) (hx : x < LabelM.M64) (hy : y < LabelM.M64) : Calls Tryd.prog 78 #[.slice (some ⟨G, 0, none⟩) 1 c, .slice (some ⟨H, 0, none⟩) 1 d] w fun e w' => e = .returned (.tuple #[]) ∧ SetAt w' G (x &&& y) ∧ Keeps [G] w w' := by
  have hc := h.cell 0
  have hl := h.lt
  have hf := h.frozen 0
  have hd := k.cell 0
  have hm := k.lt
  simp only [List.getElem?_cons_zero] at hc hd
  have hc4 : w.drew.cell? ⟨G, 0, none⟩ = some (.int .u64 (x : Int)) := hc
  have hd4 : w.drew.cell? ⟨H, 0, none⟩ = some (.int .u64 (y : Int)) := hd
  have hf4 : w.drew.frozen? ⟨G, 0, none⟩ = false := hf
  have HV : Hid (bits BinOp.and IntKind.u64 (x : Int) (y : Int) = ((x &&& y : Nat) : Int)) := Lib.hid (u64_and_nat _ _ hx hy)
  have HH : Hid (SetAt (w.setCell ⟨G, 0, none⟩ (.int .u64 ((x &&& y : Nat) : Int))).drew G (x &&& y) ∧ Keeps [G] w (w.setCell ⟨G, 0, none⟩ (.int .u64 ((x &&& y : Nat) : Int))).drew) := Lib.hid ⟨h.set 0 (.int .u64 ((x &&& y : Nat) : Int)), (Keeps.set _ _ _ _).trans (Keeps.drew [] _) (by simp)⟩
  clear h k
  go_enter Tryd.func78, Tryd.ntmps78
  go_wp2
  go_loopw [7] (fun i wr => (i = .int .i64 0 ∧ w = wr) ∨ (i = .int .i64 1 ∧ Hid (SetAt wr G (x &&& y) ∧ Keeps [G] w wr))) (fun i _ => 1 - (intOf i).toNat)
  case atStart => exact .inl ⟨rfl, rfl⟩
  case round =>
    rcases hrel with ⟨rfl, rfl⟩ | ⟨rfl, HD⟩
    · go_wp2
      go_region
      rw [HV.out]
      go_wp2
      go_roundw
      case rel => exact .inr ⟨by go_num, HH⟩
      case measure => simp [intOf]
    · clear hc hl hf hd hm hc4 hd4 hf4 HV HH
      go_wp2
      go_end0
      exact ⟨rfl, HD.out⟩
end FlowD
end Go.Proofs.YtajhkogknpmnbaaDoor
namespace Go.Proofs.YtajhkogknpmnbaaDoor
open Go.RowKit ObjM
namespace FlowD

def setV (s : Option (Nat × Nat)) : Value := match s with
  | none => .slice none 0 0
  | some x => .slice (some ⟨x.1, 0, none⟩) 1 1
def meetS (sets : List (Option (Nat × Nat))) (a : Nat) (z : Int) : Nat := if z = -1 then 0 else match sets.getD z.toNat none with
  | none => a
  | some x => a &&& x.2
def meetV (sets : List (Option (Nat × Nat))) (zs : List Int) : Nat := zs.foldl (meetS sets) 18446744073709551615
theorem meetS_lt {sets : List (Option (Nat × Nat))} {a : Nat} {z : Int} (h : a < LabelM.M64) : meetS sets a z < LabelM.M64 := by
  unfold meetS
  split
  · decide
  · split
    · exact h
    · exact LabelM.and_lt h
theorem meetV_lt (sets : List (Option (Nat × Nat))) (zs : List Int) : meetV sets zs < LabelM.M64 := by
  have : ∀ (zs : List Int) (a : Nat), a < LabelM.M64 → zs.foldl (meetS sets) a < LabelM.M64 := by
    intro zs
    induction zs with
    | nil => exact fun a h => h
    | cons z r ih => exact fun a h => ih _ (meetS_lt h)
  exact this zs _ (by decide)
theorem meetV_step {sets : List (Option (Nat × Nat))} {zs : List Int} {j : Nat} (h : j < zs.length) : meetV sets (zs.take (j + 1)) = meetS sets (meetV sets (zs.take j)) zs[j] := by
  unfold meetV
  rw [List.take_succ_eq_append_getElem h, List.foldl_append]
  rfl
/-- What a meeting of sets reads. -/
structure MeetIn (w : World) (G F S : Nat) (zs : List Int) (sets : List (Option (Nat × Nat))) : Prop where
  f : ∀ (i : Nat) (h : i < zs.length), w.cell? ⟨F, i, none⟩ = some (.int .i64 zs[i])
  s : ∀ (q : Nat) (h : q < sets.length), w.cell? ⟨S, q, none⟩ = some (setV sets[q])
  fg : F ≠ G ∧ F < w.heap.size
  sg : S ≠ G ∧ S < w.heap.size
  e : ∀ (q H y : Nat), sets[q]? = some (some (H, y)) → SetAt w H y ∧ H ≠ G ∧ y < LabelM.M64
  r : ∀ z ∈ zs, z = -1 ∨ 0 ≤ z ∧ z < sets.length
theorem keeps_cell {S : List Nat} {w w' : World} (k : Keeps S w w') {B i : Nat} (hB : B ∉ S) (hl : B < w.heap.size) : w'.cell? ⟨B, i, none⟩ = w.cell? ⟨B, i, none⟩ := by
  have := k.block B hl hB
  simp only [World.cell?, this]
theorem MeetIn.keeps {w w' : World} {G F S : Nat} {zs : List Int} {sets : List (Option (Nat × Nat))} (h : MeetIn w G F S zs sets) (k : Keeps [G] w w') : MeetIn w' G F S zs sets :=
  ⟨fun i hi => (keeps_cell k (by simpa using h.fg.1) h.fg.2).trans (h.f i hi), fun q hq => (keeps_cell k (by simpa using h.sg.1) h.sg.2).trans (h.s q hq),
   ⟨h.fg.1, Nat.lt_of_lt_of_le h.fg.2 k.size⟩, ⟨h.sg.1, Nat.lt_of_lt_of_le h.sg.2 k.size⟩, fun q H y hq => ⟨Has.keeps (h.e q H y hq).1 k (by simpa using (h.e q H y hq).2.1), (h.e q H y hq).2⟩, h.r⟩
set_option maxRecDepth 100000 in
set_option maxHeartbeats 8000000 in
theorem meet_one (G F S x c d e : Nat) (zs : List Int) (sets : List (Option (Nat × Nat))) (hz : zs.length ≤ 1000000) (_hs : sets.length ≤ 1000000) (w : World) (h : SetAt w G x) (k : MeetIn w G F S zs sets) : Calls Tryd.prog 52 #[.slice (some ⟨G, 0, none⟩) 1 c, .slice (some ⟨F, 0, none⟩) zs.length d, .slice (some ⟨S, 0, none⟩) sets.length e] w fun e w' => e = .returned (.tuple #[]) ∧ SetAt w' G (meetV sets zs) ∧ Keeps [G] w w' := by
  have HF := Lib.hid (fill_one G x c w h)
  have HK := Lib.hid k
  obtain ⟨m, hm⟩ : ∃ m, zs.length = m := ⟨_, rfl⟩
  obtain ⟨n, hn⟩ : ∃ n, sets.length = n := ⟨_, rfl⟩
  have HM := Lib.hid hm
  have HN := Lib.hid hn
  rw [hm, hn]
  rw [hm] at hz
  rw [hn] at _hs
  clear h k hm hn
  go_enter Tryd.func52, Tryd.ntmps52
  go_wp2_with fail
  refine HF.out.mono ?_
  rintro e w1 ⟨rfl, hs1, hk1⟩
  have HS1 := Lib.hid (⟨hs1, hk1, HK.out.keeps hk1⟩ : _ ∧ _ ∧ _)
  clear hs1 hk1 HF HK
  go_wp2
  go_loopw [12] (fun i wr => ∃ j : Nat, i = .int .i64 (j : Int) ∧ j ≤ m ∧ Hid (SetAt wr G (meetV sets (zs.take j)) ∧ Keeps [G] w wr ∧ MeetIn wr G F S zs sets)) (fun i _ => m - (intOf i).toNat)
  case atStart => exact ⟨0, rfl, by omega, HS1⟩
  case round =>
    obtain ⟨j, rfl, hj, HS⟩ := hrel
    clear HS1
    by_cases hlt : j < m
    · have hi1 : (j : Int) < (m : Int) := by omega
      have hjl : j < zs.length := by rw [HM.out]; exact hlt
      have hc := HS.out.2.2.f j hjl
      have hl := HS.out.2.2.fg.2
      have HV := Lib.hid (meetV_step (sets := sets) hjl)
      have hr := HS.out.2.2.r _ (List.getElem_mem hjl)
      generalize zs[j] = z at hc HV hr
      by_cases hz1 : z = -1
      · subst hz1
        have HV2 : Hid (meetV sets (zs.take (j + 1)) = 0) := Lib.hid HV.out
        have HC := Lib.hid (clear_one G _ c wr HS.out.1)
        clear HV
        go_wp2_with fail
        refine HC.out.mono ?_
        rintro e w2 ⟨rfl, h2, k2⟩
        have HS2 := Lib.hid (⟨by rw [HV2.out]; exact h2, HS.out.2.1.trans k2 (by simp), HS.out.2.2.keeps k2⟩ : SetAt w2 G (meetV sets (zs.take (j + 1))) ∧ Keeps [G] w w2 ∧ MeetIn w2 G F S zs sets)
        clear HS HC HV2 h2 k2
        go_wp2
        go_roundw
        case rel => exact ⟨j + 1, by go_num, by omega, HS2⟩
        case measure => simp [intOf]; omega
      · obtain ⟨q, rfl⟩ := Int.eq_ofNat_of_zero_le (show 0 ≤ z by omega)
        have hq : q < sets.length := by omega
        have hqn : (q : Int) < (n : Int) := by rw [← HN.out]; omega
        have hb1 : ((q : Int) == -1) = false := by simp
        have hcs := HS.out.2.2.s q hq
        have hls := HS.out.2.2.sg.2
        have hget := List.getElem?_eq_getElem hq
        have hD : sets.getD q none = sets[q] := by rw [List.getD_eq_getElem?_getD, hget]; rfl
        have HE := Lib.hid (fun H y => HS.out.2.2.e q H y)
        rw [hget] at HE
        rcases ho : sets[q] with _ | ⟨H, y⟩
        · have HV2 : Hid (meetV sets (zs.take (j + 1)) = meetV sets (zs.take j)) := Lib.hid (by rw [HV.out, meetS, if_neg hz1, Int.toNat_natCast, hD, ho])
          have HS2 : Hid (SetAt wr G (meetV sets (zs.take (j + 1))) ∧ Keeps [G] w wr ∧ MeetIn wr G F S zs sets) := Lib.hid (by rw [HV2.out]; exact HS.out)
          rw [ho] at hcs
          simp only [setV] at hcs
          clear HV HV2 HE HS hget hD ho hr
          go_wp2
          go_roundw
          case rel => exact ⟨j + 1, by go_num, by omega, HS2⟩
          case measure => simp [intOf]; omega
        · have HV2 : Hid (meetV sets (zs.take (j + 1)) = meetV sets (zs.take j) &&& y) := Lib.hid (by rw [HV.out, meetS, if_neg hz1, Int.toNat_natCast, hD, ho])
          have hE := HE.out H y (by rw [ho])
          have HC := Lib.hid (keep_one G H _ y c 1 wr HS.out.1 hE.1 (meetV_lt _ _) hE.2.2)
          rw [ho] at hcs
          simp only [setV] at hcs
          clear HV HE hget hD ho hr hE
          go_wp2_with fail
          refine HC.out.mono ?_
          rintro e w2 ⟨rfl, h2, k2⟩
          have HS2 := Lib.hid (⟨by rw [HV2.out]; exact h2, HS.out.2.1.trans k2 (by simp), HS.out.2.2.keeps k2⟩ : SetAt w2 G (meetV sets (zs.take (j + 1))) ∧ Keeps [G] w w2 ∧ MeetIn w2 G F S zs sets)
          clear HS HC HV2 h2 k2 hcs hls hc hl
          go_wp2
          go_roundw
          case rel => exact ⟨j + 1, by go_num, by omega, HS2⟩
          case measure => simp [intOf]; omega
    · have hjm : j = m := by omega
      subst hjm
      have hT : zs.take j = zs := List.take_of_length_le (by rw [HM.out]; exact Nat.le_refl _)
      have HS2 : Hid (SetAt wr G (meetV sets zs) ∧ Keeps [G] w wr) := Lib.hid (by have := HS.out; rw [hT] at this; exact ⟨this.1, this.2.1⟩)
      clear HS hT
      go_wp2
      go_end0
      exact ⟨rfl, HS2.out⟩
end FlowD
end Go.Proofs.YtajhkogknpmnbaaDoor
