/- Sets of places: four words. -/
import Derived.Test.YtajhkogknpmnbaaDoorFlowZ1
namespace Go.Proofs.YtajhkogknpmnbaaDoor
open Go.RowKit ObjM
namespace FlowD
open FlowM LabelM LabelD

def wordsV (xs : List Nat) : List Value := xs.map fun (x : Nat) => Value.int .u64 (x : Int)
/-- A set in four words. -/
structure Set4 (w : World) (G : Nat) (xs : List Nat) : Prop where
  len : xs.length = 4
  lt : ∀ x ∈ xs, x < M64
  h : Has w G 84 (wordsV xs)
def bitX (xs : List Nat) (r : Nat) : Bool := (xs.getD (r / 64) 0).testBit (r % 64)
def addX (xs : List Nat) (n : Nat) : List Nat := xs.set (n / 64) (xs.getD (n / 64) 0 ||| 2 ^ (n % 64))
theorem bit_add {xs : List Nat} (hl : xs.length = 4) {n r : Nat} (hr : r < 256) : bitX (addX xs n) r = (bitX xs r || decide (r = n)) := by
  unfold bitX addX
  by_cases e : n / 64 = r / 64
  · rw [e, List.getD_eq_getElem?_getD, List.getElem?_set_self (by omega), Option.getD_some, test_or_pow]
    congr 1
    rw [Bool.eq_iff_iff]
    simp only [decide_eq_true_eq]
    omega
  · rw [List.getD_eq_getElem?_getD, List.getElem?_set_ne e, ← List.getD_eq_getElem?_getD]
    have : decide (r = n) = false := decide_eq_false (fun h => e (by rw [h]))
    rw [this, Bool.or_false]
theorem or_lt {x n : Nat} (hx : x < M64) (hn : n < 64) : x ||| 2 ^ n < M64 := by
  have h1 : (2 : Nat) ^ n < 2 ^ 64 := Nat.pow_lt_pow_right (by decide) hn
  have h2 : x < 2 ^ 64 := hx
  exact Nat.or_lt_two_pow h2 h1
theorem getD_lt {xs : List Nat} (h : ∀ x ∈ xs, x < M64) (q : Nat) : xs.getD q 0 < M64 := by
  rw [List.getD_eq_getElem?_getD]
  cases e : xs[q]? with
  | none => decide
  | some x => exact h x (List.mem_of_getElem? e)
theorem Set4.put {w : World} {G : Nat} {xs : List Nat} (h : Set4 w G xs) {n : Nat} : Set4 (w.setCell ⟨G, n / 64, none⟩ (.int .u64 ((xs.getD (n / 64) 0 ||| 2 ^ (n % 64) : Nat) : Int))) G (addX xs n) := by
  refine ⟨by simp [addX, h.len], fun x hx => ?_, ?_⟩
  · rcases List.mem_or_eq_of_mem_set hx with h1 | h1
    · exact h.lt x h1
    · rw [h1]
      exact or_lt (getD_lt h.lt _) (by omega)
  · have := h.h.set (n / 64) (.int .u64 ((xs.getD (n / 64) 0 ||| 2 ^ (n % 64) : Nat) : Int))
    unfold wordsV addX at *
    rw [List.map_set]
    exact this
theorem Set4.cell {w : World} {G : Nat} {xs : List Nat} (h : Set4 w G xs) {q : Nat} (hq : q < 4) : w.cell? ⟨G, q, none⟩ = some (.int .u64 (xs.getD q 0 : Int)) := by
  rw [h.h.cell]
  unfold wordsV
  have := h.len
  rw [List.getElem?_map, List.getElem?_eq_getElem (by omega), List.getD_eq_getElem?_getD, List.getElem?_eq_getElem (by omega)]
  rfl
theorem Set4.keeps {S : List Nat} {w w' : World} {G : Nat} {xs : List Nat} (h : Set4 w G xs) (k : Keeps S w w') (hG : G ∉ S) : Set4 w' G xs := ⟨h.len, h.lt, h.h.keeps k hG⟩
theorem mk4 (w : World) : (Instr.makeSlice 54 (.int .i64 4) (.int .i64 4)).run Tryd.prog w = .ok (.slice (some ⟨w.heap.size, 0, none⟩) 4 4) (w.alloc (.cells #[.int .u64 0, .int .u64 0, .int .u64 0, .int .u64 0] 84)) := by kernel_rfl
set_option maxRecDepth 100000 in
theorem newSet_four (w : World) : Calls Tryd.prog 32 #[.int .i64 256] w fun e w' => e = .returned (.slice (some ⟨w.heap.size, 0, none⟩) 4 4) ∧ Set4 w' w.heap.size [0, 0, 0, 0] ∧ Below w.heap.size w w' := by
  have hmk := mk4
  go_enter Tryd.func32, Tryd.ntmps32
  go_wp2
  go_ret
  exact ⟨rfl, ⟨rfl, by decide, Has.new w 84 (wordsV [0, 0, 0, 0])⟩, (Below.refl _ w).alloc (Nat.le_refl _) _⟩
set_option maxRecDepth 100000 in
set_option maxHeartbeats 4000000 in
theorem add_four (G c n : Nat) (xs : List Nat) (hn : n < 256) (w : World) (h : Set4 w G xs) : Calls Tryd.prog 35 #[.slice (some ⟨G, 0, none⟩) 4 c, .int .i64 (n : Int)] w fun e w' => e = .returned (.tuple #[]) ∧ Set4 w' G (addX xs n) ∧ Keeps [G] w w' := by
  have hl := h.h.lt
  have hc := h.cell (q := n / 64) (by omega)
  have hf := h.h.frozen (n / 64)
  have hx := getD_lt h.lt (n / 64)
  have HH0 := h.put (n := n)
  obtain ⟨q, hq0⟩ : ∃ q, n / 64 = q := ⟨_, rfl⟩
  obtain ⟨m, hm0⟩ : ∃ m, n % 64 = m := ⟨_, rfl⟩
  rw [hq0, hm0] at HH0
  rw [hq0] at hc hf hx
  have HH := Lib.hid HH0
  have hi : (q : Int) < 4 := by omega
  have hi0 : (0 : Int) ≤ (q : Int) := by omega
  have hm64 : m < 64 := by omega
  generalize xs.getD q 0 = x at hc hx HH
  have hm : (n : Int) % 64 = (m : Int) := by omega
  have hm2 : (0 : Int) ≤ (m : Int) := by omega
  have hm3 : (m : Int) < 64 := by omega
  have hq1 : (n : Int) / 64 = (q : Int) := by omega
  have hq2 : IntKind.i64.wrap (q : Int) = (q : Int) := IntWalk.i64_in _ (by omega)
  have hc4 : w.drew.cell? ⟨G, q, none⟩ = some (.int .u64 (x : Int)) := hc
  have hf4 : w.drew.frozen? ⟨G, q, none⟩ = false := hf
  have hp : (2 : Nat) ^ m < 18446744073709551616 := Nat.pow_lt_pow_right (m := m) (n := 64) (a := 2) (by decide) (by omega)
  have hw2 : IntKind.u64.wrap (2 ^ m) = ((2 ^ m : Nat) : Int) := by
    rw [show (2 : Int) ^ m = ((2 ^ m : Nat) : Int) by simp]
    have h9 := Int.ofNat_lt.2 hp
    have h8 := Int.natCast_nonneg (2 ^ m)
    generalize ((2 ^ m : Nat) : Int) = q at h9 h8
    exact IntWalk.u64_in _ ⟨h8, by omega⟩
  have hv : bits BinOp.or IntKind.u64 (x : Int) (IntKind.u64.wrap (2 ^ m)) = ((x ||| 2 ^ m : Nat) : Int) := by
    rw [hw2]
    exact u64_or_nat _ _ hx hp
  have HV := Lib.hid hv
  clear hv hw2 hp h HH0 hm0 hq0
  go_enter Tryd.func35, Tryd.ntmps35
  go_wp2
  go_region
  rw [HV.out]
  go_wp2
  go_end0
  exact ⟨rfl, HH.out.keeps (Keeps.drew [] _) (by simp), (Keeps.set _ _ _ _).trans (Keeps.drew [] _) (by simp)⟩
end FlowD
end Go.Proofs.YtajhkogknpmnbaaDoor
