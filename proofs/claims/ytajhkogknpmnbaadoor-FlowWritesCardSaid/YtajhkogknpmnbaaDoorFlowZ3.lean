/- Which registers are written: plain facts. -/
import Derived.Test.YtajhkogknpmnbaaDoorFlowZ2
import Derived.Test.YtajhkogknpmnbaaDoorFlowV
namespace Go.Proofs.YtajhkogknpmnbaaDoor
open Go.RowKit ObjM
namespace FlowD
open FlowM LabelM LabelD InstrM InstrD

/-- Which register a word writes. -/
def wrW (ws : List Nat) (n r : Nat) : Bool := okW (ws.getD n 0 : Nat) && wrB (opW (ws.getD n 0 : Nat)) && decide (aW (ws.getD n 0 : Nat) = (r : Int))
/-- The registers. -/
def RegS (ws : List Nat) (on : Nat → Prop) (f : Nat → Bool) : Prop := ∀ r, r < 256 → (f r = true ↔ ∃ n, n < ws.length ∧ on n ∧ wrW ws n r = true)
def regsL (f : Nat → Bool) : List Int := ((List.range 256).filter f).map fun (r : Nat) => (r : Int)
theorem regs_same {f g : Nat → Bool} (h : ∀ r, r < 256 → f r = g r) : regsL f = regsL g := by
  unfold regsL
  congr 1
  apply List.filter_congr
  intro r hr
  exact h r (List.mem_range.1 hr)
theorem regs_len (f : Nat → Bool) : (regsL f).length ≤ 256 := by
  unfold regsL
  rw [List.length_map]
  exact Nat.le_trans (List.length_filter_le _ _) (by simp)
theorem range_four : List.range 256 = (List.finRange 64).map (fun i => 64 * 0 + i.val) ++ ((List.finRange 64).map (fun i => 64 * 1 + i.val) ++ ((List.finRange 64).map (fun i => 64 * 2 + i.val) ++ ((List.finRange 64).map (fun i => 64 * 3 + i.val) ++ []))) := by decide +kernel
theorem filter_word {xs : List Nat} {q x : Nat} (h : xs.getD q 0 = x) : ((List.finRange 64).map (fun i => 64 * q + i.val)).filter (bitX xs) = bitsAt q x := by
  unfold bitsAt finsL
  rw [List.filter_map]
  congr 1
  apply List.filter_congr
  intro i _
  simp only [Function.comp, bitX]
  have := i.isLt
  rw [show (64 * q + i.val) / 64 = q by omega, show (64 * q + i.val) % 64 = i.val by omega, h]
theorem pos_four {xs : List Nat} (h : xs.length = 4) : posOf 0 xs = (List.range 256).filter (bitX xs) := by
  obtain ⟨a, b, c, d, rfl⟩ : ∃ a b c d, xs = [a, b, c, d] := by
    rcases xs with _ | ⟨a, _ | ⟨b, _ | ⟨c, _ | ⟨d, _ | ⟨e, r⟩⟩⟩⟩⟩ <;> simp at h
    exact ⟨a, b, c, d, rfl⟩
  rw [range_four, List.filter_append, List.filter_append, List.filter_append, List.filter_append, filter_word (x := a) rfl, filter_word (x := b) rfl, filter_word (x := c) rfl, filter_word (x := d) rfl]
  rfl
theorem come_but {start : List (Option Nat)} {next : Nat → List (Option Nat)} {shut : Nat → Bool} {n : Nat} (hn : next n = start) {x : Nat} (h : Come start next shut x) : x = n ∨ Come start next (fun y => y == n || shut y) x := by
  induction h with
  | @first x h1 h2 =>
    by_cases e : x = n
    · exact .inl e
    · exact .inr (.first h1 (by simp [e, h2]))
  | @«then» x y _ h1 h2 ih =>
    by_cases e : x = n
    · exact .inl e
    · refine .inr ?_
      have hs : (x == n || shut x) = false := by simp [e, h2]
      rcases ih with rfl | ih
      · exact .first (hn ▸ h1) hs
      · exact .then ih h1 hs
theorem come_less {start : List (Option Nat)} {next : Nat → List (Option Nat)} {s t : Nat → Bool} (hs : ∀ x, s x = false → t x = false) {x : Nat} (h : Come start next s x) : Come start next t x := by
  induction h with
  | first h1 h2 => exact .first h1 (hs _ h2)
  | «then» _ h1 h2 ih => exact .then ih h1 (hs _ h2)
theorem come_shut {start : List (Option Nat)} {next : Nat → List (Option Nat)} {s : Nat → Bool} {x : Nat} (h : Come start next s x) : s x = false := by
  cases h with
  | first _ h2 => exact h2
  | «then» _ _ h2 => exact h2
/-- Where both look: the program's leaves out the branch itself. -/
theorem come_both {next : Nat → List Int} {n s0 : Nat} {sh : Int} (hs : ∀ y : Nat, s0.testBit y = (y == n || decide ((y : Int) = sh))) {x : Nat} :
    Come ((next n).map toO) (nxO next) (fun y => s0.testBit y) x ↔ x ≠ n ∧ ComeS (next n) next sh x := by
  have e : (fun y => s0.testBit y) = fun y => (y == n || decide ((y : Int) = sh)) := funext hs
  rw [e]
  unfold ComeS
  constructor
  · intro h
    have h1 := come_shut h
    refine ⟨fun e => by simp [e] at h1, come_less (fun y hy => ?_) h⟩
    simp only [Bool.or_eq_false_iff] at hy
    exact hy.2
  · rintro ⟨h1, h2⟩
    exact (come_but (next := nxO next) (n := n) rfl h2).resolve_left h1
/-- A branch writes nothing, so both have the same registers. -/
theorem regs_both {ws : List Nat} {n : Nat} {on on2 : Nat → Prop} {f g : Nat → Bool} (hf : RegS ws on f) (hg : RegS ws on2 g) (hn : ∀ r, wrW ws n r = false) (h : ∀ x, x < ws.length → (on x ↔ x ≠ n ∧ on2 x)) : regsL f = regsL g := by
  apply regs_same
  intro r hr
  rw [Bool.eq_iff_iff, hf r hr, hg r hr]
  constructor
  · rintro ⟨k, h1, h2, h3⟩
    exact ⟨k, h1, ((h k h1).1 h2).2, h3⟩
  · rintro ⟨k, h1, h2, h3⟩
    refine ⟨k, h1, (h k h1).2 ⟨fun e => ?_, h2⟩, h3⟩
    rw [e, hn r] at h3
    cases h3
theorem branch_not {ws : List Nat} {n : Nat} (h : opW (ws.getD n 0 : Nat) = 35 ∨ opW (ws.getD n 0 : Nat) = 36) (r : Nat) : wrW ws n r = false := by
  unfold wrW
  rcases h with h | h <;> rw [h] <;> simp [wrB]
/-- The program's sets, word by word. -/
theorem bits_step {ws : List Nat} {xs : List Nat} {R : List Int} {j n : Nat} (hl : xs.length = 4) (hj : j < R.length) (hn : R[j] = (n : Int)) (h : ∀ r, r < 256 → (bitX xs r = true ↔ ∃ z ∈ R.take j, wrW ws z.toNat r = true)) {a : Nat} (ha : aW (ws.getD n 0 : Nat) = (a : Int)) (hw : (okW (ws.getD n 0 : Nat) && wrB (opW (ws.getD n 0 : Nat))) = true) :
    ∀ r, r < 256 → (bitX (addX xs a) r = true ↔ ∃ z ∈ R.take (j + 1), wrW ws z.toNat r = true) := by
  intro r hr
  rw [bit_add hl hr, Bool.or_eq_true, h r hr, List.take_succ_eq_append_getElem hj, hn]
  simp only [List.mem_append, List.mem_singleton, decide_eq_true_eq]
  constructor
  · rintro (⟨z, h1, h2⟩ | h1)
    · exact ⟨z, .inl h1, h2⟩
    · refine ⟨(n : Int), .inr rfl, ?_⟩
      unfold wrW
      rw [Int.toNat_natCast, hw, ha, h1]
      simp
  · rintro ⟨z, h1 | h1, h2⟩
    · exact .inl ⟨z, h1, h2⟩
    · subst h1
      unfold wrW at h2
      rw [Int.toNat_natCast, hw, ha] at h2
      simp at h2
      exact .inr (by have := h2; omega)
theorem bits_skip {ws : List Nat} {xs : List Nat} {R : List Int} {j n : Nat} (hj : j < R.length) (hn : R[j] = (n : Int)) (h : ∀ r, r < 256 → (bitX xs r = true ↔ ∃ z ∈ R.take j, wrW ws z.toNat r = true)) (hw : (okW (ws.getD n 0 : Nat) && wrB (opW (ws.getD n 0 : Nat))) = false) :
    ∀ r, r < 256 → (bitX xs r = true ↔ ∃ z ∈ R.take (j + 1), wrW ws z.toNat r = true) := by
  intro r hr
  rw [h r hr, List.take_succ_eq_append_getElem hj, hn]
  simp only [List.mem_append, List.mem_singleton]
  constructor
  · rintro ⟨z, h1, h2⟩
    exact ⟨z, .inl h1, h2⟩
  · rintro ⟨z, h1 | h1, h2⟩
    · exact ⟨z, h1, h2⟩
    · subst h1
      unfold wrW at h2
      rw [Int.toNat_natCast, hw] at h2
      simp at h2
theorem bits_start (r : Nat) (hr : r < 256) : bitX [0, 0, 0, 0] r = false := by
  unfold bitX
  have : r / 64 = 0 ∨ r / 64 = 1 ∨ r / 64 = 2 ∨ r / 64 = 3 := by omega
  rcases this with h | h | h | h <;> rw [h] <;> simp
/-- The document's, word by word. -/
def hasB (ws : List Nat) (on : Nat → Bool) (j : Nat) : Nat → Bool := fun r => (List.range j).any fun n => on n && wrW ws n r
theorem has_step {ws : List Nat} {on : Nat → Bool} {j : Nat} (r : Nat) : hasB ws on (j + 1) r = (hasB ws on j r || (on j && wrW ws j r)) := by
  unfold hasB
  rw [List.range_succ, List.any_append]
  simp
theorem has_all {ws : List Nat} {on : Nat → Bool} {P : Nat → Prop} (h : ∀ n, n < ws.length → (on n = true ↔ P n)) : RegS ws P (hasB ws on ws.length) := by
  intro r _
  unfold hasB
  rw [List.any_eq_true]
  constructor
  · rintro ⟨n, h1, h2⟩
    rw [Bool.and_eq_true] at h2
    exact ⟨n, List.mem_range.1 h1, (h n (List.mem_range.1 h1)).1 h2.1, h2.2⟩
  · rintro ⟨n, h1, h2, h3⟩
    exact ⟨n, List.mem_range.2 h1, by rw [(h n h1).2 h2, h3]; rfl⟩
end FlowD
end Go.Proofs.YtajhkogknpmnbaaDoor
