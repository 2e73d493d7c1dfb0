/- The principals of a label, rising. Nothing of the program is named. -/
import Derived.Test.YtajhkogknpmnbaaDoorLabelMath
import Derived.Lib.TrailingZeros
namespace Go.Proofs.YtajhkogknpmnbaaDoor
open Go.RowKit
namespace LabelM

def finsL (L : Nat) : List (Fin 64) := (List.finRange 64).filter fun i => L.testBit i.val
theorem filter_split {α : Type} (p q : α → Bool) (a : List α) (x : α) (b : List α) (ha : ∀ y ∈ a, p y = false ∧ q y = false) (hp : p x = true) (hq : q x = false) (hb : ∀ y ∈ b, p y = q y) :
    (a ++ x :: b).filter p = x :: (a ++ x :: b).filter q := by
  have e1 : a.filter p = [] := List.filter_eq_nil_iff.2 (fun y hy => by rw [(ha y hy).1]; simp)
  have e2 : a.filter q = [] := List.filter_eq_nil_iff.2 (fun y hy => by rw [(ha y hy).2]; simp)
  rw [List.filter_append, List.filter_append, e1, e2, List.nil_append, List.nil_append, List.filter_cons_of_pos hp, List.filter_cons_of_neg (by rw [hq]; simp)]
  congr 1
  exact List.filter_congr hb
theorem low_bit {x : Nat} (h0 : x ≠ 0) (hx : x < M64) : ∃ m, Lib.ctz 64 x = m ∧ m < 64 ∧ x.testBit m = true ∧ (∀ i < m, x.testBit i = false) ∧ ∀ i, (x &&& (x - 1)).testBit i = (x.testBit i && decide (i ≠ m)) := by
  obtain ⟨q, hq, hm⟩ := Lib.ctzFrom_spec 64 x (by omega) hx
  have hc : Lib.ctz 64 x = Lib.ctzFrom 64 x := by unfold Lib.ctz; rw [if_neg h0]
  obtain ⟨m, hme⟩ : ∃ m, Lib.ctzFrom 64 x = m := ⟨_, rfl⟩
  rw [hme] at hq hm hc
  have hpos : 0 < 2 ^ m := Nat.two_pow_pos m
  have hbit : ∀ i, x.testBit i = (decide (m ≤ i) && (2 * q + 1).testBit (i - m)) := fun i => by rw [hq]; exact Nat.testBit_two_pow_mul ..
  have hx1 : x - 1 = 2 ^ m * (2 * q) + (2 ^ m - 1) := by rw [hq, Nat.mul_add, Nat.mul_one]; omega
  refine ⟨m, hc, hm, ?_, ?_, ?_⟩
  · rw [hbit]
    simp
  · intro i hi
    rw [hbit]
    simp
    omega
  · intro i
    rw [Nat.testBit_and]
    by_cases h1 : i < m
    · rw [hbit, show decide (m ≤ i) = false by simp; omega]
      rfl
    · by_cases h2 : i = m
      · subst h2
        rw [hx1, Nat.testBit_two_pow_mul_add _ (by omega)]
        simp
      · have e : (x - 1).testBit i = x.testBit i := by
          rw [hx1, Nat.testBit_two_pow_mul_add _ (by omega), if_neg (by omega), hbit, show decide (m ≤ i) = true by simp; omega, Bool.true_and]
          have hs : i - m = (i - m - 1) + 1 := by omega
          rw [hs, Nat.testBit_succ, Nat.testBit_succ]
          congr 1
          omega
        rw [e, Bool.and_self]
        simp [h2]
theorem finsL_zero : finsL 0 = [] := by
  unfold finsL
  exact List.filter_eq_nil_iff.2 (fun y _ => by rw [Nat.zero_testBit]; simp)
theorem finsL_next {x : Nat} (h0 : x ≠ 0) (hx : x < M64) : ∃ m : Fin 64, Lib.ctz 64 x = m.val ∧ finsL x = m :: finsL (x &&& (x - 1)) := by
  obtain ⟨m, h1, h2, h3, h4, h5⟩ := low_bit h0 hx
  refine ⟨⟨m, h2⟩, h1, ?_⟩
  unfold finsL
  obtain ⟨a, b, hab⟩ := List.append_of_mem (List.mem_finRange (⟨m, h2⟩ : Fin 64))
  have hp := List.pairwise_lt_finRange 64
  rw [hab] at hp ⊢
  rw [List.pairwise_append] at hp
  obtain ⟨_, p2, p3⟩ := hp
  rw [List.pairwise_cons] at p2
  refine filter_split _ _ _ _ _ (fun y hy => ?_) h3 (by rw [h5]; simp) (fun y hy => ?_)
  · have hlt : y.val < m := p3 y hy _ (List.mem_cons_self ..)
    rw [h5, h4 _ hlt]
    exact ⟨rfl, rfl⟩
  · have hlt : m < y.val := p2.1 y hy
    rw [h5, show decide (y.val ≠ m) = true by simp; omega, Bool.and_true]
end LabelM
end Go.Proofs.YtajhkogknpmnbaaDoor
