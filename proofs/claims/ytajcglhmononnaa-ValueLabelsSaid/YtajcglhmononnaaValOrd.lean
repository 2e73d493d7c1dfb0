/- Of two texts one is less, or the other one, or they are alike. No program in this text. -/
import Derived.Test.YtajcglhmononnaaVal3
namespace Go.Proofs.Ytajcglhmononnaa
open Go.RowKit
namespace ValD
theorem less_irrefl : ∀ a : List UInt8, Op.bytesLess a a = false
  | [] => by simp [Op.bytesLess]
  | x :: r => by
    have := less_irrefl r
    simp [Op.bytesLess, this]
theorem less_tri : ∀ a b : List UInt8, (Op.bytesLess a b = true ∧ Op.bytesLess b a = false ∧ (a == b) = false) ∨ (Op.bytesLess a b = false ∧ Op.bytesLess b a = true ∧ (a == b) = false) ∨ (Op.bytesLess a b = false ∧ Op.bytesLess b a = false ∧ (a == b) = true)
  | [], [] => by simp [Op.bytesLess]
  | [], y :: s => by simp [Op.bytesLess]
  | x :: r, [] => by simp [Op.bytesLess]
  | x :: r, y :: s => by
    have ih := less_tri r s
    unfold Op.bytesLess
    rcases Nat.lt_trichotomy x.toNat y.toNat with h | h | h
    · have h1 : decide (x < y) = true := decide_eq_true (UInt8.lt_iff_toNat_lt.2 h)
      have h2 : decide (y < x) = false := decide_eq_false (fun g => by have := UInt8.lt_iff_toNat_lt.1 g; omega)
      have h3 : (x == y) = false := by rw [beq_eq_false_iff_ne]; rintro rfl; omega
      have h4 : (y == x) = false := by rw [beq_eq_false_iff_ne]; rintro rfl; omega
      have h5 : (x :: r == y :: s) = false := by rw [beq_eq_false_iff_ne]; intro g; injection g with g; subst g; omega
      simp [h1, h2, h3, h4, h5]
    · have hx : x = y := UInt8.toNat_inj.1 h
      subst hx
      have h1 : decide (x < x) = false := decide_eq_false (fun g => by have := UInt8.lt_iff_toNat_lt.1 g; omega)
      have h2 : (x :: r == x :: s) = (r == s) := by rw [Bool.eq_iff_iff, beq_iff_eq, beq_iff_eq]; constructor <;> intro g <;> simpa using g
      rw [h1, h2]
      simpa using ih
    · have h1 : decide (y < x) = true := decide_eq_true (UInt8.lt_iff_toNat_lt.2 h)
      have h2 : decide (x < y) = false := decide_eq_false (fun g => by have := UInt8.lt_iff_toNat_lt.1 g; omega)
      have h3 : (x == y) = false := by rw [beq_eq_false_iff_ne]; rintro rfl; omega
      have h4 : (y == x) = false := by rw [beq_eq_false_iff_ne]; rintro rfl; omega
      have h5 : (x :: r == y :: s) = false := by rw [beq_eq_false_iff_ne]; intro g; injection g with g; subst g; omega
      simp [h1, h2, h3, h4, h5]
/-- The two orders, and whether they are alike. -/
theorem lt_tri (a b : V) (hk : a.k = b.k) (hk2 : (a.k = 2 ∧ a.s.toList = [] ∧ b.s.toList = []) ∨ (a.k = 3 ∧ a.n = 0 ∧ b.n = 0)) :
    (if ltV 6 a b then (1 : Int) else 0) + (if ltV 6 b a then 1 else 0) + (if sameB a b then 1 else 0) = 1 ∧ (if ltV 7 a b then (1 : Int) else 0) = 1 - (if ltV 6 b a then 1 else 0) := by
  obtain ⟨ak, an, sa, al⟩ := a
  obtain ⟨bk, bn, sb, bl⟩ := b
  simp only at hk hk2 ⊢
  subst hk
  rcases hk2 with ⟨rfl, h1, h2⟩ | ⟨rfl, h1, h2⟩
  · have l6 : ∀ x y : Int, ltV 6 ⟨2, x, sa, al⟩ ⟨2, y, sb, bl⟩ = decide (x < y) := by
      intro x y
      simp only [ltV, NumM.doV]
      by_cases h : x < y <;> simp [h]
    have l6' : ∀ x y : Int, ltV 6 ⟨2, x, sb, bl⟩ ⟨2, y, sa, al⟩ = decide (x < y) := by
      intro x y
      simp only [ltV, NumM.doV]
      by_cases h : x < y <;> simp [h]
    have l7 : ltV 7 ⟨2, an, sa, al⟩ ⟨2, bn, sb, bl⟩ = decide (an ≤ bn) := by
      simp only [ltV, NumM.doV]
      by_cases h : an ≤ bn <;> simp [h]
    have hs : sameB ⟨2, an, sa, al⟩ ⟨2, bn, sb, bl⟩ = decide (an = bn) := by
      simp only [sameB, h1, h2]
      by_cases h : an = bn <;> simp [h]
    rw [l6, l6', l7, hs]
    rcases Int.lt_trichotomy an bn with h | h | h
    · simp [h, show ¬ bn < an by omega, show ¬ an = bn by omega, show an ≤ bn by omega]
    · simp [h]
    · simp [h, show ¬ an < bn by omega, show ¬ an = bn by omega, show ¬ an ≤ bn by omega]
  · subst h1 h2
    have t := less_tri sa.toList sb.toList
    have hc : (sb.toList == sa.toList) = (sa.toList == sb.toList) := by rw [Bool.eq_iff_iff, beq_iff_eq, beq_iff_eq]; exact ⟨Eq.symm, Eq.symm⟩
    simp only [ltV, sameB]
    rcases t with ⟨t1, t2, t3⟩ | ⟨t1, t2, t3⟩ | ⟨t1, t2, t3⟩ <;> simp [t1, t2, t3, hc]
end ValD
end Go.Proofs.Ytajcglhmononnaa
