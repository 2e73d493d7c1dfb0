/- Plain facts: the quotient and the rest; a numeral is read again. Nothing of the program is named. -/
import Derived.Test.YtmdkocegnbcgmaaGreatDoorZ10
import Derived.Lib.ItoaNum
namespace Go.Proofs.YtmdkocegnbcgmaaGreatDoor
open Go.RowKit
namespace NumM

theorem rest_eq (a b : Int) : wrap64 (a - wrap64 (b * fl a b)) = wrap64 (a.fmod b) := by
  unfold fl
  rw [w64_mul_r, w64_sub_r, Int.fmod_def]
theorem back_eq {a b : Int} (h0 : -9223372036854775808 ≤ a) (h1 : a ≤ 9223372036854775807) : wrap64 (wrap64 (fl a b * b) + wrap64 (a - wrap64 (b * fl a b))) = a := by
  rw [w64_add_r, Int.mul_comm (fl a b) b, show wrap64 (b * fl a b) + (a - wrap64 (b * fl a b)) = a by omega]
  exact w64_id h0 h1
theorem rest_pos {a b : Int} (hb : 0 < b) (h1 : b ≤ 9223372036854775807) : 0 ≤ wrap64 (a - wrap64 (b * fl a b)) ∧ wrap64 (a - wrap64 (b * fl a b)) < b := by
  have g0 := Int.fmod_nonneg_of_pos a hb
  have g1 := Int.fmod_lt_of_pos a hb
  rw [rest_eq, w64_id (by omega) (by omega)]
  exact ⟨g0, g1⟩
theorem rest_neg {a b : Int} (hb : b < 0) (h1 : -9223372036854775808 ≤ b) : wrap64 (a - wrap64 (b * fl a b)) ≤ 0 ∧ b < wrap64 (a - wrap64 (b * fl a b)) := by
  have hn : 0 < -b := by omega
  have g0 := Int.fmod_nonneg_of_pos (-a) hn
  have g1 := Int.fmod_lt_of_pos (-a) hn
  have e : a.fmod b = -((-a).fmod (-b)) := by rw [Int.neg_fmod_neg]; omega
  rw [rest_eq, e, w64_id (by omega) (by omega)]
  omega
theorem ring_eq (a b c : Int) : wrap64 (wrap64 (a + b) * c) = wrap64 (wrap64 (a * c) + wrap64 (c * b)) := by
  rw [w64_mul_l, w64_add, Int.add_mul, Int.mul_comm c b]
theorem ring_back {a b : Int} (h0 : -9223372036854775808 ≤ a) (h1 : a ≤ 9223372036854775807) : wrap64 (wrap64 (a + b) - b) = a := by
  rw [w64_sub_l, show a + b - b = a by omega]
  exact w64_id h0 h1

theorem decF_append (xs ys : List UInt8) : ∀ n, decF (xs ++ ys) n = if (decF xs n).2 = true then decF ys (decF xs n).1 else (0, false) := by
  induction xs with
  | nil => intro n; rfl
  | cons c r ih =>
    intro n
    rw [List.cons_append, decF, decF]
    split
    · rfl
    · exact ih _
theorem digV_digit (d : Nat) (h : d < 10) : digV ((UInt8.ofNat (48 + d)).toNat : Int) = d := by
  have e : (UInt8.ofNat (48 + d)).toNat = 48 + d := by
    rw [UInt8.toNat_ofNat']
    omega
  rw [e]
  unfold digV
  rw [if_pos (by omega)]
  omega
theorem decF_digits (u : Nat) : u ≤ 9223372036854775807 → decF (Lib.decDigits u) 0 = ((u : Int), true) := by
  induction u using Nat.strongRecOn with
  | _ u ih =>
    intro hu
    by_cases h : u < 10
    · rw [Lib.decDigits, dif_pos h, decF, digV_digit u h, if_neg (by omega), decF]
      congr 1
      omega
    · rw [Lib.decDigits, dif_neg h, decF_append, ih (u / 10) (by omega) (by omega)]
      simp only [if_true]
      rw [decF, digV_digit (u % 10) (by omega), if_neg (by omega), decF]
      congr 1
      omega
theorem digit_of (u : Nat) : ∀ c ∈ Lib.decDigits u, 48 ≤ c.toNat ∧ c.toNat ≤ 57 := by
  induction u using Nat.strongRecOn with
  | _ u ih =>
    intro c hc
    by_cases h : u < 10
    · rw [Lib.decDigits, dif_pos h] at hc
      obtain rfl := List.mem_singleton.1 hc
      rw [UInt8.toNat_ofNat']
      omega
    · rw [Lib.decDigits, dif_neg h] at hc
      rcases List.mem_append.1 hc with hc | hc
      · exact ih (u / 10) (by omega) c hc
      · obtain rfl := List.mem_singleton.1 hc
        rw [UInt8.toNat_ofNat']
        omega
theorem digits_ne (u : Nat) : Lib.decDigits u ≠ [] := by
  rw [Lib.decDigits]
  split <;> simp
theorem no_pre {l : List UInt8} (h : ∀ c ∈ l, c.toNat ≤ 57) : Lib.hasPrefix l [48, 120] = false := by
  unfold Lib.hasPrefix
  match l, h with
  | [], _ => rfl
  | [a], _ =>
    show ((48 == a) && List.isPrefixOf [120] []) = false
    rw [show List.isPrefixOf [120] ([] : List UInt8) = false from rfl, Bool.and_false]
  | a :: b :: r, h =>
    show ((48 == a) && ((120 == b) && true)) = false
    have hb := h b (by simp)
    have : (120 == b) = false := by
      rw [beq_eq_false_iff_ne]
      rintro rfl
      exact absurd hb (by decide)
    rw [this, Bool.false_and, Bool.and_false]
theorem num_back {n : Int} (h0 : 0 ≤ n) (h1 : n ≤ 9223372036854775807) : numV (Lib.itoa n) = (n, true) := by
  have e : Lib.itoa n = Lib.decDigits n.toNat := by unfold Lib.itoa; rw [if_neg (by omega)]
  rw [e]
  unfold numV
  rw [no_pre (fun c hc => (digit_of _ c hc).2), if_neg (by simp)]
  unfold decV
  rw [if_neg (digits_ne _), decF_digits _ (by omega)]
  congr 1
  omega
theorem num_neg {n : Int} (h0 : n < 0) : numV (Lib.itoa n) = (0, false) := by
  have e : Lib.itoa n = 45 :: Lib.decDigits n.natAbs := by unfold Lib.itoa; rw [if_pos h0]
  rw [e]
  unfold numV
  rw [no_pre (fun c hc => by rcases List.mem_cons.1 hc with rfl | hc; · decide
                             · exact (digit_of _ c hc).2), if_neg (by simp)]
  unfold decV
  rw [if_neg (by simp), decF, if_pos (.inl (by decide))]
end NumM
end Go.Proofs.YtmdkocegnbcgmaaGreatDoor
