/- Plain facts on 64-bit numbers that wrap: division rounded down, and the answers of the operators as functions on integers. Nothing of the program is named. -/
import Derived.RowKit
namespace Go.Proofs.YtmdkocegnbcgmaaGreatDoor
open Go.RowKit
namespace NumM

theorem w64_cong {x y : Int} (k : Int) (h : x - y = 18446744073709551616 * k) : wrap64 x = wrap64 y := by unfold wrap64; omega
theorem w64_parts (x : Int) : ∃ k, wrap64 x - x = 18446744073709551616 * k := ⟨-((x + 9223372036854775808) / 18446744073709551616), by unfold wrap64; omega⟩
theorem w64_id {x : Int} (h0 : -9223372036854775808 ≤ x) (h1 : x ≤ 9223372036854775807) : wrap64 x = x := by unfold wrap64; omega
theorem w64_lo (x : Int) : -9223372036854775808 ≤ wrap64 x := by unfold wrap64; omega
theorem w64_hi (x : Int) : wrap64 x ≤ 9223372036854775807 := by unfold wrap64; omega
theorem w64_w (x : Int) : wrap64 (wrap64 x) = wrap64 x := w64_id (w64_lo x) (w64_hi x)
theorem w64_add (x y : Int) : wrap64 (wrap64 x + wrap64 y) = wrap64 (x + y) := by
  obtain ⟨k, hk⟩ := w64_parts x
  obtain ⟨j, hj⟩ := w64_parts y
  exact w64_cong (k + j) (by omega)
theorem w64_add_l (x y : Int) : wrap64 (wrap64 x + y) = wrap64 (x + y) := by
  obtain ⟨k, hk⟩ := w64_parts x
  exact w64_cong k (by omega)
theorem w64_add_r (x y : Int) : wrap64 (x + wrap64 y) = wrap64 (x + y) := by
  obtain ⟨k, hk⟩ := w64_parts y
  exact w64_cong k (by omega)
theorem w64_sub_l (x y : Int) : wrap64 (wrap64 x - y) = wrap64 (x - y) := by
  obtain ⟨k, hk⟩ := w64_parts x
  exact w64_cong k (by omega)
theorem w64_sub_r (x y : Int) : wrap64 (x - wrap64 y) = wrap64 (x - y) := by
  obtain ⟨k, hk⟩ := w64_parts y
  exact w64_cong (-k) (by omega)
theorem w64_mul_l (x y : Int) : wrap64 (wrap64 x * y) = wrap64 (x * y) := by
  obtain ⟨k, hk⟩ := w64_parts x
  have : wrap64 x = x + 18446744073709551616 * k := by omega
  refine w64_cong (k * y) ?_
  rw [this, Int.add_mul, Int.mul_assoc]
  omega
theorem w64_mul_r (x y : Int) : wrap64 (x * wrap64 y) = wrap64 (x * y) := by
  rw [Int.mul_comm, w64_mul_l, Int.mul_comm]

/-- The quotient rounded down, wrapped. -/
def fl (a b : Int) : Int := wrap64 (a.fdiv b)
theorem fl_lo (a b : Int) : -9223372036854775808 ≤ fl a b := w64_lo _
theorem fl_hi (a b : Int) : fl a b ≤ 9223372036854775807 := w64_hi _
theorem fl_even {a b : Int} (h : a.tmod b = 0) : fl a b = wrap64 (a.tdiv b) := by
  unfold fl
  rw [Int.fdiv_eq_tdiv, if_pos (Int.dvd_of_tmod_eq_zero h)]
  simp
theorem not_dvd {a b : Int} (h : ¬a.tmod b = 0) : ¬b ∣ a := fun hd => h (Int.tmod_eq_zero_of_dvd hd)
theorem fl_down {a b : Int} (hb : ¬b = 0) (h : ¬a.tmod b = 0) (hs : (a < 0) ≠ (b < 0)) : fl a b = wrap64 (wrap64 (a.tdiv b) - 1) := by
  rw [w64_sub_l]
  unfold fl
  rw [Int.fdiv_eq_tdiv, if_neg (not_dvd h)]
  by_cases ha : 0 ≤ a
  · rw [if_pos ha, if_neg]
    intro hb2
    apply hs
    simp only [eq_iff_iff]
    omega
  · rw [if_neg ha]
    have hbp : 0 < b := by
      apply Classical.byContradiction
      intro hn
      apply hs
      simp only [eq_iff_iff]
      omega
    rw [if_pos (by omega), Int.sign_eq_one_of_pos hbp]
theorem fl_same {a b : Int} (h : ¬a.tmod b = 0) (hs : (a < 0) = (b < 0)) : fl a b = wrap64 (a.tdiv b) := by
  unfold fl
  rw [Int.fdiv_eq_tdiv, if_neg (not_dvd h)]
  simp only [eq_iff_iff] at hs
  by_cases ha : 0 ≤ a
  · rw [if_pos ha, if_pos (by omega)]
    simp
  · have hbn : b < 0 := by omega
    rw [if_neg ha, if_neg (by omega), Int.sign_eq_neg_one_of_neg hbn]
    simp
theorem fl_w1 {a b : Int} (hb : ¬b = 0) (h : ¬a.tmod b = 0) (h2 : (a.tmod b != 0) = true ∧ (!decide (a < 0) == decide (b < 0)) = true) : wrap64 (wrap64 (a.tdiv b) - 1) = fl a b := by
  refine (fl_down hb h ?_).symm
  intro e
  have h3 := h2.2
  by_cases ha : a < 0
  · have : b < 0 := by rw [← e]; exact ha
    simp [ha, this] at h3
  · have : ¬b < 0 := by rw [← e]; exact ha
    simp [ha, this] at h3
theorem fl_w2 {a b : Int} (h : ¬a.tmod b = 0) (h2 : (a.tmod b != 0) = false ∨ (!decide (a < 0) == decide (b < 0)) = false) : wrap64 (a.tdiv b) = fl a b := by
  refine (fl_same h ?_).symm
  rcases h2 with h2 | h2
  · simp at h2
    exact absurd h2 h
  · simp only [eq_iff_iff]
    by_cases ha : a < 0 <;> by_cases hb2 : b < 0 <;> simp [ha, hb2] at h2 ⊢
theorem fl_neg_one {a b : Int} (h : (b == -1) = true) : wrap64 (-a) = fl a b := by
  have : b = -1 := by simpa using h
  subst this
  unfold fl
  congr 1
  have h1 := Int.mul_fdiv_add_fmod a (-1)
  have h2 : a.fmod (-1) = 0 := Int.fmod_eq_zero_of_dvd ⟨-a, by omega⟩
  omega

/-- What a comparison answers, by the operator's number. -/
def cmpV (op a b : Int) : Int := if op = 7 then (if a ≤ b then 1 else 0) else if op = 8 then (if a = b then 1 else 0) else (if a < b then 1 else 0)
/-- What an operator answers. -/
def doV (op a b : Int) : Int :=
  if op = 1 then wrap64 (a + b) else if op = 2 then wrap64 (a - b) else if op = 3 then wrap64 (a * b)
  else if op = 4 then (if b = 0 then 0 else fl a b) else if op = 5 then (if b = 0 then 0 else wrap64 (a - wrap64 (b * fl a b)))
  else if op = 6 then (if a < b then 1 else 0) else if op = 7 then (if a ≤ b then 1 else 0) else if op = 8 then (if a = b then 1 else 0) else 0
/-- Whether it does. -/
def doB (op b : Int) : Bool := decide (1 ≤ op) && decide (op ≤ 8) && !(decide (op = 4 ∨ op = 5) && decide (b = 0))
end NumM
end Go.Proofs.YtmdkocegnbcgmaaGreatDoor
