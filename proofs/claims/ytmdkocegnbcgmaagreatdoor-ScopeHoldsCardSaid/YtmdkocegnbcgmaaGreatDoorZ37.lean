/- The readers of names and of numbers. -/
import Derived.Test.YtmdkocegnbcgmaaGreatDoorZ36
import Derived.Test.YtmdkocegnbcgmaaGreatDoorZ15
namespace Go.Proofs.YtmdkocegnbcgmaaGreatDoor
open Go.RowKit ObjM Go.Maps
namespace LexD

theorem runN_list (R : ByteArray) : runN R.data.toList ≤ R.size := by
  have := runN_le R.data.toList
  simpa using this
theorem tok_name {p : Nat} {c : UInt8} {r : List UInt8} (h : letB c.toNat = true) : tokV p (c :: r) = .ok (⟨if wordB 18 ((c :: r).take (runN (c :: r))) = true then 2 else 1, bytes ((c :: r).take (runN (c :: r))), p, p + runN (c :: r), 0⟩, runN (c :: r)) := by
  rw [tokV, if_pos h]
theorem tok_num {p : Nat} {c : UInt8} {r : List UInt8} (h0 : letB c.toNat = false) (h : digB c.toNat = true) : tokV p (c :: r) = if (NumM.numV ((c :: r).take (runN (c :: r)))).2 = true then .ok (⟨3, bytes ((c :: r).take (runN (c :: r))), p, p + runN (c :: r), (NumM.numV ((c :: r).take (runN (c :: r)))).1⟩, runN (c :: r)) else .error 51 := by
  rw [tokV, if_neg (by simp [h0]), if_pos h]
  split
  · rename_i e
    rw [e]
    rfl
  · rename_i e
    rw [e]
    rfl
end LexD
end Go.Proofs.YtmdkocegnbcgmaaGreatDoor
namespace Go.Proofs.YtmdkocegnbcgmaaGreatDoor
open Go.RowKit ObjM Go.Maps
namespace LexD

end LexD
end Go.Proofs.YtmdkocegnbcgmaaGreatDoor
namespace Go.Proofs.YtmdkocegnbcgmaaGreatDoor
open Go.RowKit ObjM Go.Maps
namespace LexD

/-- What two hexadecimal digits count. -/
theorem hex_two (a b : UInt8) : (NumM.numV [48, 120, a, b]).2 = true ↔ (NumM.digV a.toNat ≤ 15 ∧ NumM.digV b.toNat ≤ 15) := by
  have ha := NumM.digV_lo a.toNat
  have hb := NumM.digV_lo b.toNat
  have h0 : NumM.numV [48, 120, a, b] = NumM.hexF [a, b] 0 := by
    unfold NumM.numV NumM.hexV
    simp [Lib.hasPrefix]
  rw [h0]
  unfold NumM.hexF
  split
  · rename_i h
    simp
    intro h1
    omega
  · rename_i h
    unfold NumM.hexF
    split
    · rename_i h2
      simp
      intro _
      omega
    · rename_i h2
      unfold NumM.hexF
      simp
      omega
theorem hex_val (a b : UInt8) (h : NumM.digV a.toNat ≤ 15 ∧ NumM.digV b.toNat ≤ 15) : (NumM.numV [48, 120, a, b]).1 = 16 * NumM.digV a.toNat + NumM.digV b.toNat := by
  have ha := NumM.digV_lo a.toNat
  have hb := NumM.digV_lo b.toNat
  have h0 : NumM.numV [48, 120, a, b] = NumM.hexF [a, b] 0 := by
    unfold NumM.numV NumM.hexV
    simp [Lib.hasPrefix]
  rw [h0]
  unfold NumM.hexF
  rw [if_neg (by omega)]
  unfold NumM.hexF
  rw [if_neg (by omega)]
  unfold NumM.hexF
  simp only [wrap64]
  omega
theorem list_two {R : ByteArray} (h : 2 ≤ R.size) : R.data.toList = R[0] :: R[1] :: R.data.toList.drop 2 := by
  have h1 : R.data.toList = R.data.toList.drop 0 := by simp
  rw [h1, drop_at (p := 0) (by omega), drop_at (p := 1) (by omega)]
  simp
theorem list_four {R : ByteArray} (h : 4 ≤ R.size) : R.data.toList = R[0] :: R[1] :: R[2] :: R[3] :: R.data.toList.drop 4 := by
  have e : R.data.toList.drop 2 = R[2] :: R[3] :: R.data.toList.drop 4 := by rw [drop_at (p := 2) (by omega), drop_at (p := 3) (by omega)]
  have e2 := list_two (R := R) (by omega)
  rw [e] at e2
  exact e2
theorem list_zero {R : ByteArray} (h : 0 < R.size) : ∃ r, R.data.toList = R[0] :: r := ⟨R.data.toList.drop 1, by
  have := drop_at (s := R) (p := 0) h
  simpa using this⟩
theorem piece_bad {c : UInt8} {r : List UInt8} (h : c.toNat < 32 ∨ 126 < c.toNat) : pieceV (c :: r) = none := by
  cases r <;> simp only [pieceV, if_pos h]
theorem piece_self {c : UInt8} {r : List UInt8} (h : ¬ (c.toNat < 32 ∨ 126 < c.toNat)) (h2 : c ≠ 92) : pieceV (c :: r) = some (c, 1) := by
  cases r <;> simp only [pieceV, if_neg h, if_pos h2]
theorem piece_n {q : List UInt8} : pieceV (92 :: 110 :: q) = some (10, 2) := rfl
theorem piece_q {d : UInt8} {q : List UInt8} (h : d = 92 ∨ d = 34) : pieceV (92 :: d :: q) = some (d, 2) := by
  rcases h with rfl | rfl <;> rfl
theorem piece_x {a b : UInt8} {q : List UInt8} : pieceV (92 :: 120 :: a :: b :: q) = if NumM.digV a.toNat ≤ 15 ∧ NumM.digV b.toNat ≤ 15 then some (UInt8.ofNat (16 * NumM.digV a.toNat + NumM.digV b.toNat).toNat, 4) else none := by
  simp [pieceV]
theorem piece_x_few {q : List UInt8} (h : ∀ a b r, q ≠ a :: b :: r) : pieceV (92 :: 120 :: q) = none := by
  match q, h with
  | [], _ => rfl
  | [a], _ => rfl
  | a :: b :: r, h => exact absurd rfl (h a b r)
theorem piece_other {d : UInt8} {q : List UInt8} (h : ¬ d = 110) (h2 : ¬ (d = 92 ∨ d = 34)) (h3 : ¬ d = 120) : pieceV (92 :: d :: q) = none := by
  simp [pieceV, h, h2, h3]
theorem list_one {R : ByteArray} (h0 : 0 < R.size) (h : ¬ 2 ≤ R.size) : R.data.toList = [R[0]] := by
  have h1 : R.data.toList = R.data.toList.drop 0 := by simp
  rw [h1, drop_at (p := 0) (by omega), List.drop_eq_nil_of_le (by simp; omega)]
theorem list_few {R : ByteArray} (h0 : 2 ≤ R.size) (h : ¬ 4 ≤ R.size) : ∀ a b r, R.data.toList.drop 2 ≠ a :: b :: r := by
  intro a b r e
  have := congrArg List.length e
  simp at this
  omega
end LexD
end Go.Proofs.YtmdkocegnbcgmaaGreatDoor
