/- Union against its definition. -/
import Derived.Test.YthcdbmbimdkcfaaDoorTyUnion
namespace Go.Proofs.YthcdbmbimdkcfaaDoor
open Go.RowKit ObjM
namespace TyD

theorem sel_seven (p : Nat → Bool) : sel p 7 = [1, 2, 3, 4, 5, 6].filter p := by
  show ([0, 1, 2, 3, 4, 5, 6].filter fun k => decide (1 ≤ k) && p k) = _
  rw [List.filter_cons_of_neg (by simp)]
  exact List.filter_congr fun k hk => by
    have : 1 ≤ k := by simp at hk; omega
    simp [this]
theorem unionG_eq (p : Nat → Bool) : unionG p = unionP p := by
  unfold unionG gatherP unionP
  rw [sel_seven]
  generalize [1, 2, 3, 4, 5, 6].filter p = l
  rcases l with _ | ⟨k, _ | ⟨k2, r⟩⟩
  · rfl
  · rfl
  · simp only [List.map_cons, Ty.args]
    rfl
theorem bitP_fin : ∀ y : Fin 128, ∀ k : Fin 7, (bits BinOp.and IntKind.i64 (y.val : Int) (kindOf (k.val : Int) : Int) != 0) = bitsOf y.val k.val := by decide +kernel
theorem unionG_bits {n : Nat} (h : n < 128) : unionG (bitP (n : Int)) = unionP (bitsOf n) := by
  rw [unionG_eq]
  have e : [1, 2, 3, 4, 5, 6].filter (bitP (n : Int)) = [1, 2, 3, 4, 5, 6].filter (bitsOf n) := List.filter_congr fun k hk => by
    have : k < 7 := by simp at hk; omega
    exact bitP_fin ⟨n, h⟩ ⟨k, this⟩
  unfold unionP
  rw [e]
end TyD
end Go.Proofs.YthcdbmbimdkcfaaDoor
