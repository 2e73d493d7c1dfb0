/- The contract of the document's own reader of numbers: NumM.numV of the text. -/
import Derived.Test.YticgpfigjkgfaaaDoorNumRead
namespace Go.Proofs.YticgpfigjkgfaaaDoor
open Go.RowKit
namespace NumD
open NumM

theorem take2 (s : ByteArray) : (s.extract 0 2).toList = s.data.toList.take 2 := by
  rw [Lib.toList_data, ByteArray.data_extract, Array.toList_extract]
  rfl
theorem pre_eq (l : List UInt8) : Lib.hasPrefix l [48, 120] = (l.take 2 == [48, 120]) := by
  unfold Lib.hasPrefix
  match l with
  | [] => rfl
  | [a] => simp [List.isPrefixOf]
  | a :: b :: r =>
    show ((48 == a) && ((120 == b) && true)) = ((a == 48) && ((b == 120) && true))
    rw [Bool.and_true, Bool.and_true, BEq.comm (a := 48), BEq.comm (a := 120)]
theorem pre_yes {s : ByteArray} (h : Lib.hasPrefix s.data.toList [48, 120] = true) : 2 ≤ s.size ∧ ((s.extract 0 2).toList == [48, 120]) = true := by
  rw [pre_eq] at h
  refine ⟨?_, by rw [take2]; exact h⟩
  have h1 : (s.data.toList.take 2).length = 2 := by rw [eq_of_beq h]; rfl
  rw [List.length_take] at h1
  have h2 : s.data.toList.length = s.size := rfl
  omega
theorem pre_no {s : ByteArray} (h : Lib.hasPrefix s.data.toList [48, 120] = false) : ((s.extract 0 2).toList == [48, 120]) = false := by
  rw [pre_eq] at h
  rw [take2]
  exact h
theorem pre_short {s : ByteArray} (h : Lib.hasPrefix s.data.toList [48, 120] = true) (h3 : s.size ≤ 2) : hexV (s.data.toList.drop 2) = decV s.data.toList := by
  have h2 : s.data.toList.length = s.size := rfl
  rw [pre_eq, List.take_of_length_le (by omega)] at h
  rw [eq_of_beq h]
  decide
theorem u64_eq (x : Int) : IntKind.u64.wrap x = x % 18446744073709551616 := by simp [IntKind.wrap, IntKind.bits, IntKind.signed]
theorem u64_step (n d : Int) : wrap64 (IntKind.u64.wrap (IntKind.u64.wrap (16 * n) + d)) = wrap64 (wrap64 n * 16 + d) := by
  rw [u64_eq, u64_eq]
  unfold wrap64
  omega
theorem u64_lo (x : Int) : 0 ≤ IntKind.u64.wrap x := by rw [u64_eq]; omega
theorem u64_hi (x : Int) : IntKind.u64.wrap x ≤ 18446744073709551615 := by rw [u64_eq]; omega
theorem el_drop {s : ByteArray} {k : Nat} (hl : k < (s.data.toList.drop 2).length) (hlt : k + 2 < s.size) : Hid (digV (s[k + 2].toNat : Int) = digV (((s.data.toList.drop 2)[k]).toNat : Int)) := by
  show digV (s[k + 2].toNat : Int) = digV (((s.data.toList.drop 2)[k]).toNat : Int)
  rw [List.getElem_drop]
  simp only [Nat.add_comm 2 k]
  rfl
theorem hexV_long {l : List UInt8} (h : 16 < l.length) : hexV l = (0, false) := by unfold hexV; rw [if_pos (.inr h)]

end NumD
end Go.Proofs.YticgpfigjkgfaaaDoor
