/- A scanner on its way: what stays true of it. -/
import Derived.Test.YtmdkocegnbcgmaaGreatDoorZ28
import Derived.BigQuiet
import Derived.WalkSmall
import Derived.Lib.Bytealg
namespace Go.Proofs.YtmdkocegnbcgmaaGreatDoor
open Go.RowKit ObjM Go.Maps
namespace LexD

theorem ext_toList (s : ByteArray) (i j : Nat) : (s.extract i j).data.toList = (s.data.toList.drop i).take (j - i) := by
  simp [ByteArray.data_extract, List.extract]
theorem ext_drop (s : ByteArray) (p : Nat) : (s.extract p s.size).data.toList = s.data.toList.drop p := by
  rw [ext_toList, List.take_of_length_le]
  simp
theorem bytes_toList (s : ByteArray) : bytes s.data.toList = s := by
  unfold bytes
  simp
theorem ext_bytes (s : ByteArray) (p k : Nat) : (s.extract p s.size).extract 0 k = bytes ((s.data.toList.drop p).take k) := by
  rw [← bytes_toList ((s.extract p s.size).extract 0 k), ext_toList, ext_drop]
  simp
theorem drop_at {s : ByteArray} {p : Nat} (hp : p < s.size) : s.data.toList.drop p = s[p] :: s.data.toList.drop (p + 1) := by
  rw [List.drop_eq_getElem_cons (by simpa using hp)]
  rfl
theorem idx_note (l : List UInt8) : (Lib.indexByte l 10 = -1 ∧ noteN l = l.length) ∨ (Lib.indexByte l 10 = (noteN l : Int)) := by
  induction l with
  | nil => exact .inl ⟨rfl, rfl⟩
  | cons a r ih =>
    by_cases ha : a = 10
    · subst ha
      right
      rfl
    · have h1 : (a == 10) = false := by simpa using ha
      have h2 : noteN (a :: r) = noteN r + 1 := by
        unfold noteN
        rw [List.takeWhile_cons]
        simp [ha]
      rw [Lib.indexByte, h1, h2]
      rcases ih with ⟨h3, h4⟩ | h3
      · left
        rw [h3]
        exact ⟨by simp, by simp [h4]⟩
      · right
        rw [h3]
        have : ((noteN r : Int) == -1) = false := by simp
        simp [this]
theorem idx_blank : ∀ n : Fin 256, ((Lib.indexByte [32, 9, 10, 13] (UInt8.ofNat n.val) < 0) ↔ blankB (UInt8.ofNat n.val) = false) := by decide +kernel
theorem idx_blank' (c : UInt8) : (Lib.indexByte [32, 9, 10, 13] ((c.toNat : Int).toNat.toUInt8) < 0) ↔ blankB c = false := by
  have := idx_blank ⟨c.toNat, c.toNat_lt⟩
  simpa using this
theorem nat_byte (c : UInt8) : (c.toNat : Int).toNat.toUInt8 = c := by simp
end LexD
end Go.Proofs.YtmdkocegnbcgmaaGreatDoor
