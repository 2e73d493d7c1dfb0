/- The reader of blanks. -/
import Derived.Test.YtmdkocegnbcgmaaGreatDoorZ35
import Derived.Test.YtmdkocegnbcgmaaGreatDoorShelf
namespace Go.Proofs.YtmdkocegnbcgmaaGreatDoor
open Go.RowKit ObjM Go.Maps
namespace LexD

/-- The rest of a text. -/
theorem rest_of {s : ByteArray} {p : Nat} (hp : p < s.size) : ∃ R : ByteArray, s.extract p s.size = R ∧ R.data.toList = s.data.toList.drop p ∧ R.size = s.size - p ∧ ∃ h0 : 0 < R.size, R[0] = s[p] := by
  refine ⟨_, rfl, ext_drop s p, by simp, by simp; omega, ?_⟩
  have h1 : (s.extract p s.size).data.toList[0]? = some s[p] := by
    rw [ext_drop, drop_at hp]
    rfl
  have h2 : (s.extract p s.size).data.toList[0]? = some ((s.extract p s.size)[0]'(by simp; omega)) := by
    rw [List.getElem?_eq_getElem (by simp; omega)]
    rfl
  rw [h2] at h1
  simpa using h1
end LexD
end Go.Proofs.YtmdkocegnbcgmaaGreatDoor
