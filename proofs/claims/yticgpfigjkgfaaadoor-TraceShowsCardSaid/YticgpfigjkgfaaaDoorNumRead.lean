/- The contracts of num.Number and of the document's own answer: NumM.numV of the text. -/
import Derived.Test.YticgpfigjkgfaaaDoorNumReadMath
import Derived.Test.YticgpfigjkgfaaaDoorNumDo
import Derived.Test.YticgpfigjkgfaaaDoorShelf
import Derived.Lib.OthersKept
import Derived.Laws.RangeAny
import Derived.WalkSmall
namespace Go.Proofs.YticgpfigjkgfaaaDoor
open Go.RowKit
namespace NumD
open NumM

/-- 'n << 4 | d' of a number and a digit. -/
theorem shl_or (n d : Int) (h0 : 0 ≤ d) (h1 : d ≤ 15) : bits .or .i64 (wrap64 (n * 16)) d = wrap64 (n * 16 + d) := by
  have e1 : (BitVec.ofInt 64 (wrap64 (n * 16))).toNat = 2 ^ 4 * ((n % 1152921504606846976).toNat) := by
    rw [BitVec.toNat_ofInt]
    unfold wrap64
    omega
  have e2 : (BitVec.ofInt 64 d).toNat = d.toNat := by
    rw [BitVec.toNat_ofInt]
    omega
  show IntKind.i64.wrap ((BitVec.ofInt 64 (wrap64 (n * 16)) ||| BitVec.ofInt 64 d).toNat : Int) = _
  rw [BitVec.toNat_or, e1, e2, ← Nat.two_pow_add_eq_or_of_lt (by omega), IntKind.wrap_i64]
  unfold wrap64
  omega

end NumD
end Go.Proofs.YticgpfigjkgfaaaDoor
