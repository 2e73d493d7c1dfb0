/- What the rows' lists give; the laws of layer 10 over types that came in. -/
import Derived.Test.YthcdbmbimdkcfaaDoorTyL10f
import Derived.Test.YthcdbmbimdkcfaaDoorTyW10a
import Derived.Test.YthcdbmbimdkcfaaDoorTables
import Derived.Test.YthcdbmbimdkcfaaDoorRows
namespace Go.Proofs.YthcdbmbimdkcfaaDoor
open Go.RowKit ObjM Go.ChangeShapes
namespace TyD
open LexD (nameB WTab WL)

section
variable {H : Type} {enc : TypeId × Value → H}
set_option maxRecDepth 100000 in
theorem self_w {r : Reach} {b0 : Nat} {d0 : DataW H} {p0 : List MemPlace} {s0 : Nat → Bool} (v0 : Value) (W : World) (g0 : Value.okWide Tryd.prog W r b0 25 v0) (h0 : DataW.Trod enc Tryd.prog W 0 s0 true 25 v0 d0 p0) (hw0 : ∀ n ∈ d0.weights Tryd.prog 25, n ≤ reachBytes) (hT : WTab W ∧ KTab W) :
    Calls Tryd.prog 9 #[v0] W fun e w' => e = .returned (.bool true) ∧ Below W.heap.size W w' := by
  obtain ⟨t0, n0, a0, rfl, at0, ok0⟩ := open_type g0 h0 hw0
  exact self_u t0 _ _ W ok0 at0 hT.1 hT.2
end
end TyD
end Go.Proofs.YthcdbmbimdkcfaaDoor
