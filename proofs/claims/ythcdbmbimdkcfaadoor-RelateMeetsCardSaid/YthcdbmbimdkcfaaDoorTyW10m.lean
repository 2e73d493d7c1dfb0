/- What the rows' lists give; the laws of layer 10 over types that came in. -/
import Derived.Test.YthcdbmbimdkcfaaDoorTyL10m
import Derived.Test.YthcdbmbimdkcfaaDoorTyW10a
import Derived.Test.YthcdbmbimdkcfaaDoorTables
import Derived.Test.YthcdbmbimdkcfaaDoorRows
namespace Go.Proofs.YthcdbmbimdkcfaaDoor
open Go.RowKit ObjM Go.ChangeShapes
namespace TyD
open LexD (nameB WTab WL)

section
variable {H : Type} {enc : TypeId × Value → H}
set_option maxRecDepth 100000 in
theorem meets_w {r : Reach} {b0 b1 : Nat} {d0 d1 : DataW H} {p0 p1 : List MemPlace} {s0 s1 : Nat → Bool} (v0 v1 : Value) (W : World) (g0 : Value.okWide Tryd.prog W r b0 25 v0) (h0 : DataW.Trod enc Tryd.prog W 0 s0 true 25 v0 d0 p0) (hw0 : ∀ n ∈ d0.weights Tryd.prog 25, n ≤ reachBytes) (g1 : Value.okWide Tryd.prog W r b1 25 v1) (h1 : DataW.Trod enc Tryd.prog W 0 s1 true 25 v1 d1 p1) (hw1 : ∀ n ∈ d1.weights Tryd.prog 25, n ≤ reachBytes) (hT : WTab W ∧ KTab W) :
    Calls Tryd.prog 6 #[v0, v1] W fun e w' => e = .returned (.bool true) ∧ Below W.heap.size W w' := by
  obtain ⟨t0, n0, a0, rfl, at0, ok0⟩ := open_type g0 h0 hw0
  obtain ⟨t1, n1, a1, rfl, at1, ok1⟩ := open_type g1 h1 hw1
  exact meets_u t0 _ _ t1 _ _ W ok0 at0 ok1 at1 hT.1 hT.2
end
end TyD
end Go.Proofs.YthcdbmbimdkcfaaDoor
