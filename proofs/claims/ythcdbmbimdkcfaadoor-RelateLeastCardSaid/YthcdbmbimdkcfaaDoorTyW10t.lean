/- What the rows' lists give; the laws of layer 10 over types that came in. -/
import Derived.Test.YthcdbmbimdkcfaaDoorTyL10t
import Derived.Test.YthcdbmbimdkcfaaDoorTyW10a
import Derived.Test.YthcdbmbimdkcfaaDoorTables
import Derived.Test.YthcdbmbimdkcfaaDoorRows
namespace Go.Proofs.YthcdbmbimdkcfaaDoor
open Go.RowKit ObjM Go.ChangeShapes
namespace TyD
open LexD (nameB WTab WL)

section
variable {H : Type} {enc : TypeId × Value → H}
set_option maxRecDepth 100000 in
theorem least_w {r : Reach} {b0 b1 b2 : Nat} {d0 d1 d2 : DataW H} {p0 p1 p2 : List MemPlace} {s0 s1 s2 : Nat → Bool} (v0 v1 v2 : Value) (W : World) (g0 : Value.okWide Tryd.prog W r b0 25 v0) (h0 : DataW.Trod enc Tryd.prog W 0 s0 true 25 v0 d0 p0) (hw0 : ∀ n ∈ d0.weights Tryd.prog 25, n ≤ reachBytes) (g1 : Value.okWide Tryd.prog W r b1 25 v1) (h1 : DataW.Trod enc Tryd.prog W 0 s1 true 25 v1 d1 p1) (hw1 : ∀ n ∈ d1.weights Tryd.prog 25, n ≤ reachBytes) (g2 : Value.okWide Tryd.prog W r b2 25 v2) (h2 : DataW.Trod enc Tryd.prog W 0 s2 true 25 v2 d2 p2) (hw2 : ∀ n ∈ d2.weights Tryd.prog 25, n ≤ reachBytes) (hT : WTab W ∧ KTab W) :
    Calls Tryd.prog 10 #[v0, v1, v2] W fun e w' => e = .returned (.bool true) ∧ Below W.heap.size W w' := by
  obtain ⟨t0, n0, a0, rfl, at0, ok0⟩ := open_type g0 h0 hw0
  obtain ⟨t1, n1, a1, rfl, at1, ok1⟩ := open_type g1 h1 hw1
  obtain ⟨t2, n2, a2, rfl, at2, ok2⟩ := open_type g2 h2 hw2
  exact least_u t0 _ _ t1 _ _ t2 _ _ W ok0 at0 ok1 at1 ok2 at2 hT.1 hT.2
end
end TyD
end Go.Proofs.YthcdbmbimdkcfaaDoor
