/- TypesKinds in the law's world. -/
import Derived.Test.YtmcnoagihnkkcaaDoorTyL9k
import Derived.Test.YtmcnoagihnkkcaaDoorTyTab9
namespace Go.Proofs.YtmcnoagihnkkcaaDoor
open Go.RowKit ObjM Go.ChangeShapes
namespace TyD
section
variable {H : Type} {enc : TypeId × Value → H}
set_option maxRecDepth 100000 in
theorem kinds_w {r : Reach} {b0 : Nat} {d0 : DataW H} {p0 : List MemPlace} {s0 : Nat → Bool} (v0 : Value) (W : World) (g0 : Value.okWide Tryd.prog W r b0 25 v0) (h0 : DataW.Trod enc Tryd.prog W 0 s0 true 25 v0 d0 p0) (hw0 : ∀ n ∈ d0.weights Tryd.prog 25, n ≤ reachBytes) (hT : Tabs9 W) :
    Calls Tryd.prog 4 #[v0] W fun e w' => e = .returned (.bool true) ∧ Below W.heap.size W w' := by
  obtain ⟨t0, n0, a0, rfl, at0, ok0⟩ := open_type g0 h0 hw0
  exact kinds_u joinC t0 _ _ W ok0 at0 hT.w hT.k hT.n
end
end TyD
end Go.Proofs.YtmcnoagihnkkcaaDoor
