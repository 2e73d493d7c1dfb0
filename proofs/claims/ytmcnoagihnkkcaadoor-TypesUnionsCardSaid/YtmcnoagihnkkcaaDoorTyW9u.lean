/- TypesUnions in the law's world. -/
import Derived.Test.YtmcnoagihnkkcaaDoorTyL9u
import Derived.Test.YtmcnoagihnkkcaaDoorTyTab9
namespace Go.Proofs.YtmcnoagihnkkcaaDoor
open Go.RowKit ObjM Go.ChangeShapes
namespace TyD
theorem unions_w (x : Int) (W : World) (hT : Tabs9 W) : Calls Tryd.prog 5 #[.int .i64 x] W fun e w' => e = .returned (.bool true) ∧ Below W.heap.size W w' := unions_u joinC x W hT.w hT.k hT.n
end TyD
end Go.Proofs.YtmcnoagihnkkcaaDoor
