/- Layer 18's laws, for the claims. -/
import Derived.Test.YtajhkogknpmnbaaDoorFlowS
import Derived.Test.YtajhkogknpmnbaaDoorFlowV
namespace Go.Proofs.YtajhkogknpmnbaaDoor
end Go.Proofs.YtajhkogknpmnbaaDoor
