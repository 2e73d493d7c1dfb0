/- Layer 18's laws, for the claims: FlowOne. -/
import Derived.Test.YtajhkogknpmnbaaDoorFlowS
import Derived.Test.YtajhkogknpmnbaaDoorFlowX
namespace Go.Proofs.YtajhkogknpmnbaaDoor
end Go.Proofs.YtajhkogknpmnbaaDoor
