/- Layer 18's laws, for the claims: FlowMeets. -/
import Derived.Test.YtajhkogknpmnbaaDoorFlowS
import Derived.Test.YtajhkogknpmnbaaDoorFlowY
namespace Go.Proofs.YtajhkogknpmnbaaDoor
end Go.Proofs.YtajhkogknpmnbaaDoor
