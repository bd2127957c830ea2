/- (What stands here for another seat has no part in this one.) -/
import Derived.Test.YtepngkhepcjdfaaDoorBitOf
namespace Go.Proofs.YtepngkhepcjdfaaDoor

end Go.Proofs.YtepngkhepcjdfaaDoor
