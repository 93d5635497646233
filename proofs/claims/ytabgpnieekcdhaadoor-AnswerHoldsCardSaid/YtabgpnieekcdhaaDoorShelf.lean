/- No contract of the library is wanted here. -/
import Derived.Test.YtabgpnieekcdhaaDoorProg
namespace Go.Proofs
end Go.Proofs
