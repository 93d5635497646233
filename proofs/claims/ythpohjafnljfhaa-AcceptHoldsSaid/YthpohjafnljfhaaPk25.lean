import Derived.Test.YthpohjafnljfhaaPk13
import Derived.Test.YthpohjafnljfhaaPk24
namespace Go.Proofs.Ythpohjafnljfhaa
open Go.RowKit
attribute [local go_sem] Oper.semAt_some class_at0 class_at1 class_at2

/-! ## The document's quoted texts -/
end Go.Proofs.Ythpohjafnljfhaa
