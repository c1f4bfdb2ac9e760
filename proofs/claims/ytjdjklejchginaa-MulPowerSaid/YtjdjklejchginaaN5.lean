/- The contracts of the document's Sum and Rest. Conditions: as typed. -/
import Derived.Test.YtjdjklejchginaaN4
namespace Go.Proofs.Ytjdjklejchginaa
open Go.RowKit

end Go.Proofs.Ytjdjklejchginaa
