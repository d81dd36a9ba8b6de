/- Objects: the walks of the document's both, Meet, Within. -/
import Derived.Test.YtmldpbgdjlblmabDoorM10G
namespace Go.Proofs.YtmldpbgdjlblmabDoor
open Go.RowKit Go.Joins
set_option linter.unusedVariables false
set_option linter.unusedSimpArgs false

end Go.Proofs.YtmldpbgdjlblmabDoor
