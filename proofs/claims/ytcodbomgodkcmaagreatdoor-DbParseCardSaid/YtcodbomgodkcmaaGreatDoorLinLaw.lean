/- Texts: the statements of lines, out of the program's contracts (which are premises here). -/
import Derived.Test.YtcodbomgodkcmaaGreatDoorLinL
namespace Go.Proofs.YtcodbomgodkcmaaGreatDoor.Lin
open Go.RowKit Go.Maps Go.Proofs.YtcodbomgodkcmaaGreatDoor
set_option maxRecDepth 100000

end Go.Proofs.YtcodbomgodkcmaaGreatDoor.Lin
