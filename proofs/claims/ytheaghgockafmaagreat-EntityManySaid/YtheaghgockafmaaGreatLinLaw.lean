/- Texts: the statements of lines, out of the program's contracts (which are premises here). -/
import Derived.Test.YtheaghgockafmaaGreatLinL
namespace Go.Proofs.YtheaghgockafmaaGreat.Lin
open Go.RowKit Go.Maps Go.Proofs.YtheaghgockafmaaGreat
set_option maxRecDepth 100000

end Go.Proofs.YtheaghgockafmaaGreat.Lin
