/- codec: what EqWorld is to do. -/
import Derived.Test.YtmibepjfbapbdaaCdEq1
namespace Go.Proofs.Ytmibepjfbapbdaa.Cd
open Go.RowKit Go.Proofs.Ytmibepjfbapbdaa
set_option maxRecDepth 100000

/-- What EqWorld does (shown in another text). -/
def EqWorldSpec : Prop := ∀ {w : World} {Pb Qb : Nat → Prop} {p q : Value} {x y : MWorld}, PAt eWorld Pb w p x → PAt eWorld Qb w q y → Calls Try.prog 11 #[p, q] w (EqA x y w)

end Go.Proofs.Ytmibepjfbapbdaa.Cd
