/-
  PROVED: for every update and every two numbers the statement Round answers true and leaves its arguments as they were. No condition.
-/
import Derived.Test.YteljbblbdiploaaRoundOf
import Derived.Test.YteljbblbdiploaaText
namespace Go.Proofs.Yteljbblbdiploaa
theorem round_holds : Rows.RoundSaid := round_of text_said
#print axioms round_holds
end Go.Proofs.Yteljbblbdiploaa
