/-
  PROVED: for every two texts the statement Decodes answers true and leaves its arguments as they were. No condition.
-/
import Derived.Test.YteljbblbdiploaaDecOf
import Derived.Test.YteljbblbdiploaaText
namespace Go.Proofs.Yteljbblbdiploaa
theorem decodes_holds : Rows.DecodesSaid := decodes_of text_said
#print axioms decodes_holds
end Go.Proofs.Yteljbblbdiploaa
