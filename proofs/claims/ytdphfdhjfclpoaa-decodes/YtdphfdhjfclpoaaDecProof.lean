/-
  PROVED: for every two texts the statement Decodes answers true and leaves its arguments as they were. No condition.
-/
import Derived.Test.YtdphfdhjfclpoaaDecOf
import Derived.Test.YtdphfdhjfclpoaaText
namespace Go.Proofs.Ytdphfdhjfclpoaa
theorem decodes_holds : Rows.DecodesSaid := decodes_of text_said
#print axioms decodes_holds
end Go.Proofs.Ytdphfdhjfclpoaa
