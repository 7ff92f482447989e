/-
  PROVED: for every two texts the statement Decodes answers true and leaves its arguments as they were. No condition.
-/
import Derived.Test.YthneahkdmckgeaaDecOf
import Derived.Test.YthneahkdmckgeaaText
namespace Go.Proofs.Ythneahkdmckgeaa
theorem decodes_holds : Rows.DecodesSaid := decodes_of text_said
#print axioms decodes_holds
end Go.Proofs.Ythneahkdmckgeaa
