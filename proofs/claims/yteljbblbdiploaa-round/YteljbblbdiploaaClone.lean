/-
  CONTRACTS: strings.Clone: the same bytes.
-/
import Derived.Test.YteljbblbdiploaaRows
import Derived.Shelf.Pu.Clone
import Derived.WalkKit
import Derived.WalkSpells
namespace Go.Proofs.Yteljbblbdiploaa
open Go.RowKit Go.Shelf

/-- the numbers of the library's text in this program -/
def cloneRen : Ren := ⟨fun _ => 86, fun n => if n = 0 then 0 else if n = 3 then 3 else if n = 4 then 4 else if n = 5 then 5 else if n = 9 then 9 else if n = 37 then 58 else 134, fun n => n⟩
theorem Try.laysClone : LaysPu.n25 Try.prog cloneRen := by
  constructor <;> first | (intro w; kernel_rfl) | kernel_rfl

theorem lite_any (s : ByteArray) (w : World) (hl : s.size ≤ 281474976710656) :
    Calls Try.prog 86 #[.string s] w fun e w' => e = .returned (.string s) ∧ Below w.heap.size w w' := AnyPu.stringslite_Clone Try.laysClone s w hl

set_option maxHeartbeats 400000 in
theorem clone_any (s : ByteArray) (w : World) (hl : s.size ≤ 281474976710656) :
    Calls Try.prog 73 #[.string s] w fun e w' => e = .returned (.string s) ∧ Below w.heap.size w w' := by
  go_enter Try.func73, Try.ntmps73
  go_wp2_with fail
  refine (lite_any s _ hl).mono ?_
  rintro e w' ⟨rfl, hb⟩
  go_wp2
  go_ret
  exact ⟨rfl, hb⟩
end Go.Proofs.Yteljbblbdiploaa
