/-
  WALKS: what is an operation: the document's answer.
-/
import Derived.Test.YteljbblbdiploaaOps1
namespace Go.Proofs.Yteljbblbdiploaa
open Go.RowKit

set_option maxHeartbeats 8000000 in
theorem isOp_any (t k am o s : Int) (nm tx : ByteArray) (w : World) (hn : nm.size ≤ maxLen) (hx : tx.size ≤ maxLen) :
    Calls Try.prog 56 #[.agg #[.int .u8 t, .int .u8 k, .string nm, .string tx, .int .i64 am, .int .i64 o, .int .i64 s]] w
      fun e w' => e = .returned (.bool (refOpB t k nm.size tx.size am o s)) ∧ Below w.heap.size w w' := by
  unfold maxLen at hn hx
  go_enter Try.func56, Try.ntmps56
  go_wp2_with fail
  refine (refAnchor_any _ _ _).mono ?_
  rintro e w1 ⟨rfl, hb⟩
  obtain ⟨hc, hf⟩ := bcell hb
  have hz : w.heap.size < w1.heap.size := by have := hb.size; simp at this; omega
  have hB : Hid (Below w.heap.size w w1) := ((Below.refl _ _).alloc (Nat.le_refl _) _).trans (hb.mono (by simp))
  clear hb
  go_wp2_with fail
  all_goals
    go_ret
    go_light
    refine ⟨ret_bool ?_, hB.out⟩
    clear hc hf hz hB
    rw [Bool.eq_iff_iff]; simp only [ancB, toList_nil, refOpB, decide_eq_true_eq, Bool.false_eq_true, false_iff, true_iff, beq_iff_eq, beq_eq_false_iff_ne, ne_eq, Bool.or_eq_true, true_and, List.isEmpty_iff] at *
    first | omega | (simp only [true_or, true_and, and_true]; omega)
end Go.Proofs.Yteljbblbdiploaa
