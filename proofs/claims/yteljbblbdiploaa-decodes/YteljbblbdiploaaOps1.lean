/-
  WALKS: what is an operation.
-/
import Derived.Test.YteljbblbdiploaaLeaf
namespace Go.Proofs.Yteljbblbdiploaa
open Go.RowKit

theorem toList_nil {b : ByteArray} : b.toList = [] ↔ (b.size : Int) = 0 := by
  rw [ByteArray.toList_eq, ← List.length_eq_zero_iff, Array.length_toList]
  show b.data.size = 0 ↔ (b.data.size : Int) = 0
  omega

set_option maxHeartbeats 400000 in
theorem inBounds_any (t k am o s : Int) (nm tx : ByteArray) (w : World) (hn : nm.size ≤ maxLen) (hx : tx.size ≤ maxLen) :
    Calls Try.prog 69 #[.agg #[.int .u8 t, .int .u8 k, .string nm, .string tx, .int .i64 am, .int .i64 o, .int .i64 s]] w
      fun e w' => e = .returned (.bool (inbB nm.size tx.size am o s)) ∧ Below w.heap.size w w' := by
  unfold maxLen at hn hx
  go_enter Try.func69, Try.ntmps69
  go_wp2_with (first | (go_at_call 38; refine (name_any _ _ (by unfold maxLen; omega)).mono ?_; rintro e w' ⟨rfl, rfl⟩) | (go_at_call 51; refine (within_any _ _ _ _).mono ?_; rintro e w' ⟨rfl, rfl⟩) | (go_at_call 85; refine (anchor_any _ _ _).mono ?_; rintro e w' ⟨rfl, hb⟩))
  all_goals
    go_ret
    go_light
    refine ⟨ret_bool ?_, ?_⟩
    · rw [Bool.eq_iff_iff]; simp only [wthn, inbB, decide_eq_true_eq, Bool.false_eq_true, false_iff] at *; first | omega | (cases ancB o s <;> simp <;> omega)
    · first | exact (Below.refl _ _).alloc (Nat.le_refl _) _ | exact ((Below.refl _ _).alloc (Nat.le_refl _) _).trans (hb.mono (by simp))

set_option maxHeartbeats 1000000 in
theorem noOther_any (t k am o s : Int) (nm tx : ByteArray) (a b c : Bool) (w : World) (_hn : nm.size ≤ maxLen) (_hx : tx.size ≤ maxLen) :
    Calls Try.prog 70 #[.agg #[.int .u8 t, .int .u8 k, .string nm, .string tx, .int .i64 am, .int .i64 o, .int .i64 s], .agg #[.bool a, .bool b, .bool c]] w
      fun e w' => e = .returned (.bool (noB tx.size am o s a b c)) ∧ Below w.heap.size w w' := by
  go_enter Try.func70, Try.ntmps70
  go_wp2
  all_goals
    go_ret
    go_light
    refine ⟨ret_bool ?_, ((Below.refl _ _).alloc (Nat.le_refl _) _).alloc (by simp) _⟩
    rw [Bool.eq_iff_iff]; simp only [toList_nil, noB, decide_eq_true_eq, Bool.false_eq_true, false_iff, true_iff, Bool.not_eq_true] at *
    simp_all
    done
end Go.Proofs.Yteljbblbdiploaa
