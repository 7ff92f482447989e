/-
  WALKS: the small functions of package check and of the document's answer.
-/
import Derived.Test.YteljbblbdiploaaRows
import Derived.Test.YteljbblbdiploaaPlain
import Derived.WalkKit
import Derived.WalkSpells
import Derived.WalkLawsBesides
import Derived.Deep.Light
namespace Go.Proofs.Yteljbblbdiploaa
open Go.RowKit

theorem ret_bool {a b : Bool} (h : a = b) : Ending.returned (.bool a) = .returned (.bool b) := by rw [h]

theorem bcell {B : Nat} {W w1 : World} (hb : Below B W w1) : (∀ b o, b < B → w1.cell? ⟨b, o, none⟩ = W.cell? ⟨b, o, none⟩) ∧ (∀ b o, b < B → w1.frozen? ⟨b, o, none⟩ = W.frozen? ⟨b, o, none⟩) :=
  ⟨fun b o h => hb.cell (p := ⟨b, o, none⟩) h, fun b o h => hb.frozen (p := ⟨b, o, none⟩) h⟩

set_option maxHeartbeats 400000 in
theorem within_any (n lo hi : Int) (w : World) :
    Calls Try.prog 51 #[.int .i64 n, .int .i64 lo, .int .i64 hi] w fun e w' => e = .returned (.bool (wthn n lo hi)) ∧ w' = w := by
  go_enter Try.func51, Try.ntmps51
  go_wp2
  all_goals
    go_ret
    refine ⟨ret_bool ?_, rfl⟩
    rw [Bool.eq_iff_iff]; simp only [wthn, decide_eq_true_eq, Bool.false_eq_true, false_iff]; omega

set_option maxHeartbeats 400000 in
theorem name_any (s : ByteArray) (w : World) (_hs : s.size ≤ maxLen) :
    Calls Try.prog 38 #[.string s] w fun e w' => e = .returned (.bool (wthn s.size 1 8)) ∧ w' = w := by
  unfold maxLen at _hs
  go_enter Try.func38, Try.ntmps38
  go_wp2_with (go_at_call 51; refine (within_any _ _ _ _).mono ?_; rintro e w' ⟨rfl, rfl⟩)
  all_goals
    go_ret
    exact ⟨rfl, rfl⟩

set_option maxHeartbeats 400000 in
theorem refAnchor_any (o s : Int) (w : World) :
    Calls Try.prog 72 #[.agg #[.int .i64 o, .int .i64 s]] w fun e w' => e = .returned (.bool (ancB o s)) ∧ Below w.heap.size w w' := by
  go_enter Try.func72, Try.ntmps72
  go_wp2
  all_goals
    go_ret
    refine ⟨ret_bool ?_, (Below.refl _ _).alloc (Nat.le_refl _) _⟩
    rw [Bool.eq_iff_iff]; simp only [ancB, decide_eq_true_eq, Bool.false_eq_true, false_iff, true_iff, Bool.or_eq_true, beq_iff_eq, true_and]; omega

set_option maxHeartbeats 400000 in
theorem anchor_any (o s : Int) (w : World) :
    Calls Try.prog 85 #[.agg #[.int .i64 o, .int .i64 s]] w fun e w' => e = .returned (.bool (ancB o s)) ∧ Below w.heap.size w w' := by
  go_enter Try.func85, Try.ntmps85
  go_wp2_with (go_at_call 51; refine (within_any _ _ _ _).mono ?_; rintro e w' ⟨rfl, rfl⟩)
  all_goals
    go_ret
    refine ⟨ret_bool ?_, (Below.refl _ _).alloc (Nat.le_refl _) _⟩
    rw [Bool.eq_iff_iff]; simp only [wthn, ancB, decide_eq_true_eq, Bool.false_eq_true, false_iff, true_iff] at *; omega

set_option maxHeartbeats 400000 in
theorem fieldsOf_any (t k : Int) (w : World) :
    Calls Try.prog 68 #[.int .u8 t, .int .u8 k] w fun e w' => e = .returned (.tuple #[.agg #[.bool (fText t k), .bool (fAmount t), .bool (fAnchor t)], .bool (fKind t k)]) ∧ Below w.heap.size w w' := by
  go_enter Try.func68, Try.ntmps68
  go_wp2
  all_goals
    refine bodyPost_ret (v := .tuple #[.agg #[.bool (fText t k), .bool (fAmount t), .bool (fAnchor t)], .bool (fKind t k)]) ?_ rfl ⟨rfl, ?_⟩
    · simp [results, Try.results68, go_sem]
      go_light
      simp only [beq_iff_eq, beq_eq_false_iff_ne] at *
      refine ⟨⟨?_, ?_, ?_⟩, ?_⟩ <;> (rw [Bool.eq_iff_iff]; simp only [fText, fAmount, fAnchor, fKind, decide_eq_true_eq, bne_iff_ne, beq_iff_eq, Bool.false_eq_true, iff_false, iff_true]; omega)
    · repeat (first | exact Below.refl _ _ | refine Below.alloc ?_ (by simp) _ | refine Below.setCell ?_ (by simp) _)
end Go.Proofs.Yteljbblbdiploaa
