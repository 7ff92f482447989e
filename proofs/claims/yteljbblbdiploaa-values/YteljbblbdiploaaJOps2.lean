/-
  PLAIN: the functions that the program and the document's answer compute, said of integers and lists of bytes; no Go text in sight.
-/
/-
  WALKS: the small functions of package check and of the document's answer.
-/
/-
  WALKS: what is an operation.
-/
/-
  WALKS: what is an operation: package check's Op.
-/
import Derived.Laws.Bits
import Derived.Test.YteljbblbdiploaaRows
import Derived.WalkKit
import Derived.WalkSpells
import Derived.WalkLawsBesides
import Derived.Deep.Light
namespace Go.Proofs.Yteljbblbdiploaa

/-- 'within'. -/
def wthn (n lo hi : Int) : Bool := decide (lo ≤ n ∧ n ≤ hi)

/-- an anchor that may be -/
def ancB (o s : Int) : Bool := decide ((o = 0 ∧ s = 0) ∨ (0 ≤ o ∧ o ≤ 7 ∧ 1 ≤ s ∧ s ≤ 1000))

/-- 'fieldsOf': is the text named? the amount? the anchor? is there such a kind? -/
def fText (t k : Int) : Bool := decide ((t = 0 ∧ k ≠ 2) ∨ t = 1 ∨ (t = 3 ∧ k = 0))
def fAmount (t : Int) : Bool := decide (t = 2)
def fAnchor (t : Int) : Bool := decide (t = 3)
def fKind (t k : Int) : Bool := decide ((t = 0 ∧ k ≤ 2) ∨ (t = 1 ∧ k = 0) ∨ (t = 2 ∧ k = 0) ∨ (t = 3 ∧ k ≤ 1))

/-- 'inBounds', of the lengths of name and text -/
def inbB (n x am o s : Int) : Bool := decide (1 ≤ n ∧ n ≤ 8 ∧ x ≤ 20 ∧ -1000 ≤ am ∧ am ≤ 1000 ∧ ancB o s = true)

/-- 'noOther', of the text's length -/
def noB (x am o s : Int) (ft fa fn : Bool) : Bool := decide ((ft = true ∨ x = 0) ∧ (fa = true ∨ am = 0) ∧ (fn = true ∨ (o = 0 ∧ s = 0)))

/-- an operation that may be: of type, kind, the lengths of name and text, amount, anchor -/
def opB (t k n x am o s : Int) : Bool := fKind t k && inbB n x am o s && noB x am o s (fText t k) (fAmount t) (fAnchor t)

/-- the same, as the document's answer has it -/
def refOpB (t k n x am o s : Int) : Bool :=
  decide ((ancB o s = true ∧ 1 ≤ n ∧ n ≤ 8 ∧ x ≤ 20 ∧ -1000 ≤ am ∧ am ≤ 1000) ∧
    ((t = 0 ∧ k < 3 ∧ am = 0 ∧ (o = 0 ∧ s = 0) ∧ (k < 2 ∨ x = 0)) ∨ (t = 1 ∧ k = 0 ∧ am = 0 ∧ (o = 0 ∧ s = 0)) ∨
     (t = 2 ∧ k = 0 ∧ x = 0 ∧ (o = 0 ∧ s = 0)) ∨ (t = 3 ∧ k < 2 ∧ am = 0 ∧ (k = 0 ∨ x = 0))))

theorem opB_same (t k n x am o s : Int) (hk : 0 ≤ k) : opB t k n x am o s = refOpB t k n x am o s := by
  rw [Bool.eq_iff_iff]
  simp only [opB, refOpB, fKind, inbB, noB, fText, fAmount, fAnchor, Bool.and_eq_true, decide_eq_true_eq]
  cases ancB o s <;> simp <;> omega

end Go.Proofs.Yteljbblbdiploaa

namespace Go.Proofs.Yteljbblbdiploaa
open Go.RowKit

theorem ret_bool {a b : Bool} (h : a = b) : Ending.returned (.bool a) = .returned (.bool b) := by rw [h]

theorem bcell {B : Nat} {W w1 : World} (hb : Below B W w1) : (∀ b o, b < B → w1.cell? ⟨b, o, none⟩ = W.cell? ⟨b, o, none⟩) ∧ (∀ b o, b < B → w1.frozen? ⟨b, o, none⟩ = W.frozen? ⟨b, o, none⟩) :=
  ⟨fun b o h => hb.cell (p := ⟨b, o, none⟩) h, fun b o h => hb.frozen (p := ⟨b, o, none⟩) h⟩

set_option maxHeartbeats 400000 in
theorem within_any (n lo hi : Int) (w : World) :
    Calls Try.prog 51 #[.int .i64 n, .int .i64 lo, .int .i64 hi] w fun e w' => e = .returned (.bool (wthn n lo hi)) ∧ w' = w := by
  go_enter Try.func51, Try.ntmps51
  go_wp2
  all_goals
    go_ret
    refine ⟨ret_bool ?_, rfl⟩
    rw [Bool.eq_iff_iff]; simp only [wthn, decide_eq_true_eq, Bool.false_eq_true, false_iff]; omega

set_option maxHeartbeats 400000 in
theorem name_any (s : ByteArray) (w : World) (_hs : s.size ≤ maxLen) :
    Calls Try.prog 38 #[.string s] w fun e w' => e = .returned (.bool (wthn s.size 1 8)) ∧ w' = w := by
  unfold maxLen at _hs
  go_enter Try.func38, Try.ntmps38
  go_wp2_with (go_at_call 51; refine (within_any _ _ _ _).mono ?_; rintro e w' ⟨rfl, rfl⟩)
  all_goals
    go_ret
    exact ⟨rfl, rfl⟩

set_option maxHeartbeats 400000 in
theorem refAnchor_any (o s : Int) (w : World) :
    Calls Try.prog 72 #[.agg #[.int .i64 o, .int .i64 s]] w fun e w' => e = .returned (.bool (ancB o s)) ∧ Below w.heap.size w w' := by
  go_enter Try.func72, Try.ntmps72
  go_wp2
  all_goals
    go_ret
    refine ⟨ret_bool ?_, (Below.refl _ _).alloc (Nat.le_refl _) _⟩
    rw [Bool.eq_iff_iff]; simp only [ancB, decide_eq_true_eq, Bool.false_eq_true, false_iff, true_iff, Bool.or_eq_true, beq_iff_eq, true_and]; omega

set_option maxHeartbeats 400000 in
theorem anchor_any (o s : Int) (w : World) :
    Calls Try.prog 85 #[.agg #[.int .i64 o, .int .i64 s]] w fun e w' => e = .returned (.bool (ancB o s)) ∧ Below w.heap.size w w' := by
  go_enter Try.func85, Try.ntmps85
  go_wp2_with (go_at_call 51; refine (within_any _ _ _ _).mono ?_; rintro e w' ⟨rfl, rfl⟩)
  all_goals
    go_ret
    refine ⟨ret_bool ?_, (Below.refl _ _).alloc (Nat.le_refl _) _⟩
    rw [Bool.eq_iff_iff]; simp only [wthn, ancB, decide_eq_true_eq, Bool.false_eq_true, false_iff, true_iff] at *; omega

set_option maxHeartbeats 400000 in
theorem fieldsOf_any (t k : Int) (w : World) :
    Calls Try.prog 68 #[.int .u8 t, .int .u8 k] w fun e w' => e = .returned (.tuple #[.agg #[.bool (fText t k), .bool (fAmount t), .bool (fAnchor t)], .bool (fKind t k)]) ∧ Below w.heap.size w w' := by
  go_enter Try.func68, Try.ntmps68
  go_wp2
  all_goals
    refine bodyPost_ret (v := .tuple #[.agg #[.bool (fText t k), .bool (fAmount t), .bool (fAnchor t)], .bool (fKind t k)]) ?_ rfl ⟨rfl, ?_⟩
    · simp [results, Try.results68, go_sem]
      go_light
      simp only [beq_iff_eq, beq_eq_false_iff_ne] at *
      refine ⟨⟨?_, ?_, ?_⟩, ?_⟩ <;> (rw [Bool.eq_iff_iff]; simp only [fText, fAmount, fAnchor, fKind, decide_eq_true_eq, bne_iff_ne, beq_iff_eq, Bool.false_eq_true, iff_false, iff_true]; omega)
    · repeat (first | exact Below.refl _ _ | refine Below.alloc ?_ (by simp) _ | refine Below.setCell ?_ (by simp) _)
end Go.Proofs.Yteljbblbdiploaa

namespace Go.Proofs.Yteljbblbdiploaa
open Go.RowKit

theorem toList_nil {b : ByteArray} : b.toList = [] ↔ (b.size : Int) = 0 := by
  rw [ByteArray.toList_eq, ← List.length_eq_zero_iff, Array.length_toList]
  show b.data.size = 0 ↔ (b.data.size : Int) = 0
  omega

set_option maxHeartbeats 400000 in
theorem inBounds_any (t k am o s : Int) (nm tx : ByteArray) (w : World) (hn : nm.size ≤ maxLen) (hx : tx.size ≤ maxLen) :
    Calls Try.prog 69 #[.agg #[.int .u8 t, .int .u8 k, .string nm, .string tx, .int .i64 am, .int .i64 o, .int .i64 s]] w
      fun e w' => e = .returned (.bool (inbB nm.size tx.size am o s)) ∧ Below w.heap.size w w' := by
  unfold maxLen at hn hx
  go_enter Try.func69, Try.ntmps69
  go_wp2_with (first | (go_at_call 38; refine (name_any _ _ (by unfold maxLen; omega)).mono ?_; rintro e w' ⟨rfl, rfl⟩) | (go_at_call 51; refine (within_any _ _ _ _).mono ?_; rintro e w' ⟨rfl, rfl⟩) | (go_at_call 85; refine (anchor_any _ _ _).mono ?_; rintro e w' ⟨rfl, hb⟩))
  all_goals
    go_ret
    go_light
    refine ⟨ret_bool ?_, ?_⟩
    · rw [Bool.eq_iff_iff]; simp only [wthn, inbB, decide_eq_true_eq, Bool.false_eq_true, false_iff] at *; first | omega | (cases ancB o s <;> simp <;> omega)
    · first | exact (Below.refl _ _).alloc (Nat.le_refl _) _ | exact ((Below.refl _ _).alloc (Nat.le_refl _) _).trans (hb.mono (by simp))

set_option maxHeartbeats 1000000 in
theorem noOther_any (t k am o s : Int) (nm tx : ByteArray) (a b c : Bool) (w : World) (_hn : nm.size ≤ maxLen) (_hx : tx.size ≤ maxLen) :
    Calls Try.prog 70 #[.agg #[.int .u8 t, .int .u8 k, .string nm, .string tx, .int .i64 am, .int .i64 o, .int .i64 s], .agg #[.bool a, .bool b, .bool c]] w
      fun e w' => e = .returned (.bool (noB tx.size am o s a b c)) ∧ Below w.heap.size w w' := by
  go_enter Try.func70, Try.ntmps70
  go_wp2
  all_goals
    go_ret
    go_light
    refine ⟨ret_bool ?_, ((Below.refl _ _).alloc (Nat.le_refl _) _).alloc (by simp) _⟩
    rw [Bool.eq_iff_iff]; simp only [toList_nil, noB, decide_eq_true_eq, Bool.false_eq_true, false_iff, true_iff, Bool.not_eq_true] at *
    simp_all
    done
end Go.Proofs.Yteljbblbdiploaa

namespace Go.Proofs.Yteljbblbdiploaa
open Go.RowKit

set_option maxHeartbeats 1000000 in
theorem op_any (t k am o s : Int) (nm tx : ByteArray) (w : World) (hn : nm.size ≤ maxLen) (hx : tx.size ≤ maxLen) :
    Calls Try.prog 52 #[.agg #[.int .u8 t, .int .u8 k, .string nm, .string tx, .int .i64 am, .int .i64 o, .int .i64 s]] w
      fun e w' => e = .returned (.bool (opB t k nm.size tx.size am o s)) ∧ Below w.heap.size w w' := by
  go_enter Try.func52, Try.ntmps52
  go_wp2_with fail
  refine (fieldsOf_any _ _ _).mono ?_
  rintro e w1 ⟨rfl, hb⟩
  obtain ⟨hc, hf⟩ := bcell hb
  have hz : w.heap.size < w1.heap.size := by have := hb.size; simp at this; omega
  have hb' : Below w.heap.size w (w1.alloc (.cells #[.bool (fText t k), .bool (fAmount t), .bool (fAnchor t)] 100)) := (((Below.refl _ _).alloc (Nat.le_refl _) _).trans (hb.mono (by simp))).alloc (by omega) _
  have hB : Hid (Below w.heap.size w (w1.alloc (.cells #[.bool (fText t k), .bool (fAmount t), .bool (fAnchor t)] 100))) := hb'
  clear hb' hb
  by_cases hk : fKind t k = true
  · go_wp2_with fail
    refine (inBounds_any _ _ _ _ _ _ _ _ hn hx).mono ?_
    rintro e w2 ⟨rfl, hb2⟩
    obtain ⟨hc2, hf2⟩ := bcell hb2
    by_cases hi : inbB nm.size tx.size am o s = true
    · go_wp2_with fail
      refine (noOther_any _ _ _ _ _ _ _ _ _ _ _ hn hx).mono ?_
      rintro e w3 ⟨rfl, hb3⟩
      go_wp2_with fail
      go_ret
      refine ⟨ret_bool (by simp [opB, hk, hi]), (hB.out.trans (hb2.mono (by simp; omega))).trans (hb3.mono (by have := hb2.size; simp at this; omega))⟩
    · go_wp2_with fail
      go_ret
      refine ⟨ret_bool (by simp [opB, hi]), hB.out.trans (hb2.mono (by simp; omega))⟩
  · go_wp2_with fail
    go_ret
    refine ⟨ret_bool (by simp [opB, hk]), hB.out⟩
end Go.Proofs.Yteljbblbdiploaa
