/-
  PLAIN: the functions that the program and the document's answer compute, said of integers and lists of bytes; no Go text in sight.
-/
import Derived.Laws.Bits
namespace Go.Proofs.Yteljbblbdiploaa

/-- 'within'. -/
def wthn (n lo hi : Int) : Bool := decide (lo ≤ n ∧ n ≤ hi)

/-- an anchor that may be -/
def ancB (o s : Int) : Bool := decide ((o = 0 ∧ s = 0) ∨ (0 ≤ o ∧ o ≤ 7 ∧ 1 ≤ s ∧ s ≤ 1000))

/-- 'fieldsOf': is the text named? the amount? the anchor? is there such a kind? -/
def fText (t k : Int) : Bool := decide ((t = 0 ∧ k ≠ 2) ∨ t = 1 ∨ (t = 3 ∧ k = 0))
def fAmount (t : Int) : Bool := decide (t = 2)
def fAnchor (t : Int) : Bool := decide (t = 3)
def fKind (t k : Int) : Bool := decide ((t = 0 ∧ k ≤ 2) ∨ (t = 1 ∧ k = 0) ∨ (t = 2 ∧ k = 0) ∨ (t = 3 ∧ k ≤ 1))

/-- 'inBounds', of the lengths of name and text -/
def inbB (n x am o s : Int) : Bool := decide (1 ≤ n ∧ n ≤ 8 ∧ x ≤ 20 ∧ -1000 ≤ am ∧ am ≤ 1000 ∧ ancB o s = true)

/-- 'noOther', of the text's length -/
def noB (x am o s : Int) (ft fa fn : Bool) : Bool := decide ((ft = true ∨ x = 0) ∧ (fa = true ∨ am = 0) ∧ (fn = true ∨ (o = 0 ∧ s = 0)))

/-- an operation that may be: of type, kind, the lengths of name and text, amount, anchor -/
def opB (t k n x am o s : Int) : Bool := fKind t k && inbB n x am o s && noB x am o s (fText t k) (fAmount t) (fAnchor t)

/-- the same, as the document's answer has it -/
def refOpB (t k n x am o s : Int) : Bool :=
  decide ((ancB o s = true ∧ 1 ≤ n ∧ n ≤ 8 ∧ x ≤ 20 ∧ -1000 ≤ am ∧ am ≤ 1000) ∧
    ((t = 0 ∧ k < 3 ∧ am = 0 ∧ (o = 0 ∧ s = 0) ∧ (k < 2 ∨ x = 0)) ∨ (t = 1 ∧ k = 0 ∧ am = 0 ∧ (o = 0 ∧ s = 0)) ∨
     (t = 2 ∧ k = 0 ∧ x = 0 ∧ (o = 0 ∧ s = 0)) ∨ (t = 3 ∧ k < 2 ∧ am = 0 ∧ (k = 0 ∨ x = 0))))

theorem opB_same (t k n x am o s : Int) (hk : 0 ≤ k) : opB t k n x am o s = refOpB t k n x am o s := by
  rw [Bool.eq_iff_iff]
  simp only [opB, refOpB, fKind, inbB, noB, fText, fAmount, fAnchor, Bool.and_eq_true, decide_eq_true_eq]
  cases ancB o s <;> simp <;> omega

end Go.Proofs.Yteljbblbdiploaa
