/-
  PLAIN: the check sum, bit by bit; no Go text in sight.
-/
import Derived.Laws.BitsAllLaws
namespace Go.Proofs.Yteljbblbdiploaa

def poly : Nat := 3988292384
/-- one bit moved out -/
def bitStep (s : Nat) : Nat := if s % 2 = 1 then (s / 2) ^^^ poly else s / 2
def bitSteps : Nat → Nat → Nat
  | 0, s => s
  | k + 1, s => bitStep (bitSteps k s)
/-- one byte -/
def crcByte (c b : Nat) : Nat := bitSteps 8 (c ^^^ b)
def crcRaw (l : List UInt8) : Nat := l.foldl (fun c b => crcByte c b.toNat) 4294967295
def crcSum (l : List UInt8) : Nat := 4294967295 - crcRaw l

theorem xor_lt (a b : Nat) (ha : a < 4294967296) (hb : b < 4294967296) : a ^^^ b < 4294967296 := Nat.xor_lt_two_pow (n := 32) ha hb
theorem poly_lt : poly < 4294967296 := by unfold poly; omega
theorem bitStep_lt (s : Nat) (h : s < 4294967296) : bitStep s < 4294967296 := by
  unfold bitStep
  split
  · exact xor_lt _ _ (by omega) poly_lt
  · omega
theorem bitSteps_lt (k s : Nat) (h : s < 4294967296) : bitSteps k s < 4294967296 := by
  induction k with
  | zero => exact h
  | succ k ih => exact bitStep_lt _ ih
theorem crcByte_lt (c b : Nat) (hc : c < 4294967296) (hb : b < 256) : crcByte c b < 4294967296 := bitSteps_lt _ _ (xor_lt _ _ hc (by omega))
theorem crcRaw_snoc (l : List UInt8) (b : UInt8) : crcRaw (l ++ [b]) = crcByte (crcRaw l) b.toNat := by simp [crcRaw]
theorem foldl_lt (l : List UInt8) : ∀ c, c < 4294967296 → l.foldl (fun c b => crcByte c b.toNat) c < 4294967296 := by
  induction l with
  | nil => intro c h; exact h
  | cons b l ih => intro c h; exact ih _ (crcByte_lt _ _ h b.toNat_lt)
theorem crcRaw_lt (l : List UInt8) : crcRaw l < 4294967296 := foldl_lt l _ (by omega)

/-- the document's way: sum and byte apart -/
def refC (c x : Nat) : Nat → Nat
  | 0 => c
  | k + 1 => if refC c x k % 2 ≠ (x / 2 ^ k) % 2 then (refC c x k / 2) ^^^ poly else refC c x k / 2

theorem xor_half (a b : Nat) : (a ^^^ b) / 2 = (a / 2) ^^^ (b / 2) := by
  have := Nat.shiftRight_xor_distrib (a := a) (b := b) (i := 1)
  simpa [Nat.shiftRight_eq_div_pow] using this
theorem xor_mod2 (a b : Nat) : (a ^^^ b) % 2 = 1 ↔ a % 2 ≠ b % 2 := by
  have h := Nat.testBit_xor a b 0
  simp only [Nat.testBit_zero] at h
  rw [← decide_eq_true_iff (p := (a ^^^ b) % 2 = 1), h]
  rcases Nat.mod_two_eq_zero_or_one a with h1 | h1 <;> rcases Nat.mod_two_eq_zero_or_one b with h2 | h2 <;> simp [h1, h2]
theorem refC_steps (c x k : Nat) : refC c x k ^^^ (x / 2 ^ k) = bitSteps k (c ^^^ x) := by
  induction k with
  | zero => simp [refC, bitSteps]
  | succ k ih =>
    have hx : x / 2 ^ (k + 1) = (x / 2 ^ k) / 2 := by rw [Nat.pow_succ, Nat.div_div_eq_div_mul]
    simp only [refC, bitSteps]
    rw [← ih, hx, bitStep]
    by_cases h : refC c x k % 2 ≠ (x / 2 ^ k) % 2
    · rw [if_pos h, if_pos ((xor_mod2 _ _).2 h), xor_half, Nat.xor_assoc, Nat.xor_comm poly, Nat.xor_assoc]
    · rw [if_neg h, if_neg (fun q => h ((xor_mod2 _ _).1 q)), xor_half]
theorem refC_eight (c x : Nat) (h : x < 256) : refC c x 8 = crcByte c x := by
  have := refC_steps c x 8
  rw [show x / 2 ^ 8 = 0 from by omega] at this
  simpa [crcByte] using this
theorem refC_lt (c x k : Nat) (hc : c < 4294967296) : refC c x k < 4294967296 := by
  induction k with
  | zero => exact hc
  | succ k ih =>
    simp only [refC]
    split
    · exact xor_lt _ _ (by omega) poly_lt
    · omega
/-- all bits turned over -/
theorem flip_all (x : Nat) (h : x < 4294967296) : 4294967295 ^^^ x = 4294967295 - x := by
  have h1 := congrArg BitVec.toNat (BitVec.allOnes_xor (x := BitVec.ofNat 32 x))
  rw [BitVec.toNat_xor, BitVec.toNat_not, BitVec.toNat_allOnes, BitVec.toNat_ofNat, Nat.mod_eq_of_lt (show x < 2 ^ 32 from h)] at h1
  exact h1
end Go.Proofs.Yteljbblbdiploaa
