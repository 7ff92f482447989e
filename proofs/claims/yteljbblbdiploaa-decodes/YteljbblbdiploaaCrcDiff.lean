/-
  PLAIN: a byte that is another one changes the check sum; no Go text in sight.
-/
import Derived.Test.YteljbblbdiploaaEnc
namespace Go.Proofs.Yteljbblbdiploaa

theorem xor_cancel {a b c : Nat} (h : a ^^^ c = b ^^^ c) : a = b := by
  have := congrArg (· ^^^ c) h
  simpa [Nat.xor_assoc] using this
theorem poly_top (x : Nat) (h : x < 2147483648) : 2147483648 ≤ x ^^^ poly := by
  have hb : (x ^^^ poly).testBit 31 = true := by
    rw [Nat.testBit_xor, Nat.testBit_lt_two_pow (show x < 2 ^ 31 from h)]
    decide +kernel
  exact Nat.ge_two_pow_of_testBit hb
theorem bitStep_inj {a b : Nat} (ha : a < 4294967296) (hb : b < 4294967296) (h : bitStep a = bitStep b) : a = b := by
  unfold bitStep at h
  by_cases h1 : a % 2 = 1 <;> by_cases h2 : b % 2 = 1
  · rw [if_pos h1, if_pos h2] at h
    have := xor_cancel h
    omega
  · rw [if_pos h1, if_neg h2] at h
    have := poly_top (a / 2) (by omega)
    omega
  · rw [if_neg h1, if_pos h2] at h
    have := poly_top (b / 2) (by omega)
    omega
  · rw [if_neg h1, if_neg h2] at h
    omega
theorem bitSteps_inj (k : Nat) {a b : Nat} (ha : a < 4294967296) (hb : b < 4294967296) (h : bitSteps k a = bitSteps k b) : a = b := by
  induction k with
  | zero => exact h
  | succ k ih => exact ih (bitStep_inj (bitSteps_lt k a ha) (bitSteps_lt k b hb) h)
theorem crcByte_inj {c c' b : Nat} (hc : c < 4294967296) (hc' : c' < 4294967296) (hb : b < 256) (h : crcByte c b = crcByte c' b) : c = c' :=
  xor_cancel (bitSteps_inj 8 (xor_lt _ _ hc (by omega)) (xor_lt _ _ hc' (by omega)) h)
theorem crcByte_byte {c b b' : Nat} (hc : c < 4294967296) (hb : b < 256) (hb' : b' < 256) (h : crcByte c b = crcByte c b') : b = b' := by
  have := bitSteps_inj 8 (xor_lt _ _ hc (by omega)) (xor_lt _ _ hc (by omega)) h
  rw [Nat.xor_comm c b, Nat.xor_comm c b'] at this
  exact xor_cancel this
theorem fold_inj (l : List UInt8) : ∀ {c c' : Nat}, c < 4294967296 → c' < 4294967296 → l.foldl (fun c b => crcByte c b.toNat) c = l.foldl (fun c b => crcByte c b.toNat) c' → c = c' := by
  induction l with
  | nil => intro c c' _ _ h; exact h
  | cons b l ih =>
    intro c c' hc hc' h
    exact crcByte_inj hc hc' b.toNat_lt (ih (crcByte_lt _ _ hc b.toNat_lt) (crcByte_lt _ _ hc' b.toNat_lt) h)
/-- ONE BYTE THAT IS ANOTHER ONE: another sum. -/
theorem crc_other (a c : List UInt8) (b b' : UInt8) (h : crcSum (a ++ b :: c) = crcSum (a ++ b' :: c)) : b = b' := by
  have h1 := crcRaw_lt (a ++ b :: c)
  have h2 := crcRaw_lt (a ++ b' :: c)
  have h3 : crcRaw (a ++ b :: c) = crcRaw (a ++ b' :: c) := by unfold crcSum at h; omega
  simp only [crcRaw, List.foldl_append, List.foldl_cons] at h3
  have hc := foldl_lt a 4294967295 (by omega)
  have h4 := fold_inj c (crcByte_lt _ _ hc b.toNat_lt) (crcByte_lt _ _ hc b'.toNat_lt) h3
  exact UInt8.toNat_inj.1 (crcByte_byte hc b.toNat_lt b'.toNat_lt h4)

theorem crcSum_lt' (l : List UInt8) : crcSum l < 4294967296 := by unfold crcSum; omega
theorem lastB_inj {a b : Nat} (ha : a < 4294967296) (hb : b < 4294967296) (h : lastB a 4 = lastB b 4) : a = b := by
  simp only [lastB, List.cons.injEq, and_true] at h
  obtain ⟨h3, h2, h1, h0⟩ := h
  have g3 := congrArg UInt8.toNat h3
  have g2 := congrArg UInt8.toNat h2
  have g1 := congrArg UInt8.toNat h1
  have g0 := congrArg UInt8.toNat h0
  simp only [UInt8.toNat_ofNat'] at g0 g1 g2 g3
  simp at g0 g1 g2 g3
  omega

/-- WHAT BEARS A RIGHT SUM BEARS NONE WITH ONE BYTE CHANGED. -/
theorem sum_other {l m : List UInt8} {i : Nat} {v : UInt8} (hi : i < (withSum l).length) (hv : v ≠ (withSum l)[i]) (h : withSum m = (withSum l).set i v) : False := by
  have hlen : m.length = l.length := by
    have := congrArg List.length h
    simp only [withSum, List.length_append, lastB_len, List.length_set] at this
    omega
  have e1 : m = ((withSum l).set i v).take l.length := by
    rw [← h, withSum, ← hlen, List.take_left]
  have e2 : lastB (crcSum m) 4 = ((withSum l).set i v).drop l.length := by
    rw [← h, withSum, ← hlen, List.drop_left]
  by_cases hb : i < l.length
  · have hset : (withSum l).set i v = l.set i v ++ lastB (crcSum l) 4 := by rw [withSum, List.set_append_left _ _ hb]
    rw [hset, ← List.length_set (as := l) (i := i) (a := v), List.take_left] at e1
    rw [hset, ← List.length_set (as := l) (i := i) (a := v), List.drop_left] at e2
    have hc : crcSum m = crcSum l := lastB_inj (crcSum_lt' m) (crcSum_lt' l) e2
    have hl : l = l.take i ++ l[i] :: l.drop (i + 1) := by rw [List.getElem_cons_drop, List.take_append_drop]
    have hm : m = l.take i ++ v :: l.drop (i + 1) := by rw [e1, List.set_eq_take_append_cons_drop, if_pos hb]
    have hvi : v = l[i] := by
      refine crc_other (l.take i) (l.drop (i + 1)) v l[i] ?_
      rw [← hm, ← hl, hc]
    apply hv
    rw [hvi]
    simp [withSum, hb]
  · have hi' : i < l.length + 4 := by simpa [withSum, lastB_len] using hi
    have hset : (withSum l).set i v = l ++ (lastB (crcSum l) 4).set (i - l.length) v := by rw [withSum, List.set_append_right _ _ (by omega)]
    rw [hset, List.take_left] at e1
    rw [hset, List.drop_left, e1] at e2
    apply hv
    have h5 := congrArg (fun q => q[i - l.length]?) e2
    simp only [List.getElem?_set] at h5
    rw [if_pos trivial, if_pos (by rw [lastB_len]; omega)] at h5
    have h6 : (withSum l)[i]? = some v := by
      rw [withSum, List.getElem?_append_right (by omega)]; exact h5
    rw [List.getElem?_eq_getElem hi] at h6
    exact (Option.some.inj h6).symm
end Go.Proofs.Yteljbblbdiploaa
