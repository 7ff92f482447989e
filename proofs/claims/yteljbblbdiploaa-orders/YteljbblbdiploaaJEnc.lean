/-
  PLAIN: the check sum, bit by bit; no Go text in sight.
-/
/-
  PLAIN: the model's bit operations, met by the check sum's own words.
-/
/-
  WALKS: the check sum, of the program and of the document's answer.
-/
/-
  PLAIN: an update as bytes; no Go text in sight.
-/
import Derived.Laws.BitsAllLaws
import Derived.Laws.BitsLemmas
import Derived.Test.YteljbblbdiploaaRows
import Derived.WalkKit
import Derived.WalkSpells
import Derived.WalkLawsBesides
import Derived.Deep.Light
namespace Go.Proofs.Yteljbblbdiploaa

def poly : Nat := 3988292384
/-- one bit moved out -/
def bitStep (s : Nat) : Nat := if s % 2 = 1 then (s / 2) ^^^ poly else s / 2
def bitSteps : Nat → Nat → Nat
  | 0, s => s
  | k + 1, s => bitStep (bitSteps k s)
/-- one byte -/
def crcByte (c b : Nat) : Nat := bitSteps 8 (c ^^^ b)
def crcRaw (l : List UInt8) : Nat := l.foldl (fun c b => crcByte c b.toNat) 4294967295
def crcSum (l : List UInt8) : Nat := 4294967295 - crcRaw l

theorem xor_lt (a b : Nat) (ha : a < 4294967296) (hb : b < 4294967296) : a ^^^ b < 4294967296 := Nat.xor_lt_two_pow (n := 32) ha hb
theorem poly_lt : poly < 4294967296 := by unfold poly; omega
theorem bitStep_lt (s : Nat) (h : s < 4294967296) : bitStep s < 4294967296 := by
  unfold bitStep
  split
  · exact xor_lt _ _ (by omega) poly_lt
  · omega
theorem bitSteps_lt (k s : Nat) (h : s < 4294967296) : bitSteps k s < 4294967296 := by
  induction k with
  | zero => exact h
  | succ k ih => exact bitStep_lt _ ih
theorem crcByte_lt (c b : Nat) (hc : c < 4294967296) (hb : b < 256) : crcByte c b < 4294967296 := bitSteps_lt _ _ (xor_lt _ _ hc (by omega))
theorem crcRaw_snoc (l : List UInt8) (b : UInt8) : crcRaw (l ++ [b]) = crcByte (crcRaw l) b.toNat := by simp [crcRaw]
theorem foldl_lt (l : List UInt8) : ∀ c, c < 4294967296 → l.foldl (fun c b => crcByte c b.toNat) c < 4294967296 := by
  induction l with
  | nil => intro c h; exact h
  | cons b l ih => intro c h; exact ih _ (crcByte_lt _ _ h b.toNat_lt)
theorem crcRaw_lt (l : List UInt8) : crcRaw l < 4294967296 := foldl_lt l _ (by omega)

/-- the document's way: sum and byte apart -/
def refC (c x : Nat) : Nat → Nat
  | 0 => c
  | k + 1 => if refC c x k % 2 ≠ (x / 2 ^ k) % 2 then (refC c x k / 2) ^^^ poly else refC c x k / 2

theorem xor_half (a b : Nat) : (a ^^^ b) / 2 = (a / 2) ^^^ (b / 2) := by
  have := Nat.shiftRight_xor_distrib (a := a) (b := b) (i := 1)
  simpa [Nat.shiftRight_eq_div_pow] using this
theorem xor_mod2 (a b : Nat) : (a ^^^ b) % 2 = 1 ↔ a % 2 ≠ b % 2 := by
  have h := Nat.testBit_xor a b 0
  simp only [Nat.testBit_zero] at h
  rw [← decide_eq_true_iff (p := (a ^^^ b) % 2 = 1), h]
  rcases Nat.mod_two_eq_zero_or_one a with h1 | h1 <;> rcases Nat.mod_two_eq_zero_or_one b with h2 | h2 <;> simp [h1, h2]
theorem refC_steps (c x k : Nat) : refC c x k ^^^ (x / 2 ^ k) = bitSteps k (c ^^^ x) := by
  induction k with
  | zero => simp [refC, bitSteps]
  | succ k ih =>
    have hx : x / 2 ^ (k + 1) = (x / 2 ^ k) / 2 := by rw [Nat.pow_succ, Nat.div_div_eq_div_mul]
    simp only [refC, bitSteps]
    rw [← ih, hx, bitStep]
    by_cases h : refC c x k % 2 ≠ (x / 2 ^ k) % 2
    · rw [if_pos h, if_pos ((xor_mod2 _ _).2 h), xor_half, Nat.xor_assoc, Nat.xor_comm poly, Nat.xor_assoc]
    · rw [if_neg h, if_neg (fun q => h ((xor_mod2 _ _).1 q)), xor_half]
theorem refC_eight (c x : Nat) (h : x < 256) : refC c x 8 = crcByte c x := by
  have := refC_steps c x 8
  rw [show x / 2 ^ 8 = 0 from by omega] at this
  simpa [crcByte] using this
theorem refC_lt (c x k : Nat) (hc : c < 4294967296) : refC c x k < 4294967296 := by
  induction k with
  | zero => exact hc
  | succ k ih =>
    simp only [refC]
    split
    · exact xor_lt _ _ (by omega) poly_lt
    · omega
/-- all bits turned over -/
theorem flip_all (x : Nat) (h : x < 4294967296) : 4294967295 ^^^ x = 4294967295 - x := by
  have h1 := congrArg BitVec.toNat (BitVec.allOnes_xor (x := BitVec.ofNat 32 x))
  rw [BitVec.toNat_xor, BitVec.toNat_not, BitVec.toNat_allOnes, BitVec.toNat_ofNat, Nat.mod_eq_of_lt (show x < 2 ^ 32 from h)] at h1
  exact h1
end Go.Proofs.Yteljbblbdiploaa

namespace Go.Proofs.Yteljbblbdiploaa

theorem i64_xor_nat (a b : Nat) (ha : a < 4294967296) (hb : b < 4294967296) : bits .xor .i64 (a : Int) (b : Int) = ((a ^^^ b : Nat) : Int) := by
  have hx : a ^^^ b < 4294967296 := xor_lt a b ha hb
  have ha' : a % 2 ^ 64 = a := Nat.mod_eq_of_lt (by omega)
  have hb' : b % 2 ^ 64 = b := Nat.mod_eq_of_lt (by omega)
  have he : (BitVec.ofInt IntKind.i64.bits (a : Int) ^^^ BitVec.ofInt IntKind.i64.bits (b : Int)).toNat = a ^^^ b := by
    rw [BitVec.toNat_xor, BitVec.ofInt_natCast, BitVec.ofInt_natCast, BitVec.toNat_ofNat, BitVec.toNat_ofNat]
    show a % 2 ^ 64 ^^^ b % 2 ^ 64 = _
    rw [ha', hb']
  simp only [bits]
  rw [he, IntKind.wrap_i64]
  omega

theorem and_one (x : Nat) (h : x < 4294967296) : bits .and .u32 (x : Int) 1 = ((x % 2 : Nat) : Int) := by
  have := u32_and_nat x 1 h (by omega)
  simpa [Nat.and_one_is_mod] using this
theorem shift_hit (x : Nat) (h : x < 4294967296) (ht : (bits .and .u32 (x : Int) 1 == 1) = true) : bits .xor .u32 ((x : Int) / 2) 3988292384 = ((bitStep x : Nat) : Int) := by
  rw [and_one x h] at ht
  have h0 : ((x % 2 : Nat) : Int) = 1 := beq_iff_eq.1 ht
  have h1 : x % 2 = 1 := by omega
  have := u32_xor_nat (x / 2) 3988292384 (by omega) (by omega)
  rw [bitStep, if_pos h1]
  simpa [poly] using this
theorem shift_miss (x : Nat) (h : x < 4294967296) (ht : (bits .and .u32 (x : Int) 1 == 1) = false) : (x : Int) / 2 = ((bitStep x : Nat) : Int) := by
  rw [and_one x h] at ht
  have h1 : ¬ x % 2 = 1 := by intro q; rw [q] at ht; simp at ht
  rw [bitStep, if_neg h1]
  omega
end Go.Proofs.Yteljbblbdiploaa

namespace Go.Proofs.Yteljbblbdiploaa
open Go.RowKit

theorem ret_int {k : IntKind} {a b : Int} (h : a = b) : Ending.returned (.int k a) = .returned (.int k b) := by rw [h]
theorem val_int {k : IntKind} {a b : Int} (h : a = b) : Value.int k a = .int k b := by rw [h]

set_option maxHeartbeats 400000 in
theorem shift_any (s : Nat) (w : World) (h1 : s < 4294967296) :
    Calls Try.prog 71 #[.int .u32 s] w fun e w' => e = .returned (.int .u32 (bitSteps 8 s : Nat)) ∧ w' = w := by
  go_enter Try.func71, Try.ntmps71
  go_wp2
  go_loop [0, 4] (fun t i => ∃ k : Nat, k ≤ 8 ∧ i = .int .i64 k ∧ t = .int .u32 (bitSteps k s : Nat)) (fun _ i => 8 - (intOf i).toNat)
  case atStart => exact ⟨0, by omega, rfl, rfl⟩
  case round =>
    obtain ⟨k, hk, rfl, rfl⟩ := hrel
    have hx := bitSteps_lt k s h1
    have HS : Hid (bitSteps (k + 1) s = bitStep (bitSteps k s)) := rfl
    generalize hx0 : bitSteps k s = x at *
    have HX : Hid (bitSteps k s = x) := hx0
    clear hx0
    by_cases hlt : k < 8
    · go_wp2
      · go_round
        case rel => exact ⟨k + 1, by omega, by go_num, by rw [HS.out]; exact val_int (shift_hit x hx (by assumption))⟩
        case measure => simp [intOf]; omega
      · go_round
        case rel => exact ⟨k + 1, by omega, by go_num, by rw [HS.out]; exact val_int (shift_miss x hx (by assumption))⟩
        case measure => simp [intOf]; omega
    · go_wp2
      go_ret
      have h8 : k = 8 := by omega
      have hr : bitSteps 8 s = x := by rw [← h8]; exact HX.out
      exact ⟨by rw [hr]; rfl, rfl⟩

set_option maxHeartbeats 400000 in
theorem sum_any (b off : Nat) (xs : List UInt8) (cap : Nat) (w : World) (hl : xs.length ≤ 1000000) (hc : ∀ k, k < xs.length → w.cell? ⟨b, off + k, none⟩ = some (.int .u8 ((xs.getD k 0).toNat : Nat))) :
    Calls Try.prog 53 #[.slice (some ⟨b, off, none⟩) xs.length cap] w fun e w' => e = .returned (.int .u32 (crcSum xs : Nat)) ∧ w' = w := by
  have HC : Hid (∀ k, k < xs.length → w.cell? ⟨b, off + k, none⟩ = some (.int .u8 ((xs.getD k 0).toNat : Nat))) := hc
  clear hc
  go_enter Try.func53, Try.ntmps53
  go_wp2
  go_loop [3, 8] (fun t i => ∃ k : Nat, k ≤ xs.length ∧ i = .int .i64 k ∧ t = .int .u32 (crcRaw (xs.take k) : Nat)) (fun _ i => xs.length - (intOf i).toNat)
  case atStart => exact ⟨0, by omega, rfl, rfl⟩
  case round =>
    obtain ⟨k, hk, rfl, rfl⟩ := hrel
    have hx := crcRaw_lt (xs.take k)
    by_cases hlt : k < xs.length
    · have hcell := HC.out k hlt
      have HS : Hid (crcRaw (xs.take (k + 1)) = crcByte (crcRaw (xs.take k)) (xs.getD k 0).toNat) := by
        show _ = _
        rw [List.take_succ_eq_append_getElem hlt, crcRaw_snoc]; simp [hlt]
      have hb : (xs.getD k 0).toNat < 256 := (xs.getD k 0).toNat_lt
      generalize crcRaw (xs.take k) = x at *
      generalize (xs.getD k 0).toNat = y at *
      have hxy := xor_lt x y hx (by omega)
      have hbits := u32_xor_nat x y hx (by omega)
      go_wp2_with fail
      refine (shift_any (x ^^^ y) _ hxy).mono ?_
      rintro e w' ⟨rfl, rfl⟩
      go_wp2
      go_round
      case rel => exact ⟨k + 1, by omega, by go_num, by rw [HS.out]; rfl⟩
      case measure => simp [intOf]; omega
    · have hxs : xs.take k = xs := List.take_of_length_le (by omega)
      have hn := u32_xor_nat 4294967295 (crcRaw xs) (by omega) (crcRaw_lt xs)
      have hm : 4294967295 ^^^ crcRaw xs = 4294967295 - crcRaw xs := flip_all _ (crcRaw_lt xs)
      have HN : Hid (bits .xor .u32 4294967295 (crcRaw xs : Nat) = ((crcSum xs : Nat) : Int)) := by
        show _ = _
        rw [crcSum, ← hm]; exact hn
      rw [hxs]
      clear hn hm
      go_wp2
      go_ret
      exact ⟨ret_int HN.out, rfl⟩
end Go.Proofs.Yteljbblbdiploaa

namespace Go.Proofs.Yteljbblbdiploaa

/-- the last k bytes of a number, the highest first -/
def lastB (v : Nat) : Nat → List UInt8
  | 0 => []
  | k + 1 => UInt8.ofNat (v / 256 ^ k % 256) :: lastB v k

theorem lastB_len (v k : Nat) : (lastB v k).length = k := by
  induction k with
  | zero => rfl
  | succ k ih => simp [lastB, ih]

/-- the clock's numbers, two bytes each -/
def clkBytes : List Int → List UInt8
  | [] => []
  | z :: zs => lastB z.toNat 2 ++ clkBytes zs
theorem clkBytes_app (a b : List Int) : clkBytes (a ++ b) = clkBytes a ++ clkBytes b := by
  induction a with
  | nil => rfl
  | cons z a ih => simp [clkBytes, ih]
theorem clkBytes_len (zs : List Int) : (clkBytes zs).length = 2 * zs.length := by
  induction zs with
  | nil => rfl
  | cons z zs ih => simp [clkBytes, ih, lastB_len]; omega

def encHead (zs : List Int) : List UInt8 := lastB zs.length 1 ++ clkBytes zs
def encTail (org t k : Int) (nm tx : List UInt8) (am o s : Int) : List UInt8 :=
  lastB org.toNat 1 ++ lastB t.toNat 1 ++ lastB k.toNat 1 ++ lastB nm.length 1 ++ nm ++ lastB tx.length 1 ++ tx ++ lastB (am + 1000).toNat 2 ++ lastB o.toNat 1 ++ lastB s.toNat 2
def encBody (org : Int) (zs : List Int) (t k : Int) (nm tx : List UInt8) (am o s : Int) : List UInt8 := encHead zs ++ encTail org t k nm tx am o s
def withSum (l : List UInt8) : List UInt8 := l ++ lastB (crcSum l) 4

theorem encTail_len (org t k : Int) (nm tx : List UInt8) (am o s : Int) : (encTail org t k nm tx am o s).length = nm.length + tx.length + 10 := by
  simp [encTail, lastB_len]; omega
theorem encBody_len (org : Int) (zs : List Int) (t k : Int) (nm tx : List UInt8) (am o s : Int) : (encBody org zs t k nm tx am o s).length = 2 * zs.length + nm.length + tx.length + 11 := by
  simp [encBody, encHead, lastB_len, clkBytes_len, encTail_len]; omega
end Go.Proofs.Yteljbblbdiploaa
