/-
  PLAIN: the model's bit operations, met by the check sum's own words.
-/
import Derived.Test.YteljbblbdiploaaCrcPlain
import Derived.Laws.BitsLemmas
namespace Go.Proofs.Yteljbblbdiploaa

theorem i64_xor_nat (a b : Nat) (ha : a < 4294967296) (hb : b < 4294967296) : bits .xor .i64 (a : Int) (b : Int) = ((a ^^^ b : Nat) : Int) := by
  have hx : a ^^^ b < 4294967296 := xor_lt a b ha hb
  have ha' : a % 2 ^ 64 = a := Nat.mod_eq_of_lt (by omega)
  have hb' : b % 2 ^ 64 = b := Nat.mod_eq_of_lt (by omega)
  have he : (BitVec.ofInt IntKind.i64.bits (a : Int) ^^^ BitVec.ofInt IntKind.i64.bits (b : Int)).toNat = a ^^^ b := by
    rw [BitVec.toNat_xor, BitVec.ofInt_natCast, BitVec.ofInt_natCast, BitVec.toNat_ofNat, BitVec.toNat_ofNat]
    show a % 2 ^ 64 ^^^ b % 2 ^ 64 = _
    rw [ha', hb']
  simp only [bits]
  rw [he, IntKind.wrap_i64]
  omega

theorem and_one (x : Nat) (h : x < 4294967296) : bits .and .u32 (x : Int) 1 = ((x % 2 : Nat) : Int) := by
  have := u32_and_nat x 1 h (by omega)
  simpa [Nat.and_one_is_mod] using this
theorem shift_hit (x : Nat) (h : x < 4294967296) (ht : (bits .and .u32 (x : Int) 1 == 1) = true) : bits .xor .u32 ((x : Int) / 2) 3988292384 = ((bitStep x : Nat) : Int) := by
  rw [and_one x h] at ht
  have h0 : ((x % 2 : Nat) : Int) = 1 := beq_iff_eq.1 ht
  have h1 : x % 2 = 1 := by omega
  have := u32_xor_nat (x / 2) 3988292384 (by omega) (by omega)
  rw [bitStep, if_pos h1]
  simpa [poly] using this
theorem shift_miss (x : Nat) (h : x < 4294967296) (ht : (bits .and .u32 (x : Int) 1 == 1) = false) : (x : Int) / 2 = ((bitStep x : Nat) : Int) := by
  rw [and_one x h] at ht
  have h1 : ¬ x % 2 = 1 := by intro q; rw [q] at ht; simp at ht
  rw [bitStep, if_neg h1]
  omega
end Go.Proofs.Yteljbblbdiploaa
