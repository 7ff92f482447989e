/-
  WALKS: the document's answer's numbers as bytes.
-/
/-
  WALKS: the document's own check sum, and numbers as bytes.
-/
import Derived.Test.YteljbblbdiploaaJEnc
import Derived.Laws.BytesArg
namespace Go.Proofs.Yteljbblbdiploaa
open Go.RowKit

theorem conv_one (W : World) (x : Int) : (convert 58 9 (.slice (some ⟨W.heap.size, 0, none⟩) 1 1)).run Try.prog (W.alloc (.cells #[.int .u8 x] 5)) = .ok (.string ⟨#[UInt8.ofNat x.toNat]⟩) (W.alloc (.cells #[.int .u8 x] 5)) :=
  run_convert_bytes_arg (P := Try.prog) _ 58 5 Try.underlying58 Try.underlying5 W.heap.size 0 1 1 [x] rfl (fun i hi => by
    have : i = 0 := by omega
    subst this
    simp) 9 Try.underlying9

set_option maxHeartbeats 1000000 in
theorem bytes_any (v n : Nat) (w : World) (hv : v < 4294967296) (hn : n ≤ 8) :
    Calls Try.prog 29 #[.int .i64 v, .int .i64 n] w fun e w' => e = .returned (.string ⟨(lastB v n).toArray⟩) ∧ Below w.heap.size w w' := by
  go_enter Try.func29, Try.ntmps29
  go_wp2
  go_loopw [0, 5, 6] (fun x s i wr => ∃ k : Nat, k ≤ n ∧ i = .int .i64 k ∧ x = .int .i64 ((v / 256 ^ k : Nat) : Int) ∧ s = .string ⟨(lastB v k).toArray⟩ ∧ Below w.heap.size w wr) (fun _ _ i _ => n - (intOf i).toNat)
  case atStart => exact ⟨0, by omega, rfl, by simp, rfl, Below.refl _ _⟩
  case round =>
    obtain ⟨k, hk, rfl, rfl, rfl, hb⟩ := hrel
    have hd : v / 256 ^ k < 4294967296 := Nat.lt_of_le_of_lt (Nat.div_le_self _ _) hv
    by_cases hlt : k < n
    · have HL : Hid (lastB v (k + 1) = UInt8.ofNat (v / 256 ^ k % 256) :: lastB v k) := rfl
      have HD : Hid (v / 256 ^ (k + 1) = v / 256 ^ k / 256) := by show _ = _; rw [Nat.pow_succ, Nat.div_div_eq_div_mul]
      generalize v / 256 ^ k = x at *
      have k1 := conv_one wr ((x : Int) % 256)
      have hln : (lastB v k).length ≤ 8 := by rw [lastB_len]; omega
      go_wp2
      go_roundw
      case rel => exact ⟨k + 1, by omega, by go_num, by rw [HD.out]; exact val_int (by omega), by rw [HL.out]; exact congrArg Value.string (ByteArray.mk_append_mk [UInt8.ofNat (x % 256)] _), hb.alloc (by have := hb.size; omega) _⟩
      case measure => simp [intOf]; omega
    · go_wp2
      go_ret
      have h8 : k = n := by omega
      subst h8
      exact ⟨rfl, hb⟩
end Go.Proofs.Yteljbblbdiploaa

namespace Go.Proofs.Yteljbblbdiploaa
open Go.RowKit

theorem ref_hit (z v : Nat) (h : z < 4294967296) (ht : (((z : Int) % 2) != ((v : Int) % 2)) = true) : bits .xor .i64 ((z : Int) / 2) 3988292384 = ((if z % 2 ≠ v % 2 then (z / 2) ^^^ poly else z / 2 : Nat) : Int) := by
  have h0 : (z : Int) % 2 ≠ (v : Int) % 2 := bne_iff_ne.1 ht
  rw [if_pos (by omega)]
  have := i64_xor_nat (z / 2) 3988292384 (by omega) (by omega)
  simpa [poly] using this
theorem ref_miss (z v : Nat) (ht : (((z : Int) % 2) != ((v : Int) % 2)) = false) : (z : Int) / 2 = ((if z % 2 ≠ v % 2 then (z / 2) ^^^ poly else z / 2 : Nat) : Int) := by
  have h0 : (z : Int) % 2 = (v : Int) % 2 := by simpa using ht
  rw [if_neg (by omega)]
  omega

set_option maxHeartbeats 1000000 in
theorem refCrc_any (s : ByteArray) (w : World) (hs : s.size ≤ 1000000) :
    Calls Try.prog 30 #[.string s] w fun e w' => e = .returned (.int .i64 (crcSum s.data.toList : Nat)) ∧ w' = w := by
  go_enter Try.func30, Try.ntmps30
  go_wp2
  go_loop [3, 4] (fun c i => ∃ k : Nat, k ≤ s.size ∧ i = .int .i64 k ∧ c = .int .i64 (crcRaw (s.data.toList.take k) : Nat)) (fun _ i => s.size - (intOf i).toNat)
  case atStart => exact ⟨0, by omega, rfl, rfl⟩
  case round =>
    obtain ⟨k, hk, rfl, rfl⟩ := hrel
    have hx := crcRaw_lt (s.data.toList.take k)
    by_cases hlt : k < s.size
    · have hy : s[k].toNat < 256 := s[k].toNat_lt
      have HS : Hid (crcRaw (s.data.toList.take (k + 1)) = crcByte (crcRaw (s.data.toList.take k)) s[k].toNat) := by
        show _ = _
        rw [List.take_succ_eq_append_getElem (by simpa using hlt), crcRaw_snoc]; rfl
      generalize crcRaw (s.data.toList.take k) = x at *
      go_wp2
      generalize hy0 : s[k].toNat = y at *
      clear hy0
      go_loop [3, 5, 6] (fun c z j => ∃ m : Nat, m ≤ 8 ∧ j = .int .i64 m ∧ c = .int .i64 (refC x y m : Nat) ∧ z = .int .i64 ((y / 2 ^ m : Nat) : Int)) (fun _ _ j => 8 - (intOf j).toNat)
      case atStart => exact ⟨0, by omega, rfl, rfl, by simp⟩
      case round =>
        obtain ⟨m, hm, rfl, rfl, rfl⟩ := hrel
        by_cases hm8 : m < 8
        · have hc := refC_lt x y m hx
          have HR : Hid (refC x y (m + 1) = if refC x y m % 2 ≠ (y / 2 ^ m) % 2 then (refC x y m / 2) ^^^ poly else refC x y m / 2) := rfl
          have HD : Hid (y / 2 ^ (m + 1) = (y / 2 ^ m) / 2) := by show _ = _; rw [Nat.pow_succ, Nat.div_div_eq_div_mul]
          have hd : y / 2 ^ m < 256 := Nat.lt_of_le_of_lt (Nat.div_le_self _ _) hy
          generalize refC x y m = z at *
          generalize y / 2 ^ m = v at *
          go_wp2
          · go_round
            case rel => exact ⟨m + 1, by omega, by go_num, by rw [HR.out]; exact val_int (ref_hit z v hc (by assumption)), by rw [HD.out]; exact val_int (by omega)⟩
            case measure => simp [intOf]; omega
          · go_round
            case rel => exact ⟨m + 1, by omega, by go_num, by rw [HR.out]; exact val_int (ref_miss z v (by assumption)), by rw [HD.out]; exact val_int (by omega)⟩
            case measure => simp [intOf]; omega
        · have h8 : m = 8 := by omega
          have HE : Hid (refC x y m = crcByte x y) := by rw [h8]; exact refC_eight x y hy
          generalize refC x y m = z at *
          go_wp2
          go_round
          case rel => exact ⟨k + 1, by omega, by go_num, by rw [HS.out, ← HE.out]⟩
          case measure => simp [intOf]; omega
    · have hss : s.data.toList.take k = s.data.toList := List.take_of_length_le (by rw [Array.length_toList]; show s.size ≤ k; omega)
      rw [hss] at hx ⊢
      have HN : Hid ((4294967295 : Int) - (crcRaw s.data.toList : Nat) = ((crcSum s.data.toList : Nat) : Int)) := by show _ = _; rw [crcSum]; omega
      go_wp2
      go_ret
      exact ⟨ret_int HN.out, rfl⟩
end Go.Proofs.Yteljbblbdiploaa
