/-
  WALKS: the document's answer's numbers as bytes.
-/
import Derived.Test.YteljbblbdiploaaCrc
import Derived.Test.YteljbblbdiploaaEnc
import Derived.Laws.BytesArg
namespace Go.Proofs.Yteljbblbdiploaa
open Go.RowKit

theorem conv_one (W : World) (x : Int) : (convert 58 9 (.slice (some ⟨W.heap.size, 0, none⟩) 1 1)).run Try.prog (W.alloc (.cells #[.int .u8 x] 5)) = .ok (.string ⟨#[UInt8.ofNat x.toNat]⟩) (W.alloc (.cells #[.int .u8 x] 5)) :=
  run_convert_bytes_arg (P := Try.prog) _ 58 5 Try.underlying58 Try.underlying5 W.heap.size 0 1 1 [x] rfl (fun i hi => by
    have : i = 0 := by omega
    subst this
    simp) 9 Try.underlying9

set_option maxHeartbeats 1000000 in
theorem bytes_any (v n : Nat) (w : World) (hv : v < 4294967296) (hn : n ≤ 8) :
    Calls Try.prog 29 #[.int .i64 v, .int .i64 n] w fun e w' => e = .returned (.string ⟨(lastB v n).toArray⟩) ∧ Below w.heap.size w w' := by
  go_enter Try.func29, Try.ntmps29
  go_wp2
  go_loopw [0, 5, 6] (fun x s i wr => ∃ k : Nat, k ≤ n ∧ i = .int .i64 k ∧ x = .int .i64 ((v / 256 ^ k : Nat) : Int) ∧ s = .string ⟨(lastB v k).toArray⟩ ∧ Below w.heap.size w wr) (fun _ _ i _ => n - (intOf i).toNat)
  case atStart => exact ⟨0, by omega, rfl, by simp, rfl, Below.refl _ _⟩
  case round =>
    obtain ⟨k, hk, rfl, rfl, rfl, hb⟩ := hrel
    have hd : v / 256 ^ k < 4294967296 := Nat.lt_of_le_of_lt (Nat.div_le_self _ _) hv
    by_cases hlt : k < n
    · have HL : Hid (lastB v (k + 1) = UInt8.ofNat (v / 256 ^ k % 256) :: lastB v k) := rfl
      have HD : Hid (v / 256 ^ (k + 1) = v / 256 ^ k / 256) := by show _ = _; rw [Nat.pow_succ, Nat.div_div_eq_div_mul]
      generalize v / 256 ^ k = x at *
      have k1 := conv_one wr ((x : Int) % 256)
      have hln : (lastB v k).length ≤ 8 := by rw [lastB_len]; omega
      go_wp2
      go_roundw
      case rel => exact ⟨k + 1, by omega, by go_num, by rw [HD.out]; exact val_int (by omega), by rw [HL.out]; exact congrArg Value.string (ByteArray.mk_append_mk [UInt8.ofNat (x % 256)] _), hb.alloc (by have := hb.size; omega) _⟩
      case measure => simp [intOf]; omega
    · go_wp2
      go_ret
      have h8 : k = n := by omega
      subst h8
      exact ⟨rfl, hb⟩
end Go.Proofs.Yteljbblbdiploaa
