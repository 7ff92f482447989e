/-
  WALKS: the check sum, of the program and of the document's answer.
-/
import Derived.Test.YteljbblbdiploaaRows
import Derived.Test.YteljbblbdiploaaCrcLaws
import Derived.WalkKit
import Derived.WalkSpells
import Derived.WalkLawsBesides
import Derived.Deep.Light
namespace Go.Proofs.Yteljbblbdiploaa
open Go.RowKit

theorem ret_int {k : IntKind} {a b : Int} (h : a = b) : Ending.returned (.int k a) = .returned (.int k b) := by rw [h]
theorem val_int {k : IntKind} {a b : Int} (h : a = b) : Value.int k a = .int k b := by rw [h]

set_option maxHeartbeats 400000 in
theorem shift_any (s : Nat) (w : World) (h1 : s < 4294967296) :
    Calls Try.prog 71 #[.int .u32 s] w fun e w' => e = .returned (.int .u32 (bitSteps 8 s : Nat)) ∧ w' = w := by
  go_enter Try.func71, Try.ntmps71
  go_wp2
  go_loop [0, 4] (fun t i => ∃ k : Nat, k ≤ 8 ∧ i = .int .i64 k ∧ t = .int .u32 (bitSteps k s : Nat)) (fun _ i => 8 - (intOf i).toNat)
  case atStart => exact ⟨0, by omega, rfl, rfl⟩
  case round =>
    obtain ⟨k, hk, rfl, rfl⟩ := hrel
    have hx := bitSteps_lt k s h1
    have HS : Hid (bitSteps (k + 1) s = bitStep (bitSteps k s)) := rfl
    generalize hx0 : bitSteps k s = x at *
    have HX : Hid (bitSteps k s = x) := hx0
    clear hx0
    by_cases hlt : k < 8
    · go_wp2
      · go_round
        case rel => exact ⟨k + 1, by omega, by go_num, by rw [HS.out]; exact val_int (shift_hit x hx (by assumption))⟩
        case measure => simp [intOf]; omega
      · go_round
        case rel => exact ⟨k + 1, by omega, by go_num, by rw [HS.out]; exact val_int (shift_miss x hx (by assumption))⟩
        case measure => simp [intOf]; omega
    · go_wp2
      go_ret
      have h8 : k = 8 := by omega
      have hr : bitSteps 8 s = x := by rw [← h8]; exact HX.out
      exact ⟨by rw [hr]; rfl, rfl⟩

set_option maxHeartbeats 400000 in
theorem sum_any (b off : Nat) (xs : List UInt8) (cap : Nat) (w : World) (hl : xs.length ≤ 1000000) (hc : ∀ k, k < xs.length → w.cell? ⟨b, off + k, none⟩ = some (.int .u8 ((xs.getD k 0).toNat : Nat))) :
    Calls Try.prog 53 #[.slice (some ⟨b, off, none⟩) xs.length cap] w fun e w' => e = .returned (.int .u32 (crcSum xs : Nat)) ∧ w' = w := by
  have HC : Hid (∀ k, k < xs.length → w.cell? ⟨b, off + k, none⟩ = some (.int .u8 ((xs.getD k 0).toNat : Nat))) := hc
  clear hc
  go_enter Try.func53, Try.ntmps53
  go_wp2
  go_loop [3, 8] (fun t i => ∃ k : Nat, k ≤ xs.length ∧ i = .int .i64 k ∧ t = .int .u32 (crcRaw (xs.take k) : Nat)) (fun _ i => xs.length - (intOf i).toNat)
  case atStart => exact ⟨0, by omega, rfl, rfl⟩
  case round =>
    obtain ⟨k, hk, rfl, rfl⟩ := hrel
    have hx := crcRaw_lt (xs.take k)
    by_cases hlt : k < xs.length
    · have hcell := HC.out k hlt
      have HS : Hid (crcRaw (xs.take (k + 1)) = crcByte (crcRaw (xs.take k)) (xs.getD k 0).toNat) := by
        show _ = _
        rw [List.take_succ_eq_append_getElem hlt, crcRaw_snoc]; simp [hlt]
      have hb : (xs.getD k 0).toNat < 256 := (xs.getD k 0).toNat_lt
      generalize crcRaw (xs.take k) = x at *
      generalize (xs.getD k 0).toNat = y at *
      have hxy := xor_lt x y hx (by omega)
      have hbits := u32_xor_nat x y hx (by omega)
      go_wp2_with fail
      refine (shift_any (x ^^^ y) _ hxy).mono ?_
      rintro e w' ⟨rfl, rfl⟩
      go_wp2
      go_round
      case rel => exact ⟨k + 1, by omega, by go_num, by rw [HS.out]; rfl⟩
      case measure => simp [intOf]; omega
    · have hxs : xs.take k = xs := List.take_of_length_le (by omega)
      have hn := u32_xor_nat 4294967295 (crcRaw xs) (by omega) (crcRaw_lt xs)
      have hm : 4294967295 ^^^ crcRaw xs = 4294967295 - crcRaw xs := flip_all _ (crcRaw_lt xs)
      have HN : Hid (bits .xor .u32 4294967295 (crcRaw xs : Nat) = ((crcSum xs : Nat) : Int)) := by
        show _ = _
        rw [crcSum, ← hm]; exact hn
      rw [hxs]
      clear hn hm
      go_wp2
      go_ret
      exact ⟨ret_int HN.out, rfl⟩
end Go.Proofs.Yteljbblbdiploaa
