/-
  WALKS: the document's answer's numbers and texts at a place.
-/
import Derived.Test.YteljbblbdiploaaCrc
import Derived.Test.YteljbblbdiploaaReadPlain
import Derived.Lib.Strings
import Derived.WideShapes
namespace Go.Proofs.Yteljbblbdiploaa
open Go.RowKit

/-- the number of n bytes at a place -/
def bigAt (l : List UInt8) (p : Nat) : Nat → Nat
  | 0 => 0
  | n + 1 => 256 * bigAt l p n + byteAt l (p + n)
theorem bigAt_one (l : List UInt8) (p : Nat) : bigAt l p 1 = byteAt l p := by simp [bigAt]
theorem bigAt_two (l : List UInt8) (p : Nat) : bigAt l p 2 = pairAt l p := by simp [bigAt, pairAt]
theorem byteAt_in (s : ByteArray) (i : Nat) (h : i < s.size) : (s[i]).toNat = byteAt s.data.toList i := by
  rw [byteAt, List.getD_eq_getElem?_getD, List.getElem?_eq_getElem (by simpa using h)]; rfl
theorem byteAt_out (s : ByteArray) (i : Nat) (h : s.size ≤ i) : byteAt s.data.toList i = 0 := by
  rw [byteAt, List.getD_eq_getElem?_getD, List.getElem?_eq_none (by simpa using h)]; rfl

set_option maxHeartbeats 1000000 in
theorem number_any (s : ByteArray) (p n : Nat) (w : World) (hs : s.size ≤ maxLen) (hp : p ≤ 100000) (hn : n ≤ 2) :
    Calls Try.prog 32 #[.string s, .int .i64 p, .int .i64 n] w fun e w' => e = .returned (.int .i64 (bigAt s.data.toList p n : Nat)) ∧ w' = w := by
  unfold maxLen at hs
  go_enter Try.func32, Try.ntmps32
  go_wp2
  go_loop [7, 8] (fun v i => ∃ j : Nat, j ≤ n ∧ i = .int .i64 ((p + j : Nat) : Int) ∧ v = .int .i64 (bigAt s.data.toList p j : Nat) ∧ bigAt s.data.toList p j < 256 ^ j) (fun _ i => p + n - (intOf i).toNat)
  case atStart => exact ⟨0, by omega, rfl, rfl, by simp [bigAt]⟩
  case round =>
    obtain ⟨j, hj, rfl, rfl, hv⟩ := hrel
    by_cases hlt : j < n
    · have hb := byteAt_lt s.data.toList (p + j)
      have hv' : bigAt s.data.toList p j < 256 := by
        have : j = 0 ∨ j = 1 := by omega
        rcases this with rfl | rfl
        · simpa using Nat.lt_of_lt_of_le hv (by decide)
        · simpa using hv
      have HS : Hid (bigAt s.data.toList p (j + 1) = 256 * bigAt s.data.toList p j + byteAt s.data.toList (p + j)) := rfl
      have HB : Hid (256 * bigAt s.data.toList p j + byteAt s.data.toList (p + j) < 256 ^ (j + 1)) := by
        have : j = 0 ∨ j = 1 := by omega
        show _ < _
        rcases this with rfl | rfl
        · have : bigAt s.data.toList p 0 = 0 := rfl
          omega
        · omega
      clear hv
      by_cases hin : p + j < s.size
      · have HI := byteAt_in s (p + j) hin
        have HI' : Hid ((s[p + j]).toNat = byteAt s.data.toList (p + j)) := HI
        clear HI
        have hy : (s[p + j]).toNat < 256 := (s[p + j]).toNat_lt
        generalize bigAt s.data.toList p j = x at *
        go_wp2
        go_round
        case rel => exact ⟨j + 1, by omega, by go_num, by rw [HS.out, ← HI'.out]; exact val_int (by omega), by rw [HS.out]; exact HB.out⟩
        case measure => simp [intOf]; omega
      · have HI' : Hid (byteAt s.data.toList (p + j) = 0) := byteAt_out s (p + j) (by omega)
        generalize bigAt s.data.toList p j = x at *
        go_wp2
        go_round
        case rel => exact ⟨j + 1, by omega, by go_num, by rw [HS.out, HI'.out]; exact val_int (by omega), by rw [HS.out]; exact HB.out⟩
        case measure => simp [intOf]; omega
    · go_wp2
      go_ret
      have : j = n := by omega
      subst this
      exact ⟨rfl, rfl⟩

theorem extract_list (s : ByteArray) (a b : Nat) : s.extract a b = ⟨((s.data.toList.drop a).take (b - a)).toArray⟩ := by
  apply Go.WideShapes.bytes_inj
  rw [Lib.extract_data]
theorem text_in (s : ByteArray) (p n : Nat) (h : p + n ≤ s.size) : s.extract p (p + n) = ⟨(textAt s.data.toList p n).toArray⟩ := by
  rw [extract_list, textAt, if_pos (by simpa using h), Nat.add_sub_cancel_left]
theorem text_out (s : ByteArray) (p n : Nat) (h : s.size < p + n) : textAt s.data.toList p n = [] := by
  rw [textAt, if_neg]
  rw [Array.length_toList]
  show ¬ p + n ≤ s.size
  omega

set_option maxHeartbeats 1000000 in
theorem text_any (s : ByteArray) (p n : Nat) (w : World) (hs : s.size ≤ maxLen) (hp : p ≤ 100000) (hn : n ≤ 1000) :
    Calls Try.prog 33 #[.string s, .int .i64 p, .int .i64 n] w fun e w' => e = .returned (.string ⟨(textAt s.data.toList p n).toArray⟩) ∧ w' = w := by
  unfold maxLen at hs
  by_cases h : p + n ≤ s.size
  · have h' : (p : Int) + n ≤ s.size := by omega
    go_enter Try.func33, Try.ntmps33
    go_wp2
    go_ret
    exact ⟨by rw [← text_in s p n h]; rfl, rfl⟩
  · have h' : (s.size : Int) < (p : Int) + n := by omega
    go_enter Try.func33, Try.ntmps33
    go_wp2
    go_ret
    exact ⟨by rw [text_out s p n (by omega)]; rfl, rfl⟩
end Go.Proofs.Yteljbblbdiploaa
