/-
  WALKS: a text and a sum as bytes: package wire.
-/
import Derived.Test.YtdphfdhjfclpoaaApp
namespace Go.Proofs.Ytdphfdhjfclpoaa
open Go.RowKit

theorem bcs_byte (n : Nat) (h : n < 256) : bcs (lastB n 1) = [.int .u8 (n : Int)] := by
  simp only [lastB, bcs, List.map_cons, List.map_nil]
  rw [byte_cell _ (by omega)]
  congr 2; simp; omega

theorem bcs_four (n : Nat) (h : n < 4294967296) : bcs (lastB n 4) = [.int .u8 ((n : Int) / 16777216), .int .u8 ((n : Int) / 65536 % 256), .int .u8 ((n : Int) / 256 % 256), .int .u8 ((n : Int) % 256)] := by
  simp only [lastB, bcs, List.map_cons, List.map_nil]
  rw [byte_cell _ (by omega), byte_cell _ (by omega), byte_cell _ (by omega), byte_cell _ (by omega)]
  congr 2
  · congr 1; simp; omega
  · congr 2
    congr 2
    · simp

set_option maxHeartbeats 400000 in
theorem appendText_any (v : Value) (l : List UInt8) (t : ByteArray) (base : Nat) (w : World) (hn : t.size ≤ 200) (hl : l.length ≤ 100000) (hown : Own w base v l) (hbase : base ≤ w.heap.size) :
    Calls Try.prog 55 #[v, .string t] w fun e w' => ∃ v', e = .returned v' ∧ Own w' base v' (l ++ lastB t.size 1 ++ t.data.toList) ∧ Below base w w' := by
  have HP : Hid (bcs (lastB t.size 1) = [.int .u8 (t.size : Int)]) := bcs_byte _ (by omega)
  go_enter Try.func55, Try.ntmps55
  go_wp2_with (at_builtin; refine app_bytes _ rfl (.tmp 5) (.tmp 9) rfl base v l rfl (hown.alloc _) w.heap.size 1 1 _ (lastB t.size 1) rfl (heap_alloc_new w _) ?c1 (lastB_len _ 1).symm (by decide) ?c2 ?c3 ?_)
  case c1 => rw [HP.out]
  case c2 => omega
  case c3 => simp; omega
  intro g cap w1 hown1 hb1 hs1
  have hlen : (l ++ lastB t.size 1).length ≤ 100001 := by rw [List.length_append, lastB_len]; omega
  have hbase1 : base ≤ w1.heap.size := by first | omega | (simp at hs1; omega)
  go_wp2_with (at_builtin; refine app_text _ rfl (.tmp 11) (.tmp 12) rfl base _ _ rfl hown1 t rfl ?d1 ?d2 ?_)
  case d1 => omega
  case d2 => exact hbase1
  intro v2 w2 hown2 hb2 hs2
  go_wp2
  go_ret
  exact ⟨_, rfl, by first | exact hown2 | (rw [List.append_assoc]; exact hown2), (((Below.refl _ _).alloc hbase _).trans hb1).trans hb2⟩

set_option maxHeartbeats 400000 in
theorem appendSum_any (v : Value) (l : List UInt8) (n base : Nat) (w : World) (hn : n < 4294967296) (hl : l.length ≤ 100000) (hown : Own w base v l) (hbase : base ≤ w.heap.size) :
    Calls Try.prog 27 #[v, .int .u32 n] w fun e w' => ∃ v', e = .returned v' ∧ Own w' base v' (l ++ lastB n 4) ∧ Below base w w' := by
  have HP : Hid (bcs (lastB n 4) = [.int .u8 ((n : Int) / 16777216), .int .u8 ((n : Int) / 65536 % 256), .int .u8 ((n : Int) / 256 % 256), .int .u8 ((n : Int) % 256)]) := bcs_four n hn
  go_enter Try.func27, Try.ntmps27
  go_wp2_with (at_builtin; refine app_bytes _ rfl (.tmp 5) (.tmp 17) rfl base v l rfl (hown.alloc _) w.heap.size 4 4 _ (lastB n 4) rfl (heap_alloc_new w _) ?c1 (lastB_len n 4).symm (by decide) ?c2 ?c3 ?_)
  case c1 => rw [HP.out]
  case c2 => omega
  case c3 => simp; omega
  intro g cap w1 hown1 hb1 hs1
  go_wp2
  go_ret
  exact ⟨_, rfl, hown1, ((Below.refl _ _).alloc hbase _).trans hb1⟩
end Go.Proofs.Ytdphfdhjfclpoaa
