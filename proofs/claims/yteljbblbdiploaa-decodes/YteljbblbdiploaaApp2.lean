/-
  WALKS: a text as bytes: package octets; a sum behind bytes: package crc.
-/
import Derived.Test.YteljbblbdiploaaApp
namespace Go.Proofs.Yteljbblbdiploaa
open Go.RowKit

theorem bcs_byte (n : Nat) (h : n < 256) : bcs (lastB n 1) = [.int .u8 (n : Int)] := by
  simp only [lastB, bcs, List.map_cons, List.map_nil]
  rw [byte_cell _ (by omega)]
  congr 2; simp; omega

theorem bcs_four (n : Nat) (h : n < 4294967296) : bcs (lastB n 4) = [.int .u8 ((n : Int) / 16777216), .int .u8 ((n : Int) / 65536 % 256), .int .u8 ((n : Int) / 256 % 256), .int .u8 ((n : Int) % 256)] := by
  simp only [lastB, bcs, List.map_cons, List.map_nil]
  rw [byte_cell _ (by omega), byte_cell _ (by omega), byte_cell _ (by omega), byte_cell _ (by omega)]
  congr 2
  · congr 1; simp; omega
  · congr 2
    congr 2
    · simp

set_option maxHeartbeats 400000 in
theorem appendText_any (v : Value) (l : List UInt8) (t : ByteArray) (base : Nat) (w : World) (hn : t.size ≤ 200) (hl : l.length ≤ 100000) (hown : Own w base v l) (hbase : base ≤ w.heap.size) :
    Calls Try.prog 55 #[v, .string t] w fun e w' => ∃ v', e = .returned v' ∧ Own w' base v' (l ++ lastB t.size 1 ++ t.data.toList) ∧ Below base w w' := by
  have HP : Hid (bcs (lastB t.size 1) = [.int .u8 (t.size : Int)]) := bcs_byte _ (by omega)
  go_enter Try.func55, Try.ntmps55
  go_wp2_with (at_builtin; refine app_bytes _ rfl (.tmp 5) (.tmp 9) rfl base v l rfl (hown.alloc _) w.heap.size 1 1 _ (lastB t.size 1) rfl (heap_alloc_new w _) ?c1 (lastB_len _ 1).symm (by decide) ?c2 ?c3 ?_)
  case c1 => rw [HP.out]
  case c2 => omega
  case c3 => simp; omega
  intro g cap w1 hown1 hb1 hs1
  have hlen : (l ++ lastB t.size 1).length ≤ 100001 := by rw [List.length_append, lastB_len]; omega
  have hbase1 : base ≤ w1.heap.size := by first | omega | (simp at hs1; omega)
  go_wp2_with (at_builtin; refine app_text _ rfl (.tmp 11) (.tmp 12) rfl base _ _ rfl hown1 t rfl ?d1 ?d2 ?_)
  case d1 => omega
  case d2 => exact hbase1
  intro v2 w2 hown2 hb2 hs2
  go_wp2
  go_ret
  exact ⟨_, rfl, by first | exact hown2 | (rw [List.append_assoc]; exact hown2), (((Below.refl _ _).alloc hbase _).trans hb1).trans hb2⟩

/-- a slice of bytes that is owned, looked at -/
theorem Own.open {w : World} {base : Nat} {v : Value} {l : List UInt8} (h : Own w base v l) (hl : 0 < l.length) :
    ∃ g cap, v = .slice (some ⟨g, 0, none⟩) l.length cap ∧ base ≤ g ∧ ∀ j, j < l.length → w.cell? ⟨g, 0 + j, none⟩ = some (.int .u8 ((l.getD j 0).toNat : Nat)) := by
  obtain ⟨g, cap, rfl, hb, _⟩ := World.ownsRow.form h hl
  refine ⟨g, cap, rfl, hb, ?_⟩
  intro j hj
  have := World.ownsRow.cells h (g := g) rfl j (.int .u8 ((l.getD j 0).toNat : Nat)) (by simp [bcs, hj])
  have hadd : (⟨g, 0, none⟩ : Addr).add j = ⟨g, 0 + j, none⟩ := by unfold Addr.add; split <;> simp_all
  rw [hadd] at this
  exact this

set_option maxHeartbeats 400000 in
theorem seal_any (g cap : Nat) (l : List UInt8) (base : Nat) (w : World) (hl : l.length ≤ 100000) (hown : Own w base (.slice (some ⟨g, 0, none⟩) l.length cap) l) (hc : ∀ j, j < l.length → w.cell? ⟨g, 0 + j, none⟩ = some (.int .u8 ((l.getD j 0).toNat : Nat))) (hbase : base ≤ w.heap.size) :
    Calls Try.prog 26 #[.slice (some ⟨g, 0, none⟩) l.length cap] w fun e w' => ∃ v', e = .returned v' ∧ Own w' base v' (withSum l) ∧ Below base w w' := by
  have hn : crcSum l < 4294967296 := by unfold crcSum; omega
  have HP : Hid (bcs (lastB (crcSum l) 4) = [.int .u8 ((crcSum l : Int) / 16777216), .int .u8 ((crcSum l : Int) / 65536 % 256), .int .u8 ((crcSum l : Int) / 256 % 256), .int .u8 ((crcSum l : Int) % 256)]) := bcs_four _ hn
  have HW : Hid (withSum l = l ++ lastB (crcSum l) 4) := rfl
  have HC : Hid (∀ j, j < l.length → w.cell? ⟨g, 0 + j, none⟩ = some (.int .u8 ((l.getD j 0).toNat : Nat))) := hc
  have HO : Hid (Own w base (.slice (some ⟨g, 0, none⟩) l.length cap) l) := hown
  clear hc hown
  go_enter Try.func26, Try.ntmps26
  go_wp2_with fail
  refine (sum_any g 0 l cap _ (by omega) HC.out).mono ?_
  rintro e w' ⟨rfl, rfl⟩
  generalize crcSum l = n at *
  go_wp2_with (at_builtin; refine app_bytes _ rfl (.tmp 6) (.tmp 18) rfl base _ l rfl (HO.out.alloc _) w'.heap.size 4 4 _ (lastB n 4) rfl (heap_alloc_new w' _) ?c1 (lastB_len n 4).symm (by decide) ?c2 ?c3 ?_)
  case c1 => rw [HP.out]
  case c2 => omega
  case c3 => simp; omega
  intro g1 cap1 w1 hown1 hb1 hs1
  go_wp2
  go_ret
  exact ⟨_, rfl, by rw [HW.out]; exact hown1, ((Below.refl _ _).alloc hbase _).trans hb1⟩
end Go.Proofs.Yteljbblbdiploaa
