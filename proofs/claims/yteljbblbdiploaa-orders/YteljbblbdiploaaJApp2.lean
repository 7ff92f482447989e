/-
  WALKS: bytes laid behind bytes: package wire's small functions.
-/
/-
  WALKS: a text as bytes: package octets; a sum behind bytes: package crc.
-/
import Derived.Test.YteljbblbdiploaaJEnc
import Derived.Deep.AppendLies
import Derived.Lib.AppendStr
namespace Go.Proofs.Yteljbblbdiploaa
open Go.RowKit

/-- bytes as a row's cells -/
def bcs (l : List UInt8) : List Value := l.map fun b => .int .u8 (b.toNat : Int)
theorem bcs_len (l : List UInt8) : (bcs l).length = l.length := by simp [bcs]
theorem bcs_app (a b : List UInt8) : bcs (a ++ b) = bcs a ++ bcs b := by simp [bcs]
theorem bcs_one (l : List UInt8) : ∀ u ∈ bcs l, u.oneCell' = true := by
  intro u hu
  obtain ⟨b, _, rfl⟩ := List.mem_map.1 hu
  rfl

/-- v: a slice of bytes, the call's own from 'base' on, that holds l. -/
def Own (w : World) (base : Nat) (v : Value) (l : List UInt8) : Prop := w.ownsRow base 5 1 v l.length (bcs l)
theorem Own.alloc {w : World} {base : Nat} {v : Value} {l : List UInt8} (h : Own w base v l) (o : Obj) : Own (w.alloc o) base v l := World.ownsRow.alloc h o
theorem Own.nil (w : World) (base : Nat) : Own w base (.slice none 0 0) [] := World.ownsRow_nil w base _ _
theorem Own.below {w w' : World} {base : Nat} {v : Value} {l : List UInt8} (h : Own w base v l) (hg : w.grownBy w' v.ownBlock) (hb : base ≤ w.heap.size) : Below base w w' :=
  (Below.refl _ _).grown hg hb (fun k hk => (h.lt k hk).1)

theorem Try.infoU8 : (Try.prog.info? 5).map (fun i => (i.zero, i.size, i.bytes)) = some (some (.int .u8 0), 1, 1) := by kernel_rfl

/-- append(v, bytes that lie in a block of their own) -/
theorem app_bytes (w : World) {ops : Array Oper} {rest : List Oper} {o : Oper} {a : Act} {Q : Exit → Act → World → Prop} (hgd : o.guard = none) (s x : Operand)
    (ho : o.op = .call { callee := .builtin .append, args := #[s, x], argTypes := #[58, 58] }) (base : Nat) (v : Value) (l : List UInt8) (hs : a.eval s = v) (hown : Own w base v l)
    (B m c : Nat) (cs : Array Value) (ns : List UInt8) (hx : a.eval x = .slice (some ⟨B, 0, none⟩) m c) (hblock : w.heap[B]? = some (.cells cs 5 (0, 0))) (hcs : cs.toList = bcs ns) (hm : m = ns.length) (hm0 : 0 < m)
    (hl : l.length + m ≤ 1000000) (hbase : base ≤ w.heap.size)
    (h : ∀ g cap w', Own w' base (.slice (some ⟨g, 0, none⟩) (l.length + m) cap) (l ++ ns) → Below base w w' → w.heap.size ≤ w'.heap.size → wpList Try.prog ops Q rest (a.put o.dst (.slice (some ⟨g, 0, none⟩) (l.length + m) cap)) w') :
    wpList Try.prog ops Q (o :: rest) a w := by
  obtain ⟨i0, hi, hz0, hz1, hz2⟩ := info_parts Try.infoU8
  refine wpList_append_lies w hgd s x 58 ho base 5 i0 (.int .u8 0) 1 1 Try.underlying58 hi hz0 hz1 hz2 rfl (by decide) v l.length (bcs l) hs hown ⟨B, 0, none⟩ m c (bcs ns) hx (by rw [bcs_len, hm, Nat.mul_one])
    (by rw [← hcs]; exact World.news_of_block hblock) (bcs_one ns) hm0 (by unfold maxLen; omega) (by omega) hbase w.heap.size rfl ?_
  intro g cap w' h1 h2 _ _
  have h1' : Own w' base (.slice (some ⟨g, 0, none⟩) (l.length + m) cap) (l ++ ns) := by
    unfold Own
    rw [bcs_app, List.length_append, ← hm]
    exact h1
  exact h g cap w' h1' (hown.below h2 hbase) h2.size

/-- append(v, text...) -/
theorem app_text (w : World) {ops : Array Oper} {rest : List Oper} {o : Oper} {a : Act} {Q : Exit → Act → World → Prop} (hgd : o.guard = none) (s x : Operand)
    (ho : o.op = .call { callee := .builtin .append, args := #[s, x], argTypes := #[58, 9] }) (base : Nat) (v : Value) (l : List UInt8) (hs : a.eval s = v) (hown : Own w base v l)
    (t : ByteArray) (hx : a.eval x = .string t) (hl : l.length + t.size ≤ 1000000) (hbase : base ≤ w.heap.size)
    (h : ∀ v' w', Own w' base v' (l ++ t.data.toList) → Below base w w' → w.heap.size ≤ w'.heap.size → wpList Try.prog ops Q rest (a.put o.dst v') w') :
    wpList Try.prog ops Q (o :: rest) a w := by
  obtain ⟨i0, hi, hz0, hz1, hz2⟩ := info_parts Try.infoU8
  refine Lib.wpList_append_own_string w hgd s x 58 9 ho base 5 i0 Try.underlying58 Try.underlying9 hi hz0 hz1 hz2 v l.length (bcs l) hs hown t hx (by unfold maxLen; omega) (by omega) hbase ?_
  intro v' w' h1 h2 _
  have h1' : Own w' base v' (l ++ t.data.toList) := by
    unfold Own
    rw [bcs_app, List.length_append, Array.length_toList]
    exact h1
  exact h v' w' h1' (hown.below h2 hbase) h2.size

theorem byte_cell (n : Nat) (h : n < 256) : Value.int .u8 ((UInt8.ofNat n).toNat : Int) = .int .u8 (n : Int) := by
  rw [UInt8.toNat_ofNat']; congr 1; omega

theorem bcs_pair (n : Nat) (h : n < 65536) : bcs (lastB n 2) = [.int .u8 ((n : Int) / 256), .int .u8 ((n : Int) % 256)] := by
  simp only [lastB, bcs, List.map_cons, List.map_nil]
  rw [byte_cell _ (by omega), byte_cell _ (by omega)]
  congr 2
  · congr 1; simp; omega
  · congr 2; simp

set_option maxHeartbeats 400000 in
theorem appendPair_any (v : Value) (l : List UInt8) (n base : Nat) (w : World) (hn : n < 65536) (hl : l.length ≤ 100000) (hown : Own w base v l) (hbase : base ≤ w.heap.size) :
    Calls Try.prog 54 #[v, .int .i64 n] w fun e w' => ∃ v', e = .returned v' ∧ Own w' base v' (l ++ lastB n 2) ∧ Below base w w' := by
  have HP : Hid (bcs (lastB n 2) = [.int .u8 ((n : Int) / 256), .int .u8 ((n : Int) % 256)]) := bcs_pair n hn
  go_enter Try.func54, Try.ntmps54
  go_wp2_with (at_builtin; refine app_bytes _ rfl (.tmp 5) (.tmp 11) rfl base v l rfl (hown.alloc _) w.heap.size 2 2 _ (lastB n 2) rfl (heap_alloc_new w _) ?c1 (lastB_len n 2).symm (by decide) ?c2 ?c3 ?_)
  case c1 => rw [HP.out]
  case c2 => omega
  case c3 => simp; omega
  intro g cap w1 hown1 hb1 hs1
  go_wp2
  go_ret
  exact ⟨_, rfl, hown1, ((Below.refl _ _).alloc hbase _).trans hb1⟩
end Go.Proofs.Yteljbblbdiploaa

namespace Go.Proofs.Yteljbblbdiploaa
open Go.RowKit

theorem bcs_byte (n : Nat) (h : n < 256) : bcs (lastB n 1) = [.int .u8 (n : Int)] := by
  simp only [lastB, bcs, List.map_cons, List.map_nil]
  rw [byte_cell _ (by omega)]
  congr 2; simp; omega

theorem bcs_four (n : Nat) (h : n < 4294967296) : bcs (lastB n 4) = [.int .u8 ((n : Int) / 16777216), .int .u8 ((n : Int) / 65536 % 256), .int .u8 ((n : Int) / 256 % 256), .int .u8 ((n : Int) % 256)] := by
  simp only [lastB, bcs, List.map_cons, List.map_nil]
  rw [byte_cell _ (by omega), byte_cell _ (by omega), byte_cell _ (by omega), byte_cell _ (by omega)]
  congr 2
  · congr 1; simp; omega
  · congr 2
    congr 2
    · simp

set_option maxHeartbeats 400000 in
theorem appendText_any (v : Value) (l : List UInt8) (t : ByteArray) (base : Nat) (w : World) (hn : t.size ≤ 200) (hl : l.length ≤ 100000) (hown : Own w base v l) (hbase : base ≤ w.heap.size) :
    Calls Try.prog 55 #[v, .string t] w fun e w' => ∃ v', e = .returned v' ∧ Own w' base v' (l ++ lastB t.size 1 ++ t.data.toList) ∧ Below base w w' := by
  have HP : Hid (bcs (lastB t.size 1) = [.int .u8 (t.size : Int)]) := bcs_byte _ (by omega)
  go_enter Try.func55, Try.ntmps55
  go_wp2_with (at_builtin; refine app_bytes _ rfl (.tmp 5) (.tmp 9) rfl base v l rfl (hown.alloc _) w.heap.size 1 1 _ (lastB t.size 1) rfl (heap_alloc_new w _) ?c1 (lastB_len _ 1).symm (by decide) ?c2 ?c3 ?_)
  case c1 => rw [HP.out]
  case c2 => omega
  case c3 => simp; omega
  intro g cap w1 hown1 hb1 hs1
  have hlen : (l ++ lastB t.size 1).length ≤ 100001 := by rw [List.length_append, lastB_len]; omega
  have hbase1 : base ≤ w1.heap.size := by first | omega | (simp at hs1; omega)
  go_wp2_with (at_builtin; refine app_text _ rfl (.tmp 11) (.tmp 12) rfl base _ _ rfl hown1 t rfl ?d1 ?d2 ?_)
  case d1 => omega
  case d2 => exact hbase1
  intro v2 w2 hown2 hb2 hs2
  go_wp2
  go_ret
  exact ⟨_, rfl, by first | exact hown2 | (rw [List.append_assoc]; exact hown2), (((Below.refl _ _).alloc hbase _).trans hb1).trans hb2⟩

/-- a slice of bytes that is owned, looked at -/
theorem Own.open {w : World} {base : Nat} {v : Value} {l : List UInt8} (h : Own w base v l) (hl : 0 < l.length) :
    ∃ g cap, v = .slice (some ⟨g, 0, none⟩) l.length cap ∧ base ≤ g ∧ ∀ j, j < l.length → w.cell? ⟨g, 0 + j, none⟩ = some (.int .u8 ((l.getD j 0).toNat : Nat)) := by
  obtain ⟨g, cap, rfl, hb, _⟩ := World.ownsRow.form h hl
  refine ⟨g, cap, rfl, hb, ?_⟩
  intro j hj
  have := World.ownsRow.cells h (g := g) rfl j (.int .u8 ((l.getD j 0).toNat : Nat)) (by simp [bcs, hj])
  have hadd : (⟨g, 0, none⟩ : Addr).add j = ⟨g, 0 + j, none⟩ := by unfold Addr.add; split <;> simp_all
  rw [hadd] at this
  exact this

set_option maxHeartbeats 400000 in
theorem seal_any (g cap : Nat) (l : List UInt8) (base : Nat) (w : World) (hl : l.length ≤ 100000) (hown : Own w base (.slice (some ⟨g, 0, none⟩) l.length cap) l) (hc : ∀ j, j < l.length → w.cell? ⟨g, 0 + j, none⟩ = some (.int .u8 ((l.getD j 0).toNat : Nat))) (hbase : base ≤ w.heap.size) :
    Calls Try.prog 26 #[.slice (some ⟨g, 0, none⟩) l.length cap] w fun e w' => ∃ v', e = .returned v' ∧ Own w' base v' (withSum l) ∧ Below base w w' := by
  have hn : crcSum l < 4294967296 := by unfold crcSum; omega
  have HP : Hid (bcs (lastB (crcSum l) 4) = [.int .u8 ((crcSum l : Int) / 16777216), .int .u8 ((crcSum l : Int) / 65536 % 256), .int .u8 ((crcSum l : Int) / 256 % 256), .int .u8 ((crcSum l : Int) % 256)]) := bcs_four _ hn
  have HW : Hid (withSum l = l ++ lastB (crcSum l) 4) := rfl
  have HC : Hid (∀ j, j < l.length → w.cell? ⟨g, 0 + j, none⟩ = some (.int .u8 ((l.getD j 0).toNat : Nat))) := hc
  have HO : Hid (Own w base (.slice (some ⟨g, 0, none⟩) l.length cap) l) := hown
  clear hc hown
  go_enter Try.func26, Try.ntmps26
  go_wp2_with fail
  refine (sum_any g 0 l cap _ (by omega) HC.out).mono ?_
  rintro e w' ⟨rfl, rfl⟩
  generalize crcSum l = n at *
  go_wp2_with (at_builtin; refine app_bytes _ rfl (.tmp 6) (.tmp 18) rfl base _ l rfl (HO.out.alloc _) w'.heap.size 4 4 _ (lastB n 4) rfl (heap_alloc_new w' _) ?c1 (lastB_len n 4).symm (by decide) ?c2 ?c3 ?_)
  case c1 => rw [HP.out]
  case c2 => omega
  case c3 => simp; omega
  intro g1 cap1 w1 hown1 hb1 hs1
  go_wp2
  go_ret
  exact ⟨_, rfl, by rw [HW.out]; exact hown1, ((Below.refl _ _).alloc hbase _).trans hb1⟩
end Go.Proofs.Yteljbblbdiploaa
