/-
  WALKS: package wire's reader: single, pair.
-/
import Derived.Test.YteljbblbdiploaaRefNum
import Derived.Test.YteljbblbdiploaaAppUpd
import Derived.Laws.BitsLemmas
namespace Go.Proofs.Yteljbblbdiploaa
open Go.RowKit

/-- the reader in block B has come to place p of the bytes l -/
def AtR (w : World) (B : Nat) (l : List UInt8) (p : Nat) : Prop := w.heap[B]? = some (.cells #[.string ⟨(l.drop p).toArray⟩] 89 (0, 0))

theorem drop_empty {l : List UInt8} {p : Nat} (h : l.length ≤ p) : (⟨(l.drop p).toArray⟩ : ByteArray) = ⟨#[]⟩ := by rw [List.drop_eq_nil_of_le h]
theorem extract_one (l : List UInt8) (p : Nat) : (⟨(l.drop p).toArray⟩ : ByteArray).extract 1 (⟨(l.drop p).toArray⟩ : ByteArray).size = ⟨(l.drop (p + 1)).toArray⟩ := by
  rw [extract_list]
  have e : (⟨(l.drop p).toArray⟩ : ByteArray).data.toList = l.drop p := rfl
  rw [e, List.drop_drop, List.take_of_length_le]
  have : (⟨(l.drop p).toArray⟩ : ByteArray).size = (l.drop p).length := by simp [ByteArray.size]
  rw [this]; simp; omega

theorem grown_refl (w : World) (r : Option Nat) : w.grownBy w r := ⟨rfl, rfl, rfl, Nat.le_refl _, fun _ _ _ => rfl⟩
theorem grown_trans {a b c : World} {B : Nat} (h : a.grownBy b (some B)) (k : b.grownBy c (some B)) : a.grownBy c (some B) :=
  ⟨k.os.trans h.os, k.tape.trans h.tape, k.output.trans h.output, Nat.le_trans h.size k.size, fun i hi hn => (k.block i (Nat.lt_of_lt_of_le hi h.size) hn).trans (h.block i hi hn)⟩
theorem grown_set1 {W w : World} {B : Nat} (h : W.grownBy w (some B)) (a : Addr) (ha : a.block = B) (v : Value) : W.grownBy (w.setCell a v) (some B) :=
  ⟨h.os, h.tape, h.output, by simpa [World.setCell] using h.size, fun k hk hne => (Below.heap_setCell w a v k (fun e => hne (by rw [e, ha]))).trans (h.block k hk hne)⟩

set_option maxHeartbeats 400000 in
theorem single_end (B : Nat) (l : List UInt8) (p : Nat) (w : World) (hr : AtR w B l p) (hcell : w.cell? ⟨B, 0, none⟩ = some (.string ⟨#[]⟩)) (hp : ¬ p < l.length) :
    Calls Try.prog 57 #[.pointer (some ⟨B, 0, none⟩)] w fun e w' => e = .returned (.int .i64 (byteAt l p : Nat)) ∧ AtR w' B l (p + 1) ∧ w.grownBy w' (some B) := by
  have HR := hid hr
  clear hr
  have h0 : byteAt l p = 0 := by rw [byteAt, List.getD_eq_getElem?_getD, List.getElem?_eq_none (by omega)]; rfl
  rw [h0]
  go_enter Try.func57, Try.ntmps57
  go_wp2
  go_ret
  refine ⟨rfl, ?_, grown_refl _ _⟩
  show w.heap[B]? = _
  rw [show (⟨(l.drop (p + 1)).toArray⟩ : ByteArray) = ⟨(l.drop p).toArray⟩ by rw [drop_empty (by omega), drop_empty (by omega)]]
  exact HR.out

set_option maxHeartbeats 1000000 in
theorem single_core (B : Nat) (q : ByteArray) (w : World) (hcell : w.cell? ⟨B, 0, none⟩ = some (.string q)) (hfree : w.frozen? ⟨B, 0, none⟩ = false) (hq0 : 0 < q.size) (hql : q.size ≤ 9223372036854775807) (hne : q.toList.isEmpty = false) :
    Calls Try.prog 57 #[.pointer (some ⟨B, 0, none⟩)] w fun e w' => e = .returned (.int .i64 (q[0].toNat : Nat)) ∧ w' = w.setCell ⟨B, 0, none⟩ (.string (q.extract 1 q.size)) := by
  have hy : q[0].toNat < 256 := q[0].toNat_lt
  go_enter Try.func57, Try.ntmps57
  go_wp2
  go_ret
  exact ⟨rfl, rfl⟩

theorem single_any (B : Nat) (l : List UInt8) (p : Nat) (w : World) (hr : AtR w B l p) (hl : l.length ≤ maxLen) :
    Calls Try.prog 57 #[.pointer (some ⟨B, 0, none⟩)] w fun e w' => e = .returned (.int .i64 (byteAt l p : Nat)) ∧ AtR w' B l (p + 1) ∧ w.grownBy w' (some B) := by
  have hcell := cell_of_one hr
  have hfree := free_of_one hr
  by_cases hp : p < l.length
  · have hsz : (⟨(l.drop p).toArray⟩ : ByteArray).size = l.length - p := by simp [ByteArray.size]
    have hne : (⟨(l.drop p).toArray⟩ : ByteArray).toList.isEmpty = false := by
      rw [ByteArray.toList_eq]
      show (l.drop p).isEmpty = false
      rw [List.isEmpty_eq_false_iff]; intro e; have := congrArg List.length e; simp at this; omega
    unfold maxLen at hl
    refine (single_core B _ w hcell hfree (by rw [hsz]; omega) (by rw [hsz]; omega) hne).mono ?_
    rintro e w' ⟨rfl, rfl⟩
    refine ⟨ret_int ?_, ?_, grown_set1 (grown_refl _ _) _ rfl _⟩
    · rw [byteAt_in ⟨(l.drop p).toArray⟩ 0 (by rw [hsz]; omega)]
      show ((byteAt (l.drop p) 0 : Nat) : Int) = _
      simp [byteAt]
    · rw [extract_one]; exact one_setCell hr
  · rw [drop_empty (by omega)] at hcell
    exact single_end B l p w hr hcell hp
end Go.Proofs.Yteljbblbdiploaa
