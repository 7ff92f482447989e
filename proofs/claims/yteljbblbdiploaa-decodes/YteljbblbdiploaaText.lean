/-
  WALKS: package wire's reader: text.
-/
import Derived.Test.YteljbblbdiploaaBlk
import Derived.Test.YteljbblbdiploaaClone
namespace Go.Proofs.Yteljbblbdiploaa
open Go.RowKit

set_option maxHeartbeats 1000000 in
theorem text_said : TextSaid := by
  intro B l p w hr hl
  have HR := hid hr
  clear hr
  have HL := hid hl
  have hk := byteAt_lt l p
  have hm : l.length ≤ maxLen := by unfold maxLen; omega
  clear hl
  go_enter Try.func59, Try.ntmps59
  go_wp2_with fail
  refine (single_any B l p _ HR.out hm).mono ?_
  rintro e w1 ⟨rfl, hr1, hg1⟩
  have HR1 := hid hr1
  have HG1 := hid hg1
  have hcell := cell_of_one hr1
  have hfree := free_of_one hr1
  have hsz : (⟨(l.drop (p + 1)).toArray⟩ : ByteArray).size = l.length - (p + 1) := by simp [ByteArray.size]
  clear hr1 hg1
  generalize hbk : byteAt l p = k at *
  have HK := hid hbk
  clear hbk
  generalize hq : (⟨(l.drop (p + 1)).toArray⟩ : ByteArray) = q at *
  go_wp2_with fail
  refine (clone_any _ _ ?_).mono ?_
  · have := HL.out
    rw [ByteArray.size_extract]; omega
  rintro e w2 ⟨rfl, hb⟩
  have hlt := lt_of_block HR1.out
  have hc2 : w2.cell? ⟨B, 0, none⟩ = some (.string q) := (hb.cell (p := ⟨B, 0, none⟩) hlt).trans hcell
  have hf2 : w2.frozen? ⟨B, 0, none⟩ = false := (hb.frozen (p := ⟨B, 0, none⟩) hlt).trans hfree
  have HB := hid hb
  have HQ := hid hq
  clear hcell hfree hb hq
  go_wp2
  go_ret
  rw [HK.out]
  have hq := HQ.out
  have hmin : (min (k : Int) ((l.length - (p + 1) : Nat) : Int)).toNat = min k (l.length - (p + 1)) := by omega
  rw [hmin]
  have hR2 : w2.heap[B]? = some (.cells #[.string q] 89 (0, 0)) := ((HB.out).block B hlt).trans (hq ▸ HR1.out)
  have e1 : q.extract 0 (min k (l.length - (p + 1))) = ⟨(cutAt l (p + 1) k).toArray⟩ := by
    rw [← hq, extract_list]
    show (⟨(List.take (min k (l.length - (p + 1)) - 0) (List.drop 0 (l.drop (p + 1)))).toArray⟩ : ByteArray) = _
    rw [List.drop_zero, Nat.sub_zero, cutAt, ← List.length_drop, ← List.take_eq_take_min]
  have e2 : q.extract (min k (l.length - (p + 1))) (l.length - (p + 1)) = ⟨(l.drop (p + 1 + k)).toArray⟩ := by
    rw [← hq, extract_list]
    show (⟨(List.take (l.length - (p + 1) - min k (l.length - (p + 1))) (List.drop (min k (l.length - (p + 1))) (l.drop (p + 1)))).toArray⟩ : ByteArray) = _
    rw [List.take_of_length_le (by simp only [List.length_drop]; omega), List.drop_drop]
    by_cases h : k ≤ l.length - (p + 1)
    · rw [Nat.min_eq_left h]
    · rw [List.drop_eq_nil_of_le (by omega), List.drop_eq_nil_of_le (by omega)]
  refine ⟨?_, ?_, ?_⟩
  · rw [e1]; rfl
  · rw [e2]; exact blk_set hR2 _
  · exact grown_set1 (grown_trans HG1.out ⟨HB.out.os, HB.out.tape, HB.out.output, HB.out.size, fun i hi _ => HB.out.block i hi⟩) _ rfl _
end Go.Proofs.Yteljbblbdiploaa
