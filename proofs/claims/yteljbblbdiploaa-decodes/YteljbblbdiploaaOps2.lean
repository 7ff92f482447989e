/-
  WALKS: what is an operation: package check's Op.
-/
import Derived.Test.YteljbblbdiploaaOps1
namespace Go.Proofs.Yteljbblbdiploaa
open Go.RowKit

set_option maxHeartbeats 1000000 in
theorem op_any (t k am o s : Int) (nm tx : ByteArray) (w : World) (hn : nm.size ≤ maxLen) (hx : tx.size ≤ maxLen) :
    Calls Try.prog 52 #[.agg #[.int .u8 t, .int .u8 k, .string nm, .string tx, .int .i64 am, .int .i64 o, .int .i64 s]] w
      fun e w' => e = .returned (.bool (opB t k nm.size tx.size am o s)) ∧ Below w.heap.size w w' := by
  go_enter Try.func52, Try.ntmps52
  go_wp2_with fail
  refine (fieldsOf_any _ _ _).mono ?_
  rintro e w1 ⟨rfl, hb⟩
  obtain ⟨hc, hf⟩ := bcell hb
  have hz : w.heap.size < w1.heap.size := by have := hb.size; simp at this; omega
  have hb' : Below w.heap.size w (w1.alloc (.cells #[.bool (fText t k), .bool (fAmount t), .bool (fAnchor t)] 100)) := (((Below.refl _ _).alloc (Nat.le_refl _) _).trans (hb.mono (by simp))).alloc (by omega) _
  have hB : Hid (Below w.heap.size w (w1.alloc (.cells #[.bool (fText t k), .bool (fAmount t), .bool (fAnchor t)] 100))) := hb'
  clear hb' hb
  by_cases hk : fKind t k = true
  · go_wp2_with fail
    refine (inBounds_any _ _ _ _ _ _ _ _ hn hx).mono ?_
    rintro e w2 ⟨rfl, hb2⟩
    obtain ⟨hc2, hf2⟩ := bcell hb2
    by_cases hi : inbB nm.size tx.size am o s = true
    · go_wp2_with fail
      refine (noOther_any _ _ _ _ _ _ _ _ _ _ _ hn hx).mono ?_
      rintro e w3 ⟨rfl, hb3⟩
      go_wp2_with fail
      go_ret
      refine ⟨ret_bool (by simp [opB, hk, hi]), (hB.out.trans (hb2.mono (by simp; omega))).trans (hb3.mono (by have := hb2.size; simp at this; omega))⟩
    · go_wp2_with fail
      go_ret
      refine ⟨ret_bool (by simp [opB, hi]), hB.out.trans (hb2.mono (by simp; omega))⟩
  · go_wp2_with fail
    go_ret
    refine ⟨ret_bool (by simp [opB, hk]), hB.out⟩
end Go.Proofs.Yteljbblbdiploaa
