/-
  WALKS: package wire's Decode, of bytes that are no update's.
-/
import Derived.Test.YteljbblbdiploaaWDec
namespace Go.Proofs.Yteljbblbdiploaa
open Go.RowKit

set_option maxHeartbeats 2000000 in
theorem wDecode_core (s : ByteArray) (w : World) (org : Int) (zs : List Int) (t k : Int) (nm tx : List UInt8) (am o q : Int) (R : ByteArray) (E : Int)
    (HRU : Hid (∀ W : World, Calls Try.prog 31 #[.string s] W fun e w' => ∃ sl, e = .returned (.agg #[.int .i64 org, sl, .int .u8 t, .int .u8 k, .string ⟨nm.toArray⟩, .string ⟨tx.toArray⟩, .int .i64 am, .int .i64 o, .int .i64 q]) ∧ w'.ownsRow W.heap.size 3 1 sl zs.length (ics zs) ∧ Below W.heap.size W w'))
    (hml : zs.length ≤ maxLen) (hn8 : (⟨nm.toArray⟩ : ByteArray).size ≤ maxLen) (hx8 : (⟨tx.toArray⟩ : ByteArray).size ≤ maxLen) (ht0 : 0 ≤ t) (ht1 : t < 256) (hk0 : 0 ≤ k) (hk1 : k < 256)
    (HR : Hid (encR org zs t k ⟨nm.toArray⟩ ⟨tx.toArray⟩ am o q = R)) (HE : Hid (encE org zs t k ⟨nm.toArray⟩ ⟨tx.toArray⟩ am o q = E)) (hbad : (E != 0) = true ∨ ((E != 0) = false ∧ (R.toList == s.toList) = false)) :
    Calls Try.prog 12 #[.string s] w fun e w' => e = .returned (.tuple #[.agg #[.int .i64 0, .slice none 0 0, .int .u8 0, .int .u8 0, .string ⟨#[]⟩, .string ⟨#[]⟩, .int .i64 0, .int .i64 0, .int .i64 0], .int .i64 3]) ∧ Below w.heap.size w w' := by
  go_enter Try.func12, Try.ntmps12
  go_wp2_with fail
  refine (HRU.out _).mono ?_
  rintro e w1 ⟨sl, rfl, hown, hb1⟩
  obtain ⟨ao, cp, rfl⟩ := own_form hown
  have hz1 : w.heap.size + 1 ≤ w1.heap.size := by have := hb1.size; simp at this; omega
  have hU1 : Ub w1 w.heap.size (.int .i64 0) (.slice none 0 0) (.int .u8 0) (.int .u8 0) (.string ⟨#[]⟩) (.string ⟨#[]⟩) (.int .i64 0) (.int .i64 0) (.int .i64 0) :=
    Ub.below (w := w.alloc (.cells #[.int .i64 0, .slice none 0 0, .int .u8 0, .int .u8 0, .string ⟨#[]⟩, .string ⟨#[]⟩, .int .i64 0, .int .i64 0, .int .i64 0] 28)) (heap_alloc_new w _) hb1 (by simp)
  have hbA : Below w1.heap.size w1 (w1.alloc (.cells #[.int .i64 org, .slice ao zs.length cp, .int .u8 t, .int .u8 k, .string ⟨nm.toArray⟩, .string ⟨tx.toArray⟩, .int .i64 am, .int .i64 o, .int .i64 q] 28)) := (Below.refl _ _).alloc (Nat.le_refl _) _
  have henc := wEncode_any org t k am o q ⟨nm.toArray⟩ ⟨tx.toArray⟩ ao cp zs _ ((own_clk2 hown).2.later hbA) hml hn8 hx8 ht0 ht1 hk0 hk1
  rw [HR.out, HE.out] at henc
  have HEN := hid henc
  have HU1 := hid hU1
  have HB1 := hid hb1
  have HBA := hid hbA
  clear henc hown hU1 hb1 hbA
  go_wp2_with fail
  refine HEN.out.mono ?_
  rintro e w2 ⟨rfl, hb2⟩
  have h12 : Below w1.heap.size w1 w2 := HBA.out.trans (hb2.mono (by simp))
  have HU2 := hid (HU1.out.below h12 (by omega))
  obtain ⟨hr2, hf2⟩ := HU2.out.cells
  have HB2 : Hid (Below w.heap.size w w2) := (((Below.refl _ _).alloc (Nat.le_refl _) _).trans (HB1.out.mono (by simp))).trans (h12.mono (by omega))
  clear hb2 h12
  rcases hbad with hbad | ⟨hb0, hbad⟩
  all_goals
    go_wp2_with fail
    refine bodyPost_ret (v := .tuple #[.agg #[.int .i64 0, .slice none 0 0, .int .u8 0, .int .u8 0, .string ⟨#[]⟩, .string ⟨#[]⟩, .int .i64 0, .int .i64 0, .int .i64 0], .int .i64 3]) ?_ rfl ⟨rfl, ?_⟩
    · simp [results, Try.results12, go_sem, hr2]
    · iterate 9 (refine Below.setCell ?_ (by simp) _)
      exact HB2.out

theorem wDecode_no (hT : TextSaid) (s : ByteArray) (w : World) (hs : s.size ≤ 140737488351232) (h : ∀ org zs t k nm tx am o q, ¬ IsEnc s.data.toList org zs t k nm tx am o q) :
    Calls Try.prog 12 #[.string s] w fun e w' => e = .returned (.tuple #[.agg #[.int .i64 0, .slice none 0 0, .int .u8 0, .int .u8 0, .string ⟨#[]⟩, .string ⟨#[]⟩, .int .i64 0, .int .i64 0, .int .i64 0], .int .i64 3]) ∧ Below w.heap.size w w' := by
  obtain ⟨l, hl⟩ : ∃ l, l = s.data.toList := ⟨_, rfl⟩
  have hsz : s.size = l.length := by rw [hl]; exact (Array.length_toList).symm
  have hru : ∀ W : World, _ := fun W => readUpdate_any hT s W hs
  rw [← hl] at hru h
  have hzl : (clkAt l (byteAt l 0)).length = byteAt l 0 := clkAt_len _ _
  have b0 := byteAt_lt l 0
  have b1 := byteAt_lt l (pO l + 1)
  have b2 := byteAt_lt l (pO l + 2)
  have cn : (cutAt l (pO l + 4) (kN l)).length ≤ kN l := List.length_take_le _ _
  have cx : (cutAt l (pX l + 1) (kX l)).length ≤ kX l := List.length_take_le _ _
  have kn := byteAt_lt l (pO l + 3)
  have kx := byteAt_lt l (pX l)
  have ek : kN l = byteAt l (pO l + 3) := rfl
  have ex : kX l = byteAt l (pX l) := rfl
  have hne : (⟨(cutAt l (pO l + 4) (kN l)).toArray⟩ : ByteArray).size = (cutAt l (pO l + 4) (kN l)).length := by simp [ByteArray.size]
  have hxe : (⟨(cutAt l (pX l + 1) (kX l)).toArray⟩ : ByteArray).size = (cutAt l (pX l + 1) (kX l)).length := by simp [ByteArray.size]
  refine wDecode_core s w (byteAt l (pO l) : Nat) (clkAt l (byteAt l 0)) (byteAt l (pO l + 1) : Nat) (byteAt l (pO l + 2) : Nat) (cutAt l (pO l + 4) (kN l)) (cutAt l (pX l + 1) (kX l)) (((pairAt l (pA l) : Nat) : Int) - 1000) (byteAt l (pA l + 2) : Nat) (pairAt l (pA l + 3) : Nat) _ _
    (by rw [hzl]; exact hru) (by rw [hzl]; unfold maxLen; omega) (by rw [hne]; unfold maxLen; omega) (by rw [hxe]; unfold maxLen; omega) (by omega) (by omega) (by omega) (by omega) rfl rfl ?_
  by_cases hg : goodU (byteAt l (pO l) : Nat) (clkAt l (byteAt l 0)) (byteAt l (pO l + 1) : Nat) (byteAt l (pO l + 2) : Nat) (cutAt l (pO l + 4) (kN l)).length (cutAt l (pX l + 1) (kX l)).length (((pairAt l (pA l) : Nat) : Int) - 1000) (byteAt l (pA l + 2) : Nat) (pairAt l (pA l + 3) : Nat) = true
  · right
    rw [encE, encR, hne, hxe, if_pos hg, if_pos hg]
    refine ⟨rfl, ?_⟩
    rw [beq_eq_false_iff_ne, ByteArray.toList_eq, ByteArray.toList_eq, ← hl]
    intro e
    exact h _ _ _ _ _ _ _ _ _ ⟨hg, by omega, by omega, e.symm⟩
  · left
    rw [encE, hne, hxe, if_neg hg]
    rfl
end Go.Proofs.Yteljbblbdiploaa
