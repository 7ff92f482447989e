/-
  WALKS: the statement Decodes' own function, given the reader's text.
-/
import Derived.Test.YteljbblbdiploaaBk8
import Derived.Test.YteljbblbdiploaaWDec2
import Derived.Test.YteljbblbdiploaaRefDec2
namespace Go.Proofs.Yteljbblbdiploaa
open Go.RowKit

/-- what a Decode answers of these bytes -/
def Answers (f : Nat) (x : ByteArray) (org : Int) (zs : List Int) (t k : Int) (nm tx : ByteArray) (am o q er : Int) : Prop :=
  ∀ w : World, Calls Try.prog f #[.string x] w fun e w' => ∃ ao cp, e = .returned (.tuple #[.agg #[.int .i64 org, .slice ao zs.length cp, .int .u8 t, .int .u8 k, .string nm, .string tx, .int .i64 am, .int .i64 o, .int .i64 q], .int .i64 er]) ∧
    w'.ownsRow w.heap.size 3 1 (.slice ao zs.length cp) zs.length (ics zs) ∧ Below w.heap.size w w'

theorem answers_both (hT : TextSaid) (x : ByteArray) (hx : x.size ≤ 140737488351232) : ∃ org zs t k nm tx am o q er, zs.length ≤ 8 ∧ Answers 12 x org zs t k nm tx am o q er ∧ Answers 13 x org zs t k nm tx am o q er := by
  have hm : x.size ≤ maxLen := by unfold maxLen; omega
  by_cases h : ∃ org zs t k nm tx am o q, IsEnc x.data.toList org zs t k nm tx am o q
  · obtain ⟨org, zs, t, k, nm, tx, am, o, q, h⟩ := h
    refine ⟨org, zs, t, k, _, _, am, o, q, 0, ?_, fun w => wDecode_yes hT x w hx org zs t k nm tx am o q h, fun w => rDecode_yes x w hm org zs t k nm tx am o q h⟩
    have h1 := h.1
    simp only [goodU, Bool.and_eq_true, decide_eq_true_eq] at h1
    exact h1.1.2
  · have h' : ∀ org zs t k nm tx am o q, ¬ IsEnc x.data.toList org zs t k nm tx am o q := fun org zs t k nm tx am o q hh => h ⟨org, zs, t, k, nm, tx, am, o, q, hh⟩
    refine ⟨0, [], 0, 0, ⟨#[]⟩, ⟨#[]⟩, 0, 0, 0, 3, by simp, fun w => (wDecode_no hT x w hx h').mono ?_, fun w => (rDecode_no x w hm h').mono ?_⟩
    all_goals
      rintro e w' ⟨rfl, hb⟩
      exact ⟨none, 0, rfl, World.ownsRow_nil _ _ _ _, hb⟩

set_option maxRecDepth 16000 in
set_option maxHeartbeats 4000000 in
theorem decodes_any (hT : TextSaid) (s t : ByteArray) (w : World) (hs : s.size ≤ 140737488351232) (ht : t.size ≤ 140737488351232) :
    Calls Try.prog 4 #[.string s, .string t] w fun e w' => e = .returned (.bool true) ∧ Below w.heap.size w w' := by
  have HA := hid (answers_both hT s hs)
  have HA2 := hid (answers_both hT t ht)
  clear hT
  obtain ⟨B, hBw⟩ : ∃ B, B = w.heap.size := ⟨_, rfl⟩
  go_enter Try.func4, Try.ntmps4
  go_wp2_with fail
  rw [← hBw]
  have HBw := hid hBw
  clear hBw
  go_loopw [6] (fun i wr => ∃ (c : Nat) (r0 c4 c5 : Value) (L0 : List Value) (zs : List Int), c ≤ 4 ∧ i = .int .i64 c ∧ L0.length = 4 * c ∧ zs.length ≤ 8 ∧ BookAt wr B B r0 (.slice none 0 0) (.slice none 0 0) c4 c5 (.slice none 0 0) (.slice none 0 0) (.slice none 0 0) (.slice none 0 0) L0 [] [] zs [] [] ∧ Below B w wr) (fun i _ => 4 - (intOf i).toNat)
  case atStart =>
    refine ⟨0, .slice none 0 0, .slice none 0 0, .slice none 0 0, [], [], by omega, rfl, rfl, by simp, ⟨by rw [HBw.out]; exact heap_alloc_new w _, ?_, ?_, ?_⟩, by rw [HBw.out]; exact (Below.refl _ _).alloc (Nat.le_refl _) _⟩
    all_goals exact ⟨World.ownsRow_nil _ _ _ _, Views.nil _ _ _ _ _ _ _, World.ownsRow_nil _ _ _ _, World.ownsRow_nil _ _ _ _, fun g hg => by simp [Value.ownBlock] at hg, rfl⟩
  case round =>
    obtain ⟨c, r0, c4, c5, L0, zs, hc4, rfl, hL0, hz8, hbk, hb⟩ := hrel
    have HBK := hid hbk
    have HB := hid hb
    clear hbk hb
    by_cases hlt : c < 4
    · obtain ⟨x, hx, org, ys, ty, k, nm, tx, am, o, q, er, hy8, ha, ha2⟩ : ∃ x, (x = t ∧ (2 ≤ c ∧ c ≤ 2) ∨ x = s ∧ c ≠ 2) ∧ ∃ org zs t k nm tx am o q er, zs.length ≤ 8 ∧ Answers 12 x org zs t k nm tx am o q er ∧ Answers 13 x org zs t k nm tx am o q er := by
        by_cases h2 : c = 2
        · exact ⟨t, .inl ⟨rfl, by omega, by omega⟩, HA2.out⟩
        · exact ⟨s, .inr ⟨rfl, h2⟩, HA.out⟩
      have HAW := hid ha
      have HAR := hid ha2
      clear ha ha2 HA HA2
      have HLT := hid hlt
      rcases hx with ⟨rfl, h2a, h2b⟩ | ⟨rfl, h2⟩
      all_goals
        go_wp2_with fail
      all_goals
        refine (HAW.out _).mono ?_
        rintro e w1 ⟨ao, cp, rfl, ho1, hb1⟩
        have HO1 := hid ho1
        have HB1 := hid hb1
        clear ho1 hb1
        go_wp2_with fail
        refine (HAR.out _).mono ?_
        rintro e w2 ⟨ao2, cp2, rfl, ho2, hb2⟩
        have hA1 : Below w1.heap.size w1 (w1.alloc (.cells #[.int .i64 org, .slice ao ys.length cp, .int .u8 ty, .int .u8 k, .string nm, .string tx, .int .i64 am, .int .i64 o, .int .i64 q] 28)) := (Below.refl _ _).alloc (Nat.le_refl _) _
        have hU1 : Ub w2 w1.heap.size (.int .i64 org) (.slice ao ys.length cp) (.int .u8 ty) (.int .u8 k) (.string nm) (.string tx) (.int .i64 am) (.int .i64 o) (.int .i64 q) := Ub.below (w := w1.alloc (.cells #[.int .i64 org, .slice ao ys.length cp, .int .u8 ty, .int .u8 k, .string nm, .string tx, .int .i64 am, .int .i64 o, .int .i64 q] 28)) (heap_alloc_new w1 _) hb2 (by simp)
        have h12 : Below w1.heap.size w1 w2 := hA1.trans (hb2.mono (by simp))
        have HU1 := hid hU1
        have H12 := hid h12
        have HO2 := hid ho2
        have HO1b := hid (ownsRow_later HO1.out h12)
        have hne1 : w1.heap.size < w2.heap.size := hU1.lt
        obtain ⟨hc1, hf1⟩ := hU1.cells
        clear hA1 hU1 h12 ho2 hb2
        go_wp2_with fail
        have hA2 : Below w2.heap.size w2 (w2.alloc (.cells #[.int .i64 org, .slice ao2 ys.length cp2, .int .u8 ty, .int .u8 k, .string nm, .string tx, .int .i64 am, .int .i64 o, .int .i64 q] 28)) := (Below.refl _ _).alloc (Nat.le_refl _) _
        refine (sameInts_same 0 _ _ ys _ (ownsRow_mono (HO1b.out.alloc _) (Nat.zero_le _)) (ownsRow_mono (HO2.out.alloc _) (Nat.zero_le _)) (by omega)).mono ?_
        rintro e w3 ⟨rfl, hb3⟩
        have h23 : Below w2.heap.size w2 w3 := hA2.trans (hb3.mono (by simp))
        have hU1' := HU1.out.below h23 HU1.out.lt
        have hU2 : Ub w3 w2.heap.size (.int .i64 org) (.slice ao2 ys.length cp2) (.int .u8 ty) (.int .u8 k) (.string nm) (.string tx) (.int .i64 am) (.int .i64 o) (.int .i64 q) := Ub.below (w := w2.alloc (.cells #[.int .i64 org, .slice ao2 ys.length cp2, .int .u8 ty, .int .u8 k, .string nm, .string tx, .int .i64 am, .int .i64 o, .int .i64 q] 28)) (heap_alloc_new w2 _) hb3 (by simp)
        have hr3 : Below wr.heap.size wr w3 := (HB1.out.trans (H12.out.mono HB1.out.size)).trans (h23.mono (Nat.le_trans HB1.out.size (Nat.le_of_lt hne1)))
        have HBK3 := hid (HBK.out.later hr3)
        have HW3 := hid hr3
        have hBr : B ≤ wr.heap.size := Nat.le_of_lt HBK.out.bb.lt
        have HO3 := hid (ownsRow_mono (ownsRow_later HO1b.out h23) hBr)
        have HLF : Hid (∀ g, (Value.slice ao ys.length cp).ownBlock = some g → c4.ownBlock ≠ some g ∧ ∀ s ∈ L0, s.ownBlock ≠ some g) := by
          intro g hg
          have hg1 := (HO1.out.lt g hg).1
          refine ⟨fun qq => ?_, fun s hs qq => ?_⟩
          · have := (HBK.out.k0.cm.lt g qq).2
            omega
          · obtain ⟨i, hi⟩ := List.getElem?_of_mem hs
            obtain ⟨kk, hk1, _⟩ := HBK.out.k0.views i s hi
            have := (hk1.lt g qq).2
            omega
        clear hc1 hf1 hA2 hb3 h23 hr3
        obtain ⟨hc1, hf1⟩ := hU1'.cells
        obtain ⟨hc2, hf2⟩ := hU2.cells
        clear hU1' hU2
        go_wp2_with fail
        refine (bookInt_any B B w3 r0 c4 c5 (.slice none 0 0) (.slice none 0 0) (.slice none 0 0) (.slice none 0 0) (.slice none 0 0) (.slice none 0 0) (.slice ao ys.length cp) L0 zs ys HBK3.out.bb (Nat.le_refl _) HBK3.out.k0 HO3.out HLF.out (by omega) (by omega) (by omega)).mono ?_
        rintro e w4 ⟨rfl, r0', was', L0', hL4, hB4, hK4, hsp4⟩
        have hb4 : Below B w3 w4 := hsp4.below (Nat.le_of_lt HBK3.out.bb.lt) (inS_low HBK3.out.k0 (Nat.le_refl _))
        have HBK4 : Hid (BookAt w4 B B r0' (.slice none 0 0) (.slice none 0 0) (.slice ao ys.length cp) was' (.slice none 0 0) (.slice none 0 0) (.slice none 0 0) (.slice none 0 0) L0' [] [] ys [] []) := ⟨hB4, hK4, HBK3.out.k1.kept HBK3.out.k0 HBK3.out.bb hsp4 (by decide) (by decide), HBK3.out.k2.kept HBK3.out.k0 HBK3.out.bb hsp4 (by decide) (by decide)⟩
        have HB4 := hid ((HB.out.trans (HW3.out.mono hBr)).trans hb4)
        clear hc1 hf1 hc2 hf2 hb4 hB4 hK4 hsp4
        go_wp2_with fail
        refine (still_any B B w4 _ _ _ _ _ _ _ _ _ _ _ _ _ _ _ HBK4.out (by omega) (by simp) (by simp) (by omega) (by simp) (by simp)).mono ?_
        rintro e w5 ⟨rfl, hb5⟩
        have HBK5 := hid (HBK4.out.later hb5)
        have HB5 := hid (HB4.out.trans (hb5.mono (Nat.le_of_lt HBK4.out.bb.lt)))
        clear hb5
        go_wp2_with fail
        go_roundw
        case rel => exact ⟨c + 1, _, _, _, L0', ys, by omega, by go_num, by omega, hy8, HBK5.out, HB5.out⟩
        case measure => simp [intOf]; omega
    · have hc : c = 4 := by omega
      go_wp2_with fail
      refine (ends_any B B wr _ _ _ _ _ _ _ _ _ _ _ _ _ _ _ HBK.out (Nat.le_refl _) (by omega) (by simp) (by simp) (by omega) (by simp) (by simp)).mono ?_
      rintro e w6 ⟨rfl, hb6⟩
      have HB6 := hid (HB.out.trans hb6)
      clear hb6
      go_wp2_with fail
      go_ret
      exact ⟨rfl, by have := HB6.out; rwa [HBw.out] at this⟩
end Go.Proofs.Yteljbblbdiploaa
