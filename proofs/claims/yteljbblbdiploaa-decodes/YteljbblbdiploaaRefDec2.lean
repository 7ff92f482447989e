/-
  CONTRACTS: the document's answer's Decode: of bytes that are an update's, and of others.
-/
import Derived.Test.YteljbblbdiploaaRefDec
import Derived.Test.YteljbblbdiploaaWDec
namespace Go.Proofs.Yteljbblbdiploaa
open Go.RowKit

theorem rDecode_yes (s : ByteArray) (w : World) (hs : s.size ≤ maxLen) (org : Int) (zs : List Int) (t k : Int) (nm tx : List UInt8) (am o q : Int) (h : IsEnc s.data.toList org zs t k nm tx am o q) :
    Calls Try.prog 13 #[.string s] w fun e w' => ∃ ao cp, e = .returned (.tuple #[.agg #[.int .i64 org, .slice ao zs.length cp, .int .u8 t, .int .u8 k, .string ⟨nm.toArray⟩, .string ⟨tx.toArray⟩, .int .i64 am, .int .i64 o, .int .i64 q], .int .i64 0]) ∧
      w'.ownsRow w.heap.size 3 1 (.slice ao zs.length cp) zs.length (ics zs) ∧ Below w.heap.size w w' := by
  obtain ⟨l, hl⟩ : ∃ l, l = s.data.toList := ⟨_, rfl⟩
  rw [← hl] at h
  obtain ⟨r0, r1, r2, r3, r4, r5, r6, r7, r8, r9, r10, r11, r12⟩ := isEnc_read h (lastB (crcSum (encBody org zs t k nm tx am o q)) 4) l h.2.2.2
  have c1 : pO l + 4 + kN l ≤ l.length := by have : pX l = pO l + 4 + kN l := rfl; have : pA l = pX l + 1 + kX l := rfl; omega
  have c2 : pX l + 1 + kX l ≤ l.length := by have : pA l = pX l + 1 + kX l := rfl; omega
  have t1 : textAt l (pO l + 4) (kN l) = nm := by rw [textAt, if_pos c1]; exact r6
  have t2 : textAt l (pX l + 1) (kX l) = tx := by rw [textAt, if_pos c2]; exact r8
  have hne : (⟨nm.toArray⟩ : ByteArray).size = nm.length := by simp [ByteArray.size]
  have hxe : (⟨tx.toArray⟩ : ByteArray).size = tx.length := by simp [ByteArray.size]
  have hR : encR org zs t k ⟨nm.toArray⟩ ⟨tx.toArray⟩ am o q = s := by
    rw [encR, hne, hxe, if_pos h.1]
    show (⟨(withSum (encBody org zs t k nm tx am o q)).toArray⟩ : ByteArray) = s
    rw [← h.2.2.2, hl]
  have hE : encE org zs t k ⟨nm.toArray⟩ ⟨tx.toArray⟩ am o q = 0 := by rw [encE, hne, hxe, if_pos h.1]
  refine rDecode_walk s w hs l hl s 0 (by rw [r1, r2, r3, r4, t1, t2, r9, r10, r11]; exact hR) (by rw [r1, r2, r3, r4, t1, t2, r9, r10, r11]; exact hE) _ ?_ ?_
  · intro hno; exact absurd ⟨rfl, rfl⟩ hno
  · intro _ ao cp w' hown hb
    rw [r1, r0] at hown
    refine ⟨ao, cp, ?_, hown, hb⟩
    rw [r0, r2, r3, r4, t1, t2, r9, r10, r11]

theorem rDecode_no (s : ByteArray) (w : World) (hs : s.size ≤ maxLen) (h : ∀ org zs t k nm tx am o q, ¬ IsEnc s.data.toList org zs t k nm tx am o q) :
    Calls Try.prog 13 #[.string s] w fun e w' => e = .returned (.tuple #[.agg #[.int .i64 0, .slice none 0 0, .int .u8 0, .int .u8 0, .string ⟨#[]⟩, .string ⟨#[]⟩, .int .i64 0, .int .i64 0, .int .i64 0], .int .i64 3]) ∧ Below w.heap.size w w' := by
  obtain ⟨l, hl⟩ : ∃ l, l = s.data.toList := ⟨_, rfl⟩
  refine rDecode_walk s w hs l hl _ _ rfl rfl _ ?_ ?_
  · intro _ w' hb; exact ⟨rfl, hb⟩
  · intro hok
    exfalso
    have b1 := byteAt_lt l (pO l + 1)
    have b2 := byteAt_lt l (pO l + 2)
    have hne : (⟨(textAt l (pO l + 4) (kN l)).toArray⟩ : ByteArray).size = (textAt l (pO l + 4) (kN l)).length := by simp [ByteArray.size]
    have hxe : (⟨(textAt l (pX l + 1) (kX l)).toArray⟩ : ByteArray).size = (textAt l (pX l + 1) (kX l)).length := by simp [ByteArray.size]
    obtain ⟨hE, hR⟩ := hok
    by_cases hg : goodU (byteAt l (pO l) : Nat) (clkAt l (byteAt l 0)) (byteAt l (pO l + 1) : Nat) (byteAt l (pO l + 2) : Nat) (textAt l (pO l + 4) (kN l)).length (textAt l (pX l + 1) (kX l)).length (((pairAt l (pA l) : Nat) : Int) - 1000) (byteAt l (pA l + 2) : Nat) (pairAt l (pA l + 3) : Nat) = true
    · rw [encR, hne, hxe, if_pos hg] at hR
      refine h (byteAt l (pO l) : Nat) (clkAt l (byteAt l 0)) (byteAt l (pO l + 1) : Nat) (byteAt l (pO l + 2) : Nat) (textAt l (pO l + 4) (kN l)) (textAt l (pX l + 1) (kX l)) (((pairAt l (pA l) : Nat) : Int) - 1000) (byteAt l (pA l + 2) : Nat) (pairAt l (pA l + 3) : Nat) ⟨hg, by omega, by omega, ?_⟩
      rw [← hR]
    · rw [encE, hne, hxe, if_neg hg] at hE
      exact absurd hE (by decide)
end Go.Proofs.Yteljbblbdiploaa
