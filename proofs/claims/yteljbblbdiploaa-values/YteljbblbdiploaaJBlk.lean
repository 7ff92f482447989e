/-
  PLAIN: bytes read as an update; what was encoded is read back; no Go text in sight.
-/
/-
  WALKS: the document's answer's numbers and texts at a place.
-/
/-
  WALKS: package wire's reader: single, pair.
-/
/-
  WALKS: package wire's reader: pair; what its text is to do.
-/
/-
  SMALL LAWS: a struct's block, whole: its cells, a store into it, and what leaves it alone.
-/
import Derived.Test.YteljbblbdiploaaJEnc
import Derived.Lib.Strings
import Derived.WideShapes
import Derived.Test.YteljbblbdiploaaJAppUpd
import Derived.Laws.BitsLemmas
import Derived.Test.YteljbblbdiploaaJBack
namespace Go.Proofs.Yteljbblbdiploaa

/-- the byte at a place; 0 beyond the end -/
def byteAt (l : List UInt8) (p : Nat) : Nat := (l.getD p 0).toNat
/-- the number of two bytes at a place -/
def pairAt (l : List UInt8) (p : Nat) : Nat := 256 * byteAt l p + byteAt l (p + 1)
/-- the text of k bytes at a place, cut at the end -/
def cutAt (l : List UInt8) (p k : Nat) : List UInt8 := (l.drop p).take k
/-- the text of k bytes at a place; none, if there are not so many -/
def textAt (l : List UInt8) (p k : Nat) : List UInt8 := if p + k ≤ l.length then (l.drop p).take k else []

theorem byteAt_lt (l : List UInt8) (p : Nat) : byteAt l p < 256 := (l.getD p 0).toNat_lt
theorem pairAt_lt (l : List UInt8) (p : Nat) : pairAt l p < 65536 := by have := byteAt_lt l p; have := byteAt_lt l (p + 1); unfold pairAt; omega

/-- the clock's numbers -/
def clkAt (l : List UInt8) (n : Nat) : List Int := (List.range n).map fun i => ((pairAt l (1 + 2 * i) : Nat) : Int)
theorem clkAt_len (l : List UInt8) (n : Nat) : (clkAt l n).length = n := by simp [clkAt]

/-- what stands in the bytes: the places -/
def pO (l : List UInt8) : Nat := 1 + 2 * byteAt l 0
def kN (l : List UInt8) : Nat := byteAt l (pO l + 3)
def pX (l : List UInt8) : Nat := pO l + 4 + kN l
def kX (l : List UInt8) : Nat := byteAt l (pX l)
def pA (l : List UInt8) : Nat := pX l + 1 + kX l

theorem byteAt_app (a b : List UInt8) (p i : Nat) (h : p = a.length + i) : byteAt (a ++ b) p = byteAt b i := by
  subst h
  rw [byteAt, byteAt, List.getD_eq_getElem?_getD, List.getD_eq_getElem?_getD, List.getElem?_append_right (by omega), Nat.add_sub_cancel_left]
theorem pairAt_app (a b : List UInt8) (p i : Nat) (h : p = a.length + i) : pairAt (a ++ b) p = pairAt b i := by
  unfold pairAt; rw [byteAt_app a b p i h, byteAt_app a b (p + 1) (i + 1) (by omega)]
theorem cutAt_app (a b : List UInt8) (p k : Nat) (h : p = a.length) : cutAt (a ++ b) p k = b.take k := by
  subst h; simp [cutAt]
theorem byteAt_last1 (v : Nat) (x : List UInt8) (h : v < 256) : byteAt (lastB v 1 ++ x) 0 = v := by
  simp only [byteAt, lastB, List.cons_append, List.nil_append, List.getD_cons_zero, UInt8.toNat_ofNat']
  simp; omega
theorem pairAt_last2 (v : Nat) (x : List UInt8) (h : v < 65536) : pairAt (lastB v 2 ++ x) 0 = v := by
  simp only [pairAt, byteAt, lastB, List.cons_append, List.nil_append, List.getD_cons_zero, List.getD_cons_succ, UInt8.toNat_ofNat']
  simp; omega

/-- the clock's numbers, read back -/
theorem clk_back : ∀ (zs : List Int) (a x : List UInt8), (∀ z ∈ zs, 0 ≤ z ∧ z ≤ 1000) → ((List.range zs.length).map fun i => ((pairAt (a ++ clkBytes zs ++ x) (a.length + 2 * i) : Nat) : Int)) = zs
  | [], _, _, _ => rfl
  | z :: zs, a, x, h => by
    have hz := h z (by simp)
    have ih := clk_back zs (a ++ lastB z.toNat 2) x (fun y hy => h y (by simp [hy]))
    rw [List.length_cons, List.range_succ_eq_map, List.map_cons, List.map_map]
    have e0 : ((pairAt (a ++ clkBytes (z :: zs) ++ x) (a.length + 2 * 0) : Nat) : Int) = z := by
      rw [clkBytes, List.append_assoc, List.append_assoc, pairAt_app a _ _ 0 (by omega), pairAt_last2 _ _ (by omega)]; omega
    rw [e0]
    congr 1
    rw [List.length_append, lastB_len] at ih
    refine Eq.trans (List.map_congr_left fun i _ => ?_) ih
    show ((pairAt (a ++ (lastB z.toNat 2 ++ clkBytes zs) ++ x) (a.length + 2 * (i + 1)) : Nat) : Int) = _
    rw [← List.append_assoc a]
    congr 2
    omega

/-- AN UPDATE's BYTES, READ: every field comes back, whatever stands behind them. -/
theorem read_back (org : Int) (zs : List Int) (t k : Int) (nm tx : List UInt8) (am o s : Int) (x : List UInt8) (hl : zs.length < 256) (hz : ∀ z ∈ zs, 0 ≤ z ∧ z ≤ 1000) (hg : 0 ≤ org ∧ org < 256) (ht : 0 ≤ t ∧ t < 256) (hk : 0 ≤ k ∧ k < 256)
    (hn : nm.length < 256) (hx : tx.length < 256) (ha : -1000 ≤ am ∧ am ≤ 1000) (ho : 0 ≤ o ∧ o < 256) (hs : 0 ≤ s ∧ s < 65536) (l : List UInt8) (e : l = encBody org zs t k nm tx am o s ++ x) :
    byteAt l 0 = zs.length ∧ clkAt l (byteAt l 0) = zs ∧ ((byteAt l (pO l) : Nat) : Int) = org ∧ ((byteAt l (pO l + 1) : Nat) : Int) = t ∧ ((byteAt l (pO l + 2) : Nat) : Int) = k ∧ kN l = nm.length ∧ cutAt l (pO l + 4) (kN l) = nm ∧
      kX l = tx.length ∧ cutAt l (pX l + 1) (kX l) = tx ∧ ((pairAt l (pA l) : Nat) : Int) - 1000 = am ∧ ((byteAt l (pA l + 2) : Nat) : Int) = o ∧ ((pairAt l (pA l + 3) : Nat) : Int) = s ∧ pA l + 5 ≤ l.length := by
  have e0 : byteAt l 0 = zs.length := by
    rw [e, encBody, encHead, List.append_assoc, List.append_assoc]; exact byteAt_last1 _ _ hl
  have eC : clkAt l (byteAt l 0) = zs := by
    rw [e0, clkAt]
    have := clk_back zs (lastB zs.length 1) (encTail org t k nm tx am o s ++ x) hz
    rw [lastB_len] at this
    rw [e, encBody, encHead]
    simpa only [List.append_assoc] using this
  have hp : pO l = (encHead zs).length := by rw [pO, e0, encHead, List.length_append, lastB_len, clkBytes_len]
  have eT : l = encHead zs ++ (encTail org t k nm tx am o s ++ x) := by rw [e, encBody, List.append_assoc]
  have e1 : byteAt l (pO l) = org.toNat := by
    rw [hp, eT, byteAt_app _ _ _ 0 (Nat.add_zero _).symm]
    simp only [encTail, List.append_assoc]; exact byteAt_last1 _ _ (by omega)
  have e2 : byteAt l (pO l + 1) = t.toNat := by
    rw [hp, eT, byteAt_app _ _ _ 1 rfl]
    simp only [encTail, List.append_assoc]
    rw [byteAt_app (lastB org.toNat 1) _ 1 0 (by rw [lastB_len])]; exact byteAt_last1 _ _ (by omega)
  have e3 : byteAt l (pO l + 2) = k.toNat := by
    rw [hp, eT, byteAt_app _ _ _ 2 rfl]
    simp only [encTail, List.append_assoc]
    rw [byteAt_app (lastB org.toNat 1) _ 2 1 (by rw [lastB_len]), byteAt_app (lastB t.toNat 1) _ 1 0 (by rw [lastB_len])]; exact byteAt_last1 _ _ (by omega)
  have e4 : kN l = nm.length := by
    rw [kN, hp, eT, byteAt_app _ _ _ 3 rfl]
    simp only [encTail, List.append_assoc]
    rw [byteAt_app (lastB org.toNat 1) _ 3 2 (by rw [lastB_len]), byteAt_app (lastB t.toNat 1) _ 2 1 (by rw [lastB_len]), byteAt_app (lastB k.toNat 1) _ 1 0 (by rw [lastB_len])]; exact byteAt_last1 _ _ hn
  have s4 : l = (encHead zs ++ (lastB org.toNat 1 ++ lastB t.toNat 1 ++ lastB k.toNat 1 ++ lastB nm.length 1)) ++ (nm ++ (lastB tx.length 1 ++ (tx ++ (lastB (am + 1000).toNat 2 ++ (lastB o.toNat 1 ++ (lastB s.toNat 2 ++ x)))))) := by
    rw [eT]; simp only [encTail, List.append_assoc]
  have l4 : (encHead zs ++ (lastB org.toNat 1 ++ lastB t.toNat 1 ++ lastB k.toNat 1 ++ lastB nm.length 1)).length = pO l + 4 := by
    rw [hp]; simp only [List.length_append, lastB_len]
  have e5 : cutAt l (pO l + 4) (kN l) = nm := by
    rw [e4, ← l4]
    conv => lhs; arg 1; rw [s4]
    rw [cutAt_app _ _ _ _ rfl, List.take_left]
  have s5 : l = (encHead zs ++ (lastB org.toNat 1 ++ lastB t.toNat 1 ++ lastB k.toNat 1 ++ lastB nm.length 1) ++ nm) ++ (lastB tx.length 1 ++ (tx ++ (lastB (am + 1000).toNat 2 ++ (lastB o.toNat 1 ++ (lastB s.toNat 2 ++ x))))) := by
    rw [s4]; simp only [List.append_assoc]
  have l5 : (encHead zs ++ (lastB org.toNat 1 ++ lastB t.toNat 1 ++ lastB k.toNat 1 ++ lastB nm.length 1) ++ nm).length = pX l := by
    rw [List.length_append, l4, pX, e4]
  have e6 : kX l = tx.length := by
    rw [kX, ← l5]
    conv => lhs; arg 1; rw [s5]
    rw [byteAt_app _ _ _ 0 (Nat.add_zero _).symm]; exact byteAt_last1 _ _ hx
  have s6 : l = (encHead zs ++ (lastB org.toNat 1 ++ lastB t.toNat 1 ++ lastB k.toNat 1 ++ lastB nm.length 1) ++ nm ++ lastB tx.length 1) ++ (tx ++ (lastB (am + 1000).toNat 2 ++ (lastB o.toNat 1 ++ (lastB s.toNat 2 ++ x)))) := by
    rw [s5]; simp only [List.append_assoc]
  have l6 : (encHead zs ++ (lastB org.toNat 1 ++ lastB t.toNat 1 ++ lastB k.toNat 1 ++ lastB nm.length 1) ++ nm ++ lastB tx.length 1).length = pX l + 1 := by
    rw [List.length_append, l5, lastB_len]
  have e7 : cutAt l (pX l + 1) (kX l) = tx := by
    rw [e6, ← l6]
    conv => lhs; arg 1; rw [s6]
    rw [cutAt_app _ _ _ _ rfl, List.take_left]
  have s7 : l = (encHead zs ++ (lastB org.toNat 1 ++ lastB t.toNat 1 ++ lastB k.toNat 1 ++ lastB nm.length 1) ++ nm ++ lastB tx.length 1 ++ tx) ++ (lastB (am + 1000).toNat 2 ++ (lastB o.toNat 1 ++ (lastB s.toNat 2 ++ x))) := by
    rw [s6]; simp only [List.append_assoc]
  have l7 : (encHead zs ++ (lastB org.toNat 1 ++ lastB t.toNat 1 ++ lastB k.toNat 1 ++ lastB nm.length 1) ++ nm ++ lastB tx.length 1 ++ tx).length = pA l := by
    rw [List.length_append, l6, pA, e6]
  have e8 : pairAt l (pA l) = (am + 1000).toNat := by
    rw [← l7]
    conv => lhs; arg 1; rw [s7]
    rw [pairAt_app _ _ _ 0 (Nat.add_zero _).symm]; exact pairAt_last2 _ _ (by omega)
  have e9 : byteAt l (pA l + 2) = o.toNat := by
    rw [← l7]
    conv => lhs; arg 1; rw [s7]
    rw [byteAt_app _ _ _ 2 rfl, byteAt_app (lastB (am + 1000).toNat 2) _ 2 0 (by rw [lastB_len])]; exact byteAt_last1 _ _ (by omega)
  have e10 : pairAt l (pA l + 3) = s.toNat := by
    rw [← l7]
    conv => lhs; arg 1; rw [s7]
    rw [pairAt_app _ _ _ 3 rfl, pairAt_app (lastB (am + 1000).toNat 2) _ 3 1 (by rw [lastB_len]), pairAt_app (lastB o.toNat 1) _ 1 0 (by rw [lastB_len])]; exact pairAt_last2 _ _ (by omega)
  have e11 : pA l + 5 ≤ l.length := by
    have := congrArg List.length s7
    rw [List.length_append, l7] at this
    simp only [List.length_append, lastB_len] at this
    omega
  exact ⟨e0, eC, by omega, by omega, by omega, e4, e5, e6, e7, by omega, by omega, by omega, e11⟩
end Go.Proofs.Yteljbblbdiploaa

namespace Go.Proofs.Yteljbblbdiploaa
open Go.RowKit

/-- the number of n bytes at a place -/
def bigAt (l : List UInt8) (p : Nat) : Nat → Nat
  | 0 => 0
  | n + 1 => 256 * bigAt l p n + byteAt l (p + n)
theorem bigAt_one (l : List UInt8) (p : Nat) : bigAt l p 1 = byteAt l p := by simp [bigAt]
theorem bigAt_two (l : List UInt8) (p : Nat) : bigAt l p 2 = pairAt l p := by simp [bigAt, pairAt]
theorem byteAt_in (s : ByteArray) (i : Nat) (h : i < s.size) : (s[i]).toNat = byteAt s.data.toList i := by
  rw [byteAt, List.getD_eq_getElem?_getD, List.getElem?_eq_getElem (by simpa using h)]; rfl
theorem byteAt_out (s : ByteArray) (i : Nat) (h : s.size ≤ i) : byteAt s.data.toList i = 0 := by
  rw [byteAt, List.getD_eq_getElem?_getD, List.getElem?_eq_none (by simpa using h)]; rfl

set_option maxHeartbeats 1000000 in
theorem number_any (s : ByteArray) (p n : Nat) (w : World) (hs : s.size ≤ maxLen) (hp : p ≤ 100000) (hn : n ≤ 2) :
    Calls Try.prog 32 #[.string s, .int .i64 p, .int .i64 n] w fun e w' => e = .returned (.int .i64 (bigAt s.data.toList p n : Nat)) ∧ w' = w := by
  unfold maxLen at hs
  go_enter Try.func32, Try.ntmps32
  go_wp2
  go_loop [7, 8] (fun v i => ∃ j : Nat, j ≤ n ∧ i = .int .i64 ((p + j : Nat) : Int) ∧ v = .int .i64 (bigAt s.data.toList p j : Nat) ∧ bigAt s.data.toList p j < 256 ^ j) (fun _ i => p + n - (intOf i).toNat)
  case atStart => exact ⟨0, by omega, rfl, rfl, by simp [bigAt]⟩
  case round =>
    obtain ⟨j, hj, rfl, rfl, hv⟩ := hrel
    by_cases hlt : j < n
    · have hb := byteAt_lt s.data.toList (p + j)
      have hv' : bigAt s.data.toList p j < 256 := by
        have : j = 0 ∨ j = 1 := by omega
        rcases this with rfl | rfl
        · simpa using Nat.lt_of_lt_of_le hv (by decide)
        · simpa using hv
      have HS : Hid (bigAt s.data.toList p (j + 1) = 256 * bigAt s.data.toList p j + byteAt s.data.toList (p + j)) := rfl
      have HB : Hid (256 * bigAt s.data.toList p j + byteAt s.data.toList (p + j) < 256 ^ (j + 1)) := by
        have : j = 0 ∨ j = 1 := by omega
        show _ < _
        rcases this with rfl | rfl
        · have : bigAt s.data.toList p 0 = 0 := rfl
          omega
        · omega
      clear hv
      by_cases hin : p + j < s.size
      · have HI := byteAt_in s (p + j) hin
        have HI' : Hid ((s[p + j]).toNat = byteAt s.data.toList (p + j)) := HI
        clear HI
        have hy : (s[p + j]).toNat < 256 := (s[p + j]).toNat_lt
        generalize bigAt s.data.toList p j = x at *
        go_wp2
        go_round
        case rel => exact ⟨j + 1, by omega, by go_num, by rw [HS.out, ← HI'.out]; exact val_int (by omega), by rw [HS.out]; exact HB.out⟩
        case measure => simp [intOf]; omega
      · have HI' : Hid (byteAt s.data.toList (p + j) = 0) := byteAt_out s (p + j) (by omega)
        generalize bigAt s.data.toList p j = x at *
        go_wp2
        go_round
        case rel => exact ⟨j + 1, by omega, by go_num, by rw [HS.out, HI'.out]; exact val_int (by omega), by rw [HS.out]; exact HB.out⟩
        case measure => simp [intOf]; omega
    · go_wp2
      go_ret
      have : j = n := by omega
      subst this
      exact ⟨rfl, rfl⟩

theorem extract_list (s : ByteArray) (a b : Nat) : s.extract a b = ⟨((s.data.toList.drop a).take (b - a)).toArray⟩ := by
  apply Go.WideShapes.bytes_inj
  rw [Lib.extract_data]
theorem text_in (s : ByteArray) (p n : Nat) (h : p + n ≤ s.size) : s.extract p (p + n) = ⟨(textAt s.data.toList p n).toArray⟩ := by
  rw [extract_list, textAt, if_pos (by simpa using h), Nat.add_sub_cancel_left]
theorem text_out (s : ByteArray) (p n : Nat) (h : s.size < p + n) : textAt s.data.toList p n = [] := by
  rw [textAt, if_neg]
  rw [Array.length_toList]
  show ¬ p + n ≤ s.size
  omega

set_option maxHeartbeats 1000000 in
theorem text_any (s : ByteArray) (p n : Nat) (w : World) (hs : s.size ≤ maxLen) (hp : p ≤ 100000) (hn : n ≤ 1000) :
    Calls Try.prog 33 #[.string s, .int .i64 p, .int .i64 n] w fun e w' => e = .returned (.string ⟨(textAt s.data.toList p n).toArray⟩) ∧ w' = w := by
  unfold maxLen at hs
  by_cases h : p + n ≤ s.size
  · have h' : (p : Int) + n ≤ s.size := by omega
    go_enter Try.func33, Try.ntmps33
    go_wp2
    go_ret
    exact ⟨by rw [← text_in s p n h]; rfl, rfl⟩
  · have h' : (s.size : Int) < (p : Int) + n := by omega
    go_enter Try.func33, Try.ntmps33
    go_wp2
    go_ret
    exact ⟨by rw [text_out s p n (by omega)]; rfl, rfl⟩
end Go.Proofs.Yteljbblbdiploaa

namespace Go.Proofs.Yteljbblbdiploaa
open Go.RowKit

/-- the reader in block B has come to place p of the bytes l -/
def AtR (w : World) (B : Nat) (l : List UInt8) (p : Nat) : Prop := w.heap[B]? = some (.cells #[.string ⟨(l.drop p).toArray⟩] 89 (0, 0))

theorem drop_empty {l : List UInt8} {p : Nat} (h : l.length ≤ p) : (⟨(l.drop p).toArray⟩ : ByteArray) = ⟨#[]⟩ := by rw [List.drop_eq_nil_of_le h]
theorem extract_one (l : List UInt8) (p : Nat) : (⟨(l.drop p).toArray⟩ : ByteArray).extract 1 (⟨(l.drop p).toArray⟩ : ByteArray).size = ⟨(l.drop (p + 1)).toArray⟩ := by
  rw [extract_list]
  have e : (⟨(l.drop p).toArray⟩ : ByteArray).data.toList = l.drop p := rfl
  rw [e, List.drop_drop, List.take_of_length_le]
  have : (⟨(l.drop p).toArray⟩ : ByteArray).size = (l.drop p).length := by simp [ByteArray.size]
  rw [this]; simp; omega

theorem grown_refl (w : World) (r : Option Nat) : w.grownBy w r := ⟨rfl, rfl, rfl, Nat.le_refl _, fun _ _ _ => rfl⟩
theorem grown_trans {a b c : World} {B : Nat} (h : a.grownBy b (some B)) (k : b.grownBy c (some B)) : a.grownBy c (some B) :=
  ⟨k.os.trans h.os, k.tape.trans h.tape, k.output.trans h.output, Nat.le_trans h.size k.size, fun i hi hn => (k.block i (Nat.lt_of_lt_of_le hi h.size) hn).trans (h.block i hi hn)⟩
theorem grown_set1 {W w : World} {B : Nat} (h : W.grownBy w (some B)) (a : Addr) (ha : a.block = B) (v : Value) : W.grownBy (w.setCell a v) (some B) :=
  ⟨h.os, h.tape, h.output, by simpa [World.setCell] using h.size, fun k hk hne => (Below.heap_setCell w a v k (fun e => hne (by rw [e, ha]))).trans (h.block k hk hne)⟩

set_option maxHeartbeats 400000 in
theorem single_end (B : Nat) (l : List UInt8) (p : Nat) (w : World) (hr : AtR w B l p) (hcell : w.cell? ⟨B, 0, none⟩ = some (.string ⟨#[]⟩)) (hp : ¬ p < l.length) :
    Calls Try.prog 57 #[.pointer (some ⟨B, 0, none⟩)] w fun e w' => e = .returned (.int .i64 (byteAt l p : Nat)) ∧ AtR w' B l (p + 1) ∧ w.grownBy w' (some B) := by
  have HR := hid hr
  clear hr
  have h0 : byteAt l p = 0 := by rw [byteAt, List.getD_eq_getElem?_getD, List.getElem?_eq_none (by omega)]; rfl
  rw [h0]
  go_enter Try.func57, Try.ntmps57
  go_wp2
  go_ret
  refine ⟨rfl, ?_, grown_refl _ _⟩
  show w.heap[B]? = _
  rw [show (⟨(l.drop (p + 1)).toArray⟩ : ByteArray) = ⟨(l.drop p).toArray⟩ by rw [drop_empty (by omega), drop_empty (by omega)]]
  exact HR.out

set_option maxHeartbeats 1000000 in
theorem single_core (B : Nat) (q : ByteArray) (w : World) (hcell : w.cell? ⟨B, 0, none⟩ = some (.string q)) (hfree : w.frozen? ⟨B, 0, none⟩ = false) (hq0 : 0 < q.size) (hql : q.size ≤ 9223372036854775807) (hne : q.toList.isEmpty = false) :
    Calls Try.prog 57 #[.pointer (some ⟨B, 0, none⟩)] w fun e w' => e = .returned (.int .i64 (q[0].toNat : Nat)) ∧ w' = w.setCell ⟨B, 0, none⟩ (.string (q.extract 1 q.size)) := by
  have hy : q[0].toNat < 256 := q[0].toNat_lt
  go_enter Try.func57, Try.ntmps57
  go_wp2
  go_ret
  exact ⟨rfl, rfl⟩

theorem single_any (B : Nat) (l : List UInt8) (p : Nat) (w : World) (hr : AtR w B l p) (hl : l.length ≤ maxLen) :
    Calls Try.prog 57 #[.pointer (some ⟨B, 0, none⟩)] w fun e w' => e = .returned (.int .i64 (byteAt l p : Nat)) ∧ AtR w' B l (p + 1) ∧ w.grownBy w' (some B) := by
  have hcell := cell_of_one hr
  have hfree := free_of_one hr
  by_cases hp : p < l.length
  · have hsz : (⟨(l.drop p).toArray⟩ : ByteArray).size = l.length - p := by simp [ByteArray.size]
    have hne : (⟨(l.drop p).toArray⟩ : ByteArray).toList.isEmpty = false := by
      rw [ByteArray.toList_eq]
      show (l.drop p).isEmpty = false
      rw [List.isEmpty_eq_false_iff]; intro e; have := congrArg List.length e; simp at this; omega
    unfold maxLen at hl
    refine (single_core B _ w hcell hfree (by rw [hsz]; omega) (by rw [hsz]; omega) hne).mono ?_
    rintro e w' ⟨rfl, rfl⟩
    refine ⟨ret_int ?_, ?_, grown_set1 (grown_refl _ _) _ rfl _⟩
    · rw [byteAt_in ⟨(l.drop p).toArray⟩ 0 (by rw [hsz]; omega)]
      show ((byteAt (l.drop p) 0 : Nat) : Int) = _
      simp [byteAt]
    · rw [extract_one]; exact one_setCell hr
  · rw [drop_empty (by omega)] at hcell
    exact single_end B l p w hr hcell hp
end Go.Proofs.Yteljbblbdiploaa

namespace Go.Proofs.Yteljbblbdiploaa
open Go.RowKit

theorem or_pair (h b : Nat) (hh : h < 256) (hb : b < 256) : bits .or .i64 ((h : Int) * 256) (b : Int) = ((256 * h + b : Nat) : Int) := by
  have := bits_join .i64 16 (by decide) (fun n h0 h1 => by rw [IntKind.wrap_i64]; omega) 8 ((h : Int) * 256) (b : Int) (by omega) (by omega) (by omega) (by omega) (by omega) (by omega)
  rw [this]; omega

set_option maxHeartbeats 1000000 in
theorem pair_any (B : Nat) (l : List UInt8) (p : Nat) (w : World) (hr : AtR w B l p) (hl : l.length ≤ maxLen) :
    Calls Try.prog 58 #[.pointer (some ⟨B, 0, none⟩)] w fun e w' => e = .returned (.int .i64 (pairAt l p : Nat)) ∧ AtR w' B l (p + 2) ∧ w.grownBy w' (some B) := by
  have HR := hid hr
  clear hr
  have h1 := byteAt_lt l p
  have h2 := byteAt_lt l (p + 1)
  have HO := hid (or_pair _ _ h1 h2)
  have HP : Hid (pairAt l p = 256 * byteAt l p + byteAt l (p + 1)) := rfl
  go_enter Try.func58, Try.ntmps58
  go_wp2_with fail
  refine (single_any B l p _ HR.out hl).mono ?_
  rintro e w1 ⟨rfl, hr1, hg1⟩
  have HR1 := hid hr1
  have HG1 := hid hg1
  clear hr1 hg1
  generalize byteAt l p = a at *
  go_wp2_with fail
  refine (single_any B l (p + 1) _ HR1.out hl).mono ?_
  rintro e w2 ⟨rfl, hr2, hg2⟩
  have HR2 := hid hr2
  have HG2 := hid hg2
  clear hr2 hg2
  generalize byteAt l (p + 1) = b at *
  go_wp2
  go_ret
  refine ⟨?_, HR2.out, grown_trans HG1.out HG2.out⟩
  rw [HP.out]
  exact ret_int HO.out
end Go.Proofs.Yteljbblbdiploaa

namespace Go.Proofs.Yteljbblbdiploaa
open Go.RowKit

/-- block B holds an update's nine cells -/
def Ub (w : World) (B : Nat) (a0 a1 a2 a3 a4 a5 a6 a7 a8 : Value) : Prop := w.heap[B]? = some (.cells #[a0, a1, a2, a3, a4, a5, a6, a7, a8] 28 (0, 0))

theorem blk_set {w : World} {B i : Nat} {cs : Array Value} {T : TypeId} (h : w.heap[B]? = some (.cells cs T (0, 0))) (v : Value) : (w.setCell ⟨B, i, none⟩ v).heap[B]? = some (.cells (cs.setIfInBounds i v) T (0, 0)) := by
  have hlt := lt_of_block h
  have h' : w.heap[B] = .cells cs T (0, 0) := by simpa [Array.getElem?_eq_getElem hlt] using h
  show (w.heap.modify B _)[B]? = _
  rw [Array.getElem?_eq_getElem (by simpa using hlt), Array.getElem_modify_self, h']
  rfl
theorem blk_far {w : World} {B k i : Nat} (v : Value) (h : k ≠ B) : (w.setCell ⟨B, i, none⟩ v).heap[k]? = w.heap[k]? := Below.heap_setCell w ⟨B, i, none⟩ v k h

section
variable {w w' : World} {B : Nat} {a0 a1 a2 a3 a4 a5 a6 a7 a8 : Value}
theorem Ub.cells (h : Ub w B a0 a1 a2 a3 a4 a5 a6 a7 a8) : (∀ i, w.cell? ⟨B, i, none⟩ = (#[a0, a1, a2, a3, a4, a5, a6, a7, a8] : Array Value)[i]?) ∧ (∀ i, w.frozen? ⟨B, i, none⟩ = false) :=
  ⟨fun i => cell_of_row w B i _ _ (0, 0) h, fun i => frozen_of_row w B i _ _ h⟩
theorem Ub.lt (h : Ub w B a0 a1 a2 a3 a4 a5 a6 a7 a8) : B < w.heap.size := lt_of_block h
theorem Ub.grown {row : Option Nat} (h : Ub w B a0 a1 a2 a3 a4 a5 a6 a7 a8) (hg : w.grownBy w' row) (hne : some B ≠ row) : Ub w' B a0 a1 a2 a3 a4 a5 a6 a7 a8 := (hg.block B h.lt hne).trans h
theorem Ub.below {C : Nat} (h : Ub w B a0 a1 a2 a3 a4 a5 a6 a7 a8) (hb : Below C w w') (hC : B < C) : Ub w' B a0 a1 a2 a3 a4 a5 a6 a7 a8 := (hb.block B hC).trans h
theorem Ub.far (h : Ub w B a0 a1 a2 a3 a4 a5 a6 a7 a8) {A i : Nat} (v : Value) (hne : B ≠ A) : Ub (w.setCell ⟨A, i, none⟩ v) B a0 a1 a2 a3 a4 a5 a6 a7 a8 := (blk_far v hne).trans h
theorem Ub.alloc (h : Ub w B a0 a1 a2 a3 a4 a5 a6 a7 a8) (o : Obj) : Ub (w.alloc o) B a0 a1 a2 a3 a4 a5 a6 a7 a8 := (Below.heap_alloc w o B h.lt).trans h
theorem Ub.set0 (h : Ub w B a0 a1 a2 a3 a4 a5 a6 a7 a8) (v : Value) : Ub (w.setCell ⟨B, 0, none⟩ v) B v a1 a2 a3 a4 a5 a6 a7 a8 := blk_set h v
theorem Ub.set1 (h : Ub w B a0 a1 a2 a3 a4 a5 a6 a7 a8) (v : Value) : Ub (w.setCell ⟨B, 1, none⟩ v) B a0 v a2 a3 a4 a5 a6 a7 a8 := blk_set h v
theorem Ub.set2 (h : Ub w B a0 a1 a2 a3 a4 a5 a6 a7 a8) (v : Value) : Ub (w.setCell ⟨B, 2, none⟩ v) B a0 a1 v a3 a4 a5 a6 a7 a8 := blk_set h v
theorem Ub.set3 (h : Ub w B a0 a1 a2 a3 a4 a5 a6 a7 a8) (v : Value) : Ub (w.setCell ⟨B, 3, none⟩ v) B a0 a1 a2 v a4 a5 a6 a7 a8 := blk_set h v
theorem Ub.set4 (h : Ub w B a0 a1 a2 a3 a4 a5 a6 a7 a8) (v : Value) : Ub (w.setCell ⟨B, 4, none⟩ v) B a0 a1 a2 a3 v a5 a6 a7 a8 := blk_set h v
theorem Ub.set5 (h : Ub w B a0 a1 a2 a3 a4 a5 a6 a7 a8) (v : Value) : Ub (w.setCell ⟨B, 5, none⟩ v) B a0 a1 a2 a3 a4 v a6 a7 a8 := blk_set h v
theorem Ub.set6 (h : Ub w B a0 a1 a2 a3 a4 a5 a6 a7 a8) (v : Value) : Ub (w.setCell ⟨B, 6, none⟩ v) B a0 a1 a2 a3 a4 a5 v a7 a8 := blk_set h v
theorem Ub.set7 (h : Ub w B a0 a1 a2 a3 a4 a5 a6 a7 a8) (v : Value) : Ub (w.setCell ⟨B, 7, none⟩ v) B a0 a1 a2 a3 a4 a5 a6 v a8 := blk_set h v
theorem Ub.set8 (h : Ub w B a0 a1 a2 a3 a4 a5 a6 a7 a8) (v : Value) : Ub (w.setCell ⟨B, 8, none⟩ v) B a0 a1 a2 a3 a4 a5 a6 a7 v := blk_set h v
end

theorem AtR.far {w : World} {B : Nat} {l : List UInt8} {p A i : Nat} (h : AtR w B l p) (v : Value) (hne : B ≠ A) : AtR (w.setCell ⟨A, i, none⟩ v) B l p := (blk_far v hne).trans h
theorem AtR.lt {w : World} {B : Nat} {l : List UInt8} {p : Nat} (h : AtR w B l p) : B < w.heap.size := lt_of_block h
theorem AtR.grown {w w' : World} {B : Nat} {l : List UInt8} {p : Nat} {row : Option Nat} (h : AtR w B l p) (hg : w.grownBy w' row) (hne : some B ≠ row) : AtR w' B l p := (hg.block B h.lt hne).trans h

theorem clkAt_succ (l : List UInt8) (j : Nat) : clkAt l (j + 1) = clkAt l j ++ [((pairAt l (1 + 2 * j) : Nat) : Int)] := by
  simp [clkAt, List.range_succ]

/-- what the reader's text is to do -/
def TextSaid : Prop := ∀ (B : Nat) (l : List UInt8) (p : Nat) (w : World), AtR w B l p → l.length ≤ 140737488351232 →
  Calls Try.prog 59 #[.pointer (some ⟨B, 0, none⟩)] w fun e w' => e = .returned (.string ⟨(cutAt l (p + 1) (byteAt l p)).toArray⟩) ∧ AtR w' B l (p + 1 + byteAt l p) ∧ w.grownBy w' (some B)
end Go.Proofs.Yteljbblbdiploaa
