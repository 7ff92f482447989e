/-
  PLAIN: bytes read as an update; what was encoded is read back; no Go text in sight.
-/
import Derived.Test.YteljbblbdiploaaEnc
namespace Go.Proofs.Yteljbblbdiploaa

/-- the byte at a place; 0 beyond the end -/
def byteAt (l : List UInt8) (p : Nat) : Nat := (l.getD p 0).toNat
/-- the number of two bytes at a place -/
def pairAt (l : List UInt8) (p : Nat) : Nat := 256 * byteAt l p + byteAt l (p + 1)
/-- the text of k bytes at a place, cut at the end -/
def cutAt (l : List UInt8) (p k : Nat) : List UInt8 := (l.drop p).take k
/-- the text of k bytes at a place; none, if there are not so many -/
def textAt (l : List UInt8) (p k : Nat) : List UInt8 := if p + k ≤ l.length then (l.drop p).take k else []

theorem byteAt_lt (l : List UInt8) (p : Nat) : byteAt l p < 256 := (l.getD p 0).toNat_lt
theorem pairAt_lt (l : List UInt8) (p : Nat) : pairAt l p < 65536 := by have := byteAt_lt l p; have := byteAt_lt l (p + 1); unfold pairAt; omega

/-- the clock's numbers -/
def clkAt (l : List UInt8) (n : Nat) : List Int := (List.range n).map fun i => ((pairAt l (1 + 2 * i) : Nat) : Int)
theorem clkAt_len (l : List UInt8) (n : Nat) : (clkAt l n).length = n := by simp [clkAt]

/-- what stands in the bytes: the places -/
def pO (l : List UInt8) : Nat := 1 + 2 * byteAt l 0
def kN (l : List UInt8) : Nat := byteAt l (pO l + 3)
def pX (l : List UInt8) : Nat := pO l + 4 + kN l
def kX (l : List UInt8) : Nat := byteAt l (pX l)
def pA (l : List UInt8) : Nat := pX l + 1 + kX l

theorem byteAt_app (a b : List UInt8) (p i : Nat) (h : p = a.length + i) : byteAt (a ++ b) p = byteAt b i := by
  subst h
  rw [byteAt, byteAt, List.getD_eq_getElem?_getD, List.getD_eq_getElem?_getD, List.getElem?_append_right (by omega), Nat.add_sub_cancel_left]
theorem pairAt_app (a b : List UInt8) (p i : Nat) (h : p = a.length + i) : pairAt (a ++ b) p = pairAt b i := by
  unfold pairAt; rw [byteAt_app a b p i h, byteAt_app a b (p + 1) (i + 1) (by omega)]
theorem cutAt_app (a b : List UInt8) (p k : Nat) (h : p = a.length) : cutAt (a ++ b) p k = b.take k := by
  subst h; simp [cutAt]
theorem byteAt_last1 (v : Nat) (x : List UInt8) (h : v < 256) : byteAt (lastB v 1 ++ x) 0 = v := by
  simp only [byteAt, lastB, List.cons_append, List.nil_append, List.getD_cons_zero, UInt8.toNat_ofNat']
  simp; omega
theorem pairAt_last2 (v : Nat) (x : List UInt8) (h : v < 65536) : pairAt (lastB v 2 ++ x) 0 = v := by
  simp only [pairAt, byteAt, lastB, List.cons_append, List.nil_append, List.getD_cons_zero, List.getD_cons_succ, UInt8.toNat_ofNat']
  simp; omega

/-- the clock's numbers, read back -/
theorem clk_back : ∀ (zs : List Int) (a x : List UInt8), (∀ z ∈ zs, 0 ≤ z ∧ z ≤ 1000) → ((List.range zs.length).map fun i => ((pairAt (a ++ clkBytes zs ++ x) (a.length + 2 * i) : Nat) : Int)) = zs
  | [], _, _, _ => rfl
  | z :: zs, a, x, h => by
    have hz := h z (by simp)
    have ih := clk_back zs (a ++ lastB z.toNat 2) x (fun y hy => h y (by simp [hy]))
    rw [List.length_cons, List.range_succ_eq_map, List.map_cons, List.map_map]
    have e0 : ((pairAt (a ++ clkBytes (z :: zs) ++ x) (a.length + 2 * 0) : Nat) : Int) = z := by
      rw [clkBytes, List.append_assoc, List.append_assoc, pairAt_app a _ _ 0 (by omega), pairAt_last2 _ _ (by omega)]; omega
    rw [e0]
    congr 1
    rw [List.length_append, lastB_len] at ih
    refine Eq.trans (List.map_congr_left fun i _ => ?_) ih
    show ((pairAt (a ++ (lastB z.toNat 2 ++ clkBytes zs) ++ x) (a.length + 2 * (i + 1)) : Nat) : Int) = _
    rw [← List.append_assoc a]
    congr 2
    omega

/-- AN UPDATE's BYTES, READ: every field comes back, whatever stands behind them. -/
theorem read_back (org : Int) (zs : List Int) (t k : Int) (nm tx : List UInt8) (am o s : Int) (x : List UInt8) (hl : zs.length < 256) (hz : ∀ z ∈ zs, 0 ≤ z ∧ z ≤ 1000) (hg : 0 ≤ org ∧ org < 256) (ht : 0 ≤ t ∧ t < 256) (hk : 0 ≤ k ∧ k < 256)
    (hn : nm.length < 256) (hx : tx.length < 256) (ha : -1000 ≤ am ∧ am ≤ 1000) (ho : 0 ≤ o ∧ o < 256) (hs : 0 ≤ s ∧ s < 65536) (l : List UInt8) (e : l = encBody org zs t k nm tx am o s ++ x) :
    byteAt l 0 = zs.length ∧ clkAt l (byteAt l 0) = zs ∧ ((byteAt l (pO l) : Nat) : Int) = org ∧ ((byteAt l (pO l + 1) : Nat) : Int) = t ∧ ((byteAt l (pO l + 2) : Nat) : Int) = k ∧ kN l = nm.length ∧ cutAt l (pO l + 4) (kN l) = nm ∧
      kX l = tx.length ∧ cutAt l (pX l + 1) (kX l) = tx ∧ ((pairAt l (pA l) : Nat) : Int) - 1000 = am ∧ ((byteAt l (pA l + 2) : Nat) : Int) = o ∧ ((pairAt l (pA l + 3) : Nat) : Int) = s ∧ pA l + 5 ≤ l.length := by
  have e0 : byteAt l 0 = zs.length := by
    rw [e, encBody, encHead, List.append_assoc, List.append_assoc]; exact byteAt_last1 _ _ hl
  have eC : clkAt l (byteAt l 0) = zs := by
    rw [e0, clkAt]
    have := clk_back zs (lastB zs.length 1) (encTail org t k nm tx am o s ++ x) hz
    rw [lastB_len] at this
    rw [e, encBody, encHead]
    simpa only [List.append_assoc] using this
  have hp : pO l = (encHead zs).length := by rw [pO, e0, encHead, List.length_append, lastB_len, clkBytes_len]
  have eT : l = encHead zs ++ (encTail org t k nm tx am o s ++ x) := by rw [e, encBody, List.append_assoc]
  have e1 : byteAt l (pO l) = org.toNat := by
    rw [hp, eT, byteAt_app _ _ _ 0 (Nat.add_zero _).symm]
    simp only [encTail, List.append_assoc]; exact byteAt_last1 _ _ (by omega)
  have e2 : byteAt l (pO l + 1) = t.toNat := by
    rw [hp, eT, byteAt_app _ _ _ 1 rfl]
    simp only [encTail, List.append_assoc]
    rw [byteAt_app (lastB org.toNat 1) _ 1 0 (by rw [lastB_len])]; exact byteAt_last1 _ _ (by omega)
  have e3 : byteAt l (pO l + 2) = k.toNat := by
    rw [hp, eT, byteAt_app _ _ _ 2 rfl]
    simp only [encTail, List.append_assoc]
    rw [byteAt_app (lastB org.toNat 1) _ 2 1 (by rw [lastB_len]), byteAt_app (lastB t.toNat 1) _ 1 0 (by rw [lastB_len])]; exact byteAt_last1 _ _ (by omega)
  have e4 : kN l = nm.length := by
    rw [kN, hp, eT, byteAt_app _ _ _ 3 rfl]
    simp only [encTail, List.append_assoc]
    rw [byteAt_app (lastB org.toNat 1) _ 3 2 (by rw [lastB_len]), byteAt_app (lastB t.toNat 1) _ 2 1 (by rw [lastB_len]), byteAt_app (lastB k.toNat 1) _ 1 0 (by rw [lastB_len])]; exact byteAt_last1 _ _ hn
  have s4 : l = (encHead zs ++ (lastB org.toNat 1 ++ lastB t.toNat 1 ++ lastB k.toNat 1 ++ lastB nm.length 1)) ++ (nm ++ (lastB tx.length 1 ++ (tx ++ (lastB (am + 1000).toNat 2 ++ (lastB o.toNat 1 ++ (lastB s.toNat 2 ++ x)))))) := by
    rw [eT]; simp only [encTail, List.append_assoc]
  have l4 : (encHead zs ++ (lastB org.toNat 1 ++ lastB t.toNat 1 ++ lastB k.toNat 1 ++ lastB nm.length 1)).length = pO l + 4 := by
    rw [hp]; simp only [List.length_append, lastB_len]
  have e5 : cutAt l (pO l + 4) (kN l) = nm := by
    rw [e4, ← l4]
    conv => lhs; arg 1; rw [s4]
    rw [cutAt_app _ _ _ _ rfl, List.take_left]
  have s5 : l = (encHead zs ++ (lastB org.toNat 1 ++ lastB t.toNat 1 ++ lastB k.toNat 1 ++ lastB nm.length 1) ++ nm) ++ (lastB tx.length 1 ++ (tx ++ (lastB (am + 1000).toNat 2 ++ (lastB o.toNat 1 ++ (lastB s.toNat 2 ++ x))))) := by
    rw [s4]; simp only [List.append_assoc]
  have l5 : (encHead zs ++ (lastB org.toNat 1 ++ lastB t.toNat 1 ++ lastB k.toNat 1 ++ lastB nm.length 1) ++ nm).length = pX l := by
    rw [List.length_append, l4, pX, e4]
  have e6 : kX l = tx.length := by
    rw [kX, ← l5]
    conv => lhs; arg 1; rw [s5]
    rw [byteAt_app _ _ _ 0 (Nat.add_zero _).symm]; exact byteAt_last1 _ _ hx
  have s6 : l = (encHead zs ++ (lastB org.toNat 1 ++ lastB t.toNat 1 ++ lastB k.toNat 1 ++ lastB nm.length 1) ++ nm ++ lastB tx.length 1) ++ (tx ++ (lastB (am + 1000).toNat 2 ++ (lastB o.toNat 1 ++ (lastB s.toNat 2 ++ x)))) := by
    rw [s5]; simp only [List.append_assoc]
  have l6 : (encHead zs ++ (lastB org.toNat 1 ++ lastB t.toNat 1 ++ lastB k.toNat 1 ++ lastB nm.length 1) ++ nm ++ lastB tx.length 1).length = pX l + 1 := by
    rw [List.length_append, l5, lastB_len]
  have e7 : cutAt l (pX l + 1) (kX l) = tx := by
    rw [e6, ← l6]
    conv => lhs; arg 1; rw [s6]
    rw [cutAt_app _ _ _ _ rfl, List.take_left]
  have s7 : l = (encHead zs ++ (lastB org.toNat 1 ++ lastB t.toNat 1 ++ lastB k.toNat 1 ++ lastB nm.length 1) ++ nm ++ lastB tx.length 1 ++ tx) ++ (lastB (am + 1000).toNat 2 ++ (lastB o.toNat 1 ++ (lastB s.toNat 2 ++ x))) := by
    rw [s6]; simp only [List.append_assoc]
  have l7 : (encHead zs ++ (lastB org.toNat 1 ++ lastB t.toNat 1 ++ lastB k.toNat 1 ++ lastB nm.length 1) ++ nm ++ lastB tx.length 1 ++ tx).length = pA l := by
    rw [List.length_append, l6, pA, e6]
  have e8 : pairAt l (pA l) = (am + 1000).toNat := by
    rw [← l7]
    conv => lhs; arg 1; rw [s7]
    rw [pairAt_app _ _ _ 0 (Nat.add_zero _).symm]; exact pairAt_last2 _ _ (by omega)
  have e9 : byteAt l (pA l + 2) = o.toNat := by
    rw [← l7]
    conv => lhs; arg 1; rw [s7]
    rw [byteAt_app _ _ _ 2 rfl, byteAt_app (lastB (am + 1000).toNat 2) _ 2 0 (by rw [lastB_len])]; exact byteAt_last1 _ _ (by omega)
  have e10 : pairAt l (pA l + 3) = s.toNat := by
    rw [← l7]
    conv => lhs; arg 1; rw [s7]
    rw [pairAt_app _ _ _ 3 rfl, pairAt_app (lastB (am + 1000).toNat 2) _ 3 1 (by rw [lastB_len]), pairAt_app (lastB o.toNat 1) _ 1 0 (by rw [lastB_len])]; exact pairAt_last2 _ _ (by omega)
  have e11 : pA l + 5 ≤ l.length := by
    have := congrArg List.length s7
    rw [List.length_append, l7] at this
    simp only [List.length_append, lastB_len] at this
    omega
  exact ⟨e0, eC, by omega, by omega, by omega, e4, e5, e6, e7, by omega, by omega, by omega, e11⟩
end Go.Proofs.Yteljbblbdiploaa
