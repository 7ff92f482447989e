/-
  SMALL LAWS: a struct's block, whole: its cells, a store into it, and what leaves it alone.
-/
import Derived.Test.YteljbblbdiploaaRd2
import Derived.Test.YteljbblbdiploaaLent
namespace Go.Proofs.Yteljbblbdiploaa
open Go.RowKit

/-- block B holds an update's nine cells -/
def Ub (w : World) (B : Nat) (a0 a1 a2 a3 a4 a5 a6 a7 a8 : Value) : Prop := w.heap[B]? = some (.cells #[a0, a1, a2, a3, a4, a5, a6, a7, a8] 28 (0, 0))

theorem blk_set {w : World} {B i : Nat} {cs : Array Value} {T : TypeId} (h : w.heap[B]? = some (.cells cs T (0, 0))) (v : Value) : (w.setCell ⟨B, i, none⟩ v).heap[B]? = some (.cells (cs.setIfInBounds i v) T (0, 0)) := by
  have hlt := lt_of_block h
  have h' : w.heap[B] = .cells cs T (0, 0) := by simpa [Array.getElem?_eq_getElem hlt] using h
  show (w.heap.modify B _)[B]? = _
  rw [Array.getElem?_eq_getElem (by simpa using hlt), Array.getElem_modify_self, h']
  rfl
theorem blk_far {w : World} {B k i : Nat} (v : Value) (h : k ≠ B) : (w.setCell ⟨B, i, none⟩ v).heap[k]? = w.heap[k]? := Below.heap_setCell w ⟨B, i, none⟩ v k h

section
variable {w w' : World} {B : Nat} {a0 a1 a2 a3 a4 a5 a6 a7 a8 : Value}
theorem Ub.cells (h : Ub w B a0 a1 a2 a3 a4 a5 a6 a7 a8) : (∀ i, w.cell? ⟨B, i, none⟩ = (#[a0, a1, a2, a3, a4, a5, a6, a7, a8] : Array Value)[i]?) ∧ (∀ i, w.frozen? ⟨B, i, none⟩ = false) :=
  ⟨fun i => cell_of_row w B i _ _ (0, 0) h, fun i => frozen_of_row w B i _ _ h⟩
theorem Ub.lt (h : Ub w B a0 a1 a2 a3 a4 a5 a6 a7 a8) : B < w.heap.size := lt_of_block h
theorem Ub.grown {row : Option Nat} (h : Ub w B a0 a1 a2 a3 a4 a5 a6 a7 a8) (hg : w.grownBy w' row) (hne : some B ≠ row) : Ub w' B a0 a1 a2 a3 a4 a5 a6 a7 a8 := (hg.block B h.lt hne).trans h
theorem Ub.below {C : Nat} (h : Ub w B a0 a1 a2 a3 a4 a5 a6 a7 a8) (hb : Below C w w') (hC : B < C) : Ub w' B a0 a1 a2 a3 a4 a5 a6 a7 a8 := (hb.block B hC).trans h
theorem Ub.far (h : Ub w B a0 a1 a2 a3 a4 a5 a6 a7 a8) {A i : Nat} (v : Value) (hne : B ≠ A) : Ub (w.setCell ⟨A, i, none⟩ v) B a0 a1 a2 a3 a4 a5 a6 a7 a8 := (blk_far v hne).trans h
theorem Ub.alloc (h : Ub w B a0 a1 a2 a3 a4 a5 a6 a7 a8) (o : Obj) : Ub (w.alloc o) B a0 a1 a2 a3 a4 a5 a6 a7 a8 := (Below.heap_alloc w o B h.lt).trans h
theorem Ub.set0 (h : Ub w B a0 a1 a2 a3 a4 a5 a6 a7 a8) (v : Value) : Ub (w.setCell ⟨B, 0, none⟩ v) B v a1 a2 a3 a4 a5 a6 a7 a8 := blk_set h v
theorem Ub.set1 (h : Ub w B a0 a1 a2 a3 a4 a5 a6 a7 a8) (v : Value) : Ub (w.setCell ⟨B, 1, none⟩ v) B a0 v a2 a3 a4 a5 a6 a7 a8 := blk_set h v
theorem Ub.set2 (h : Ub w B a0 a1 a2 a3 a4 a5 a6 a7 a8) (v : Value) : Ub (w.setCell ⟨B, 2, none⟩ v) B a0 a1 v a3 a4 a5 a6 a7 a8 := blk_set h v
theorem Ub.set3 (h : Ub w B a0 a1 a2 a3 a4 a5 a6 a7 a8) (v : Value) : Ub (w.setCell ⟨B, 3, none⟩ v) B a0 a1 a2 v a4 a5 a6 a7 a8 := blk_set h v
theorem Ub.set4 (h : Ub w B a0 a1 a2 a3 a4 a5 a6 a7 a8) (v : Value) : Ub (w.setCell ⟨B, 4, none⟩ v) B a0 a1 a2 a3 v a5 a6 a7 a8 := blk_set h v
theorem Ub.set5 (h : Ub w B a0 a1 a2 a3 a4 a5 a6 a7 a8) (v : Value) : Ub (w.setCell ⟨B, 5, none⟩ v) B a0 a1 a2 a3 a4 v a6 a7 a8 := blk_set h v
theorem Ub.set6 (h : Ub w B a0 a1 a2 a3 a4 a5 a6 a7 a8) (v : Value) : Ub (w.setCell ⟨B, 6, none⟩ v) B a0 a1 a2 a3 a4 a5 v a7 a8 := blk_set h v
theorem Ub.set7 (h : Ub w B a0 a1 a2 a3 a4 a5 a6 a7 a8) (v : Value) : Ub (w.setCell ⟨B, 7, none⟩ v) B a0 a1 a2 a3 a4 a5 a6 v a8 := blk_set h v
theorem Ub.set8 (h : Ub w B a0 a1 a2 a3 a4 a5 a6 a7 a8) (v : Value) : Ub (w.setCell ⟨B, 8, none⟩ v) B a0 a1 a2 a3 a4 a5 a6 a7 v := blk_set h v
end

theorem AtR.far {w : World} {B : Nat} {l : List UInt8} {p A i : Nat} (h : AtR w B l p) (v : Value) (hne : B ≠ A) : AtR (w.setCell ⟨A, i, none⟩ v) B l p := (blk_far v hne).trans h
theorem AtR.lt {w : World} {B : Nat} {l : List UInt8} {p : Nat} (h : AtR w B l p) : B < w.heap.size := lt_of_block h
theorem AtR.grown {w w' : World} {B : Nat} {l : List UInt8} {p : Nat} {row : Option Nat} (h : AtR w B l p) (hg : w.grownBy w' row) (hne : some B ≠ row) : AtR w' B l p := (hg.block B h.lt hne).trans h

theorem clkAt_succ (l : List UInt8) (j : Nat) : clkAt l (j + 1) = clkAt l j ++ [((pairAt l (1 + 2 * j) : Nat) : Int)] := by
  simp [clkAt, List.range_succ]

/-- what the reader's text is to do -/
def TextSaid : Prop := ∀ (B : Nat) (l : List UInt8) (p : Nat) (w : World), AtR w B l p → l.length ≤ 140737488351232 →
  Calls Try.prog 59 #[.pointer (some ⟨B, 0, none⟩)] w fun e w' => e = .returned (.string ⟨(cutAt l (p + 1) (byteAt l p)).toArray⟩) ∧ AtR w' B l (p + 1 + byteAt l p) ∧ w.grownBy w' (some B)
end Go.Proofs.Yteljbblbdiploaa
