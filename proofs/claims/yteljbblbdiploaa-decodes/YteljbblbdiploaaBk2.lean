/-
  LAWS of our own: the statements' book: its block, its rows of lists, each list full of its mark; what a step leaves alone.
-/
import Derived.Test.YteljbblbdiploaaBk
namespace Go.Proofs.Yteljbblbdiploaa
open Go.RowKit

/-- block B holds the book's ten cells -/
def Bb (w : World) (B : Nat) (a0 a1 a2 a3 a4 a5 a6 a7 a8 a9 : Value) : Prop := w.heap[B]? = some (.cells #[a0, a1, a2, a3, a4, a5, a6, a7, a8, a9] 42 (0, 0))

section
variable {w w' : World} {B : Nat} {a0 a1 a2 a3 a4 a5 a6 a7 a8 a9 : Value}
theorem Bb.cells (h : Bb w B a0 a1 a2 a3 a4 a5 a6 a7 a8 a9) : (∀ i, w.cell? ⟨B, i, none⟩ = (#[a0, a1, a2, a3, a4, a5, a6, a7, a8, a9] : Array Value)[i]?) ∧ (∀ i, w.frozen? ⟨B, i, none⟩ = false) :=
  ⟨fun i => cell_of_row w B i _ _ (0, 0) h, fun i => frozen_of_row w B i _ _ h⟩
theorem Bb.lt (h : Bb w B a0 a1 a2 a3 a4 a5 a6 a7 a8 a9) : B < w.heap.size := lt_of_block h
theorem Bb.grown {row : Option Nat} (h : Bb w B a0 a1 a2 a3 a4 a5 a6 a7 a8 a9) (hg : w.grownBy w' row) (hne : some B ≠ row) : Bb w' B a0 a1 a2 a3 a4 a5 a6 a7 a8 a9 := (hg.block B h.lt hne).trans h
theorem Bb.below {C : Nat} (h : Bb w B a0 a1 a2 a3 a4 a5 a6 a7 a8 a9) (hb : Below C w w') (hC : B < C) : Bb w' B a0 a1 a2 a3 a4 a5 a6 a7 a8 a9 := (hb.block B hC).trans h
theorem Bb.far (h : Bb w B a0 a1 a2 a3 a4 a5 a6 a7 a8 a9) {A i : Nat} (v : Value) (hne : B ≠ A) : Bb (w.setCell ⟨A, i, none⟩ v) B a0 a1 a2 a3 a4 a5 a6 a7 a8 a9 := (blk_far v hne).trans h
theorem Bb.alloc (h : Bb w B a0 a1 a2 a3 a4 a5 a6 a7 a8 a9) (o : Obj) : Bb (w.alloc o) B a0 a1 a2 a3 a4 a5 a6 a7 a8 a9 := (Below.heap_alloc w o B h.lt).trans h
theorem Bb.set0 (h : Bb w B a0 a1 a2 a3 a4 a5 a6 a7 a8 a9) (v : Value) : Bb (w.setCell ⟨B, 0, none⟩ v) B v a1 a2 a3 a4 a5 a6 a7 a8 a9 := blk_set h v
theorem Bb.set1 (h : Bb w B a0 a1 a2 a3 a4 a5 a6 a7 a8 a9) (v : Value) : Bb (w.setCell ⟨B, 1, none⟩ v) B a0 v a2 a3 a4 a5 a6 a7 a8 a9 := blk_set h v
theorem Bb.set2 (h : Bb w B a0 a1 a2 a3 a4 a5 a6 a7 a8 a9) (v : Value) : Bb (w.setCell ⟨B, 2, none⟩ v) B a0 a1 v a3 a4 a5 a6 a7 a8 a9 := blk_set h v
theorem Bb.set4 (h : Bb w B a0 a1 a2 a3 a4 a5 a6 a7 a8 a9) (v : Value) : Bb (w.setCell ⟨B, 4, none⟩ v) B a0 a1 a2 a3 v a5 a6 a7 a8 a9 := blk_set h v
theorem Bb.set5 (h : Bb w B a0 a1 a2 a3 a4 a5 a6 a7 a8 a9) (v : Value) : Bb (w.setCell ⟨B, 5, none⟩ v) B a0 a1 a2 a3 a4 v a6 a7 a8 a9 := blk_set h v
theorem Bb.set6 (h : Bb w B a0 a1 a2 a3 a4 a5 a6 a7 a8 a9) (v : Value) : Bb (w.setCell ⟨B, 6, none⟩ v) B a0 a1 a2 a3 a4 a5 v a7 a8 a9 := blk_set h v
theorem Bb.set7 (h : Bb w B a0 a1 a2 a3 a4 a5 a6 a7 a8 a9) (v : Value) : Bb (w.setCell ⟨B, 7, none⟩ v) B a0 a1 a2 a3 a4 a5 a6 v a8 a9 := blk_set h v
theorem Bb.set8 (h : Bb w B a0 a1 a2 a3 a4 a5 a6 a7 a8 a9) (v : Value) : Bb (w.setCell ⟨B, 8, none⟩ v) B a0 a1 a2 a3 a4 a5 a6 a7 v a9 := blk_set h v
theorem Bb.set9 (h : Bb w B a0 a1 a2 a3 a4 a5 a6 a7 a8 a9) (v : Value) : Bb (w.setCell ⟨B, 9, none⟩ v) B a0 a1 a2 a3 a4 a5 a6 a7 a8 v := blk_set h v
end

/-- to store what stands there changes nothing -/
theorem set_same {w : World} {g j : Nat} {cur : Array Value} {e : TypeId} {fr : Nat × Nat} {u : Value} (h : w.heap[g]? = some (.cells cur e fr)) (hu : cur[j]? = some u) : w.setCell ⟨g, j, none⟩ u = w := by
  have hh : (w.setCell ⟨g, j, none⟩ u).heap = w.heap := by
    refine Array.ext_getElem? fun k => ?_
    by_cases hk : k = g
    · subst hk
      rw [heap_set_same h j u, h]
      congr 2
      refine Array.ext_getElem? fun q => ?_
      rw [Array.getElem?_setIfInBounds]
      split
      · next e => subst e; rw [if_pos (Array.getElem?_eq_some_iff.1 hu).1, hu]
      · rfl
    · exact blk_far u hk
  show { w with heap := (w.setCell ⟨g, j, none⟩ u).heap } = w
  rw [hh]

/-- all but the blocks of S are as they were -/
structure Spared (w w' : World) (S : Nat → Prop) : Prop where
  os : w'.os = w.os
  tape : w'.tape = w.tape
  output : w'.output = w.output
  size : w.heap.size ≤ w'.heap.size
  block : ∀ k, k < w.heap.size → ¬ S k → w'.heap[k]? = w.heap[k]?

theorem Spared.refl (w : World) (S : Nat → Prop) : Spared w w S := ⟨rfl, rfl, rfl, Nat.le_refl _, fun _ _ _ => rfl⟩
theorem Spared.trans {a b c : World} {S : Nat → Prop} (h : Spared a b S) (k : Spared b c S) : Spared a c S :=
  ⟨k.os.trans h.os, k.tape.trans h.tape, k.output.trans h.output, Nat.le_trans h.size k.size, fun i hi hn => (k.block i (Nat.lt_of_lt_of_le hi h.size) hn).trans (h.block i hi hn)⟩
theorem Spared.mono {w w' : World} {S T : Nat → Prop} (h : Spared w w' S) (hs : ∀ k, k < w.heap.size → S k → T k) : Spared w w' T :=
  ⟨h.os, h.tape, h.output, h.size, fun k hk hn => h.block k hk fun q => hn (hs k hk q)⟩
/-- a step that may write one row, and what the step ahead of it made -/
theorem Spared.grown {a w w' : World} {S : Nat → Prop} {row : Option Nat} (h : Spared a w S) (hg : w.grownBy w' row) (hr : ∀ k, row = some k → k < a.heap.size → S k) : Spared a w' S :=
  ⟨hg.os.trans h.os, hg.tape.trans h.tape, hg.output.trans h.output, Nat.le_trans h.size hg.size, fun k hk hn => (hg.block k (Nat.lt_of_lt_of_le hk h.size) (fun q => hn (hr k q.symm hk))).trans (h.block k hk hn)⟩
theorem Spared.set {a w : World} {S : Nat → Prop} (h : Spared a w S) {p : Addr} (hp : p.block < a.heap.size → S p.block) (u : Value) : Spared a (w.setCell p u) S :=
  ⟨h.os, h.tape, h.output, by simpa [World.setCell] using h.size, fun k hk hn => (Below.heap_setCell w p u k (fun e => hn (by subst e; exact hp hk))).trans (h.block k hk hn)⟩
theorem Spared.alloc {a w : World} {S : Nat → Prop} (h : Spared a w S) (o : Obj) : Spared a (w.alloc o) S := h.grown (World.grownBy_alloc w o none) (fun k hk => by cases hk)
theorem Spared.below {w w' : World} {S : Nat → Prop} {C : Nat} (h : Spared w w' S) (hC : C ≤ w.heap.size) (hs : ∀ k, S k → C ≤ k) : Below C w w' :=
  ⟨h.os, h.tape, h.output, h.size, fun k hk => h.block k (Nat.lt_of_lt_of_le hk hC) fun q => by have := hs k q; omega⟩
theorem Spared.owns {w w' : World} {S : Nat → Prop} (h : Spared w w' S) {base : Nat} {e : TypeId} {size : Nat} {v : Value} {n : Nat} {xs : List Value} (ho : w.ownsRow base e size v n xs) (hn : ∀ k, v.ownBlock = some k → ¬ S k) : w'.ownsRow base e size v n xs := by
  refine ⟨ho.1, ?_⟩
  rcases ho.2 with q | ⟨g, cap, cur, rfl, h1, hh, r⟩
  · exact .inl q
  · exact .inr ⟨g, cap, cur, rfl, h1, (h.block g (lt_of_block hh) (hn g rfl)).trans hh, r⟩

/-- k times the cells c -/
def reps (k : Nat) (c : List Value) : List Value := (List.replicate k c).flatten
theorem reps_succ (k : Nat) (c : List Value) : reps (k + 1) c = reps k c ++ c := by
  simp [reps, List.replicate_succ']

/-- lists, each full of the mark of its four; those in the row lb are no longer than n -/
def Views (w : World) (base : Nat) (e : TypeId) (size : Nat) (mk : Nat → List Value) (n : Nat) (lb : Option Nat) (L : List Value) : Prop :=
  ∀ i s, L[i]? = some s → ∃ k, w.ownsRow base e size s k (reps k (mk (i / 4 * 4))) ∧ (s.ownBlock = lb → k ≤ n)

section
variable {w w' : World} {base : Nat} {e : TypeId} {size n : Nat} {mk : Nat → List Value} {lb : Option Nat} {L : List Value}
theorem Views.nil (w : World) (base : Nat) (e : TypeId) (size : Nat) (mk : Nat → List Value) (n : Nat) (lb : Option Nat) : Views w base e size mk n lb [] := by
  intro i s h; simp at h
theorem Views.kept (h : Views w base e size mk n lb L) (hk : ∀ s k ys, w.ownsRow base e size s k ys → (s.ownBlock = lb → k ≤ n) → w'.ownsRow base e size s k ys) : Views w' base e size mk n lb L := by
  intro i s hi
  obtain ⟨k, h1, h2⟩ := h i s hi
  exact ⟨k, hk _ _ _ h1 h2, h2⟩
/-- no view lies in a row that was just made -/
theorem Views.fresh (h : Views w base e size mk n lb L) (m g : Nat) (hg : w.heap.size ≤ g) : Views w base e size mk m (some g) L := by
  intro i s hi
  obtain ⟨k, h1, h2⟩ := h i s hi
  refine ⟨k, h1, fun q => ?_⟩
  have := (h1.lt g q).2
  omega
theorem Views.more (h : Views w base e size mk n lb L) {m : Nat} (hm : n ≤ m) : Views w base e size mk m lb L := by
  intro i s hi
  obtain ⟨k, h1, h2⟩ := h i s hi
  exact ⟨k, h1, fun q => Nat.le_trans (h2 q) hm⟩
theorem Views.free (h : Views w base e size mk n lb L) : Views w base e size mk 0 none L := by
  intro i s hi
  obtain ⟨k, h1, h2⟩ := h i s hi
  refine ⟨k, h1, fun q => ?_⟩
  rcases h1.2 with ⟨_, rfl⟩ | ⟨g, cap, cur, rfl, _⟩
  · exact Nat.le_refl _
  · simp [Value.ownBlock] at q
theorem Views.push (h : Views w base e size mk n lb L) {l : Value} (hl : w.ownsRow base e size l n (reps n (mk (L.length / 4 * 4)))) : Views w base e size mk n lb (L ++ [l]) := by
  intro i s hi
  rcases Nat.lt_trichotomy i L.length with hlt | rfl | hgt
  · rw [List.getElem?_append_left hlt] at hi
    exact h i s hi
  · rw [List.getElem?_append_right (Nat.le_refl _)] at hi
    simp at hi
    subst hi
    exact ⟨n, hl, fun _ => Nat.le_refl _⟩
  · rw [List.getElem?_append_right (by omega)] at hi
    obtain ⟨d, hd⟩ := Nat.exists_eq_add_of_lt hgt
    rw [hd, show L.length + d + 1 - L.length = d + 1 by omega] at hi
    simp at hi
end
end Go.Proofs.Yteljbblbdiploaa
