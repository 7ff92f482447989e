/-
  LAWS of our own: how things stand while a list of the book is marked: a store, a list laid into the row, a list that grows.
-/
import Derived.Test.YteljbblbdiploaaBk2
namespace Go.Proofs.Yteljbblbdiploaa
open Go.RowKit

/-- while a list is marked: the row of lists, the lists in it, the list itself; what may have changed -/
structure Mkg (w0 wr : World) (base : Nat) (eS e : TypeId) (size : Nat) (mk : Nat → List Value) (S G : Nat → Prop) (L : List Value) (row l : Value) (n : Nat) (xs : List Value) (m : Nat) : Prop where
  rw : wr.ownsRow base eS 1 row L.length L
  views : Views wr base e size mk m l.ownBlock L
  own : wr.ownsRow base e size l n xs
  sp : Spared w0 wr S
  inS : ∀ k, l.ownBlock = some k ∨ row.ownBlock = some k → k < w0.heap.size → S k
  low : base ≤ w0.heap.size
  away : ∀ g, G g → g < w0.heap.size ∧ l.ownBlock ≠ some g ∧ ∀ s ∈ L, s.ownBlock ≠ some g

section
variable {w0 wr w1 w2 : World} {base : Nat} {eS e : TypeId} {size : Nat} {mk : Nat → List Value} {S G : Nat → Prop} {L : List Value} {row l : Value} {n : Nat} {xs : List Value} {m : Nat}

theorem Mkg.low' (h : Mkg w0 wr base eS e size mk S G L row l n xs m) : base ≤ wr.heap.size := Nat.le_trans h.low h.sp.size

theorem Mkg.store (h : Mkg w0 wr base eS e size mk S G L row l n xs 0) (hne : eS ≠ e) {g : Nat} (hg : l.ownBlock = some g) (j : Nat) (u : Value) : Mkg w0 (wr.setCell ⟨g, j, none⟩ u) base eS e size mk S G L row l n (xs.set j u) 0 := by
  refine ⟨?_, ?_, ownsRow_set h.own hg j u, h.sp.set (fun hk => h.inS g (.inl hg) hk) u, h.inS, h.low, h.away⟩
  · refine ownsRow_setCell_other h.rw ?_ u
    rcases rows_ne h.rw h.own hne with q | q
    · rw [q]; simp
    · rw [hg] at q; exact q
  · refine h.views.kept fun s k ys hs hk => ownsRow_set_none hs rfl (fun q => ?_) u
    rw [hg] at hk
    have := hk q
    omega

theorem Mkg.alloc (h : Mkg w0 wr base eS e size mk S G L row l n xs m) (o : Obj) : Mkg w0 (wr.alloc o) base eS e size mk S G L row l n xs m :=
  ⟨h.rw.alloc o, h.views.kept fun _ _ _ hs _ => hs.alloc o, h.own.alloc o, h.sp.alloc o, h.inS, h.low, h.away⟩

theorem Mkg.drew (h : Mkg w0 wr base eS e size mk S G L row l n xs m) : Mkg w0 wr.drew base eS e size mk S G L row l n xs m := ⟨h.rw, h.views, h.own, ⟨h.sp.os, h.sp.tape, h.sp.output, h.sp.size, h.sp.block⟩, h.inS, h.low, h.away⟩

theorem Mkg.full (h : Mkg w0 wr base eS e size mk S G L row l n xs 0) : Mkg w0 wr base eS e size mk S G L row l n xs n := ⟨h.rw, h.views.more (Nat.zero_le _), h.own, h.sp, h.inS, h.low, h.away⟩

/-- a cell of another block (of another type) is stored -/
theorem Mkg.far (h : Mkg w0 wr base eS e size mk S G L row l n xs m) {B i : Nat} {cs : Array Value} {T : TypeId} {fr : Nat × Nat} (hB : wr.heap[B]? = some (.cells cs T fr)) (h1 : eS ≠ T) (h2 : e ≠ T) (hS : B < w0.heap.size → S B) (u : Value) : Mkg w0 (wr.setCell ⟨B, i, none⟩ u) base eS e size mk S G L row l n xs m :=
  ⟨ownsRow_setCell_other h.rw (type_ne h.rw hB h1) u, h.views.kept fun _ _ _ hs _ => ownsRow_setCell_other hs (type_ne hs hB h2) u, ownsRow_setCell_other h.own (type_ne h.own hB h2) u, h.sp.set hS u, h.inS, h.low, h.away⟩

/-- the list is laid into the row -/
theorem Mkg.laid (h : Mkg w0 wr base eS e size mk S G L row l n xs n) (hne : eS ≠ e) {row' : Value} (ho : w2.ownsRow base eS 1 row' (L.length + 1) (L ++ [l])) (hg : wr.grownBy w2 row.ownBlock) (hat : row'.ownBlock = row.ownBlock ∨ row'.ownBlock = some wr.heap.size) (hxs : xs = reps n (mk (L.length / 4 * 4))) :
    Mkg w0 w2 base eS e size mk S G (L ++ [l]) row' l n xs n := by
  have hfar : ∀ base' s k ys, wr.ownsRow base' e size s k ys → w2.ownsRow base' e size s k ys := fun base' s k ys hs => hs.kept hg (rows_ne hs h.rw (Ne.symm hne))
  refine ⟨by simpa using ho, (h.views.kept fun _ _ _ hs _ => hfar _ _ _ _ hs).push ?_, hfar _ _ _ _ h.own, h.sp.grown hg (fun k hk hl => h.inS k (.inr hk) hl), ?_, h.low, fun g hG => ⟨(h.away g hG).1, (h.away g hG).2.1, fun s hs => by rcases List.mem_append.1 hs with q | q; exact (h.away g hG).2.2 s q; rw [List.mem_singleton.1 q]; exact (h.away g hG).2.1⟩⟩
  · rw [← hxs]; exact hfar _ _ _ _ h.own
  · intro k hk hl
    rcases hk with hk | hk
    · exact h.inS k (.inl hk) hl
    · rcases hat with q | q
      · exact h.inS k (.inr (by rw [← q]; exact hk)) hl
      · rw [q] at hk; cases hk; have := h.sp.size; omega

/-- the list grows by a mark -/
theorem Mkg.grew (h : Mkg w0 wr base eS e size mk S G L row l n xs n) (hne : eS ≠ e) {l' : Value} {c : List Value} (ho : w2.ownsRow base e size l' (n + 1) (xs ++ c))
    (hkeep : ∀ base' u k ys, wr.ownsRow base' e size u k ys → (u.ownBlock = l.ownBlock → k ≤ n) → w2.ownsRow base' e size u k ys) (hg : wr.grownBy w2 l.ownBlock) (hat : l'.ownBlock = l.ownBlock ∨ l'.ownBlock = some wr.heap.size) :
    Mkg w0 w2 base eS e size mk S G L row l' (n + 1) (xs ++ c) (n + 1) := by
  refine ⟨h.rw.kept hg (rows_ne h.rw h.own hne), ?_, ho, h.sp.grown hg (fun k hk hl => h.inS k (.inl hk) hl), ?_, h.low, fun g hG => ⟨(h.away g hG).1, ?_, (h.away g hG).2.2⟩⟩
  · rcases hat with q | q
    · rw [q]
      exact (h.views.kept fun s k ys hs hk => hkeep _ _ _ _ hs hk).more (by omega)
    · rw [q]
      have hv := h.views.fresh (n + 1) wr.heap.size (Nat.le_refl _)
      intro i s hi
      obtain ⟨k, k1, k2⟩ := hv i s hi
      obtain ⟨k', k3, k4⟩ := h.views i s hi
      refine ⟨k', hkeep _ _ _ _ k3 k4, fun qq => ?_⟩
      have := (k3.lt _ qq).2
      omega
  · intro k hk hl
    rcases hk with hk | hk
    · rcases hat with q | q
      · exact h.inS k (.inl (by rw [← q]; exact hk)) hl
      · rw [q] at hk; cases hk; have := h.sp.size; omega
    · exact h.inS k (.inr hk) hl
  · rcases hat with q | q
    · rw [q]; exact (h.away g hG).2.1
    · rw [q]
      intro k
      have h1 := (h.away g hG).1
      have h2 := h.sp.size
      cases k
      omega
end
end Go.Proofs.Yteljbblbdiploaa
