/-
  LAWS of our own: lists that lie in rows of their own: an append keeps every view of its row that is no longer than what was appended to; what a store leaves.
-/
/-
  LAWS of our own: the statements' book: its block, its rows of lists, each list full of its mark; what a step leaves alone.
-/
/-
  LAWS of our own: how things stand while a list of the book is marked: a store, a list laid into the row, a list that grows.
-/
import Derived.Test.YteljbblbdiploaaJReadU
import Derived.Maps.AppendAt
import Derived.OneCell
namespace Go.Proofs.Yteljbblbdiploaa
open Go.RowKit

section
variable {w : World} {base : Nat} {e : TypeId} {size n : Nat} {v : Value} {xs : List Value}

theorem type_ne {e' : TypeId} {g : Nat} {cur : Array Value} {fr : Nat × Nat} (h : w.ownsRow base e size v n xs) (hg : w.heap[g]? = some (.cells cur e' fr)) (hne : e ≠ e') : v.ownBlock ≠ some g := by
  rcases h.2 with ⟨rfl, _⟩ | ⟨g', cap, c', rfl, _, hh, _⟩
  · simp [Value.ownBlock]
  · intro q
    simp [Value.ownBlock] at q
    subst q
    rw [hh] at hg
    cases hg
    exact hne rfl

theorem rows_ne {base' : Nat} {e' : TypeId} {size' n' : Nat} {v' : Value} {xs' : List Value} (h : w.ownsRow base e size v n xs) (h' : w.ownsRow base' e' size' v' n' xs') (hne : e ≠ e') : v.ownBlock = none ∨ v.ownBlock ≠ v'.ownBlock := by
  rcases h'.2 with ⟨rfl, _⟩ | ⟨g', cap, c', rfl, _, hh, _⟩
  · cases hv : v.ownBlock with
    | none => exact .inl rfl
    | some k => right; simp [Value.ownBlock]
  · exact .inr (type_ne h hh hne)

theorem heap_set_same {g : Nat} {cur : Array Value} {fr : Nat × Nat} (h : w.heap[g]? = some (.cells cur e fr)) (j : Nat) (u : Value) : (w.setCell ⟨g, j, none⟩ u).heap[g]? = some (.cells (cur.setIfInBounds j u) e fr) := by
  have hlt := lt_of_block h
  have h' : w.heap[g] = .cells cur e fr := by simpa [Array.getElem?_eq_getElem hlt] using h
  show (w.heap.modify g _)[g]? = _
  rw [Array.getElem?_eq_getElem (by simpa using hlt), Array.getElem_modify_self, h']
  rfl

/-- a view of no length stands whatever is stored -/
theorem ownsRow_set_none (h : w.ownsRow base e size v n xs) {a : Addr} (ha : a.spot = none) (hn : v.ownBlock = some a.block → n = 0) (u : Value) : (w.setCell a u).ownsRow base e size v n xs := by
  by_cases hb : v.ownBlock = some a.block
  · have := hn hb
    subst this
    refine ⟨h.1, ?_⟩
    rcases h.2 with q | ⟨g, cap, cur, rfl, h1, hh, h3, h4, h5, h6⟩
    · exact .inl q
    · obtain ⟨b, o, s⟩ := a
      simp only [Value.ownBlock, Option.some.injEq] at hb
      subst hb
      simp only at ha
      subst ha
      exact .inr ⟨g, cap, _, rfl, h1, heap_set_same hh o u, h3, h4, by simpa using h5, by simpa using h6⟩
  · exact ownsRow_setCell_other h hb u

/-- a store into the row -/
theorem ownsRow_set (h : w.ownsRow base e size v n xs) {g : Nat} (hv : v.ownBlock = some g) (j : Nat) (u : Value) : (w.setCell ⟨g, j, none⟩ u).ownsRow base e size v n (xs.set j u) := by
  refine ⟨by simpa using h.1, ?_⟩
  rcases h.2 with ⟨rfl, _⟩ | ⟨g', cap, cur, rfl, h1, hh, h3, h4, h5, h6⟩
  · simp [Value.ownBlock] at hv
  · simp only [Value.ownBlock, Option.some.injEq] at hv
    subst hv
    refine .inr ⟨g', cap, _, rfl, h1, heap_set_same hh j u, h3, h4, by simpa using h5, ?_⟩
    rw [Array.toList_setIfInBounds, ← h6, List.take_set]
end

section
variable {P : Program} (w : World)
theorem run_append_keep (base : Nat) (t ty e : TypeId) (i : TypeInfo) (z : Value) (size bytes : Nat) (ht : P.underlying t = some (.slice e)) (hi : P.info? e = some i) (hz : i.zero = some z)
    (hsize : i.size = size) (hby : i.bytes = bytes) (hzs : z.cells.size = size) (hsz : 0 < size)
    (v : Value) (n : Nat) (xs : List Value) (hown : w.ownsRow base e size v n xs)
    (a : Addr) (m c : Nat) (news : List Value) (hl : news.length = m * size) (hnews : ∀ j u, news[j]? = some u → w.cell? (a.add j) = some u) (h1 : ∀ u ∈ news, u.oneCell' = true)
    (h63 : n + m ≤ maxLen) (hbytes : (n + m) * bytes ≤ 140737488355328) (hbase : base ≤ w.heap.size) :
    ∃ v' w', (Builtin.append_ #[t, t] ty #[v, .slice (some a) m c]).run P w = .ok v' w' ∧ w'.ownsRow base e size v' (n + m) (xs ++ news) ∧
      (∀ base' u k ys, w.ownsRow base' e size u k ys → (u.ownBlock = v.ownBlock → k ≤ n) → w'.ownsRow base' e size u k ys) ∧ w.grownBy w' v.ownBlock ∧ (v'.ownBlock = v.ownBlock ∨ v'.ownBlock = some w.heap.size) := by
  obtain ⟨v', w', hr, o1, o2, _, o4⟩ := run_append_own_at (P := P) w base t ty e i z size bytes ht hi hz hsize hby hzs hsz v n xs hown a m c news hl hnews h1 h63 hbytes hbase
  refine ⟨v', w', hr, o1, ?_, o2, o4⟩
  subst hsize
  subst hby
  intro base' u k ys hu hk
  by_cases hsame : u.ownBlock = none ∨ u.ownBlock ≠ v.ownBlock
  · exact hu.kept o2 hsame
  · have hn : ¬ u.ownBlock = none := fun q => hsame (.inl q)
    have hs : u.ownBlock = v.ownBlock := Classical.byContradiction fun q => hsame (.inr q)
    have hkn := hk hs
    refine ⟨hu.1, .inr ?_⟩
    rcases hu.2 with ⟨rfl, _⟩ | ⟨gu, cu, curu, rfl, hbu, hgu, hncu, hcmu, hcsu, htku⟩
    · exact absurd rfl hn
    · rcases hown.2 with ⟨rfl, rfl⟩ | ⟨g, cap, cur, rfl, hbg, hg, hnc, hcm, hcs, htake⟩
      · simp [Value.ownBlock] at hs
      · simp only [Value.ownBlock, Option.some.injEq] at hs
        subst hs
        rw [hgu] at hg
        cases hg
        by_cases hroom : n + m ≤ cap
        · have hfit : n * i.size + news.length ≤ curu.size := by rw [hl, hcs, ← Nat.add_mul]; exact Nat.mul_le_mul_right _ hroom
          have hr' := run_append_room (P := P) w t ty e i ht hi gu n cap curu hgu a m c news hl hnews h1 hroom hfit
          rw [hr] at hr'
          cases hr'
          refine ⟨gu, cu, _, rfl, hbu, setRow_heap w gu curu _ e _ hgu, hncu, hcmu, ?_, ?_⟩
          · rw [← hcsu]
            simp only [List.size_toArray, List.length_append, List.length_take, List.length_drop, Array.length_toList]
            omega
          · have hle : k * i.size ≤ n * i.size := Nat.mul_le_mul_right _ hkn
            rw [← htku, List.append_assoc, List.take_append_of_le_length (by simp only [List.length_take, Array.length_toList]; omega), List.take_take, Nat.min_eq_left hle]
        · have holds : ∀ j u, xs[j]? = some u → w.cell? ((⟨gu, 0, none⟩ : Addr).add j) = some u := hown.cells (g := gu) rfl
          have hr' := run_append_grow (P := P) w t ty e i z ht hi hz ⟨gu, 0, none⟩ n cap xs hown.1 holds a m c news hl hnews (by omega) (by unfold maxLen at h63; omega) (growslice_fits (by omega) hbytes)
          rw [hr] at hr'
          cases hr'
          exact ⟨gu, cu, curu, rfl, hbu, (Below.heap_alloc w.drew _ gu (lt_of_block hgu)).trans hgu, hncu, hcmu, hcsu, htku⟩

theorem wpList_append_keep {ops : Array Oper} {rest : List Oper} {o : Oper} {a : Act} {Q : Exit → Act → World → Prop} (hgd : o.guard = none) (s x : Operand) (t : TypeId)
    (ho : o.op = .call { callee := .builtin .append, args := #[s, x], argTypes := #[t, t] })
    (base : Nat) (e : TypeId) (i : TypeInfo) (z : Value) (size bytes : Nat) (ht : P.underlying t = some (.slice e)) (hi : P.info? e = some i) (hz : i.zero = some z)
    (hsize : i.size = size) (hby : i.bytes = bytes) (hzs : z.cells.size = size) (hsz : 0 < size)
    (v : Value) (n : Nat) (xs : List Value) (hs : a.eval s = v) (hown : w.ownsRow base e size v n xs)
    (ad : Addr) (m c : Nat) (news : List Value) (hx : a.eval x = .slice (some ad) m c) (hl : news.length = m * size) (hnews : ∀ j u, news[j]? = some u → w.cell? (ad.add j) = some u) (h1 : ∀ u ∈ news, u.oneCell' = true)
    (h63 : n + m ≤ maxLen) (hbytes : (n + m) * bytes ≤ 140737488355328) (hbase : base ≤ w.heap.size)
    (h : ∀ v' w', w'.ownsRow base e size v' (n + m) (xs ++ news) → (∀ base' u k ys, w.ownsRow base' e size u k ys → (u.ownBlock = v.ownBlock → k ≤ n) → w'.ownsRow base' e size u k ys) → w.grownBy w' v.ownBlock → (v'.ownBlock = v.ownBlock ∨ v'.ownBlock = some w.heap.size) → wpList P ops Q rest (a.put o.dst v') w') :
    wpList P ops Q (o :: rest) a w := by
  refine wpList_plain hgd fun K hK => ?_
  obtain ⟨v', w', hr, h2, h3, h4, h5⟩ := run_append_keep (P := P) w base t o.type e i z size bytes ht hi hz hsize hby hzs hsz v n xs hown ad m c news hl hnews h1 h63 hbytes hbase
  unfold Oper.wp execOp
  simp only [ho, resolve, invoke, builtin, Sem.run_bind, Sem.run_pure, Result.andThen_ok, List.map_toArray, List.map_cons, List.map_nil, hs, hx, hr]
  exact hK _ _ (h v' w' h2 h3 h4 h5)
end
end Go.Proofs.Yteljbblbdiploaa

namespace Go.Proofs.Yteljbblbdiploaa
open Go.RowKit

/-- block B holds the book's ten cells -/
def Bb (w : World) (B : Nat) (a0 a1 a2 a3 a4 a5 a6 a7 a8 a9 : Value) : Prop := w.heap[B]? = some (.cells #[a0, a1, a2, a3, a4, a5, a6, a7, a8, a9] 42 (0, 0))

section
variable {w w' : World} {B : Nat} {a0 a1 a2 a3 a4 a5 a6 a7 a8 a9 : Value}
theorem Bb.cells (h : Bb w B a0 a1 a2 a3 a4 a5 a6 a7 a8 a9) : (∀ i, w.cell? ⟨B, i, none⟩ = (#[a0, a1, a2, a3, a4, a5, a6, a7, a8, a9] : Array Value)[i]?) ∧ (∀ i, w.frozen? ⟨B, i, none⟩ = false) :=
  ⟨fun i => cell_of_row w B i _ _ (0, 0) h, fun i => frozen_of_row w B i _ _ h⟩
theorem Bb.lt (h : Bb w B a0 a1 a2 a3 a4 a5 a6 a7 a8 a9) : B < w.heap.size := lt_of_block h
theorem Bb.grown {row : Option Nat} (h : Bb w B a0 a1 a2 a3 a4 a5 a6 a7 a8 a9) (hg : w.grownBy w' row) (hne : some B ≠ row) : Bb w' B a0 a1 a2 a3 a4 a5 a6 a7 a8 a9 := (hg.block B h.lt hne).trans h
theorem Bb.below {C : Nat} (h : Bb w B a0 a1 a2 a3 a4 a5 a6 a7 a8 a9) (hb : Below C w w') (hC : B < C) : Bb w' B a0 a1 a2 a3 a4 a5 a6 a7 a8 a9 := (hb.block B hC).trans h
theorem Bb.far (h : Bb w B a0 a1 a2 a3 a4 a5 a6 a7 a8 a9) {A i : Nat} (v : Value) (hne : B ≠ A) : Bb (w.setCell ⟨A, i, none⟩ v) B a0 a1 a2 a3 a4 a5 a6 a7 a8 a9 := (blk_far v hne).trans h
theorem Bb.alloc (h : Bb w B a0 a1 a2 a3 a4 a5 a6 a7 a8 a9) (o : Obj) : Bb (w.alloc o) B a0 a1 a2 a3 a4 a5 a6 a7 a8 a9 := (Below.heap_alloc w o B h.lt).trans h
theorem Bb.set0 (h : Bb w B a0 a1 a2 a3 a4 a5 a6 a7 a8 a9) (v : Value) : Bb (w.setCell ⟨B, 0, none⟩ v) B v a1 a2 a3 a4 a5 a6 a7 a8 a9 := blk_set h v
theorem Bb.set1 (h : Bb w B a0 a1 a2 a3 a4 a5 a6 a7 a8 a9) (v : Value) : Bb (w.setCell ⟨B, 1, none⟩ v) B a0 v a2 a3 a4 a5 a6 a7 a8 a9 := blk_set h v
theorem Bb.set2 (h : Bb w B a0 a1 a2 a3 a4 a5 a6 a7 a8 a9) (v : Value) : Bb (w.setCell ⟨B, 2, none⟩ v) B a0 a1 v a3 a4 a5 a6 a7 a8 a9 := blk_set h v
theorem Bb.set4 (h : Bb w B a0 a1 a2 a3 a4 a5 a6 a7 a8 a9) (v : Value) : Bb (w.setCell ⟨B, 4, none⟩ v) B a0 a1 a2 a3 v a5 a6 a7 a8 a9 := blk_set h v
theorem Bb.set5 (h : Bb w B a0 a1 a2 a3 a4 a5 a6 a7 a8 a9) (v : Value) : Bb (w.setCell ⟨B, 5, none⟩ v) B a0 a1 a2 a3 a4 v a6 a7 a8 a9 := blk_set h v
theorem Bb.set6 (h : Bb w B a0 a1 a2 a3 a4 a5 a6 a7 a8 a9) (v : Value) : Bb (w.setCell ⟨B, 6, none⟩ v) B a0 a1 a2 a3 a4 a5 v a7 a8 a9 := blk_set h v
theorem Bb.set7 (h : Bb w B a0 a1 a2 a3 a4 a5 a6 a7 a8 a9) (v : Value) : Bb (w.setCell ⟨B, 7, none⟩ v) B a0 a1 a2 a3 a4 a5 a6 v a8 a9 := blk_set h v
theorem Bb.set8 (h : Bb w B a0 a1 a2 a3 a4 a5 a6 a7 a8 a9) (v : Value) : Bb (w.setCell ⟨B, 8, none⟩ v) B a0 a1 a2 a3 a4 a5 a6 a7 v a9 := blk_set h v
theorem Bb.set9 (h : Bb w B a0 a1 a2 a3 a4 a5 a6 a7 a8 a9) (v : Value) : Bb (w.setCell ⟨B, 9, none⟩ v) B a0 a1 a2 a3 a4 a5 a6 a7 a8 v := blk_set h v
end

/-- to store what stands there changes nothing -/
theorem set_same {w : World} {g j : Nat} {cur : Array Value} {e : TypeId} {fr : Nat × Nat} {u : Value} (h : w.heap[g]? = some (.cells cur e fr)) (hu : cur[j]? = some u) : w.setCell ⟨g, j, none⟩ u = w := by
  have hh : (w.setCell ⟨g, j, none⟩ u).heap = w.heap := by
    refine Array.ext_getElem? fun k => ?_
    by_cases hk : k = g
    · subst hk
      rw [heap_set_same h j u, h]
      congr 2
      refine Array.ext_getElem? fun q => ?_
      rw [Array.getElem?_setIfInBounds]
      split
      · next e => subst e; rw [if_pos (Array.getElem?_eq_some_iff.1 hu).1, hu]
      · rfl
    · exact blk_far u hk
  show { w with heap := (w.setCell ⟨g, j, none⟩ u).heap } = w
  rw [hh]

/-- all but the blocks of S are as they were -/
structure Spared (w w' : World) (S : Nat → Prop) : Prop where
  os : w'.os = w.os
  tape : w'.tape = w.tape
  output : w'.output = w.output
  size : w.heap.size ≤ w'.heap.size
  block : ∀ k, k < w.heap.size → ¬ S k → w'.heap[k]? = w.heap[k]?

theorem Spared.refl (w : World) (S : Nat → Prop) : Spared w w S := ⟨rfl, rfl, rfl, Nat.le_refl _, fun _ _ _ => rfl⟩
theorem Spared.trans {a b c : World} {S : Nat → Prop} (h : Spared a b S) (k : Spared b c S) : Spared a c S :=
  ⟨k.os.trans h.os, k.tape.trans h.tape, k.output.trans h.output, Nat.le_trans h.size k.size, fun i hi hn => (k.block i (Nat.lt_of_lt_of_le hi h.size) hn).trans (h.block i hi hn)⟩
theorem Spared.mono {w w' : World} {S T : Nat → Prop} (h : Spared w w' S) (hs : ∀ k, k < w.heap.size → S k → T k) : Spared w w' T :=
  ⟨h.os, h.tape, h.output, h.size, fun k hk hn => h.block k hk fun q => hn (hs k hk q)⟩
/-- a step that may write one row, and what the step ahead of it made -/
theorem Spared.grown {a w w' : World} {S : Nat → Prop} {row : Option Nat} (h : Spared a w S) (hg : w.grownBy w' row) (hr : ∀ k, row = some k → k < a.heap.size → S k) : Spared a w' S :=
  ⟨hg.os.trans h.os, hg.tape.trans h.tape, hg.output.trans h.output, Nat.le_trans h.size hg.size, fun k hk hn => (hg.block k (Nat.lt_of_lt_of_le hk h.size) (fun q => hn (hr k q.symm hk))).trans (h.block k hk hn)⟩
theorem Spared.set {a w : World} {S : Nat → Prop} (h : Spared a w S) {p : Addr} (hp : p.block < a.heap.size → S p.block) (u : Value) : Spared a (w.setCell p u) S :=
  ⟨h.os, h.tape, h.output, by simpa [World.setCell] using h.size, fun k hk hn => (Below.heap_setCell w p u k (fun e => hn (by subst e; exact hp hk))).trans (h.block k hk hn)⟩
theorem Spared.alloc {a w : World} {S : Nat → Prop} (h : Spared a w S) (o : Obj) : Spared a (w.alloc o) S := h.grown (World.grownBy_alloc w o none) (fun k hk => by cases hk)
theorem Spared.below {w w' : World} {S : Nat → Prop} {C : Nat} (h : Spared w w' S) (hC : C ≤ w.heap.size) (hs : ∀ k, S k → C ≤ k) : Below C w w' :=
  ⟨h.os, h.tape, h.output, h.size, fun k hk => h.block k (Nat.lt_of_lt_of_le hk hC) fun q => by have := hs k q; omega⟩
theorem Spared.owns {w w' : World} {S : Nat → Prop} (h : Spared w w' S) {base : Nat} {e : TypeId} {size : Nat} {v : Value} {n : Nat} {xs : List Value} (ho : w.ownsRow base e size v n xs) (hn : ∀ k, v.ownBlock = some k → ¬ S k) : w'.ownsRow base e size v n xs := by
  refine ⟨ho.1, ?_⟩
  rcases ho.2 with q | ⟨g, cap, cur, rfl, h1, hh, r⟩
  · exact .inl q
  · exact .inr ⟨g, cap, cur, rfl, h1, (h.block g (lt_of_block hh) (hn g rfl)).trans hh, r⟩

/-- k times the cells c -/
def reps (k : Nat) (c : List Value) : List Value := (List.replicate k c).flatten
theorem reps_succ (k : Nat) (c : List Value) : reps (k + 1) c = reps k c ++ c := by
  simp [reps, List.replicate_succ']

/-- lists, each full of the mark of its four; those in the row lb are no longer than n -/
def Views (w : World) (base : Nat) (e : TypeId) (size : Nat) (mk : Nat → List Value) (n : Nat) (lb : Option Nat) (L : List Value) : Prop :=
  ∀ i s, L[i]? = some s → ∃ k, w.ownsRow base e size s k (reps k (mk (i / 4 * 4))) ∧ (s.ownBlock = lb → k ≤ n)

section
variable {w w' : World} {base : Nat} {e : TypeId} {size n : Nat} {mk : Nat → List Value} {lb : Option Nat} {L : List Value}
theorem Views.nil (w : World) (base : Nat) (e : TypeId) (size : Nat) (mk : Nat → List Value) (n : Nat) (lb : Option Nat) : Views w base e size mk n lb [] := by
  intro i s h; simp at h
theorem Views.kept (h : Views w base e size mk n lb L) (hk : ∀ s k ys, w.ownsRow base e size s k ys → (s.ownBlock = lb → k ≤ n) → w'.ownsRow base e size s k ys) : Views w' base e size mk n lb L := by
  intro i s hi
  obtain ⟨k, h1, h2⟩ := h i s hi
  exact ⟨k, hk _ _ _ h1 h2, h2⟩
/-- no view lies in a row that was just made -/
theorem Views.fresh (h : Views w base e size mk n lb L) (m g : Nat) (hg : w.heap.size ≤ g) : Views w base e size mk m (some g) L := by
  intro i s hi
  obtain ⟨k, h1, h2⟩ := h i s hi
  refine ⟨k, h1, fun q => ?_⟩
  have := (h1.lt g q).2
  omega
theorem Views.more (h : Views w base e size mk n lb L) {m : Nat} (hm : n ≤ m) : Views w base e size mk m lb L := by
  intro i s hi
  obtain ⟨k, h1, h2⟩ := h i s hi
  exact ⟨k, h1, fun q => Nat.le_trans (h2 q) hm⟩
theorem Views.free (h : Views w base e size mk n lb L) : Views w base e size mk 0 none L := by
  intro i s hi
  obtain ⟨k, h1, h2⟩ := h i s hi
  refine ⟨k, h1, fun q => ?_⟩
  rcases h1.2 with ⟨_, rfl⟩ | ⟨g, cap, cur, rfl, _⟩
  · exact Nat.le_refl _
  · simp [Value.ownBlock] at q
theorem Views.push (h : Views w base e size mk n lb L) {l : Value} (hl : w.ownsRow base e size l n (reps n (mk (L.length / 4 * 4)))) : Views w base e size mk n lb (L ++ [l]) := by
  intro i s hi
  rcases Nat.lt_trichotomy i L.length with hlt | rfl | hgt
  · rw [List.getElem?_append_left hlt] at hi
    exact h i s hi
  · rw [List.getElem?_append_right (Nat.le_refl _)] at hi
    simp at hi
    subst hi
    exact ⟨n, hl, fun _ => Nat.le_refl _⟩
  · rw [List.getElem?_append_right (by omega)] at hi
    obtain ⟨d, hd⟩ := Nat.exists_eq_add_of_lt hgt
    rw [hd, show L.length + d + 1 - L.length = d + 1 by omega] at hi
    simp at hi
end
end Go.Proofs.Yteljbblbdiploaa

namespace Go.Proofs.Yteljbblbdiploaa
open Go.RowKit

/-- while a list is marked: the row of lists, the lists in it, the list itself; what may have changed -/
structure Mkg (w0 wr : World) (base : Nat) (eS e : TypeId) (size : Nat) (mk : Nat → List Value) (S G : Nat → Prop) (L : List Value) (row l : Value) (n : Nat) (xs : List Value) (m : Nat) : Prop where
  rw : wr.ownsRow base eS 1 row L.length L
  views : Views wr base e size mk m l.ownBlock L
  own : wr.ownsRow base e size l n xs
  sp : Spared w0 wr S
  inS : ∀ k, l.ownBlock = some k ∨ row.ownBlock = some k → k < w0.heap.size → S k
  low : base ≤ w0.heap.size
  away : ∀ g, G g → g < w0.heap.size ∧ l.ownBlock ≠ some g ∧ ∀ s ∈ L, s.ownBlock ≠ some g

section
variable {w0 wr w1 w2 : World} {base : Nat} {eS e : TypeId} {size : Nat} {mk : Nat → List Value} {S G : Nat → Prop} {L : List Value} {row l : Value} {n : Nat} {xs : List Value} {m : Nat}

theorem Mkg.low' (h : Mkg w0 wr base eS e size mk S G L row l n xs m) : base ≤ wr.heap.size := Nat.le_trans h.low h.sp.size

theorem Mkg.store (h : Mkg w0 wr base eS e size mk S G L row l n xs 0) (hne : eS ≠ e) {g : Nat} (hg : l.ownBlock = some g) (j : Nat) (u : Value) : Mkg w0 (wr.setCell ⟨g, j, none⟩ u) base eS e size mk S G L row l n (xs.set j u) 0 := by
  refine ⟨?_, ?_, ownsRow_set h.own hg j u, h.sp.set (fun hk => h.inS g (.inl hg) hk) u, h.inS, h.low, h.away⟩
  · refine ownsRow_setCell_other h.rw ?_ u
    rcases rows_ne h.rw h.own hne with q | q
    · rw [q]; simp
    · rw [hg] at q; exact q
  · refine h.views.kept fun s k ys hs hk => ownsRow_set_none hs rfl (fun q => ?_) u
    rw [hg] at hk
    have := hk q
    omega

theorem Mkg.alloc (h : Mkg w0 wr base eS e size mk S G L row l n xs m) (o : Obj) : Mkg w0 (wr.alloc o) base eS e size mk S G L row l n xs m :=
  ⟨h.rw.alloc o, h.views.kept fun _ _ _ hs _ => hs.alloc o, h.own.alloc o, h.sp.alloc o, h.inS, h.low, h.away⟩

theorem Mkg.drew (h : Mkg w0 wr base eS e size mk S G L row l n xs m) : Mkg w0 wr.drew base eS e size mk S G L row l n xs m := ⟨h.rw, h.views, h.own, ⟨h.sp.os, h.sp.tape, h.sp.output, h.sp.size, h.sp.block⟩, h.inS, h.low, h.away⟩

theorem Mkg.full (h : Mkg w0 wr base eS e size mk S G L row l n xs 0) : Mkg w0 wr base eS e size mk S G L row l n xs n := ⟨h.rw, h.views.more (Nat.zero_le _), h.own, h.sp, h.inS, h.low, h.away⟩

/-- a cell of another block (of another type) is stored -/
theorem Mkg.far (h : Mkg w0 wr base eS e size mk S G L row l n xs m) {B i : Nat} {cs : Array Value} {T : TypeId} {fr : Nat × Nat} (hB : wr.heap[B]? = some (.cells cs T fr)) (h1 : eS ≠ T) (h2 : e ≠ T) (hS : B < w0.heap.size → S B) (u : Value) : Mkg w0 (wr.setCell ⟨B, i, none⟩ u) base eS e size mk S G L row l n xs m :=
  ⟨ownsRow_setCell_other h.rw (type_ne h.rw hB h1) u, h.views.kept fun _ _ _ hs _ => ownsRow_setCell_other hs (type_ne hs hB h2) u, ownsRow_setCell_other h.own (type_ne h.own hB h2) u, h.sp.set hS u, h.inS, h.low, h.away⟩

/-- the list is laid into the row -/
theorem Mkg.laid (h : Mkg w0 wr base eS e size mk S G L row l n xs n) (hne : eS ≠ e) {row' : Value} (ho : w2.ownsRow base eS 1 row' (L.length + 1) (L ++ [l])) (hg : wr.grownBy w2 row.ownBlock) (hat : row'.ownBlock = row.ownBlock ∨ row'.ownBlock = some wr.heap.size) (hxs : xs = reps n (mk (L.length / 4 * 4))) :
    Mkg w0 w2 base eS e size mk S G (L ++ [l]) row' l n xs n := by
  have hfar : ∀ base' s k ys, wr.ownsRow base' e size s k ys → w2.ownsRow base' e size s k ys := fun base' s k ys hs => hs.kept hg (rows_ne hs h.rw (Ne.symm hne))
  refine ⟨by simpa using ho, (h.views.kept fun _ _ _ hs _ => hfar _ _ _ _ hs).push ?_, hfar _ _ _ _ h.own, h.sp.grown hg (fun k hk hl => h.inS k (.inr hk) hl), ?_, h.low, fun g hG => ⟨(h.away g hG).1, (h.away g hG).2.1, fun s hs => by rcases List.mem_append.1 hs with q | q; exact (h.away g hG).2.2 s q; rw [List.mem_singleton.1 q]; exact (h.away g hG).2.1⟩⟩
  · rw [← hxs]; exact hfar _ _ _ _ h.own
  · intro k hk hl
    rcases hk with hk | hk
    · exact h.inS k (.inl hk) hl
    · rcases hat with q | q
      · exact h.inS k (.inr (by rw [← q]; exact hk)) hl
      · rw [q] at hk; cases hk; have := h.sp.size; omega

/-- the list grows by a mark -/
theorem Mkg.grew (h : Mkg w0 wr base eS e size mk S G L row l n xs n) (hne : eS ≠ e) {l' : Value} {c : List Value} (ho : w2.ownsRow base e size l' (n + 1) (xs ++ c))
    (hkeep : ∀ base' u k ys, wr.ownsRow base' e size u k ys → (u.ownBlock = l.ownBlock → k ≤ n) → w2.ownsRow base' e size u k ys) (hg : wr.grownBy w2 l.ownBlock) (hat : l'.ownBlock = l.ownBlock ∨ l'.ownBlock = some wr.heap.size) :
    Mkg w0 w2 base eS e size mk S G L row l' (n + 1) (xs ++ c) (n + 1) := by
  refine ⟨h.rw.kept hg (rows_ne h.rw h.own hne), ?_, ho, h.sp.grown hg (fun k hk hl => h.inS k (.inl hk) hl), ?_, h.low, fun g hG => ⟨(h.away g hG).1, ?_, (h.away g hG).2.2⟩⟩
  · rcases hat with q | q
    · rw [q]
      exact (h.views.kept fun s k ys hs hk => hkeep _ _ _ _ hs hk).more (by omega)
    · rw [q]
      have hv := h.views.fresh (n + 1) wr.heap.size (Nat.le_refl _)
      intro i s hi
      obtain ⟨k, k1, k2⟩ := hv i s hi
      obtain ⟨k', k3, k4⟩ := h.views i s hi
      refine ⟨k', hkeep _ _ _ _ k3 k4, fun qq => ?_⟩
      have := (k3.lt _ qq).2
      omega
  · intro k hk hl
    rcases hk with hk | hk
    · rcases hat with q | q
      · exact h.inS k (.inl (by rw [← q]; exact hk)) hl
      · rw [q] at hk; cases hk; have := h.sp.size; omega
    · exact h.inS k (.inr hk) hl
  · rcases hat with q | q
    · rw [q]; exact (h.away g hG).2.1
    · rw [q]
      intro k
      have h1 := (h.away g hG).1
      have h2 := h.sp.size
      cases k
      omega
end
end Go.Proofs.Yteljbblbdiploaa
