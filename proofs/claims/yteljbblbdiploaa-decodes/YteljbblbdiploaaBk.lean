/-
  LAWS of our own: lists that lie in rows of their own: an append keeps every view of its row that is no longer than what was appended to; what a store leaves.
-/
import Derived.Test.YteljbblbdiploaaReadU
import Derived.Maps.AppendAt
import Derived.OneCell
namespace Go.Proofs.Yteljbblbdiploaa
open Go.RowKit

section
variable {w : World} {base : Nat} {e : TypeId} {size n : Nat} {v : Value} {xs : List Value}

theorem type_ne {e' : TypeId} {g : Nat} {cur : Array Value} {fr : Nat × Nat} (h : w.ownsRow base e size v n xs) (hg : w.heap[g]? = some (.cells cur e' fr)) (hne : e ≠ e') : v.ownBlock ≠ some g := by
  rcases h.2 with ⟨rfl, _⟩ | ⟨g', cap, c', rfl, _, hh, _⟩
  · simp [Value.ownBlock]
  · intro q
    simp [Value.ownBlock] at q
    subst q
    rw [hh] at hg
    cases hg
    exact hne rfl

theorem rows_ne {base' : Nat} {e' : TypeId} {size' n' : Nat} {v' : Value} {xs' : List Value} (h : w.ownsRow base e size v n xs) (h' : w.ownsRow base' e' size' v' n' xs') (hne : e ≠ e') : v.ownBlock = none ∨ v.ownBlock ≠ v'.ownBlock := by
  rcases h'.2 with ⟨rfl, _⟩ | ⟨g', cap, c', rfl, _, hh, _⟩
  · cases hv : v.ownBlock with
    | none => exact .inl rfl
    | some k => right; simp [Value.ownBlock]
  · exact .inr (type_ne h hh hne)

theorem heap_set_same {g : Nat} {cur : Array Value} {fr : Nat × Nat} (h : w.heap[g]? = some (.cells cur e fr)) (j : Nat) (u : Value) : (w.setCell ⟨g, j, none⟩ u).heap[g]? = some (.cells (cur.setIfInBounds j u) e fr) := by
  have hlt := lt_of_block h
  have h' : w.heap[g] = .cells cur e fr := by simpa [Array.getElem?_eq_getElem hlt] using h
  show (w.heap.modify g _)[g]? = _
  rw [Array.getElem?_eq_getElem (by simpa using hlt), Array.getElem_modify_self, h']
  rfl

/-- a view of no length stands whatever is stored -/
theorem ownsRow_set_none (h : w.ownsRow base e size v n xs) {a : Addr} (ha : a.spot = none) (hn : v.ownBlock = some a.block → n = 0) (u : Value) : (w.setCell a u).ownsRow base e size v n xs := by
  by_cases hb : v.ownBlock = some a.block
  · have := hn hb
    subst this
    refine ⟨h.1, ?_⟩
    rcases h.2 with q | ⟨g, cap, cur, rfl, h1, hh, h3, h4, h5, h6⟩
    · exact .inl q
    · obtain ⟨b, o, s⟩ := a
      simp only [Value.ownBlock, Option.some.injEq] at hb
      subst hb
      simp only at ha
      subst ha
      exact .inr ⟨g, cap, _, rfl, h1, heap_set_same hh o u, h3, h4, by simpa using h5, by simpa using h6⟩
  · exact ownsRow_setCell_other h hb u

/-- a store into the row -/
theorem ownsRow_set (h : w.ownsRow base e size v n xs) {g : Nat} (hv : v.ownBlock = some g) (j : Nat) (u : Value) : (w.setCell ⟨g, j, none⟩ u).ownsRow base e size v n (xs.set j u) := by
  refine ⟨by simpa using h.1, ?_⟩
  rcases h.2 with ⟨rfl, _⟩ | ⟨g', cap, cur, rfl, h1, hh, h3, h4, h5, h6⟩
  · simp [Value.ownBlock] at hv
  · simp only [Value.ownBlock, Option.some.injEq] at hv
    subst hv
    refine .inr ⟨g', cap, _, rfl, h1, heap_set_same hh j u, h3, h4, by simpa using h5, ?_⟩
    rw [Array.toList_setIfInBounds, ← h6, List.take_set]
end

section
variable {P : Program} (w : World)
theorem run_append_keep (base : Nat) (t ty e : TypeId) (i : TypeInfo) (z : Value) (size bytes : Nat) (ht : P.underlying t = some (.slice e)) (hi : P.info? e = some i) (hz : i.zero = some z)
    (hsize : i.size = size) (hby : i.bytes = bytes) (hzs : z.cells.size = size) (hsz : 0 < size)
    (v : Value) (n : Nat) (xs : List Value) (hown : w.ownsRow base e size v n xs)
    (a : Addr) (m c : Nat) (news : List Value) (hl : news.length = m * size) (hnews : ∀ j u, news[j]? = some u → w.cell? (a.add j) = some u) (h1 : ∀ u ∈ news, u.oneCell' = true)
    (h63 : n + m ≤ maxLen) (hbytes : (n + m) * bytes ≤ 140737488355328) (hbase : base ≤ w.heap.size) :
    ∃ v' w', (Builtin.append_ #[t, t] ty #[v, .slice (some a) m c]).run P w = .ok v' w' ∧ w'.ownsRow base e size v' (n + m) (xs ++ news) ∧
      (∀ base' u k ys, w.ownsRow base' e size u k ys → (u.ownBlock = v.ownBlock → k ≤ n) → w'.ownsRow base' e size u k ys) ∧ w.grownBy w' v.ownBlock ∧ (v'.ownBlock = v.ownBlock ∨ v'.ownBlock = some w.heap.size) := by
  obtain ⟨v', w', hr, o1, o2, _, o4⟩ := run_append_own_at (P := P) w base t ty e i z size bytes ht hi hz hsize hby hzs hsz v n xs hown a m c news hl hnews h1 h63 hbytes hbase
  refine ⟨v', w', hr, o1, ?_, o2, o4⟩
  subst hsize
  subst hby
  intro base' u k ys hu hk
  by_cases hsame : u.ownBlock = none ∨ u.ownBlock ≠ v.ownBlock
  · exact hu.kept o2 hsame
  · have hn : ¬ u.ownBlock = none := fun q => hsame (.inl q)
    have hs : u.ownBlock = v.ownBlock := Classical.byContradiction fun q => hsame (.inr q)
    have hkn := hk hs
    refine ⟨hu.1, .inr ?_⟩
    rcases hu.2 with ⟨rfl, _⟩ | ⟨gu, cu, curu, rfl, hbu, hgu, hncu, hcmu, hcsu, htku⟩
    · exact absurd rfl hn
    · rcases hown.2 with ⟨rfl, rfl⟩ | ⟨g, cap, cur, rfl, hbg, hg, hnc, hcm, hcs, htake⟩
      · simp [Value.ownBlock] at hs
      · simp only [Value.ownBlock, Option.some.injEq] at hs
        subst hs
        rw [hgu] at hg
        cases hg
        by_cases hroom : n + m ≤ cap
        · have hfit : n * i.size + news.length ≤ curu.size := by rw [hl, hcs, ← Nat.add_mul]; exact Nat.mul_le_mul_right _ hroom
          have hr' := run_append_room (P := P) w t ty e i ht hi gu n cap curu hgu a m c news hl hnews h1 hroom hfit
          rw [hr] at hr'
          cases hr'
          refine ⟨gu, cu, _, rfl, hbu, setRow_heap w gu curu _ e _ hgu, hncu, hcmu, ?_, ?_⟩
          · rw [← hcsu]
            simp only [List.size_toArray, List.length_append, List.length_take, List.length_drop, Array.length_toList]
            omega
          · have hle : k * i.size ≤ n * i.size := Nat.mul_le_mul_right _ hkn
            rw [← htku, List.append_assoc, List.take_append_of_le_length (by simp only [List.length_take, Array.length_toList]; omega), List.take_take, Nat.min_eq_left hle]
        · have holds : ∀ j u, xs[j]? = some u → w.cell? ((⟨gu, 0, none⟩ : Addr).add j) = some u := hown.cells (g := gu) rfl
          have hr' := run_append_grow (P := P) w t ty e i z ht hi hz ⟨gu, 0, none⟩ n cap xs hown.1 holds a m c news hl hnews (by omega) (by unfold maxLen at h63; omega) (growslice_fits (by omega) hbytes)
          rw [hr] at hr'
          cases hr'
          exact ⟨gu, cu, curu, rfl, hbu, (Below.heap_alloc w.drew _ gu (lt_of_block hgu)).trans hgu, hncu, hcmu, hcsu, htku⟩

theorem wpList_append_keep {ops : Array Oper} {rest : List Oper} {o : Oper} {a : Act} {Q : Exit → Act → World → Prop} (hgd : o.guard = none) (s x : Operand) (t : TypeId)
    (ho : o.op = .call { callee := .builtin .append, args := #[s, x], argTypes := #[t, t] })
    (base : Nat) (e : TypeId) (i : TypeInfo) (z : Value) (size bytes : Nat) (ht : P.underlying t = some (.slice e)) (hi : P.info? e = some i) (hz : i.zero = some z)
    (hsize : i.size = size) (hby : i.bytes = bytes) (hzs : z.cells.size = size) (hsz : 0 < size)
    (v : Value) (n : Nat) (xs : List Value) (hs : a.eval s = v) (hown : w.ownsRow base e size v n xs)
    (ad : Addr) (m c : Nat) (news : List Value) (hx : a.eval x = .slice (some ad) m c) (hl : news.length = m * size) (hnews : ∀ j u, news[j]? = some u → w.cell? (ad.add j) = some u) (h1 : ∀ u ∈ news, u.oneCell' = true)
    (h63 : n + m ≤ maxLen) (hbytes : (n + m) * bytes ≤ 140737488355328) (hbase : base ≤ w.heap.size)
    (h : ∀ v' w', w'.ownsRow base e size v' (n + m) (xs ++ news) → (∀ base' u k ys, w.ownsRow base' e size u k ys → (u.ownBlock = v.ownBlock → k ≤ n) → w'.ownsRow base' e size u k ys) → w.grownBy w' v.ownBlock → (v'.ownBlock = v.ownBlock ∨ v'.ownBlock = some w.heap.size) → wpList P ops Q rest (a.put o.dst v') w') :
    wpList P ops Q (o :: rest) a w := by
  refine wpList_plain hgd fun K hK => ?_
  obtain ⟨v', w', hr, h2, h3, h4, h5⟩ := run_append_keep (P := P) w base t o.type e i z size bytes ht hi hz hsize hby hzs hsz v n xs hown ad m c news hl hnews h1 h63 hbytes hbase
  unfold Oper.wp execOp
  simp only [ho, resolve, invoke, builtin, Sem.run_bind, Sem.run_pure, Result.andThen_ok, List.map_toArray, List.map_cons, List.map_nil, hs, hx, hr]
  exact hK _ _ (h v' w' h2 h3 h4 h5)
end
end Go.Proofs.Yteljbblbdiploaa
