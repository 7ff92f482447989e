/-
  SMALL LAWS: a loop over a map whose keys are ids: each pair comes once, in whatever order.
-/
import Derived.Test.YteljbblbdiploaaJVMapI
import Derived.Maps.RangeWalk
import Derived.Maps.AppendAt
namespace Go.Proofs.Yteljbblbdiploaa
open Go.RowKit Go.Instr

/-- a loop over the map in block b is under way, its iterator in block r; 'left' is still to come -/
def RngI (w : World) (b r : Nat) (kv left : List ((Int × Int) × Value)) : Prop :=
  ∃ es clock since seen c0, w.heap[b]? = some (.map es clock) ∧ entI es.toList kv ∧ (es.toList.map (·.born)).Nodup ∧ (∀ e ∈ es.toList, e.born < since) ∧ since ≤ c0 ∧ since ≤ clock ∧
    w.heap[r]? = some (.mapIter (some b) since seen c0) ∧ entI (leftOf es seen).toList left

theorem RngI.ne {w : World} {b r : Nat} {kv left : List ((Int × Int) × Value)} (h : RngI w b r kv left) : r ≠ b := by
  obtain ⟨es, clock, since, seen, c0, hb, _, _, _, _, _, hr, _⟩ := h
  intro e
  rw [e, hb] at hr
  cases hr
theorem RngI.lt {w : World} {b r : Nat} {kv left : List ((Int × Int) × Value)} (h : RngI w b r kv left) : b < w.heap.size ∧ r < w.heap.size := by
  obtain ⟨es, clock, since, seen, c0, hb, _, _, _, _, _, hr, _⟩ := h
  exact ⟨(Array.getElem?_eq_some_iff.1 hb).1, (Array.getElem?_eq_some_iff.1 hr).1⟩
theorem RngI.map {w : World} {b r : Nat} {kv left : List ((Int × Int) × Value)} (h : RngI w b r kv left) : MapI w b kv := by
  obtain ⟨es, clock, since, seen, c0, hb, he, hn, ho, _, hc, _⟩ := h
  exact ⟨es, clock, hb, he, hn, fun e m => Nat.lt_of_lt_of_le (ho e m) hc⟩
theorem RngI.kept {w w' : World} {b r : Nat} {kv left : List ((Int × Int) × Value)} {row : Option Nat} (h : RngI w b r kv left) (hg : w.grownBy w' row) (hb' : some b ≠ row) (hr' : some r ≠ row) : RngI w' b r kv left := by
  have h1 := h.lt
  obtain ⟨es, clock, since, seen, c0, hb, he, hn, ho, h2, h3, hr, hl⟩ := h
  exact ⟨es, clock, since, seen, c0, (hg.block b h1.1 hb').trans hb, he, hn, ho, h2, h3, (hg.block r h1.2 hr').trans hr, hl⟩

theorem entI_perm {es : List MapEntry} {kv : List ((Int × Int) × Value)} (h : entI es kv) : es.length = kv.length := by
  have := congrArg List.length h
  simpa using this

theorem range_id {t e : TypeId} {w : World} {b : Nat} {kv : List ((Int × Int) × Value)} (h : MapI w b kv) (ht : Try.prog.underlying t = some (.map 24 e)) :
    ∃ w', (Instr.range t (.map (some b))).run Try.prog w = .ok (.pointer (some ⟨w.heap.size, 0, none⟩)) w' ∧ RngI w' b w.heap.size kv kv ∧ w.grownBy w' none ∧ w'.heap.size = w.heap.size + 1 := by
  have hlt := h.lt
  obtain ⟨es, clock, hb, he, hn, ho⟩ := h
  refine ⟨_, run_range_map w t _ e b es clock ht hb, ⟨es, clock, clock, #[], clock, ((MapKept.heap_alloc w _).2 b hlt).trans hb, he, hn, ho, Nat.le_refl _, Nat.le_refl _, (MapKept.heap_alloc w _).1, ?_⟩, World.grownBy_alloc w _ none, by simp⟩
  have : leftOf es #[] = es := by unfold leftOf; rw [Array.filter_eq_self]; simp
  rw [this]
  exact he

theorem entI_split {L1 L2 : List MapEntry} {e : MapEntry} {left : List ((Int × Int) × Value)} (h : entI (L1 ++ e :: L2) left) :
    ∃ l1 p l2, left = l1 ++ p :: l2 ∧ entI L1 l1 ∧ e.key = idV p.1 ∧ e.val = p.2 ∧ entI L2 l2 := by
  unfold entI at h
  rw [List.map_append, List.map_cons] at h
  obtain ⟨l1, r, rfl, h1, h2⟩ := List.map_eq_append_iff.1 h.symm
  obtain ⟨p, l2, rfl, h3, h4⟩ := List.map_eq_cons_iff.1 h2
  simp only [Prod.mk.injEq] at h3
  exact ⟨l1, p, l2, rfl, h1.symm, h3.1.symm, h3.2.symm, h4.symm⟩
theorem entI_join {L1 L2 : List MapEntry} {l1 l2 : List ((Int × Int) × Value)} (h1 : entI L1 l1) (h2 : entI L2 l2) : entI (L1 ++ L2) (l1 ++ l2) := by
  unfold entI at *
  rw [List.map_append, List.map_append, h1, h2]

theorem left_split {L1 L2 : List MapEntry} {e : MapEntry} {es : Array MapEntry} {seen : Array Nat} (hn : (es.toList.map (·.born)).Nodup) (h : (leftOf es seen).toList = L1 ++ e :: L2) : (leftOf es (seen.push e.born)).toList = L1 ++ L2 := by
  have h1 : (leftOf es (seen.push e.born)).toList = (leftOf es seen).toList.filter fun x => !(x.born == e.born) := by
    unfold leftOf
    rw [Array.toList_filter, Array.toList_filter, List.filter_filter]
    congr 1
    funext x
    rw [Array.contains_push]
    cases seen.contains x.born <;> cases hx : (x.born == e.born) <;> simp_all [BEq.comm]
  have hsub : ((leftOf es seen).toList.map (·.born)).Nodup := by
    unfold leftOf
    rw [Array.toList_filter]
    exact hn.sublist (List.filter_sublist.map _)
  rw [h, List.map_append, List.map_cons] at hsub
  obtain ⟨n1, n2, n3⟩ := List.nodup_append.1 hsub
  obtain ⟨n4, _⟩ := List.nodup_cons.1 n2
  rw [h1, h, List.filter_append, List.filter_cons]
  have f1 : L1.filter (fun x => !(x.born == e.born)) = L1 := List.filter_eq_self.2 fun x hx => by
    have := n3 x.born (List.mem_map.2 ⟨x, hx, rfl⟩) e.born (by simp)
    simpa using this
  have f2 : L2.filter (fun x => !(x.born == e.born)) = L2 := List.filter_eq_self.2 fun x hx => by
    have : x.born ≠ e.born := fun q => n4 (by rw [← q]; exact List.mem_map.2 ⟨x, hx, rfl⟩)
    simpa using this
  rw [f1, f2]
  simp

/-- the step: nothing is left, or one of those that are left comes -/
theorem RngI.next {w : World} {b r : Nat} {kv left : List ((Int × Int) × Value)} (h : RngI w b r kv left) (ty : TypeId) :
    (left = [] ∧ (Instr.next (.pointer (some ⟨r, 0, none⟩)) false ty).run Try.prog w = .ok (.tuple #[.bool false]) w) ∨
    ∃ p left' w', left.Perm (p :: left') ∧ (Instr.next (.pointer (some ⟨r, 0, none⟩)) false ty).run Try.prog w = .ok (.tuple #[.bool true, idV p.1, p.2]) w' ∧ RngI w' b r kv left' ∧ w.grownBy w' (some r) ∧ w'.heap.size = w.heap.size ∧
      (Instr.entry (.pointer (some ⟨r, 0, none⟩))).run Try.prog w' = .ok (.tuple #[idV p.1, p.2]) w' := by
  have hne := h.ne
  obtain ⟨es, clock, since, seen, c0, hb, he, hn, ho, h2, h3, hr, hl⟩ := h
  rcases run_next_at (P := Try.prog) w ty r b since c0 seen es clock hr hb ho h2 with ⟨h0, hrun⟩ | ⟨e, hem, w1, hal, hrun⟩
  · refine .inl ⟨?_, hrun⟩
    have := entI_perm hl
    rw [Array.length_toList, h0] at this
    exact List.length_eq_zero_iff.1 this.symm
  · obtain ⟨L1, L2, hL⟩ := List.append_of_mem hem
    have hl' := hl
    rw [hL] at hl'
    obtain ⟨l1, p, l2, rfl, e1, hk, hv, e2⟩ := entI_split hl'
    rw [hk, hv] at hrun
    have hr1 : w1.heap[r]? = some (.mapIter (some b) since seen c0) := by rcases hal with rfl | rfl <;> exact hr
    have hb1 : w1.heap[b]? = some (.map es clock) := by rcases hal with rfl | rfl <;> exact hb
    have hrl : r < w1.heap.size := (Array.getElem?_eq_some_iff.1 hr1).1
    have hrs : (ChangeMaps.setBlock w1 r (.mapIter (some b) since (seen.push e.born) clock)).heap[r]? = some (.mapIter (some b) since (seen.push e.born) clock) := by simp [ChangeMaps.setBlock, hrl]
    have hbs : (ChangeMaps.setBlock w1 r (.mapIter (some b) since (seen.push e.born) clock)).heap[b]? = some (.map es clock) := by
      rw [← hb1]
      have : r ≠ b := hne
      simp [ChangeMaps.setBlock, this]
    have hg1 : w.grownBy w1 (some r) := by
      rcases hal with rfl | rfl
      · exact ⟨rfl, rfl, rfl, Nat.le_refl _, fun _ _ _ => rfl⟩
      · exact ⟨rfl, rfl, rfl, Nat.le_refl _, fun _ _ _ => rfl⟩
    have hg2 := grown_setBlock w1 r (.mapIter (some b) since (seen.push e.born) clock)
    have hz : w1.heap.size = w.heap.size := by rcases hal with rfl | rfl <;> rfl
    refine .inr ⟨p, l1 ++ l2, _, List.perm_middle, hrun, ⟨es, clock, since, seen.push e.born, clock, hbs, he, hn, ho, h3, h3, hrs, ?_⟩, hg1.trans hg2, by simp [ChangeMaps.setBlock, hz], ?_⟩
    · rw [left_split hn hL]
      exact entI_join e1 e2
    · have := run_entry_at (P := Try.prog) _ r b since seen es clock e hrs hbs (mem_left hem).1 hn
      rw [hk, hv] at this
      exact this

theorem wp_range_id (w : World) {ops : Array Oper} {rest : List Oper} {o : Oper} {a : Act} {Q : Exit → Act → World → Prop} (hg : o.guard = none) (m : Operand) (t : TypeId) (hop : o.op = Op.range t m) (e : TypeId) (ht : Try.prog.underlying t = some (.map 24 e)) (b : Nat) (kv : List ((Int × Int) × Value))
    (hm : a.eval m = .map (some b)) (h : MapI w b kv)
    (hK : ∀ w', RngI w' b w.heap.size kv kv → w.grownBy w' none → w'.heap.size = w.heap.size + 1 → wpList Try.prog ops Q rest (a.put o.dst (.pointer (some ⟨w.heap.size, 0, none⟩))) w') :
    wpList Try.prog ops Q (o :: rest) a w := by
  refine wpList_plain hg fun K' hK' => ?_
  obtain ⟨w', hrun, r1, r2, r3⟩ := range_id h ht
  unfold Oper.wp
  simp [execOp, hop, hm, hrun, Result.andThen]
  exact hK' _ _ (hK w' r1 r2 r3)

theorem wp_next_id (w : World) {ops : Array Oper} {rest : List Oper} {o : Oper} {a : Act} {Q : Exit → Act → World → Prop} (hg : o.guard = none) (it : Operand) (hop : o.op = Op.next it false) (b r : Nat) (kv left : List ((Int × Int) × Value))
    (hit : a.eval it = .pointer (some ⟨r, 0, none⟩)) (h : RngI w b r kv left)
    (hDone : left = [] → wpList Try.prog ops Q rest (a.put o.dst (.tuple #[.bool false])) w)
    (hMore : ∀ (p : (Int × Int) × Value) (left' : List ((Int × Int) × Value)) (w' : World), left.Perm (p :: left') → RngI w' b r kv left' → w.grownBy w' (some r) → w'.heap.size = w.heap.size → (Instr.entry (.pointer (some ⟨r, 0, none⟩))).run Try.prog w' = .ok (.tuple #[idV p.1, p.2]) w' → wpList Try.prog ops Q rest (a.put o.dst (.tuple #[.bool true, idV p.1, p.2])) w') :
    wpList Try.prog ops Q (o :: rest) a w := by
  refine wpList_plain hg fun K' hK' => ?_
  unfold Oper.wp
  rcases h.next o.type with ⟨h0, hrun⟩ | ⟨p, left', w', hp, hrun, hrg, hgr, hsz, hen⟩
  · simp [execOp, hop, hit, hrun, Result.andThen]
    exact hK' _ _ (hDone h0)
  · simp [execOp, hop, hit, hrun, Result.andThen]
    exact hK' _ _ (hMore p left' w' hp hrg hgr hsz hen)
end Go.Proofs.Yteljbblbdiploaa
