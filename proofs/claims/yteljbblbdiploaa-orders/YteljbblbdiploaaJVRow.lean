/-
  PLAIN: the inserts of a sequence as a tree, by their places in a list; no Go text in sight.
-/
/-
  SMALL LAWS: updates in a row of the call's own, their clocks where they came from.
-/
import Derived.Test.YteljbblbdiploaaJVBelow
import Derived.Test.YteljbblbdiploaaJVWith
namespace Go.Proofs.Yteljbblbdiploaa

theorem aheadB_irr (a : Up) : aheadB a a = false := by simp [aheadB]
theorem aheadB_tr (a b c : Up) (h : aheadB a b = true) (k : aheadB b c = true) : aheadB a c = true := by
  simp only [aheadB] at *
  by_cases h1 : a.age = b.age <;> by_cases h2 : b.age = c.age <;> by_cases h3 : a.o = b.o <;> by_cases h4 : b.o = c.o <;> simp_all <;> (try split) <;> (try split) <;> (try simp) <;> omega
theorem aheadB_tot (a b : Up) (h : a.id ≠ b.id) : aheadB a b = true ∨ aheadB b a = true := by
  simp only [aheadB]
  by_cases h1 : a.age = b.age
  · by_cases h3 : a.o = b.o
    · have : a.seq ≠ b.seq := fun e => h (Prod.ext h3 e)
      simp [h1, h3]; omega
    · simp [h1, h3, Ne.symm h3]; omega
  · simp [h1, Ne.symm h1]; omega

section
variable {ins : List Up}
theorem ahAt_get {i k : Nat} {a b : Up} (ha : ins[i]? = some a) (hb : ins[k]? = some b) : ahAt ins i k = aheadB a b := by rw [ahAt, ha, hb]
theorem ahAt_irr (i : Nat) : ahAt ins i i = false := by
  unfold ahAt
  cases ins[i]? <;> simp [aheadB_irr]
theorem ahAt_tr (i j k : Nat) (h : ahAt ins i j = true) (h' : ahAt ins j k = true) : ahAt ins i k = true := by
  unfold ahAt at *
  cases hi : ins[i]? with
  | none => simp [hi] at h
  | some a =>
    cases hj : ins[j]? with
    | none => simp [hj] at h'
    | some b =>
      cases hk : ins[k]? with
      | none => simp [hj, hk] at h'
      | some c => simp only [hi, hj, hk] at *; exact aheadB_tr a b c h h'
theorem ahAt_tot (hs : Ups ins) {i k : Nat} (hi : i < ins.length) (hk : k < ins.length) (hne : i ≠ k) : ahAt ins i k = true ∨ ahAt ins k i = true := by
  rw [ahAt_get (List.getElem?_eq_getElem hi) (List.getElem?_eq_getElem hk), ahAt_get (List.getElem?_eq_getElem hk) (List.getElem?_eq_getElem hi)]
  refine aheadB_tot _ _ ?_
  have hp := List.pairwise_iff_getElem.1 hs.ids
  rcases Nat.lt_or_gt_of_ne hne with q | q
  · exact hp i k hi hk q
  · exact fun e => hp k i hk hi q e.symm

/-- the first m places, the least first -/
def placesTo (ins : List Up) (m : Nat) : List Nat := (List.range m).foldl (fun ks i => insG (fun x y => ahAt ins y x) i ks) []
theorem placesTo_succ (m : Nat) : placesTo ins (m + 1) = insG (fun x y => ahAt ins y x) m (placesTo ins m) := by
  simp [placesTo, List.range_succ]
theorem mem_placesTo (i : Nat) : ∀ m, i ∈ placesTo ins m ↔ i < m
  | 0 => by simp [placesTo]
  | m + 1 => by rw [placesTo_succ, mem_insG, mem_placesTo i m]; omega
theorem placesTo_sorted (hs : Ups ins) : ∀ m, m ≤ ins.length → (placesTo ins m).Pairwise fun i j => ahAt ins j i = true
  | 0, _ => by simp [placesTo]
  | m + 1, h => by
    rw [placesTo_succ]
    refine insG_sorted (fun x y => ahAt ins y x) (fun x y z h1 h2 => ahAt_tr _ _ _ h2 h1) m _ (fun z hz => ?_) (placesTo_sorted hs m (by omega))
    have hz := (mem_placesTo z m).1 hz
    exact (ahAt_tot hs (by omega : z < ins.length) (by omega : m < ins.length) (by omega)).elim .inl .inr
/-- the places, the least first -/
def placesOf (ins : List Up) : List Nat := placesTo ins ins.length
theorem mem_places (i : Nat) : i ∈ placesOf ins ↔ i < ins.length := mem_placesTo i _
theorem places_sorted (hs : Ups ins) : (placesOf ins).Pairwise fun i j => ahAt ins j i = true := placesTo_sorted hs _ (Nat.le_refl _)
theorem places_nodup (hs : Ups ins) : (placesOf ins).Nodup := (places_sorted hs).imp fun {i j} h e => by subst e; rw [ahAt_irr] at h; cases h
theorem placesTo_len : ∀ m, (placesTo ins m).length = m
  | 0 => rfl
  | m + 1 => by rw [placesTo_succ, insG_len, placesTo_len m]
theorem places_len : (placesOf ins).length = ins.length := placesTo_len _

/-- on which place one hangs -/
def parAt (ins : List Up) (i : Nat) : Option Nat := match ins[i]? with | some u => ins.findIdx? (fun y => hangB y u) | none => none
/-- all of them, as the document's answer has them -/
def esOf (ins : List Up) : List Int := ins.map (hangsAt ins)
theorem esOf_len : (esOf ins).length = ins.length := by simp [esOf]
theorem esOf_get {i : Nat} (hi : i < ins.length) : (esOf ins).getD i (-2) = match parAt ins i with | some p => ((p : Nat) : Int) | none => -1 := by
  simp only [esOf, parAt, List.getD_eq_getElem?_getD, List.getElem?_map, List.getElem?_eq_getElem hi, Option.map_some, Option.getD_some, hangsAt]
  cases ins.findIdx? (fun y => hangB y ins[i]) <;> rfl
theorem parAt_some {i p : Nat} (h : parAt ins i = some p) : ∃ u y, ins[i]? = some u ∧ ins[p]? = some y ∧ y.id = u.anc ∧ y.age < u.age := by
  unfold parAt at h
  cases hu : ins[i]? with
  | none => simp [hu] at h
  | some u =>
    simp only [hu] at h
    rw [List.findIdx?_eq_some_iff_getElem] at h
    obtain ⟨hp, h1, _⟩ := h
    simp only [hangB, Bool.and_eq_true, decide_eq_true_eq] at h1
    exact ⟨u, ins[p], rfl, List.getElem?_eq_getElem hp, h1.1, h1.2⟩

theorem hangs_of_sorted : ∀ (r : List Nat), (∀ x ∈ r, x < ins.length) → r.reverse.Pairwise (fun i j => ahAt ins j i = true) → (∀ x ∈ r, ∀ p, parAt ins x = some p → p ∈ r) → Hangs (parAt ins) r.reverse
  | [], _, _, _ => Hangs.nil
  | x :: r, hb, hs, hp => by
    rw [List.reverse_cons] at hs ⊢
    obtain ⟨s1, _, s3⟩ := List.pairwise_append.1 hs
    have hx : x ∉ r.reverse := fun m => by have := s3 x m x (by simp); rw [ahAt_irr] at this; cases this
    have hlt : ∀ y ∈ r, ahAt ins x y = true := fun y hy => s3 y (by simpa using hy) x (by simp)
    have hup : ∀ y p, parAt ins y = some p → ahAt ins y p = true := by
      intro y p h
      obtain ⟨u, v, hu, hv, _, hage⟩ := parAt_some h
      rw [ahAt_get hu hv, aheadB, if_neg (by omega)]
      simpa using hage
    refine Hangs.snoc (hangs_of_sorted r (fun y hy => hb y (by simp [hy])) s1 fun y hy p h => ?_) hx fun p h => ?_
    · rcases List.mem_cons.1 (hp y (by simp [hy]) p h) with rfl | m
      · have h1 := hup y p h
        have h2 := hlt y hy
        have := ahAt_tr _ _ _ h1 h2
        rw [ahAt_irr] at this; cases this
      · exact m
    · rcases List.mem_cons.1 (hp x (by simp) p h) with rfl | m
      · have h1 := hup p p h
        rw [ahAt_irr] at h1; cases h1
      · simpa using m
theorem places_hang (hs : Ups ins) : Hangs (parAt ins) (placesOf ins) := by
  have := hangs_of_sorted (ins := ins) (placesOf ins).reverse (fun x hx => (mem_places x).1 (by simpa using hx)) (by rw [List.reverse_reverse]; exact places_sorted hs) (fun x _ p h => by
    obtain ⟨_, _, _, hv, _⟩ := parAt_some h
    rw [List.mem_reverse, mem_places]
    exact (List.getElem?_eq_some_iff.1 hv).1)
  rwa [List.reverse_reverse] at this

/-- the row of what hangs on one, as the document's answer has it -/
def treeRow (ins : List Up) (on : Int) : List Nat := if on < -1 then [] else rowOf (parAt ins) (if on = -1 then none else some on.toNat) (placesOf ins)
theorem grow1_len {α : Type} [DecidableEq α] (par : α → Option α) (on : Option α) (l : List α) (x : α) : (grow1 par on l x).length ≤ l.length + 1 := by
  have : ∀ (p : α) (l : List α), (insA p x l).length ≤ l.length + 1 := by
    intro p l
    induction l with
    | nil => simp [insA]
    | cons k l ih => unfold insA; split <;> simp <;> omega
  unfold grow1
  split
  · simp
  · split
    · omega
    · exact this _ _
theorem rowOf_len {α : Type} [DecidableEq α] (par : α → Option α) (on : Option α) (s : List α) : (rowOf par on s).length ≤ s.length := by
  suffices ∀ (s acc : List α), (s.foldl (grow1 par on) acc).length ≤ acc.length + s.length by
    have := this s []; simpa [rowOf] using this
  intro s
  induction s with
  | nil => intro acc; simp
  | cons x s ih =>
    intro acc
    have h1 := ih (grow1 par on acc x)
    have h2 := grow1_len par on acc x
    rw [List.foldl_cons, List.length_cons]; omega
theorem treeRow_len (on : Int) : (treeRow ins on).length ≤ ins.length := by
  unfold treeRow
  split
  · simp
  · exact Nat.le_trans (rowOf_len _ _ _) (by rw [places_len]; exact Nat.le_refl _)
theorem treeRow_mem (hs : Ups ins) {on : Int} {i : Nat} (h : i ∈ treeRow ins on) : i < ins.length := by
  unfold treeRow at h
  split at h
  · simp at h
  · exact (mem_places i).1 (mem_rowOf (places_hang hs) h)

/-- those that hang on one: both ways -/
theorem kids_eq (hs : Ups ins) {on : Int} (hon : -1 ≤ on) : kidsBy (ahAt ins) (esOf ins) on ins.length = kidsOf (parAt ins) (if on = -1 then none else some on.toNat) (placesOf ins) := by
  refine rise_eq (lt := fun i j => ahAt ins i j = true) (fun i h => by rw [ahAt_irr] at h; cases h) (fun i j k => ahAt_tr i j k) ?_ ?_ fun i => ?_
  · suffices ∀ m, m ≤ ins.length → (kidsBy (ahAt ins) (esOf ins) on m).Pairwise fun i j => ahAt ins i j = true from this _ (Nat.le_refl _)
    intro m
    induction m with
    | zero => intro _; simp [kidsBy]
    | succ m ih =>
      intro hm
      rw [kidsBy_succ]; split
      · refine insG_sorted _ ahAt_tr m _ (fun z hz => ?_) (ih (by omega))
        have := ((mem_kidsBy (ahAt ins) (esOf ins) on z m).1 hz).1
        exact ahAt_tot hs (by omega) (by omega) (by omega)
      · exact ih (by omega)
  · unfold kidsOf
    rw [List.pairwise_reverse]
    exact (places_sorted hs).filter _
  · rw [mem_kidsBy, kidsOf, List.mem_reverse, List.mem_filter, mem_places, decide_eq_true_eq]
    constructor
    · rintro ⟨h1, h2⟩
      refine ⟨h1, ?_⟩
      rw [esOf_get h1] at h2
      cases hp : parAt ins i with
      | none => simp only [hp] at h2; rw [if_pos h2.symm]
      | some p => rw [hp] at h2; change ((p : Nat) : Int) = on at h2; rw [if_neg (by omega)]; congr 1; omega
    · rintro ⟨h1, h2⟩
      refine ⟨h1, ?_⟩
      rw [esOf_get h1, h2]
      by_cases e : on = -1
      · simp [e]
      · simp only [if_neg e]; change ((on.toNat : Nat) : Int) = on; omega
theorem treeRow_eq (hs : Ups ins) (on : Int) : treeRow ins on = (kidsBy (ahAt ins) (esOf ins) on ins.length).flatMap fun k => k :: treeRow ins (k : Nat) := by
  by_cases h : on < -1
  · have : kidsBy (ahAt ins) (esOf ins) on ins.length = [] := by
      rw [List.eq_nil_iff_forall_not_mem]
      intro i hi
      obtain ⟨h1, h2⟩ := (mem_kidsBy _ _ _ _ _).1 hi
      rw [esOf_get h1] at h2
      cases hp : parAt ins i with
      | none => simp only [hp] at h2; omega
      | some p => rw [hp] at h2; change ((p : Nat) : Int) = on at h2; omega
    rw [this, treeRow, if_pos h]; rfl
  · rw [treeRow, if_neg h, rowOf_eq (places_hang hs), ← kids_eq hs (by omega)]
    refine flat_congr fun k _ => ?_
    rw [treeRow, if_neg (by omega), if_neg (by omega), Int.toNat_natCast]

/-- how far from the leaves -/
def rankOf (ins : List Up) (on : Int) : Nat := if on < 0 then 9000 else match ins[on.toNat]? with | some u => 8001 - u.age.toNat | none => 0
theorem rank_falls (hs : Ups ins) {k : Nat} (hk : k < ins.length) : rankOf ins k < rankOf ins ((esOf ins).getD k (-2)) := by
  rw [esOf_get hk]
  have hage := Up.age_in (hs.good ins[k] (List.getElem_mem hk))
  cases hp : parAt ins k with
  | none =>
    simp only [rankOf, Int.toNat_natCast, List.getElem?_eq_getElem hk]
    rw [if_neg (by omega), if_pos (by omega)]; omega
  | some p =>
    obtain ⟨u, y, hu, hy, _, hlt⟩ := parAt_some hp
    have hu' : u = ins[k] := by rw [List.getElem?_eq_getElem hk] at hu; exact (Option.some.inj hu).symm
    have hy0 := Up.age_in (hs.good y (List.mem_of_getElem? hy))
    simp only [rankOf, Int.toNat_natCast, List.getElem?_eq_getElem hk, hy]
    rw [if_neg (by omega), if_neg (by omega)]
    subst hu'
    omega
end
end Go.Proofs.Yteljbblbdiploaa

namespace Go.Proofs.Yteljbblbdiploaa
open Go.RowKit

/-- the cells of some updates, each with its clock's slice -/
def upFlat : List Up → List (Option Addr × Nat) → List Value
  | u :: l, c :: cs => upCells u c.1 c.2 ++ upFlat l cs
  | _, _ => []
theorem upCells_len (u : Up) (ao : Option Addr) (cap : Nat) : (upCells u ao cap).length = 9 := rfl
theorem upFlat_len : ∀ {l : List Up} {cs : List (Option Addr × Nat)}, cs.length = l.length → (upFlat l cs).length = l.length * 9
  | [], [], _ => rfl
  | u :: l, c :: cs, h => by
    rw [upFlat, List.length_append, upCells_len, upFlat_len (l := l) (cs := cs) (by simpa using h), List.length_cons]; omega
theorem upFlat_app : ∀ {l : List Up} {cs : List (Option Addr × Nat)} (u : Up) (c : Option Addr × Nat), cs.length = l.length → upFlat (l ++ [u]) (cs ++ [c]) = upFlat l cs ++ upCells u c.1 c.2
  | [], [], u, c, _ => by simp [upFlat]
  | x :: l, d :: cs, u, c, h => by
    simp only [List.cons_append, upFlat]
    rw [upFlat_app u c (by simpa using h), List.append_assoc]
theorem upFlat_get : ∀ {l : List Up} {cs : List (Option Addr × Nat)} {j : Nat} {u : Up} {c : Option Addr × Nat}, cs.length = l.length → l[j]? = some u → cs[j]? = some c → ∀ i, i < 9 → (upFlat l cs)[j * 9 + i]? = (upCells u c.1 c.2)[i]?
  | [], _, _, _, _, _, h, _, _, _ => by simp at h
  | x :: l, d :: cs, 0, u, c, _, h1, h2, i, hi => by
    simp only [List.getElem?_cons_zero, Option.some.injEq] at h1 h2
    subst h1 h2
    rw [upFlat, Nat.zero_mul, Nat.zero_add, List.getElem?_append_left (by rw [upCells_len]; omega)]
  | x :: l, d :: cs, j + 1, u, c, h, h1, h2, i, hi => by
    rw [upFlat, List.getElem?_append_right (by rw [upCells_len]; omega), upCells_len, show (j + 1) * 9 + i - 9 = j * 9 + i by omega]
    exact upFlat_get (by simpa using h) (by simpa using h1) (by simpa using h2) i hi
theorem up_one (u : Up) (ao : Option Addr) (cap : Nat) : ∀ v ∈ upCells u ao cap, v.oneCell' = true := by
  intro v hv
  simp only [upCells, List.mem_cons, List.not_mem_nil, or_false] at hv
  rcases hv with rfl | rfl | rfl | rfl | rfl | rfl | rfl | rfl | rfl <;> rfl

/-- updates in a row of the call's own; their clocks lie as they lay in W -/
def UpRow (W w : World) (base : Nat) (v : Value) (l : List Up) : Prop :=
  ∃ cs : List (Option Addr × Nat), cs.length = l.length ∧ w.ownsRow base 28 9 v l.length (upFlat l cs) ∧ ∀ (j : Nat) (u : Up) (c : Option Addr × Nat), l[j]? = some u → cs[j]? = some c → ClkAt W c.1 c.2 u.c ∧ UpFit u
theorem UpRow.nil (W w : World) (base : Nat) : UpRow W w base (.slice none 0 0) [] := ⟨[], rfl, World.ownsRow_nil _ _ _ _, fun j u c h => by simp at h⟩
theorem UpRow.later {W w w' : World} {base : Nat} {v : Value} {l : List Up} (h : UpRow W w base v l) (hb : Below w.heap.size w w') : UpRow W w' base v l := by
  obtain ⟨cs, h1, h2, h3⟩ := h
  exact ⟨cs, h1, ownsRow_later h2 hb, h3⟩
theorem UpRow.kept {W w w' : World} {base : Nat} {v : Value} {l : List Up} {row : Option Nat} (h : UpRow W w base v l) (hg : w.grownBy w' row) (hne : v.ownBlock = none ∨ v.ownBlock ≠ row) : UpRow W w' base v l := by
  obtain ⟨cs, h1, h2, h3⟩ := h
  exact ⟨cs, h1, h2.kept hg hne, h3⟩
theorem UpRow.slice' {W w : World} {base : Nat} {v : Value} {l : List Up} (h : UpRow W w base v l) (hb : Below W.heap.size W w) :
    (v = .slice none 0 0 ∧ l = []) ∨ ∃ g off cap, v = .slice (some ⟨g, off, none⟩) l.length cap ∧ base ≤ g ∧ g < w.heap.size ∧ ∀ j u, l[j]? = some u → ∃ ao cap, UpAt w g (off + j * 9) u ao cap ∧ ClkAt W ao cap u.c := by
  obtain ⟨cs, h1, h2, h3⟩ := h
  have hcells := @World.ownsRow.cells w base _ 9 v l.length _ h2
  rcases h2.2 with ⟨hv, h0⟩ | ⟨g, cap, cur, hv, hg, hh, _⟩
  · exact .inl ⟨hv, List.eq_nil_of_length_eq_zero h0⟩
  · refine .inr ⟨g, 0, cap, hv, hg, (Array.getElem?_eq_some_iff.1 hh).1, fun j u hu => ?_⟩
    have hj := (List.getElem?_eq_some_iff.1 hu).1
    have hc : cs[j]? = some cs[j] := List.getElem?_eq_getElem (by omega)
    obtain ⟨k1, k2⟩ := h3 j u _ hu hc
    refine ⟨cs[j].1, cs[j].2, ⟨fun i hi => ?_, k1.later hb, k2⟩, k1⟩
    have e := upFlat_get h1 hu hc i hi
    obtain ⟨x, hx⟩ : ∃ x, (upCells u cs[j].1 cs[j].2)[i]? = some x := ⟨(upCells u cs[j].1 cs[j].2)[i]'(by rw [upCells_len]; exact hi), List.getElem?_eq_getElem _⟩
    rw [hx] at e ⊢
    have := hcells (g := g) (by rw [hv]; rfl) (j * 9 + i) x e
    rwa [show (⟨g, 0, none⟩ : Addr).add (j * 9 + i) = ⟨g, 0 + j * 9 + i, none⟩ by rw [Addr.add_lit]; simp] at this
theorem UpRow.slice {W w : World} {base : Nat} {v : Value} {l : List Up} (h : UpRow W w base v l) (hb : Below W.heap.size W w) :
    (v = .slice none 0 0 ∧ l = []) ∨ ∃ g off cap, v = .slice (some ⟨g, off, none⟩) l.length cap ∧ base ≤ g ∧ g < w.heap.size ∧ UpsAt w g off l := by
  rcases h.slice' hb with q | ⟨g, off, cap, hv, h1, h2, h3⟩
  · exact .inl q
  · exact .inr ⟨g, off, cap, hv, h1, h2, fun j u hu => by obtain ⟨ao, cp, k, _⟩ := h3 j u hu; exact ⟨ao, cp, k⟩⟩

/-- append(v, u): one update more -/
theorem app_up (W w : World) {ops : Array Oper} {rest : List Oper} {o : Oper} {a : Act} {Q : Exit → Act → World → Prop} (hgd : o.guard = none) (s x : Operand)
    (ho : o.op = .call { callee := .builtin .append, args := #[s, x], argTypes := #[49, 49] }) (base : Nat) (v : Value) (l : List Up) (hs : a.eval s = v) (hrow : UpRow W w base v l)
    (u : Up) (ao : Option Addr) (cap : Nat) (hc : ClkAt W ao cap u.c) (hf : UpFit u) (hx : a.eval x = .slice (some ⟨w.heap.size, 0, none⟩) 1 1) (hb : (l.length + 1) * 96 ≤ 140737488355328) (hbase : base ≤ w.heap.size)
    (h : ∀ g cap' w', UpRow W w' base (.slice (some ⟨g, 0, none⟩) (l.length + 1) cap') (l ++ [u]) → w.grownBy w' v.ownBlock → Below base w w' → wpList Try.prog ops Q rest (a.put o.dst (.slice (some ⟨g, 0, none⟩) (l.length + 1) cap')) w') :
    wpList Try.prog ops Q (o :: rest) a (w.alloc (.cells #[.int .i64 u.o, .slice ao u.c.length cap, .int .u8 u.t, .int .u8 u.k, .string (bs u.n), .string (bs u.x), .int .i64 u.a, .int .i64 u.ao, .int .i64 u.az] 28)) := by
  obtain ⟨cs, h1, h2, h3⟩ := hrow
  refine app_one el_update w hgd s x ho base v l.length _ hs h2 (upCells u ao cap) rfl (up_one u ao cap) hx hb (by unfold maxLen; omega) hbase ?_
  intro g cap' w' k1 k2 k3
  refine h g cap' w' ⟨cs ++ [(ao, cap)], by simp [h1], ?_, ?_⟩ k2 k3
  · rw [upFlat_app u (ao, cap) h1, List.length_append]
    exact k1
  · intro j y c hy hcj
    by_cases hj : j < l.length
    · rw [List.getElem?_append_left hj] at hy
      rw [List.getElem?_append_left (by omega)] at hcj
      exact h3 j y c hy hcj
    · have hjl : j = l.length := by
        have := (List.getElem?_eq_some_iff.1 hy).1
        simp at this; omega
      subst hjl
      rw [List.getElem?_append_right (Nat.le_refl _), Nat.sub_self] at hy
      rw [List.getElem?_append_right (by omega), h1, Nat.sub_self] at hcj
      cases hy; cases hcj
      exact ⟨hc, hf⟩
end Go.Proofs.Yteljbblbdiploaa
