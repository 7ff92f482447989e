/-
  PLAIN: the inserts as the program puts them in order and chains them, against the document's tree; no Go text in sight.
-/
import Derived.Test.YteljbblbdiploaaJVRefSeq
import Derived.Test.YteljbblbdiploaaJVLay
namespace Go.Proofs.Yteljbblbdiploaa
open Go.RowKit

/-! ### The order by age -/
theorem cmp_ahead (a b : Up) : ltOf cmpU a b = aheadB b a := by
  unfold ltOf cmpU aheadB cmpI
  simp only [orI]
  by_cases h1 : a.age < b.age
  · have e : ¬ b.age = a.age := by omega
    simp [h1, e]
  · by_cases h2 : b.age < a.age
    · have e : ¬ b.age = a.age := by omega
      simp [h1, h2, e]
    · have e : b.age = a.age := by omega
      by_cases h3 : a.o < b.o
      · have e2 : ¬ b.o = a.o := by omega
        simp [e, h3, e2]
      · by_cases h4 : b.o < a.o
        · have e2 : ¬ b.o = a.o := by omega
          simp [e, h3, h4, e2]
        · have e2 : b.o = a.o := by omega
          by_cases h5 : a.seq < b.seq
          · simp [e, e2, h5]
          · by_cases h6 : b.seq < a.seq
            · simp [e, e2, h5, h6]
            · simp [e, e2, h5, h6]
theorem aheadB_ntr (a b c : Up) (h : aheadB a b = false) (k : aheadB b c = false) : aheadB a c = false := by
  simp only [aheadB] at *
  by_cases h1 : a.age = b.age <;> by_cases h2 : b.age = c.age <;> by_cases h3 : a.o = b.o <;> by_cases h4 : b.o = c.o <;> simp_all <;> (try split) <;> (try split) <;> (try simp) <;> omega
theorem cmp_swo : Go.Sort.SWO (ltOf cmpU) where
  irrefl x := by rw [cmp_ahead, aheadB_irr]
  trans x y z h k := by rw [cmp_ahead] at *; exact aheadB_tr _ _ _ k h
  ntrans x y z h k := by rw [cmp_ahead] at *; exact aheadB_ntr _ _ _ k h

/-- the inserts in the order of their ages -/
def agedU (ins : List Up) : List Up := atPlaces ins (placesOf ins)
theorem mem_atPlaces {ins : List Up} {r : List Nat} {u : Up} : u ∈ atPlaces ins r ↔ ∃ i ∈ r, ins[i]? = some u := by simp [atPlaces]
theorem agedU_mem {ins : List Up} {u : Up} : u ∈ agedU ins ↔ u ∈ ins := by
  rw [agedU, mem_atPlaces]
  constructor
  · rintro ⟨i, _, h⟩; exact List.mem_of_getElem? h
  · intro h
    obtain ⟨i, hi, rfl⟩ := List.getElem_of_mem h
    exact ⟨i, (mem_places i).2 hi, List.getElem?_eq_getElem hi⟩
theorem agedU_sorted {ins : List Up} (hs : Ups ins) : (agedU ins).Pairwise fun a b => aheadB b a = true := by
  unfold agedU atPlaces
  refine List.Pairwise.filterMap _ ?_ (places_sorted hs)
  intro i j h a ha b hb
  rw [← ahAt_get hb ha]
  exact h
/-- one order alone is right -/
theorem aged_unique {ins us : List Up} (hs : Ups ins) (hp : us.Perm ins) (ho : us.Pairwise fun a b => aheadB a b = false) : us = agedU ins := by
  have hn : us.Pairwise fun u v => u.id ≠ v.id := hp.symm.pairwise hs.ids (fun h e => h e.symm)
  refine rise_eq (lt := fun a b => aheadB b a = true) (fun x h => by rw [aheadB_irr] at h; cases h) (fun x y z h k => aheadB_tr _ _ _ k h) ?_ (agedU_sorted hs) fun x => by rw [agedU_mem]; exact hp.mem_iff
  refine (ho.and hn).imp ?_
  rintro a b ⟨h, hne⟩
  rcases aheadB_tot a b hne with q | q
  · rw [h] at q; cases q
  · exact q

/-! ### The maps -/
theorem getI_pairs (ins : List Up) (i : Int × Int) : getI (ins.map fun u => (u.id, insV u)) i = (ins.find? fun u => decide (u.id = i)).map insV := by
  unfold getI
  rw [List.find?_map, Option.map_map]
  rfl
theorem Ups.sub {a b : List Up} (h : Ups b) (hs : a.Sublist b) : Ups a :=
  ⟨fun u hu => h.good u (hs.subset hu), fun u hu v hv => h.one u (hs.subset hu) v (hs.subset hv), h.ids.sublist hs⟩
theorem insKV_eq {l : List Up} (hs : Ups l) (hk : ∀ u ∈ l, u.k = 0 ∨ u.k = 1) : insKV l = (insD l).map fun u => (u.id, insV u) := by
  suffices ∀ j, j ≤ l.length → insKV (l.take j) = (insD (l.take j)).map fun u => (u.id, insV u) by
    have := this l.length (Nat.le_refl _)
    rwa [List.take_length] at this
  intro j
  induction j with
  | zero => intro _; rfl
  | succ j ih =>
    intro hj
    have hu : l[j]? = some l[j] := List.getElem?_eq_getElem (by omega)
    rw [insKV_step hu, insD_step hu, ih (by omega)]
    rcases hk l[j] (List.getElem_mem _) with h | h
    · rw [if_neg (by omega), if_pos h, List.map_append, putI_none]
      · rfl
      · rw [List.findIdx?_eq_none_iff]
        intro p hp
        obtain ⟨u, hu', rfl⟩ := List.mem_map.1 hp
        have hm := List.mem_filter.1 hu'
        obtain ⟨i, hi, hiu⟩ := List.getElem_of_mem hm.1
        rw [List.length_take] at hi
        rw [List.getElem_take] at hiu
        have := List.pairwise_iff_getElem.1 hs.ids i j (by omega) (by omega) (by omega)
        rw [hiu] at this
        simpa using this
    · rw [if_pos h, if_neg (by omega)]
theorem delKV_has {l : List Up} (i : Int × Int) : (getI (delKV l) i).isSome = l.any fun d => decide (d.k = 1) && decide (d.anc = i) := by
  suffices ∀ j, (getI (delKV (l.take j)) i).isSome = (l.take j).any fun d => decide (d.k = 1) && decide (d.anc = i) by
    have := this l.length
    rwa [List.take_length] at this
  intro j
  induction j with
  | zero => rfl
  | succ j ih =>
    cases hu : l[j]? with
    | none => rw [List.take_add_one, hu]; simpa using ih
    | some u =>
      have e : (l.take (j + 1)).any (fun d => decide (d.k = 1) && decide (d.anc = i)) = ((l.take j).any (fun d => decide (d.k = 1) && decide (d.anc = i)) || (decide (u.k = 1) && decide (u.anc = i))) := by
        rw [List.take_add_one, hu, List.any_append]; simp
      rw [delKV_step hu, e, ← ih]
      by_cases hk : u.k = 1
      · rw [if_pos hk, getI_put]
        by_cases ha : i = (u.ao, u.az)
        · have hb : u.anc = i := ha.symm
          rw [if_pos ha]; simp [hk, hb]
        · have hb : ¬ u.anc = i := fun e => ha e.symm
          rw [if_neg ha]; simp [hb]
      · rw [if_neg hk]; simp [hk]
theorem delKV_gone (l : List Up) (u : Up) : (getI (delKV l) u.id).isSome = goneQ l u := delKV_has u.id

/-! ### Rows of another kind of names -/
section
variable {α β : Type} {f : α → β}
theorem insA_map [DecidableEq α] [DecidableEq β] (inj : ∀ a b, f a = f b → a = b) (p x : α) : ∀ l : List α, (insA p x l).map f = insA (f p) (f x) (l.map f)
  | [] => rfl
  | k :: l => by
    simp only [insA, List.map_cons]
    by_cases h : k = p
    · rw [if_pos h, if_pos (by rw [h])]; rfl
    · rw [if_neg h, if_neg (fun e => h (inj _ _ e)), List.map_cons, insA_map inj p x l]
theorem grow1_map [DecidableEq α] [DecidableEq β] (inj : ∀ a b, f a = f b → a = b) {pa : α → Option α} {pb : β → Option β} (on : Option α) (l : List α) (x : α) (h : pb (f x) = (pa x).map f) : (grow1 pa on l x).map f = grow1 pb (on.map f) (l.map f) (f x) := by
  unfold grow1
  rw [h]
  by_cases e : pa x = on
  · rw [if_pos e, if_pos (by rw [e])]; rfl
  · rw [if_neg e, if_neg]
    · cases pa x with
      | none => rfl
      | some p => exact insA_map inj p x l
    · intro q
      refine e ?_
      cases h1 : pa x with
      | none => cases h2 : on with
        | none => rfl
        | some b => rw [h1, h2] at q; simp at q
      | some a => cases h2 : on with
        | none => rw [h1, h2] at q; simp at q
        | some b =>
          rw [h1, h2] at q
          simp only [Option.map_some, Option.some.injEq] at q
          rw [inj _ _ q]
theorem rowOf_map [DecidableEq α] [DecidableEq β] (inj : ∀ a b, f a = f b → a = b) {pa : α → Option α} {pb : β → Option β} (on : Option α) (s : List α) (h : ∀ x ∈ s, pb (f x) = (pa x).map f) : (rowOf pa on s).map f = rowOf pb (on.map f) (s.map f) := by
  suffices ∀ (s acc : List α), (∀ x ∈ s, pb (f x) = (pa x).map f) → (s.foldl (grow1 pa on) acc).map f = (s.map f).foldl (grow1 pb (on.map f)) (acc.map f) from this s [] h
  intro s
  induction s with
  | nil => intro acc _; rfl
  | cons x s ih =>
    intro acc h
    rw [List.foldl_cons, List.map_cons, List.foldl_cons, ih _ fun y hy => h y (by simp [hy]), grow1_map inj on acc x (h x (by simp))]
theorem hangs_map (inj : ∀ a b, f a = f b → a = b) {pa : α → Option α} {pb : β → Option β} {s : List α} (hs : Hangs pa s) (h : ∀ x ∈ s, pb (f x) = (pa x).map f) : Hangs pb (s.map f) := by
  induction hs using Hangs.ind with
  | nil => exact Hangs.nil
  | @snoc s x hs hx hp ih =>
    rw [List.map_append]
    refine Hangs.snoc (ih fun y hy => h y (by simp [hy])) (fun m => ?_) fun p e => ?_
    · obtain ⟨y, hy, e⟩ := List.mem_map.1 m
      exact hx (inj _ _ e ▸ hy)
    · rw [h x (by simp)] at e
      cases hq : pa x with
      | none => rw [hq] at e; cases e
      | some q =>
        rw [hq] at e
        simp only [Option.map_some, Option.some.injEq] at e
        exact List.mem_map.2 ⟨q, hp q hq, e⟩
end
theorem Hangs.take {α : Type} {par : α → Option α} {s : List α} (h : Hangs par s) (n : Nat) : Hangs par (s.take n) := by
  induction h using Hangs.ind with
  | nil => simpa using (Hangs.nil (par := par))
  | @snoc s x hs hx hp ih =>
    by_cases hn : n ≤ s.length
    · rw [List.take_append_of_le_length hn]; exact ih
    · rw [List.take_of_length_le (by simp; omega)]; exact Hangs.snoc hs hx hp

/-- a place's id -/
def fId (ins : List Up) (i : Nat) : Int × Int := match ins[i]? with | some u => u.id | none => (-(i : Int) - 1, 0)
theorem fId_inj {ins : List Up} (hs : Ups ins) (i j : Nat) (h : fId ins i = fId ins j) : i = j := by
  unfold fId at h
  cases hi : ins[i]? with
  | none =>
    cases hj : ins[j]? with
    | none => rw [hi, hj] at h; simp only [Prod.mk.injEq] at h; omega
    | some v =>
      rw [hi, hj] at h
      have := (v.good_iff.1 (hs.good v (List.mem_of_getElem? hj))).2.2.1
      have h1 : -(i : Int) - 1 = v.o := congrArg Prod.fst h
      omega
  | some u =>
    have hu := (u.good_iff.1 (hs.good u (List.mem_of_getElem? hi))).2.2.1
    cases hj : ins[j]? with
    | none =>
      rw [hi, hj] at h
      have h1 : u.o = -(j : Int) - 1 := congrArg Prod.fst h
      omega
    | some v =>
      rw [hi, hj] at h
      obtain ⟨hi', rfl⟩ := List.getElem?_eq_some_iff.1 hi
      obtain ⟨hj', rfl⟩ := List.getElem?_eq_some_iff.1 hj
      have hp := List.pairwise_iff_getElem.1 hs.ids
      rcases Nat.lt_trichotomy i j with q | q | q
      · exact absurd h (hp i j hi' hj' q)
      · exact q
      · exact absurd h.symm (hp j i hj' hi' q)
/-- on which id one hangs -/
def parI (ins : List Up) (i : Int × Int) : Option (Int × Int) := match ins.find? (fun u => decide (u.id = i)) with | some u => (ins.find? fun y => hangB y u).map Up.id | none => none
theorem find_id_of {ins : List Up} (hs : Ups ins) {u : Up} (hu : u ∈ ins) : ins.find? (fun y => decide (y.id = u.id)) = some u := by
  cases h : ins.find? (fun y => decide (y.id = u.id)) with
  | none => have := List.find?_eq_none.1 h u hu; simp at this
  | some y =>
    have h1 := List.find?_some h
    have h2 := List.mem_of_find?_eq_some h
    rw [hs.eq h2 hu (by simpa using h1)]
theorem parI_at {ins : List Up} (hs : Ups ins) {i : Nat} (hi : i < ins.length) : parI ins (fId ins i) = (parAt ins i).map (fId ins) := by
  have hg : ins[i]? = some ins[i] := List.getElem?_eq_getElem hi
  have e : fId ins i = ins[i].id := by unfold fId; rw [hg]
  unfold parI
  rw [e, find_id_of hs (List.getElem_mem hi)]
  have hpa : parAt ins i = ins.findIdx? (fun y => hangB y ins[i]) := by unfold parAt; rw [hg]
  rw [hpa]
  show (ins.find? fun y => hangB y ins[i]).map Up.id = _
  cases h : ins.findIdx? (fun y => hangB y ins[i]) with
  | none =>
    have := List.findIdx?_eq_none_iff.1 h
    rw [List.find?_eq_none.2 (fun x hx => by rw [this x hx]; simp)]
    rfl
  | some p =>
    obtain ⟨hp, h1, h2⟩ := List.findIdx?_eq_some_iff_getElem.1 h
    have : ins.find? (fun y => hangB y ins[i]) = some ins[p] := by
      rw [List.find?_eq_some_iff_getElem]
      exact ⟨h1, p, hp, rfl, fun j hj => by have := h2 j hj; simpa using this⟩
    rw [this]
    show some ins[p].id = some (fId ins p)
    unfold fId
    rw [List.getElem?_eq_getElem hp]
theorem atPlaces_ids {ins : List Up} : ∀ {r : List Nat}, (∀ i ∈ r, i < ins.length) → (atPlaces ins r).map Up.id = r.map (fId ins)
  | [], _ => rfl
  | i :: r, h => by
    have hlt := h i (by simp)
    have hi : ins[i]? = some ins[i] := List.getElem?_eq_getElem hlt
    have ih := atPlaces_ids (ins := ins) (r := r) fun j hj => h j (by simp [hj])
    unfold atPlaces at *
    rw [List.filterMap_cons, hi]
    simp only [List.map_cons, ih]
    congr 1
    simp [fId, hi]
/-- the tree, passed through, as ids -/
def rowIds (ins : List Up) (s : List Up) : List (Int × Int) := rowOf (parI ins) none (s.map Up.id)
theorem rowIds_tree {ins : List Up} (hs : Ups ins) : (atPlaces ins (treeRow ins (-1))).map Up.id = rowIds ins (agedU ins) := by
  rw [atPlaces_ids fun i hi => treeRow_mem hs hi, rowIds, agedU, atPlaces_ids fun i hi => (mem_places i).1 hi]
  have : treeRow ins (-1) = rowOf (parAt ins) none (placesOf ins) := rfl
  rw [this]
  exact rowOf_map (fId_inj hs) none _ fun i hi => parI_at hs ((mem_places i).1 hi)
theorem aged_hangs {ins : List Up} (hs : Ups ins) : Hangs (parI ins) ((agedU ins).map Up.id) := by
  rw [agedU, atPlaces_ids fun i hi => (mem_places i).1 hi]
  exact hangs_map (fId_inj hs) (places_hang hs) fun i hi => parI_at hs ((mem_places i).1 hi)

/-! ### The ring -/
/-- what stands next, as the map says it -/
def nxt (kv : List ((Int × Int) × Value)) (i : Int × Int) : Value := (getI kv i).getD (idV (0, 0))
def RingL (kv : List ((Int × Int) × Value)) : List (Int × Int) → Prop
  | [] => True
  | a :: l => nxt kv a = idV (l.headD (0, 0)) ∧ RingL kv l
theorem nxt_put (kv : List ((Int × Int) × Value)) (i j : Int × Int) (v : Value) : nxt (putI kv i v) j = if j = i then v else nxt kv j := by
  unfold nxt
  rw [getI_put]
  split <;> rfl
theorem RingL.congr {kv kv' : List ((Int × Int) × Value)} : ∀ {l : List (Int × Int)}, RingL kv l → (∀ a ∈ l, nxt kv' a = nxt kv a) → RingL kv' l
  | [], _, _ => trivial
  | a :: l, h, k => ⟨(k a (by simp)).trans h.1, RingL.congr h.2 fun b hb => k b (by simp [hb])⟩
theorem insA_head (p x : Int × Int) (l : List (Int × Int)) : (insA p x l).headD (0, 0) = l.headD (0, 0) := by
  cases l with
  | nil => rfl
  | cons a l => unfold insA; split <;> rfl
/-- one more, right behind another -/
theorem RingL.put {kv : List ((Int × Int) × Value)} {on x : Int × Int} (hne : x ≠ on) : ∀ {l : List (Int × Int)}, RingL kv l → l.Nodup → x ∉ l → RingL (putI (putI kv x (nxt kv on)) on (idV x)) (insA on x l)
  | [], _, _, _ => trivial
  | a :: l, h, hn, hx => by
    obtain ⟨n1, n2⟩ := List.nodup_cons.1 hn
    have hxa : ¬ a = x := fun e => hx (by simp [e])
    have hxl : x ∉ l := fun m => hx (by simp [m])
    unfold insA
    by_cases e : a = on
    · rw [if_pos e]
      refine ⟨?_, ?_, h.2.congr fun b hb => ?_⟩
      · rw [nxt_put, if_pos e]; rfl
      · rw [nxt_put, if_neg hne, nxt_put, if_pos rfl, ← e]; exact h.1
      · rw [nxt_put, if_neg (fun q => n1 (by rw [e, ← q]; exact hb)), nxt_put, if_neg (fun q => hxl (by rw [← q]; exact hb))]
    · rw [if_neg e]
      refine ⟨?_, RingL.put hne h.2 n2 hxl⟩
      rw [nxt_put, if_neg e, nxt_put, if_neg hxa, insA_head]
      exact h.1

/-- what one hangs on, {0 0}: the root -/
def onI (ins : List Up) (u : Up) : Int × Int := ((ins.find? fun y => hangB y u).map Up.id).getD (0, 0)
theorem Up.id_ne {u : Up} (h : u.good = true) : u.id ≠ (0, 0) := by
  intro e
  have := (u.good_iff.1 h).2.2.2.1
  have h2 : u.seq = 0 := congrArg Prod.snd e
  omega
theorem row_step {ins : List Up} (hs : Ups ins) {j : Nat} {u : Up} (hu : (agedU ins)[j]? = some u) : (0, 0) :: rowIds ins ((agedU ins).take (j + 1)) = insA (onI ins u) u.id ((0, 0) :: rowIds ins ((agedU ins).take j)) := by
  have hm : u ∈ ins := agedU_mem.1 (List.mem_of_getElem? hu)
  have hp : parI ins u.id = (ins.find? fun y => hangB y u).map Up.id := by unfold parI; rw [find_id_of hs hm]
  unfold rowIds
  rw [List.take_add_one, hu, List.map_append]
  show (0, 0) :: rowOf (parI ins) none (((agedU ins).take j).map Up.id ++ [u.id]) = _
  rw [rowOf_app, grow1, hp, onI]
  cases h : ins.find? (fun y => hangB y u) with
  | none => simp [insA]
  | some y =>
    have hy := (y.id_ne (hs.good y (List.mem_of_find?_eq_some h)))
    simp only [Option.map_some, Option.getD_some, insA]
    rw [if_neg (by simp), if_neg (fun e => hy e.symm)]
theorem ring_free {ins : List Up} (hs : Ups ins) {j : Nat} {u : Up} (hu : (agedU ins)[j]? = some u) : u.id ∉ (0, 0) :: rowIds ins ((agedU ins).take j) ∧ ((0, 0) :: rowIds ins ((agedU ins).take j)).Nodup := by
  have hh := (aged_hangs hs).take j
  rw [← List.map_take] at hh
  have hm : u ∈ ins := agedU_mem.1 (List.mem_of_getElem? hu)
  have hmem : ∀ z, z ∈ rowIds ins ((agedU ins).take j) → z ∈ ((agedU ins).take j).map Up.id := fun z hz => mem_rowOf hh hz
  have hsrt := agedU_sorted hs
  refine ⟨fun m => ?_, List.nodup_cons.2 ⟨fun m => ?_, rowOf_nodup hh none⟩⟩
  · rcases List.mem_cons.1 m with m | m
    · exact u.id_ne (hs.good u hm) m
    · obtain ⟨v, hv, e⟩ := List.mem_map.1 (hmem _ m)
      obtain ⟨i, hi, rfl⟩ := List.getElem_of_mem hv
      rw [List.length_take] at hi
      rw [List.getElem_take] at e
      have hvm : (agedU ins)[i] ∈ ins := agedU_mem.1 (List.getElem_mem _)
      have heq := hs.eq hvm hm e
      obtain ⟨hj, hju⟩ := List.getElem?_eq_some_iff.1 hu
      have := List.pairwise_iff_getElem.1 hsrt i j (by omega) hj (by omega)
      rw [heq, hju, aheadB_irr] at this
      cases this
  · obtain ⟨v, hv, e⟩ := List.mem_map.1 (hmem _ m)
    exact v.id_ne (hs.good v (agedU_mem.1 (List.mem_of_mem_take hv))) e
/-- the chain goes on -/
theorem ring_step {ins : List Up} (hs : Ups ins) {kv : List ((Int × Int) × Value)} {j : Nat} {u : Up} (hu : (agedU ins)[j]? = some u) (h : RingL kv ((0, 0) :: rowIds ins ((agedU ins).take j))) (hne : u.id ≠ onI ins u) :
    RingL (putI (putI kv u.id (nxt kv (onI ins u))) (onI ins u) (idV u.id)) ((0, 0) :: rowIds ins ((agedU ins).take (j + 1))) := by
  rw [row_step hs hu]
  exact RingL.put hne h (ring_free hs hu).2 (ring_free hs hu).1
theorem onI_ne {ins : List Up} (hs : Ups ins) {u : Up} (hu : u ∈ ins) : u.id ≠ onI ins u := by
  unfold onI
  cases h : ins.find? (fun y => hangB y u) with
  | none => exact u.id_ne (hs.good u hu)
  | some y =>
    intro e
    have h1 := List.find?_some h
    simp only [hangB, Bool.and_eq_true, decide_eq_true_eq] at h1
    have := hs.eq hu (List.mem_of_find?_eq_some h) e
    rw [this] at h1
    omega
end Go.Proofs.Yteljbblbdiploaa
