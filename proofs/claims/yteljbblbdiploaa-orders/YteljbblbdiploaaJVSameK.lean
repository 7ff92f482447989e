/-
  PLAIN: what updates come to does not hang on the order in which they stand; no Go text in sight.
-/
/-
  WALKS: the statements' own 'same', of the second kind, of two values that hold the same.
-/
import Derived.Test.YteljbblbdiploaaJVChn
import Derived.Test.YteljbblbdiploaaJVAlike
import Derived.Test.YteljbblbdiploaaJVBkVal
namespace Go.Proofs.Yteljbblbdiploaa

theorem Ups.perm {l l' : List Up} (hp : l.Perm l') (h : Ups l) : Ups l' :=
  ⟨fun u hu => h.good u (hp.mem_iff.2 hu), fun u hu v hv => h.one u (hp.mem_iff.2 hu) v (hp.mem_iff.2 hv), hp.pairwise h.ids (fun h e => h e.symm)⟩
theorem any_perm {l l' : List Up} (hp : l.Perm l') (p : Up → Bool) : l.any p = l'.any p := by
  rw [Bool.eq_iff_iff, List.any_eq_true, List.any_eq_true]
  simp only [hp.mem_iff]
theorem texts_perm {l l' : List Up} (hp : l.Perm l') (reg : Bool) : layT (textsD reg l) = layT (textsD reg l') := by
  refine rising_eq (layT_ok _).1 (layT_ok _).1 fun z => ?_
  rw [(layT_ok _).2, (layT_ok _).2]
  simp only [textsD, goneD, List.mem_map, List.mem_filter, any_perm hp, hp.mem_iff]
theorem sumD_perm {l l' : List Up} (hp : l.Perm l') : sumD l = sumD l' := by
  induction hp with
  | nil => rfl
  | cons u _ ih => simp only [sumD, List.map_cons, List.sum_cons] at *; omega
  | swap u v l => simp only [sumD, List.map_cons, List.sum_cons]; omega
  | trans _ _ h1 h2 => exact h1.trans h2
theorem find_perm {l l' : List Up} (hp : l.Perm l') (p : Up → Bool) (hu : ∀ x ∈ l, ∀ y ∈ l, p x = true → p y = true → x = y) : l.find? p = l'.find? p := by
  cases h : l.find? p with
  | none =>
    symm
    rw [List.find?_eq_none] at *
    intro x hx
    exact h x (hp.mem_iff.2 hx)
  | some a =>
    have h1 := List.find?_some h
    have h2 := List.mem_of_find?_eq_some h
    cases k : l'.find? p with
    | none => exact absurd h1 (List.find?_eq_none.1 k a (hp.mem_iff.1 h2))
    | some b => rw [hu a h2 b (hp.mem_iff.2 (List.mem_of_find?_eq_some k)) h1 (List.find?_some k)]
theorem parI_perm {l l' : List Up} (hp : l.Perm l') (h : Ups l) : parI l = parI l' := by
  funext i
  unfold parI
  rw [find_perm hp (fun u => decide (u.id = i)) fun x hx y hy e k => h.eq hx hy ((of_decide_eq_true e).trans (of_decide_eq_true k).symm)]
  cases l'.find? (fun u => decide (u.id = i)) with
  | none => rfl
  | some u =>
    show (l.find? fun y => hangB y u).map Up.id = (l'.find? fun y => hangB y u).map Up.id
    rw [find_perm hp (fun y => hangB y u) fun x hx y hy e k => ?_]
    simp only [hangB, Bool.and_eq_true, decide_eq_true_eq] at e k
    exact h.eq hx hy (e.1.trans k.1.symm)
theorem agedU_perm {l l' : List Up} (hp : l.Perm l') (h : Ups l) : agedU l = agedU l' :=
  rise_eq (lt := fun a b => aheadB b a = true) (fun x h => by rw [aheadB_irr] at h; cases h) (fun x y z h k => aheadB_tr _ _ _ k h) (agedU_sorted h) (agedU_sorted (h.perm hp)) fun x => by rw [agedU_mem, agedU_mem]; exact hp.mem_iff
theorem ids_eq {l : List Up} (h : Ups l) : ∀ {a b : List Up}, (∀ u ∈ a, u ∈ l) → (∀ u ∈ b, u ∈ l) → a.map Up.id = b.map Up.id → a = b
  | [], [], _, _, _ => rfl
  | [], y :: b, _, _, e => by simp at e
  | x :: a, [], _, _, e => by simp at e
  | x :: a, y :: b, ha, hb, e => by
    simp only [List.map_cons, List.cons.injEq] at e
    rw [h.eq (ha x (by simp)) (hb y (by simp)) e.1, ids_eq h (fun u hu => ha u (by simp [hu])) (fun u hu => hb u (by simp [hu])) e.2]
theorem tree_perm {l l' : List Up} (hp : l.Perm l') (h : Ups l) : atPlaces l (treeRow l (-1)) = atPlaces l' (treeRow l' (-1)) := by
  refine ids_eq h (fun u hu => ?_) (fun u hu => ?_) ?_
  · obtain ⟨i, _, e⟩ := mem_atPlaces.1 hu
    exact List.mem_of_getElem? e
  · obtain ⟨i, _, e⟩ := mem_atPlaces.1 hu
    exact hp.mem_iff.2 (List.mem_of_getElem? e)
  · rw [rowIds_tree h, rowIds_tree (h.perm hp), rowIds, rowIds, parI_perm hp h, agedU_perm hp h]
theorem seqD_perm {l l' : List Up} (hp : l.Perm l') (h : Ups l) : seqD l = seqD l' := by
  unfold seqD
  rw [tree_perm (l := insD l) (l' := insD l') (hp.filter _) (h.filter _)]
  congr 1
  funext u
  unfold goneQ
  rw [any_perm hp]
theorem worthD_perm {l l' : List Up} (hp : l.Perm l') (h : Ups l) (kind : Int) (name : Tx) : worthD kind name l = worthD kind name l' := by
  have hq : (ofD kind name l).Perm (ofD kind name l') := hp.filter _
  have hu : Ups (ofD kind name l) := h.filter _
  unfold worthD
  rw [texts_perm hq, texts_perm hq, sumD_perm hq, seqD_perm hq hu]
/-- in whatever order -/
theorem valD_perm {l l' : List Up} (hp : l.Perm l') (kind : Int) (name : Tx) : valD kind name l = valD kind name l' := by
  unfold valD
  have e : upsB l = upsB l' := by
    rw [Bool.eq_iff_iff, upsB_iff, upsB_iff]
    exact ⟨fun h => h.perm hp, fun h => h.perm hp.symm⟩
  rw [← e]
  by_cases h : upsB l = true
  · rw [worthD_perm hp ((upsB_iff l).1 h)]
  · rw [if_neg h, if_neg h]
end Go.Proofs.Yteljbblbdiploaa

namespace Go.Proofs.Yteljbblbdiploaa
open Go.RowKit

set_option maxRecDepth 16000 in
set_option maxHeartbeats 2000000 in
theorem keepTexts_same (base base' : Nat) (va vb : Value) (ts : List ByteArray) (w : World) (ha : w.ownsRow base 9 1 va ts.length (scs ts)) (hb : w.ownsRow base' 9 1 vb ts.length (scs ts)) (hn : ts.length ≤ 1099511627776) :
    Calls Try.prog 49 #[va, vb] w fun e w' => e = .returned (.bool true) ∧ Below w.heap.size w w' := by
  obtain ⟨ao, ca, rfl, h1⟩ := own_at_s ha
  obtain ⟨bo, cb, rfl, h2⟩ := own_at_s hb
  have H1 := hid h1
  have H2 := hid h2
  clear h1 h2 ha hb
  go_enter Try.func49, Try.ntmps49
  go_wp2_with fail
  go_loopw [5] (fun i wr => ∃ j : Nat, j ≤ ts.length ∧ i = .int .i64 j ∧ Below w.heap.size w wr) (fun i _ => ts.length - (intOf i).toNat)
  case atStart => exact ⟨0, by omega, rfl, Below.refl _ _⟩
  case round =>
    obtain ⟨j, hj, rfl, hb⟩ := hrel
    have HB := hid hb
    by_cases hlt : j < ts.length
    · obtain ⟨a, rfl, q1⟩ := at_s_later H1.out hb j hlt
      obtain ⟨b, rfl, q2⟩ := at_s_later H2.out hb j hlt
      generalize ts.getD j ⟨#[]⟩ = z at *
      clear hb
      go_wp2_with fail
      go_quiet (fail)
      all_goals
        go_wp2_with fail
        go_roundw
        case rel => exact ⟨j + 1, by omega, by go_num, below_drewN HB.out _⟩
        case measure => simp [intOf]; omega
    · clear hb
      go_wp2_with fail
      go_ret
      exact ⟨rfl, HB.out⟩

set_option maxRecDepth 16000 in
set_option maxHeartbeats 2000000 in
theorem keepSame_same (base base' : Nat) (va vb : Value) (r : List Tx × List (Int × Int) × Int) (w : World) (ha : IsVal w base va r) (hb : IsVal w base' vb r) (hn1 : r.1.length ≤ 1099511627776) (hn2 : r.2.1.length ≤ 1099511627776) :
    Calls Try.prog 24 #[va, vb] w fun e w' => e = .returned (.bool true) ∧ Below w.heap.size w w' := by
  obtain ⟨ts, ds, z⟩ := r
  obtain ⟨t1, i1, n1, m1, rfl, ht1, hi1⟩ := ha
  obtain ⟨t2, i2, n2, m2, rfl, ht2, hi2⟩ := hb
  simp only at ht1 ht2 hi1 hi2 hn1 hn2 ⊢
  have e1 : n1 = (ts.map bs).length := by have := ht1.1; rw [tcs_scs, scs_len] at this; omega
  have e2 : n2 = (ts.map bs).length := by have := ht2.1; rw [tcs_scs, scs_len] at this; omega
  have e3 : m1 = ds.length := by have := hi1.1; rw [idcs_dcs, dcs_len] at this; omega
  have e4 : m2 = ds.length := by have := hi2.1; rw [idcs_dcs, dcs_len] at this; omega
  subst e1 e2 e3 e4
  rw [tcs_scs] at ht1 ht2
  rw [idcs_dcs] at hi1 hi2
  have hl : (ts.map bs).length ≤ 1099511627776 := by rw [List.length_map]; exact hn1
  generalize ts.map bs = tb at *
  obtain ⟨a1, c1, rfl⟩ := own_slice ht1
  obtain ⟨a2, c2, rfl⟩ := own_slice ht2
  obtain ⟨a3, c3, rfl⟩ := own_slice hi1
  obtain ⟨a4, c4, rfl⟩ := own_slice hi2
  have H1 := hid ht1
  have H2 := hid ht2
  have H3 := hid hi1
  have H4 := hid hi2
  clear ht1 ht2 hi1 hi2 hn1
  go_enter Try.func24, Try.ntmps24
  go_wp2_with fail
  obtain ⟨hA, hB, hbq⟩ := two_boxes w #[.slice a1 tb.length c1, .slice a3 ds.length c3, .int .i64 z] #[.slice a2 tb.length c2, .slice a4 ds.length c4, .int .i64 z] 51
  generalize hwq : (w.alloc (.cells #[.slice a1 tb.length c1, .slice a3 ds.length c3, .int .i64 z] 51)).alloc (.cells #[.slice a2 tb.length c2, .slice a4 ds.length c4, .int .i64 z] 51) = wq at *
  have hzq : w.heap.size + 1 < wq.heap.size := by rw [← hwq]; simp
  clear hwq
  refine (keepTexts_same base base' _ _ tb wq (ownsRow_later H1.out hbq) (ownsRow_later H2.out hbq) hl).mono ?_
  rintro e w1 ⟨rfl, hb1⟩
  have HBQ := hid hbq
  have q1 : ∀ i, w1.cell? ⟨w.heap.size, i, none⟩ = (#[.slice a1 tb.length c1, .slice a3 ds.length c3, .int .i64 z] : Array Value)[i]? := fun i => (hb1.cell (p := ⟨w.heap.size, i, none⟩) (by show w.heap.size < wq.heap.size; omega)).trans (hA i)
  have q2 : ∀ i, w1.cell? ⟨w.heap.size + 1, i, none⟩ = (#[.slice a2 tb.length c2, .slice a4 ds.length c4, .int .i64 z] : Array Value)[i]? := fun i => (hb1.cell (p := ⟨w.heap.size + 1, i, none⟩) (by show w.heap.size + 1 < wq.heap.size; omega)).trans (hB i)
  have HB1 : Hid (Below w.heap.size w w1) := hbq.trans (hb1.mono hbq.size)
  have hz1 : w.heap.size + 1 < w1.heap.size := Nat.lt_of_lt_of_le hzq hb1.size
  clear hA hB hbq hb1 hzq
  have HQ1 := hid q1
  have HQ2 := hid q2
  have HO3 := hid (own_at_d (ownsRow_later H3.out HB1.out))
  have HO4 := hid (own_at_d (ownsRow_later H4.out HB1.out))
  go_wp2_with fail
  go_loopw [6] (fun i wr => ∃ j : Nat, j ≤ ds.length ∧ i = .int .i64 j ∧ Below w1.heap.size w1 wr) (fun i _ => ds.length - (intOf i).toNat)
  case atStart => exact ⟨0, by omega, rfl, Below.refl _ _⟩
  case round =>
    obtain ⟨j, hj, rfl, hb⟩ := hrel
    have HB := hid hb
    have r1 : ∀ i, wr.cell? ⟨w.heap.size, i, none⟩ = (#[.slice a1 tb.length c1, .slice a3 ds.length c3, .int .i64 z] : Array Value)[i]? := fun i => (hb.cell (p := ⟨w.heap.size, i, none⟩) (by show w.heap.size < w1.heap.size; omega)).trans (HQ1.out i)
    have r2 : ∀ i, wr.cell? ⟨w.heap.size + 1, i, none⟩ = (#[.slice a2 tb.length c2, .slice a4 ds.length c4, .int .i64 z] : Array Value)[i]? := fun i => (hb.cell (p := ⟨w.heap.size + 1, i, none⟩) (by show w.heap.size + 1 < w1.heap.size; omega)).trans (HQ2.out i)
    by_cases hlt : j < ds.length
    · obtain ⟨ao, ca, e3, h3⟩ := HO3.out
      obtain ⟨bo, cb, e4, h4⟩ := HO4.out
      cases e3
      cases e4
      obtain ⟨a, rfl, s1, s2⟩ := at_d_later h3 hb j hlt
      obtain ⟨b, rfl, t1, t2⟩ := at_d_later h4 hb j hlt
      generalize (ds.getD j (0, 0)).1 = x at *
      generalize (ds.getD j (0, 0)).2 = y at *
      clear hb h3 h4
      go_wp2_with fail
      go_quiet (fail)
      all_goals
        go_wp2_with fail
        go_roundw
        case rel => exact ⟨j + 1, by omega, by go_num, below_drewN HB.out _⟩
        case measure => simp [intOf]; omega
    · clear hb
      go_wp2_with fail
      go_ret
      exact ⟨rfl, HB1.out.trans (HB.out.mono HB1.out.size)⟩
end Go.Proofs.Yteljbblbdiploaa
