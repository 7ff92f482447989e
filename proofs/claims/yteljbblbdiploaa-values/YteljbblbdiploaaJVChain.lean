/-
  WALKS: package crdt: what one hangs on.
-/
/-
  WALKS: package crdt: the inserts as a ring.
-/
import Derived.Test.YteljbblbdiploaaJVIns
import Derived.Test.YteljbblbdiploaaJVAge
namespace Go.Proofs.Yteljbblbdiploaa
open Go.RowKit

theorem lookup_two {w : World} {B : Nat} {kv : List ((Int × Int) × Value)} (hm : MapI w B kv) (a b : Int) (cs cs' : Array Value) (t t' : TypeId) :
    (Instr.lookup 114 (.map (some B)) (.agg #[.int .i64 a, .int .i64 b]) true).run Try.prog ((w.alloc (.cells cs t)).alloc (.cells cs' t')) = .ok (.tuple #[(getI kv (a, b)).getD (.agg #[.int .i64 0, .int .i64 0, .int .i64 0, .int .i64 0, .int .i64 0, .string (bs [])]), .bool (getI kv (a, b)).isSome]) ((w.alloc (.cells cs t)).alloc (.cells cs' t')) := by
  have h1 : MapI ((w.alloc (.cells cs t)).alloc (.cells cs' t')) B kv := (hm.later ((Below.refl _ _).alloc (Nat.le_refl _) _)).later ((Below.refl _ _).alloc (Nat.le_refl _) _)
  exact (lookup_id h1 Try.underlying114 (z := .agg #[.int .i64 0, .int .i64 0, .int .i64 0, .int .i64 0, .int .i64 0, .string (bs [])]) (by simp [go_sem, bs]) (a, b)).1

set_option maxRecDepth 16000 in
set_option maxHeartbeats 1000000 in
theorem hangsOn_none (u : Up) (B : Nat) (kv : List ((Int × Int) × Value)) (w : World) (hm : MapI w B kv) (hv : getI kv (u.ao, u.az) = none) :
    Calls Try.prog 92 #[insV u, .map (some B)] w fun e w' => e = .returned (.agg #[.int .i64 0, .int .i64 0]) ∧ Below w.heap.size w w' := by
  have hlk := lookup_two hm u.ao u.az
  rw [hv] at hlk
  simp only [Option.getD_none, Option.isSome_none] at hlk
  clear hm hv
  unfold insV
  go_enter Try.func92, Try.ntmps92
  go_wp2_with fail
  refine bodyPost_ret (v := .agg #[.int .i64 0, .int .i64 0]) (by simp [results, Try.results92, go_sem]) rfl ⟨rfl, ?_⟩
  repeat (first | exact Below.refl _ _ | refine Below.setCell ?_ (by show w.heap.size ≤ _; omega) _ | refine Below.alloc ?_ (by simp only [World.alloc, Array.size_push]; omega) _ | refine Below.alloc ?_ (Nat.le_refl _) _)

set_option maxRecDepth 16000 in
set_option maxHeartbeats 1000000 in
theorem hangsOn_some (u y : Up) (B : Nat) (kv : List ((Int × Int) × Value)) (w : World) (hm : MapI w B kv) (hv : getI kv (u.ao, u.az) = some (insV y)) :
    Calls Try.prog 92 #[insV u, .map (some B)] w fun e w' => e = .returned (.agg (if y.age < u.age then #[.int .i64 u.ao, .int .i64 u.az] else #[.int .i64 0, .int .i64 0])) ∧ Below w.heap.size w w' := by
  have hlk := lookup_two hm u.ao u.az
  rw [hv] at hlk
  simp only [Option.getD_some, Option.isSome_some] at hlk
  clear hm hv
  unfold insV at *
  by_cases hy : y.age < u.age
  · rw [if_pos hy]
    go_enter Try.func92, Try.ntmps92
    go_wp2_with fail
    refine bodyPost_ret (v := .agg #[.int .i64 u.ao, .int .i64 u.az]) (by simp [results, Try.results92, go_sem]) rfl ⟨rfl, ?_⟩
    repeat (first | exact Below.refl _ _ | refine Below.setCell ?_ (by show w.heap.size ≤ _; omega) _ | refine Below.alloc ?_ (by simp only [World.alloc, Array.size_push]; omega) _ | refine Below.alloc ?_ (Nat.le_refl _) _)
  · rw [if_neg hy]
    go_enter Try.func92, Try.ntmps92
    go_wp2_with fail
    refine bodyPost_ret (v := .agg #[.int .i64 0, .int .i64 0]) (by simp [results, Try.results92, go_sem]) rfl ⟨rfl, ?_⟩
    repeat (first | exact Below.refl _ _ | refine Below.setCell ?_ (by show w.heap.size ≤ _; omega) _ | refine Below.alloc ?_ (by simp only [World.alloc, Array.size_push]; omega) _ | refine Below.alloc ?_ (Nat.le_refl _) _)
end Go.Proofs.Yteljbblbdiploaa

namespace Go.Proofs.Yteljbblbdiploaa
open Go.RowKit

theorem hang_none {l : List Up} {u : Up} (h : l.find? (fun y => decide (y.id = (u.ao, u.az))) = none) : l.find? (fun y => hangB y u) = none := by
  refine List.find?_eq_none.2 fun y hy => ?_
  have := List.find?_eq_none.1 h y hy
  simp only [decide_eq_true_eq] at this
  simp [hangB, Up.anc, this]
theorem hang_some {l : List Up} (hs : Ups l) {u y : Up} (h : l.find? (fun y => decide (y.id = (u.ao, u.az))) = some y) : l.find? (fun y => hangB y u) = if y.age < u.age then some y else none := by
  have h1 := List.find?_some h
  have hm := List.mem_of_find?_eq_some h
  simp only [decide_eq_true_eq] at h1
  by_cases ha : y.age < u.age
  · rw [if_pos ha]
    cases h2 : l.find? (fun y => hangB y u) with
    | none =>
      have := List.find?_eq_none.1 h2 y hm
      simp only [hangB, Up.anc, h1, ha] at this
      simp at this
    | some z =>
      have h3 := List.find?_some h2
      simp only [hangB, Bool.and_eq_true, decide_eq_true_eq] at h3
      rw [hs.eq (List.mem_of_find?_eq_some h2) hm (h3.1.trans h1.symm)]
  · rw [if_neg ha]
    refine List.find?_eq_none.2 fun z hz h3 => ?_
    simp only [hangB, Bool.and_eq_true, decide_eq_true_eq] at h3
    have := hs.eq hz hm (h3.1.trans h1.symm)
    rw [this] at h3
    exact ha h3.2

theorem hangsOn_on (u : Up) (B : Nat) (l : List Up) (w : World) (hm : MapI w B (l.map pairI)) (hs : Ups l) :
    Calls Try.prog 92 #[insV u, .map (some B)] w fun e w' => e = .returned (.agg #[.int .i64 (onI l u).1, .int .i64 (onI l u).2]) ∧ Below w.heap.size w w' := by
  have hg : getI (l.map pairI) (u.ao, u.az) = (l.find? fun y => decide (y.id = (u.ao, u.az))).map insV := getI_pairs l _
  unfold onI
  cases h : l.find? (fun y => decide (y.id = (u.ao, u.az))) with
  | none =>
    rw [h] at hg
    rw [hang_none h]
    exact hangsOn_none u B _ w hm hg
  | some y =>
    rw [h] at hg
    have h1 := List.find?_some h
    simp only [decide_eq_true_eq] at h1
    rw [hang_some hs h]
    refine (hangsOn_some u y B _ w hm hg).mono ?_
    rintro e w' ⟨rfl, hb⟩
    refine ⟨?_, hb⟩
    by_cases ha : y.age < u.age
    · rw [if_pos ha, if_pos ha]; simp [h1]
    · rw [if_neg ha, if_neg ha]; rfl

theorem next_look {w : World} {N : Nat} {kv : List ((Int × Int) × Value)} (hm : MapI w N kv) (i : Int × Int) :
    (Instr.lookup 117 (.map (some N)) (.agg #[.int .i64 i.1, .int .i64 i.2]) false).run Try.prog w = .ok (nxt kv i) w :=
  (lookup_id hm Try.underlying117 (z := .agg #[.int .i64 0, .int .i64 0]) (by simp [go_sem]) i).2

theorem insFlat_at : ∀ {us : List Up} {j : Nat} {u : Up} {i : Nat}, us[j]? = some u → i < 6 → (insFlat us)[j * 6 + i]? = (insCells u)[i]?
  | [], _, _, _, h, _ => by simp at h
  | x :: us, 0, u, i, h, hi => by
    simp only [List.getElem?_cons_zero, Option.some.injEq] at h
    subst h
    rw [insFlat, List.flatMap_cons, Nat.zero_mul, Nat.zero_add, List.getElem?_append_left (by simpa [insCells] using hi)]
  | x :: us, j + 1, u, i, h, hi => by
    rw [insFlat, List.flatMap_cons, ← insFlat, List.getElem?_append_right (by simp [insCells]; omega)]
    have e : (j + 1) * 6 + i - (insCells x).length = j * 6 + i := by simp [insCells]; omega
    rw [e]
    exact insFlat_at (by simpa using h) hi
theorem aged_len {l : List Up} {w : World} {base : Nat} {v : Value} (h : w.ownsRow base 122 6 v l.length (insFlat (agedU l))) : (agedU l).length = l.length := by
  have := h.1
  rw [insFlat_len] at this
  omega

set_option maxRecDepth 16000 in
set_option maxHeartbeats 1000000 in
theorem chain_any (B : Nat) (l : List Up) (w : World) (hm : MapI w B (l.map pairI)) (hs : Ups l) (hl : l.length ≤ 8000) :
    Calls Try.prog 80 #[.map (some B)] w fun e w' => ∃ N kv, e = .returned (.map (some N)) ∧ MapI w' N kv ∧ RingL kv ((0, 0) :: rowIds l (agedU l)) ∧ w.heap.size ≤ N ∧ Below w.heap.size w w' := by
  have HM := hid hm
  have HS := hid hs
  have hBw := hm.lt
  clear hm hs
  have hmk : ∀ t w, (Instr.makeMap t none).run Try.prog w = .ok (.map (some w.heap.size)) (w.alloc (.map #[] 0)) := fun t w => run_makeMap t w
  go_enter Try.func80, Try.ntmps80
  go_wp2_with fail
  clear hmk
  have k1 : MapI (w.alloc (.map #[] 0)) w.heap.size [] := MapI.made w
  have l1 : Below w.heap.size w (w.alloc (.map #[] 0)) := (Below.refl _ _).alloc (Nat.le_refl _) _
  have z1 : w.heap.size < (w.alloc (.map #[] 0)).heap.size := by simp
  generalize w.alloc (.map #[] 0) = w1 at *
  refine (byAge_any B l w1 (HM.out.later l1) HS.out hl).mono ?_
  rintro e w2 ⟨v, rfl, hrow, hb2⟩
  obtain ⟨ao, cp, rfl⟩ := own_slice hrow
  have HLEN := hid (aged_len hrow)
  have HROW := hid hrow
  have HK2 := hid (k1.later hb2)
  have HB2 : Hid (Below w.heap.size w w2) := l1.trans (hb2.mono l1.size)
  clear hrow hb2 k1 l1
  go_wp2_with fail
  go_loopw [11] (fun i wr => ∃ j : Nat, j ≤ l.length ∧ i = .int .i64 j ∧ (∃ kv, MapI wr w.heap.size kv ∧ RingL kv ((0, 0) :: rowIds l ((agedU l).take j))) ∧ wr.ownsRow w1.heap.size 122 6 (.slice ao l.length cp) l.length (insFlat (agedU l)) ∧ Below w.heap.size w wr) (fun i _ => l.length - (intOf i).toNat)
  case atStart => exact ⟨0, by omega, rfl, ⟨[], HK2.out, rfl, trivial⟩, HROW.out, HB2.out⟩
  case round =>
    obtain ⟨j, hj, rfl, ⟨kv, hkv, hring⟩, hrow, hb⟩ := hrel
    have HKV := hid hkv
    have HRING := hid hring
    have HROW := hid hrow
    have HB := hid hb
    have hzr : w.heap.size < wr.heap.size := hkv.lt
    by_cases hlt : j < l.length
    · obtain ⟨u, hu⟩ : ∃ u, (agedU l)[j]? = some u := ⟨(agedU l)[j]'(by rw [HLEN.out]; exact hlt), List.getElem?_eq_getElem _⟩
      have HU := hid hu
      have hum : u ∈ l := agedU_mem.1 (List.mem_of_getElem? hu)
      have HON := hid (onI_ne HS.out hum)
      have HSTEP := hid (ring_step HS.out hu hring HON.out)
      rcases hrow.2 with ⟨hv, h0⟩ | ⟨g, cp', cur, hv, hg, hh, -⟩
      · omega
      cases hv
      have hcell : ∀ i, i < 6 → wr.cell? ⟨g, j * 6 + i, none⟩ = (insCells u)[i]? := by
        intro i hi
        have hq := insFlat_at hu hi
        obtain ⟨x, hx⟩ : ∃ x, (insCells u)[i]? = some x := ⟨(insCells u)[i]'(by simpa [insCells] using hi), List.getElem?_eq_getElem _⟩
        rw [hx] at hq ⊢
        have := World.ownsRow.cells hrow (g := g) rfl (j * 6 + i) x hq
        rw [Addr.add_lit, Nat.zero_add] at this
        exact this
      have c0 := hcell 0 (by omega)
      have c1 := hcell 1 (by omega)
      have c2 := hcell 2 (by omega)
      have c3 := hcell 3 (by omega)
      have c4 := hcell 4 (by omega)
      have c5 := hcell 5 (by omega)
      simp only [insCells, List.getElem?_cons_zero, List.getElem?_cons_succ, Nat.add_zero] at c0 c1 c2 c3 c4 c5
      clear hkv hring hrow hb hu hum hcell hh
      obtain ⟨w0, hw0⟩ : ∃ w0, w0 = wr := ⟨_, rfl⟩
      subst hw0
      go_wp2_with fail
      have kx : (w0.alloc (.cells #[.int .i64 u.age, .int .i64 u.id.1, .int .i64 u.id.2, .int .i64 u.ao, .int .i64 u.az, .string (bs u.x)] 122)).heap[w0.heap.size]? = some (.cells #[.int .i64 u.age, .int .i64 u.id.1, .int .i64 u.id.2, .int .i64 u.ao, .int .i64 u.az, .string (bs u.x)] 122 (0, 0)) := heap_alloc_new w0 _
      have lx : Below w0.heap.size w0 (w0.alloc (.cells #[.int .i64 u.age, .int .i64 u.id.1, .int .i64 u.id.2, .int .i64 u.ao, .int .i64 u.az, .string (bs u.x)] 122)) := (Below.refl _ _).alloc (Nat.le_refl _) _
      clear c0 c1 c2 c3 c4 c5
      generalize w0.alloc (.cells #[.int .i64 u.age, .int .i64 u.id.1, .int .i64 u.id.2, .int .i64 u.ao, .int .i64 u.az, .string (bs u.x)] 122) = w3 at *
      have hb3 : Below w.heap.size w w3 := HB.out.trans (lx.mono HB.out.size)
      refine (hangsOn_on u B l w3 (HM.out.later hb3) HS.out).mono ?_
      rintro e w4 ⟨rfl, hb4⟩
      generalize onI l u = on at *
      have hx4 := (hb4.block _ (lt_of_block kx)).trans kx
      have hb04 : Below w0.heap.size w0 w4 := lx.trans (hb4.mono lx.size)
      clear kx lx hb3 hb4
      go_wp2_with fail
      have ky : (w4.alloc (.cells #[.int .i64 on.1, .int .i64 on.2] 24)).heap[w4.heap.size]? = some (.cells #[.int .i64 on.1, .int .i64 on.2] 24 (0, 0)) := heap_alloc_new w4 _
      have ly : Below w4.heap.size w4 (w4.alloc (.cells #[.int .i64 on.1, .int .i64 on.2] 24)) := (Below.refl _ _).alloc (Nat.le_refl _) _
      generalize w4.alloc (.cells #[.int .i64 on.1, .int .i64 on.2] 24) = w5 at *
      have hx5 := (ly.block _ (lt_of_block hx4)).trans hx4
      have hb05 : Below w0.heap.size w0 w5 := hb04.trans (ly.mono hb04.size)
      have hkv5 : MapI w5.drew w.heap.size kv := HKV.out.later hb05.drew
      have hlk := next_look hkv5 on
      obtain ⟨w6, hup, hm6, hg6⟩ := update_id hkv5 Try.underlying117 u.id (nxt kv on)
      have x0 : w5.cell? ⟨w0.heap.size, 0, none⟩ = some (.int .i64 u.age) := by rw [cell_of_row _ _ _ _ _ (0, 0) hx5]; rfl
      have x1 : w5.cell? ⟨w0.heap.size, 1, none⟩ = some (.int .i64 u.id.1) := by rw [cell_of_row _ _ _ _ _ (0, 0) hx5]; rfl
      have x2 : w5.cell? ⟨w0.heap.size, 2, none⟩ = some (.int .i64 u.id.2) := by rw [cell_of_row _ _ _ _ _ (0, 0) hx5]; rfl
      have y0 : w5.cell? ⟨w4.heap.size, 0, none⟩ = some (.int .i64 on.1) := by rw [cell_of_row _ _ _ _ _ (0, 0) ky]; rfl
      have y1 : w5.cell? ⟨w4.heap.size, 1, none⟩ = some (.int .i64 on.2) := by rw [cell_of_row _ _ _ _ _ (0, 0) ky]; rfl
      have HM6 := hid hm6
      have HG6 := hid hg6
      have HX5 := hid hx5
      have HY5 := hid ky
      have HB05 := hid hb05
      have hz04 : w0.heap.size < w4.heap.size := lt_of_block hx4
      clear hm6 hg6 hx4 hx5 ky ly hb04 hb05 hkv5
      generalize nxt kv on = nv at *
      go_region
      clear hlk hup x0 x1 x2 y0 y1
      have hx6 := (HG6.out.block _ (lt_of_block HX5.out) (by simp; omega)).trans HX5.out
      have hy6 := (HG6.out.block _ (lt_of_block HY5.out) (by simp; omega)).trans HY5.out
      obtain ⟨w7, hup2, hm7, hg7⟩ := update_id HM6.out Try.underlying117 on (idV u.id)
      have x1 : w6.cell? ⟨w0.heap.size, 1, none⟩ = some (.int .i64 u.id.1) := by rw [cell_of_row _ _ _ _ _ (0, 0) hx6]; rfl
      have x2 : w6.cell? ⟨w0.heap.size, 2, none⟩ = some (.int .i64 u.id.2) := by rw [cell_of_row _ _ _ _ _ (0, 0) hx6]; rfl
      have y0 : w6.cell? ⟨w4.heap.size, 0, none⟩ = some (.int .i64 on.1) := by rw [cell_of_row _ _ _ _ _ (0, 0) hy6]; rfl
      have y1 : w6.cell? ⟨w4.heap.size, 1, none⟩ = some (.int .i64 on.2) := by rw [cell_of_row _ _ _ _ _ (0, 0) hy6]; rfl
      have HM7 := hid hm7
      have HG7 := hid hg7
      have HX6 := hid hx6
      clear hm7 hg7 hx6 hy6
      go_wp2_with fail
      go_roundw
      case rel =>
        have r5 := ownsRow_later HROW.out HB05.out.drew
        have b5 : Below w.heap.size w w5.drew := (HB.out.trans (HB05.out.mono HB.out.size)).drew
        refine ⟨j + 1, by omega, by go_num, ⟨_, HM7.out, HSTEP.out⟩, (r5.kept HG6.out (.inr (own_ge r5 z1).symm)).kept HG7.out (.inr (own_ge r5 z1).symm), ?_⟩
        have b6 := b5.grown HG6.out b5.size (fun k hk => by cases hk; exact Nat.le_refl _)
        exact b6.grown HG7.out b6.size (fun k hk => by cases hk; exact Nat.le_refl _)
      case measure => simp [intOf]; omega
    · have hall : (agedU l).take j = agedU l := List.take_of_length_le (by rw [HLEN.out]; omega)
      rw [hall] at hring
      have HR2 := hid hring
      clear hkv hring hrow hb hall
      go_wp2_with fail
      go_ret
      exact ⟨_, kv, rfl, HKV.out, HR2.out, Nat.le_refl _, HB.out⟩
end Go.Proofs.Yteljbblbdiploaa
