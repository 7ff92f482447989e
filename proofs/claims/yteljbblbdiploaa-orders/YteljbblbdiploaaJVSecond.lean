/-
  PLAIN: best and second best, one clock more, number by number.
-/
/-
  WALKS: package crdt: the second best of the clocks.
-/
import Derived.Test.YteljbblbdiploaaJVMem
import Derived.Test.YteljbblbdiploaaJVRank
namespace Go.Proofs.Yteljbblbdiploaa

theorem best2_nonneg (ns : List Int) : 0 ≤ (best2 ns).1 ∧ 0 ≤ (best2 ns).2 := by
  suffices ∀ r : List Int, 0 ≤ (best2 r.reverse).1 ∧ 0 ≤ (best2 r.reverse).2 by
    have := this ns.reverse; rwa [List.reverse_reverse] at this
  intro r
  induction r with
  | nil => simp [best2]
  | cons n r ih => rw [List.reverse_cons, best2_app]; simp only; omega

/-- the numbers at a place -/
def colAt (l : List Up) (i : Nat) : List Int := l.map fun u => u.c.getD i 0
theorem colAt_app (l : List Up) (u : Up) (i : Nat) : colAt (l ++ [u]) i = colAt l i ++ [u.c.getD i 0] := by simp [colAt]
/-- best, while u's numbers come in: the first j are in -/
def bestIn (l : List Up) (u : Up) (j : Nat) : List Int := (List.range 8).map fun i => if i < j then (best2 (colAt (l ++ [u]) i)).1 else (best2 (colAt l i)).1
def secondIn (l : List Up) (u : Up) (j : Nat) : List Int := (List.range 8).map fun i => if i < j then (best2 (colAt (l ++ [u]) i)).2 else (best2 (colAt l i)).2
theorem bestIn_len (l : List Up) (u : Up) (j : Nat) : (bestIn l u j).length = 8 := by simp [bestIn]
theorem secondIn_len (l : List Up) (u : Up) (j : Nat) : (secondIn l u j).length = 8 := by simp [secondIn]
theorem bestOf_len (l : List Up) : (bestOf l).length = 8 := by simp [bestOf]
theorem secondOf_len (l : List Up) : (secondOf l).length = 8 := by simp [secondOf]
theorem bestIn_zero (l : List Up) (u : Up) : bestIn l u 0 = bestOf l := by simp [bestIn, bestOf, colAt]
theorem secondIn_zero (l : List Up) (u : Up) : secondIn l u 0 = secondOf l := by simp [secondIn, secondOf, secondAt, colAt]
theorem bestIn_get (l : List Up) (u : Up) (j i : Nat) (hi : i < 8) : (bestIn l u j).getD i 0 = if i < j then (best2 (colAt (l ++ [u]) i)).1 else (best2 (colAt l i)).1 := by simp [bestIn, hi]
theorem secondIn_get (l : List Up) (u : Up) (j i : Nat) (hi : i < 8) : (secondIn l u j).getD i 0 = if i < j then (best2 (colAt (l ++ [u]) i)).2 else (best2 (colAt l i)).2 := by simp [secondIn, hi]
theorem bestIn_succ (l : List Up) (u : Up) (j : Nat) (hj : j < 8) : bestIn l u (j + 1) = (bestIn l u j).set j (max ((bestIn l u j).getD j 0) (u.c.getD j 0)) := by
  have hg := bestIn_get l u j j hj
  rw [if_neg (by omega)] at hg
  rw [hg]
  refine List.ext_getElem (by simp [bestIn_len]) fun i h1 h2 => ?_
  rw [List.getElem_set]
  by_cases e : j = i
  · subst e
    simp [bestIn, colAt_app, best2_app]
  · rw [if_neg e]
    simp only [bestIn, List.getElem_map, List.getElem_range]
    by_cases hi : i < j
    · rw [if_pos (by omega), if_pos hi]
    · rw [if_neg (by omega), if_neg hi]
theorem secondIn_succ (l : List Up) (u : Up) (j : Nat) (hj : j < 8) : secondIn l u (j + 1) = (secondIn l u j).set j (max ((secondIn l u j).getD j 0) (min ((bestIn l u j).getD j 0) (u.c.getD j 0))) := by
  have hg := secondIn_get l u j j hj
  rw [if_neg (by omega)] at hg
  have hg2 := bestIn_get l u j j hj
  rw [if_neg (by omega)] at hg2
  rw [hg, hg2]
  refine List.ext_getElem (by simp [secondIn_len]) fun i h1 h2 => ?_
  rw [List.getElem_set]
  by_cases e : j = i
  · subst e
    simp [secondIn, colAt_app, best2_app]
  · rw [if_neg e]
    simp only [secondIn, List.getElem_map, List.getElem_range]
    by_cases hi : i < j
    · rw [if_pos (by omega), if_pos hi]
    · rw [if_neg (by omega), if_neg hi]
theorem in_all (l : List Up) (u : Up) {i : Nat} (h : u.c.length ≤ i) : best2 (colAt (l ++ [u]) i) = best2 (colAt l i) := by
  have h0 : u.c.getD i 0 = 0 := by rw [List.getD_eq_getElem?_getD, List.getElem?_eq_none (by omega)]; rfl
  have := best2_nonneg (colAt l i)
  rw [colAt_app, best2_app, h0]
  exact Prod.ext (by simp only; omega) (by simp only; omega)
theorem bestIn_all (l : List Up) (u : Up) : bestIn l u u.c.length = bestOf (l ++ [u]) := by
  refine List.ext_getElem (by simp [bestIn_len, bestOf_len]) fun i h1 h2 => ?_
  simp only [bestIn, bestOf, List.getElem_map, List.getElem_range]
  split
  · rfl
  · rename_i h
    rw [← in_all l u (Nat.not_lt.1 h)]; rfl
theorem secondIn_all (l : List Up) (u : Up) : secondIn l u u.c.length = secondOf (l ++ [u]) := by
  refine List.ext_getElem (by simp [secondIn_len, secondOf_len]) fun i h1 h2 => ?_
  simp only [secondIn, secondOf, secondAt, List.getElem_map, List.getElem_range]
  split
  · rfl
  · rename_i h
    rw [← in_all l u (Nat.not_lt.1 h)]; rfl
theorem bestOf_nil : bestOf [] = zero8 := by decide
theorem secondOf_nil : secondOf [] = zero8 := by decide
end Go.Proofs.Yteljbblbdiploaa

namespace Go.Proofs.Yteljbblbdiploaa
open Go.RowKit

theorem BoxR.far {w : World} {A B : Nat} {r : List Int} (h : BoxR w B r) (j : Nat) (v : Value) (hne : B ≠ A) : BoxR (w.setCell ⟨A, j, none⟩ v) B r := (Below.heap_setCell w ⟨A, j, none⟩ v B hne).trans h
theorem BoxR.drew {w : World} {B : Nat} {r : List Int} (h : BoxR w B r) : BoxR w.drew B r := h

set_option maxRecDepth 16000 in
set_option maxHeartbeats 1000000 in
theorem secondBest_any (vo : Option Addr) (cap : Nat) (l : List Up) (w : World) (hu : UpsO w vo l) (hs : ∀ u ∈ l, u.good = true) (hl : l.length ≤ 8000) :
    Calls Try.prog 78 #[.slice vo l.length cap] w fun e w' => e = .returned (rV (secondOf l)) ∧ Below w.heap.size w w' := by
  have HU := hid hu
  have HS := hid hs
  clear hu hs
  go_enter Try.func78, Try.ntmps78
  go_wp2_with fail
  have e8 : (zero8.map (Value.int .i64)).toArray = #[.int .i64 0, .int .i64 0, .int .i64 0, .int .i64 0, .int .i64 0, .int .i64 0, .int .i64 0, .int .i64 0] := rfl
  have a0 : BoxR (w.alloc (.cells #[.int .i64 0, .int .i64 0, .int .i64 0, .int .i64 0, .int .i64 0, .int .i64 0, .int .i64 0, .int .i64 0] 110)) w.heap.size zero8 := heap_alloc_new w _
  have b0 : Below w.heap.size w (w.alloc (.cells #[.int .i64 0, .int .i64 0, .int .i64 0, .int .i64 0, .int .i64 0, .int .i64 0, .int .i64 0, .int .i64 0] 110)) := (Below.refl _ _).alloc (Nat.le_refl _) _
  have z0 : (w.alloc (.cells #[.int .i64 0, .int .i64 0, .int .i64 0, .int .i64 0, .int .i64 0, .int .i64 0, .int .i64 0, .int .i64 0] 110)).heap.size = w.heap.size + 1 := by simp
  generalize w.alloc (.cells #[.int .i64 0, .int .i64 0, .int .i64 0, .int .i64 0, .int .i64 0, .int .i64 0, .int .i64 0, .int .i64 0] 110) = w1 at *
  have a1 : BoxR (w1.alloc (.cells #[.int .i64 0, .int .i64 0, .int .i64 0, .int .i64 0, .int .i64 0, .int .i64 0, .int .i64 0, .int .i64 0] 110)) w1.heap.size zero8 := heap_alloc_new w1 _
  have b1 : Below w1.heap.size w1 (w1.alloc (.cells #[.int .i64 0, .int .i64 0, .int .i64 0, .int .i64 0, .int .i64 0, .int .i64 0, .int .i64 0, .int .i64 0] 110)) := (Below.refl _ _).alloc (Nat.le_refl _) _
  have z1 : (w1.alloc (.cells #[.int .i64 0, .int .i64 0, .int .i64 0, .int .i64 0, .int .i64 0, .int .i64 0, .int .i64 0, .int .i64 0] 110)).heap.size = w1.heap.size + 1 := by simp
  generalize w1.alloc (.cells #[.int .i64 0, .int .i64 0, .int .i64 0, .int .i64 0, .int .i64 0, .int .i64 0, .int .i64 0, .int .i64 0] 110) = w2 at *
  have a2 : BoxR (w2.alloc (.cells #[.int .i64 0, .int .i64 0, .int .i64 0, .int .i64 0, .int .i64 0, .int .i64 0, .int .i64 0, .int .i64 0] 110)) w2.heap.size zero8 := heap_alloc_new w2 _
  have b2 : Below w2.heap.size w2 (w2.alloc (.cells #[.int .i64 0, .int .i64 0, .int .i64 0, .int .i64 0, .int .i64 0, .int .i64 0, .int .i64 0, .int .i64 0] 110)) := (Below.refl _ _).alloc (Nat.le_refl _) _
  generalize w2.alloc (.cells #[.int .i64 0, .int .i64 0, .int .i64 0, .int .i64 0, .int .i64 0, .int .i64 0, .int .i64 0, .int .i64 0] 110) = w3 at *
  rw [z1, z0] at a2
  rw [z0] at a1
  have A0 := hid ((a0.later b1).later b2)
  have A1 := hid (a1.later b2)
  have A2 := hid a2
  have B3 : Hid (Below w.heap.size w w3) := (b0.trans (b1.mono b0.size)).trans (b2.mono (Nat.le_trans b0.size b1.size))
  clear a0 a1 a2 b0 b1 b2 z0 z1 e8
  go_loopw [11] (fun i wr => ∃ k : Nat, k ≤ l.length ∧ i = .int .i64 k ∧ BoxR wr (w.heap.size + 1) (bestOf (l.take k)) ∧ BoxR wr (w.heap.size + 1 + 1) (secondOf (l.take k)) ∧ BoxR wr w.heap.size zero8 ∧ Below w.heap.size w wr) (fun i _ => l.length - (intOf i).toNat)
  case atStart => exact ⟨0, by omega, rfl, by rw [List.take_zero, bestOf_nil]; exact A1.out, by rw [List.take_zero, secondOf_nil]; exact A2.out, A0.out, B3.out⟩
  case round =>
    obtain ⟨k, hk, rfl, h1, h2, h0, hb⟩ := hrel
    have H1 := hid h1
    have H2 := hid h2
    have H0 := hid h0
    have HB := hid hb
    by_cases hlt : k < l.length
    · obtain ⟨u, hu⟩ : ∃ u, l[k]? = some u := ⟨l[k], List.getElem?_eq_getElem hlt⟩
      obtain ⟨b, off, rfl, hup⟩ := HU.out (by omega)
      obtain ⟨ua, uc, hut⟩ := (hup.later hb) k u hu
      have hgu := HS.out u (List.mem_of_getElem? hu)
      have hu8 := (u.good_iff.1 hgu).1
      obtain ⟨ua', uc', hut'⟩ := hup k u hu
      clear hup
      obtain ⟨c0, c1, c2, c3, c4, c5, c6, c7, c8⟩ := hut.nine
      have hsame : ua = ua' ∧ uc = uc' := by
        have h1 := hut'.nine.2.1
        have h2 := (hb.cell (p := ⟨b, off + k * 9 + 1, none⟩) hut'.lt).trans h1
        have h3 := h2.symm.trans c1
        cases h3; exact ⟨rfl, rfl⟩
      obtain ⟨rfl, rfl⟩ := hsame
      obtain ⟨ub, uo, ug, rfl, -, -, hcl, -, hubl⟩ := Up.parts hgu hut'.clk
      have HCL := hid hcl
      have HTK : Hid (l.take (k + 1) = l.take k ++ [u]) := by rw [Hid, List.take_add_one, hu]; rfl
      clear h1 h2 h0 hb hu hut hut' hgu hcl
      obtain ⟨w0, hw0⟩ : ∃ w0, w0 = wr := ⟨_, rfl⟩
      subst hw0
      go_wp2_with fail
      obtain ⟨kb, lb⟩ := boxU_new w0 u (some ⟨ub, uo, none⟩) uc
      simp only [upArr] at kb lb
      generalize w0.alloc (.cells #[.int .i64 u.o, .slice (some ⟨ub, uo, none⟩) u.c.length uc, .int .u8 u.t, .int .u8 u.k, .string (bs u.n), .string (bs u.x), .int .i64 u.a, .int .i64 u.ao, .int .i64 u.az] 28) = w5 at *
      have LB := hid lb
      clear kb lb c0 c1 c2 c3 c4 c5 c6 c7 c8
      go_loopw [18] (fun i wr => ∃ j : Nat, j ≤ u.c.length ∧ i = .int .i64 j ∧ BoxR wr (w.heap.size + 1) (bestIn (l.take k) u j) ∧ BoxR wr (w.heap.size + 1 + 1) (secondIn (l.take k) u j) ∧ BoxR wr w.heap.size zero8 ∧ Below w.heap.size w wr) (fun i _ => u.c.length - (intOf i).toNat)
      case atStart => exact ⟨0, by omega, rfl, by rw [bestIn_zero]; exact H1.out.later LB.out, by rw [secondIn_zero]; exact H2.out.later LB.out, H0.out.later LB.out, HB.out.trans (LB.out.mono HB.out.size)⟩
      case round =>
        obtain ⟨j, hj, rfl, g1, g2, g0, gb⟩ := hrel
        have G1 := hid g1
        have G2 := hid g2
        have G0 := hid g0
        have GB := hid gb
        have l1 := bestIn_len (l.take k) u j
        have l2 := secondIn_len (l.take k) u j
        by_cases hjl : j < u.c.length
        · have x1 := g1.cell (j := j) (by omega)
          have x2 := g2.cell (j := j) (by omega)
          have y1 := g1.free j
          have y2 := g2.free j
          have xc := (gb.cell (p := ⟨ub, uo + j, none⟩) hubl).trans (HCL.out j hjl)
          have S1 := hid (bestIn_succ (l.take k) u j (by omega))
          have S2 := hid (secondIn_succ (l.take k) u j (by omega))
          clear g1 g2 g0 gb l1 l2
          generalize (bestIn (l.take k) u j).getD j 0 = bx at *
          generalize (secondIn (l.take k) u j).getD j 0 = sx at *
          generalize u.c.getD j 0 = cx at *
          go_wp2_with fail
          go_region
          have m2 := (G2.out.set j (max sx (min bx cx))).drew
          have m1 := (G1.out.far j (.int .i64 (max sx (min bx cx))) (by omega : w.heap.size + 1 ≠ w.heap.size + 1 + 1)).drew
          have m0 := (G0.out.far j (.int .i64 (max sx (min bx cx))) (by omega : w.heap.size ≠ w.heap.size + 1 + 1)).drew
          have mb : Below w.heap.size w (wr.setCell ⟨w.heap.size + 1 + 1, j, none⟩ (.int .i64 (max sx (min bx cx)))).drew := (Below.setCell GB.out (p := ⟨w.heap.size + 1 + 1, j, none⟩) (by show w.heap.size ≤ w.heap.size + 1 + 1; omega) _).drew
          have n1 : (wr.setCell ⟨w.heap.size + 1 + 1, j, none⟩ (.int .i64 (max sx (min bx cx)))).drew.cell? ⟨w.heap.size + 1, j, none⟩ = some (.int .i64 bx) := (World.cell?_of_block (a := ⟨w.heap.size + 1, j, none⟩) (Below.heap_setCell wr ⟨w.heap.size + 1 + 1, j, none⟩ _ (w.heap.size + 1) (by show w.heap.size + 1 ≠ w.heap.size + 1 + 1; omega))).trans x1
          have k1 := m1.free j
          rw [← S2.out] at m2
          have M0 := hid m0
          have M1 := hid m1
          have M2 := hid m2
          have MB := hid mb
          clear m0 m1 m2 mb x1 x2 y1 y2 xc
          generalize (wr.setCell ⟨w.heap.size + 1 + 1, j, none⟩ (.int .i64 (max sx (min bx cx)))).drew = w7 at *
          go_wp2_with fail
          go_roundw
          case rel => exact ⟨j + 1, by omega, by go_num, by rw [S1.out]; exact M1.out.set j _, M2.out.far j _ (by omega), M0.out.far j _ (by omega), Below.setCell MB.out (p := ⟨w.heap.size + 1, j, none⟩) (by show w.heap.size ≤ w.heap.size + 1; omega) _⟩
          case measure => simp [intOf]; omega
        · have hje : j = u.c.length := by omega
          subst hje
          clear g1 g2 g0 gb l1 l2
          go_wp2_with fail
          go_roundw
          case rel => exact ⟨k + 1, by omega, by go_num, by rw [HTK.out, ← bestIn_all]; exact G1.out, by rw [HTK.out, ← secondIn_all]; exact G2.out, G0.out, GB.out⟩
          case measure => simp [intOf]; omega
    · have htk : l.take k = l := List.take_of_length_le (by omega)
      rw [htk] at h2
      have l2 := secondOf_len l
      obtain ⟨p0, p1, p2, p3, p4, p5, p6, p7⟩ := h2.eight l2
      obtain ⟨q0, q1, q2, q3, q4, q5, q6, q7⟩ := h0.eight rfl
      have f0 := h0.free 0
      have f1 := h0.free 1
      have f2 := h0.free 2
      have f3 := h0.free 3
      have f4 := h0.free 4
      have f5 := h0.free 5
      have f6 := h0.free 6
      have f7 := h0.free 7
      have HV := hid (rV8 _ l2)
      clear h1 h2 h0 hb htk l2 H1 H2
      generalize (secondOf l).getD 0 0 = t0 at *
      generalize (secondOf l).getD 1 0 = t1 at *
      generalize (secondOf l).getD 2 0 = t2 at *
      generalize (secondOf l).getD 3 0 = t3 at *
      generalize (secondOf l).getD 4 0 = t4 at *
      generalize (secondOf l).getD 5 0 = t5 at *
      generalize (secondOf l).getD 6 0 = t6 at *
      generalize (secondOf l).getD 7 0 = t7 at *
      go_wp2_with fail
      refine bodyPost_ret (v := .agg #[.int .i64 t0, .int .i64 t1, .int .i64 t2, .int .i64 t3, .int .i64 t4, .int .i64 t5, .int .i64 t6, .int .i64 t7]) ?_ rfl ⟨by rw [HV.out], ?_⟩
      · simp [results, Try.results78, go_sem, q0, q1, q2, q3, q4, q5, q6, q7]
      · iterate 8 (refine Below.setCell ?_ (Nat.le_refl w.heap.size) _)
        exact HB.out
end Go.Proofs.Yteljbblbdiploaa
