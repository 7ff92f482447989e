/-
  WALKS: package crdt: which insert is the elder.
-/
/-
  WHERE THE LIBRARY's FUNCTIONS LIE: the numbers of functions and types in this program, for the library's own contracts of slices.Sort, slices.Compact and slices.SortFunc.
-/
import Derived.Test.YteljbblbdiploaaJVIns
import Derived.Test.YteljbblbdiploaaRows
import Derived.Shelf.SortM.Plain
import Derived.Shelf.SortM.SortNone
import Derived.Shelf.SlicesE.Compact
import Derived.Shelf.SlSortCmp.WholeK
namespace Go.Proofs.Yteljbblbdiploaa
open Go.RowKit

def cmpI (x y : Int) : Int := if x < y then -1 else if y < x then 1 else 0

theorem isNaN_any (x : Int) (w : World) : Calls Try.prog 127 #[.int .i64 x] w fun e w' => e = .returned (.bool false) ∧ w' = w := by
  go_enter Try.func127, Try.ntmps127
  go_wp2_with fail
  go_ret
  exact ⟨rfl, rfl⟩

set_option maxHeartbeats 1000000 in
theorem compare_any (x y : Int) (w : World) :
    Calls Try.prog 117 #[.int .i64 x, .int .i64 y] w fun e w' => e = .returned (.int .i64 (cmpI x y)) ∧ w' = w := by
  obtain ⟨r, hr⟩ : ∃ r, cmpI x y = r := ⟨_, rfl⟩
  rw [hr]
  have HR := hid hr
  clear hr
  go_enter Try.func117, Try.ntmps117
  go_wp2_with fail
  refine (isNaN_any x w).mono ?_
  rintro e w1 ⟨rfl, rfl⟩
  go_wp2_with fail
  refine (isNaN_any y w1).mono ?_
  rintro e w2 ⟨rfl, rfl⟩
  by_cases h1 : x < y
  · go_wp2_with fail
    go_ret
    refine ⟨ret_int ?_, rfl⟩
    have := HR.out
    rw [cmpI, if_pos h1] at this
    exact this
  · by_cases h2 : y < x
    · go_wp2_with fail
      go_ret
      refine ⟨ret_int ?_, rfl⟩
      have := HR.out
      rw [cmpI, if_neg (by omega), if_pos h2] at this
      exact this
    · go_wp2_with fail
      go_ret
      refine ⟨ret_int ?_, rfl⟩
      have := HR.out
      rw [cmpI, if_neg (by omega), if_neg (by omega)] at this
      exact this

/-- the first that is not zero -/
def orI : List Int → Int
  | [] => 0
  | x :: l => if x = 0 then orI l else x

theorem orI_at {zs : List Int} {j : Nat} (h : j < zs.length) : orI (zs.drop j) = if zs.getD j 0 = 0 then orI (zs.drop (j + 1)) else zs.getD j 0 := by
  rw [List.drop_eq_getElem_cons h, orI, List.getD_eq_getElem?_getD, List.getElem?_eq_getElem h]; rfl

set_option maxHeartbeats 1000000 in
theorem or_any (b cap : Nat) (zs : List Int) (w : World) (hn : zs.length ≤ 8) (hc : ∀ j, j < zs.length → w.cell? ⟨b, j, none⟩ = some (.int .i64 (zs.getD j 0))) :
    Calls Try.prog 116 #[.slice (some ⟨b, 0, none⟩) zs.length cap] w fun e w' => e = .returned (.int .i64 (orI zs)) ∧ w' = w := by
  have HC := hid hc
  clear hc
  go_enter Try.func116, Try.ntmps116
  go_wp2_with fail
  go_loopw [8] (fun i wr => ∃ j : Nat, j ≤ zs.length ∧ i = .int .i64 j ∧ wr = w ∧ orI (zs.drop j) = orI zs) (fun i _ => zs.length - (intOf i).toNat)
  case atStart => exact ⟨0, by omega, rfl, rfl, by rw [List.drop_zero]⟩
  case round =>
    obtain ⟨j, hj, rfl, rfl, ho⟩ := hrel
    have HO := hid ho
    clear ho
    by_cases hlt : j < zs.length
    · have hcj := HC.out j hlt
      have HS := hid (orI_at hlt)
      obtain ⟨x, hx⟩ : ∃ x, zs.getD j 0 = x := ⟨_, rfl⟩
      rw [hx] at hcj
      have HX := hid hx
      clear hx
      by_cases h0 : x = 0
      · have h1 : (x == 0) = true := by simp [h0]
        have H0 := hid h0
        clear h0
        go_wp2_with fail
        go_roundw
        case rel =>
          have hs := HS.out
          rw [HX.out, if_pos H0.out, HO.out] at hs
          exact ⟨j + 1, by omega, by go_num, by trivial, hs.symm⟩
        case measure => simp [intOf]; omega
      · have h1 : (x == 0) = false := by simp [h0]
        have H0 := hid h0
        clear h0
        go_wp2_with fail
        go_ret
        refine ⟨ret_int ?_, rfl⟩
        have hs := HS.out
        rw [HX.out, if_neg H0.out, HO.out] at hs
        exact hs.symm
    · have hz : (0 : Int) = orI zs := by rw [← HO.out, List.drop_eq_nil_of_le (by omega)]; rfl
      have HZ := hid hz
      clear hz
      go_wp2_with fail
      go_ret
      exact ⟨ret_int HZ.out, rfl⟩

theorem three_cells (w : World) (x y z : Int) (t : TypeId) : ∀ j, j < [x, y, z].length → (w.alloc (.cells #[.int .i64 x, .int .i64 y, .int .i64 z] t)).cell? ⟨w.heap.size, j, none⟩ = some (.int .i64 ([x, y, z].getD j 0)) := by
  intro j hj
  rw [cell_of_row _ _ j _ _ (0, 0) (heap_alloc_new w _)]
  match j, hj with
  | 0, _ => rfl
  | 1, _ => rfl
  | 2, _ => rfl
  | j + 3, h => simp at h; omega

theorem three_drew (w : World) (x y z : Int) (t : TypeId) : ∀ j, j < [x, y, z].length → (w.alloc (.cells #[.int .i64 x, .int .i64 y, .int .i64 z] t)).drew.cell? ⟨w.heap.size, j, none⟩ = some (.int .i64 ([x, y, z].getD j 0)) := fun j hj => three_cells w x y z t j hj

/-- the elder first -/
def cmpU (a b : Up) : Int := orI [cmpI a.age b.age, cmpI a.o b.o, cmpI a.seq b.seq]

/-- some blocks more, some draws: nothing else -/
def Lays (w w' : World) : Prop := ∃ q os, w' = Sort.grow (w.drewN q) os
theorem Lays.below {w w' : World} (h : Lays w w') : Below w.heap.size w w' := by
  obtain ⟨q, os, rfl⟩ := h
  refine ⟨rfl, rfl, rfl, ?_, fun k hk => ?_⟩
  · show w.heap.size ≤ (w.heap ++ os).size
    rw [Array.size_append]; omega
  · show (w.heap ++ os)[k]? = _
    rw [Array.getElem?_append_left hk]
theorem Lays.refl (w : World) : Lays w w := ⟨0, #[], by simp [Sort.grow, World.drewN]⟩
theorem Lays.alloc {w w' : World} (h : Lays w w') (o : Obj) : Lays w (w'.alloc o) := by
  obtain ⟨q, os, rfl⟩ := h
  exact ⟨q, os.push o, by show { w with heap := (w.heap ++ os).push o, drawn := w.drawn + q } = { w with heap := w.heap ++ os.push o, drawn := w.drawn + q }; rw [Array.push_append]⟩
theorem Lays.drew {w w' : World} (h : Lays w w') : Lays w w'.drew := by
  obtain ⟨q, os, rfl⟩ := h
  exact ⟨q + 1, os, by simp [Sort.grow, World.drewN, World.drew, Nat.add_assoc]⟩
theorem Lays.trans {a b c : World} (h : Lays a b) (k : Lays b c) : Lays a c := by
  obtain ⟨q, os, rfl⟩ := h
  obtain ⟨q', os', rfl⟩ := k
  exact ⟨q + q', os ++ os', by simp [Sort.grow, World.drewN, Nat.add_assoc, Array.append_assoc]⟩

set_option maxRecDepth 16000 in
set_option maxHeartbeats 1000000 in
theorem rankCmp_any (a b : Up) (w : World) :
    Calls Try.prog 108 #[rkV a, rkV b] w fun e w' => e = .returned (.int .i64 (cmpU a b)) ∧ Lays w w' := by
  unfold rkV
  go_enter Try.func108, Try.ntmps108
  go_wp2_with fail
  have ka : (w.alloc (.cells #[.int .i64 a.age, .int .i64 a.id.1, .int .i64 a.id.2] 120)).heap[w.heap.size]? = some (.cells #[.int .i64 a.age, .int .i64 a.id.1, .int .i64 a.id.2] 120 (0, 0)) := heap_alloc_new w _
  have la : Below w.heap.size w (w.alloc (.cells #[.int .i64 a.age, .int .i64 a.id.1, .int .i64 a.id.2] 120)) := (Below.refl _ _).alloc (Nat.le_refl _) _
  have za : (w.alloc (.cells #[.int .i64 a.age, .int .i64 a.id.1, .int .i64 a.id.2] 120)).heap.size = w.heap.size + 1 := by simp
  have ra : Lays w (w.alloc (.cells #[.int .i64 a.age, .int .i64 a.id.1, .int .i64 a.id.2] 120)) := (Lays.refl _).alloc _
  generalize w.alloc (.cells #[.int .i64 a.age, .int .i64 a.id.1, .int .i64 a.id.2] 120) = w1 at *
  have kb : (w1.alloc (.cells #[.int .i64 b.age, .int .i64 b.id.1, .int .i64 b.id.2] 120)).heap[w1.heap.size]? = some (.cells #[.int .i64 b.age, .int .i64 b.id.1, .int .i64 b.id.2] 120 (0, 0)) := heap_alloc_new w1 _
  have lb : Below w1.heap.size w1 (w1.alloc (.cells #[.int .i64 b.age, .int .i64 b.id.1, .int .i64 b.id.2] 120)) := (Below.refl _ _).alloc (Nat.le_refl _) _
  have R2 : Hid (Lays w (w1.alloc (.cells #[.int .i64 b.age, .int .i64 b.id.1, .int .i64 b.id.2] 120))) := ra.alloc _
  generalize w1.alloc (.cells #[.int .i64 b.age, .int .i64 b.id.1, .int .i64 b.id.2] 120) = w2 at *
  rw [za] at kb
  have ka2 := (lb.block _ (by omega)).trans ka
  have HSO : Hid (∀ w', Below w2.heap.size w2 w' → Below w2.heap.size w2 w' ∧ w'.cell? ⟨w.heap.size, 0, none⟩ = some (.int .i64 a.age) ∧ w'.cell? ⟨w.heap.size, 1, none⟩ = some (.int .i64 a.id.1) ∧ w'.cell? ⟨w.heap.size, 2, none⟩ = some (.int .i64 a.id.2) ∧ w'.cell? ⟨w.heap.size + 1, 0, none⟩ = some (.int .i64 b.age) ∧ w'.cell? ⟨w.heap.size + 1, 1, none⟩ = some (.int .i64 b.id.1) ∧ w'.cell? ⟨w.heap.size + 1, 2, none⟩ = some (.int .i64 b.id.2)) := fun w' h => by
    have q1 := (h.block _ (lt_of_block ka2)).trans ka2
    have q2 := (h.block _ (lt_of_block kb)).trans kb
    exact ⟨h, by rw [cell_of_row w' _ 0 _ _ (0, 0) q1]; rfl, by rw [cell_of_row w' _ 1 _ _ (0, 0) q1]; rfl, by rw [cell_of_row w' _ 2 _ _ (0, 0) q1]; rfl, by rw [cell_of_row w' _ 0 _ _ (0, 0) q2]; rfl, by rw [cell_of_row w' _ 1 _ _ (0, 0) q2]; rfl, by rw [cell_of_row w' _ 2 _ _ (0, 0) q2]; rfl⟩
  clear ka la za kb lb ka2 ra
  go_region_held3 (fun w' => Below w2.heap.size w2 w' ∧ w'.cell? ⟨w.heap.size, 0, none⟩ = some (.int .i64 a.age) ∧ w'.cell? ⟨w.heap.size, 1, none⟩ = some (.int .i64 a.id.1) ∧ w'.cell? ⟨w.heap.size, 2, none⟩ = some (.int .i64 a.id.2) ∧ w'.cell? ⟨w.heap.size + 1, 0, none⟩ = some (.int .i64 b.age) ∧ w'.cell? ⟨w.heap.size + 1, 1, none⟩ = some (.int .i64 b.id.1) ∧ w'.cell? ⟨w.heap.size + 1, 2, none⟩ = some (.int .i64 b.id.2))
    (first | exact HSO.out _ ((Below.refl _ _).drew) | exact HSO.out _ (((Below.refl _ _).alloc (Nat.le_refl _) _).drew))
    (first | (go_at_call 117; refine (compare_any _ _ _).mono ?_; rintro e w' ⟨rfl, rfl⟩)
           | (go_at_call 116; refine (or_any w2.heap.size 3 [cmpI a.age b.age, cmpI a.id.1 b.id.1, cmpI a.id.2 b.id.2] _ (by simp) (three_drew w2 _ _ _ 3)).mono ?_; rintro e w' ⟨rfl, rfl⟩))
  have HZ : Hid (orI [cmpI a.age b.age, cmpI a.id.1 b.id.1, cmpI a.id.2 b.id.2] = cmpU a b) := rfl
  go_wp2_with fail
  go_ret
  exact ⟨ret_int HZ.out, (R2.out.alloc _).drew⟩

set_option maxRecDepth 16000 in
set_option maxHeartbeats 1000000 in
theorem byAge_cmp (a b : Up) (w : World) :
    Calls Try.prog 107 #[insV a, insV b] w fun e w' => e = .returned (.int .i64 (cmpU a b)) ∧ Lays w w' := by
  unfold insV
  go_enter Try.func107, Try.ntmps107
  go_wp2_with fail
  refine (rankCmp_any a b _).mono ?_
  rintro e w' ⟨rfl, hb⟩
  have HB := hid hb
  clear hb
  go_wp2_with fail
  go_ret
  exact ⟨rfl, (((Lays.refl _).alloc _).alloc _).trans HB.out⟩
end Go.Proofs.Yteljbblbdiploaa

namespace Go.Proofs.Yteljbblbdiploaa
open Go.RowKit Go.Shelf

theorem bears_of {P : Program} {f : Nat} {b : Func} (h1 : ((P.funcs[f]?).map fun g => g.name == "runtime.NumGoroutine") = some false) (h2 : ((P.funcs[f]?).map fun g => { g with name := "" }) = some { b with name := "" }) : Bears P f b := by
  cases hg : P.funcs[f]? with
  | none => rw [hg] at h2; cases h2
  | some g =>
    rw [hg] at h1 h2
    simp only [Option.map_some, Option.some.injEq] at h1 h2
    refine ⟨g.name, h1, hg.trans ?_⟩
    obtain ⟨n1, o1, a1, p1, r1, f1, t1, s1, b1, c1, u1, l1, e1, m1, k1, q1⟩ := g
    obtain ⟨n2, o2, a2, p2, r2, f2, t2, s2, b2, c2, u2, l2, e2, m2, k2, q2⟩ := b
    simp only [Func.mk.injEq, true_and] at h2
    simp [h2]
def sortLRen : Ren := ⟨fun x => if x = 6 then 74 else if x = 8 then 88 else if x = 9 then 87 else if x = 19 then 104 else if x = 20 then 105 else if x = 21 then 95 else if x = 22 then 96 else if x = 23 then 97 else if x = 24 then 98 else if x = 25 then 99 else if x = 26 then 100 else if x = 27 then 101 else if x = 28 then 102 else if x = 29 then 103 else if x = 36 then 109 else if x = 31 then 110 else if x = 32 then 111 else if x = 37 then 112 else if x = 38 then 113 else if x = 39 then 114 else if x = 41 then 118 else x, fun x => if x = 27 then 39 else if x = 29 then 9 else if x = 3 then 3 else if x = 32 then 85 else if x = 26 then 39 else if x = 0 then 0 else if x = 44 then 83 else if x = 46 then 145 else if x = 4 then 4 else if x = 36 then 137 else if x = 35 then 136 else if x = 41 then 141 else if x = 5 then 5 else if x = 9 then 9 else if x = 53 then 150 else if x = 57 then 154 else if x = 63 then 158 else if x = 64 then 159 else x, fun n => n⟩
theorem Try.sortL : SlLaysM.n6 Try.prog sortLRen := by
  constructor <;> first | (intro w; kernel_rfl) | kernel_rfl | exact bears_of (by kernel_rfl) (by kernel_rfl)
def compLRen : Ren := ⟨fun x => if x = 43 then 75 else x, fun x => if x = 22 then 39 else if x = 23 then 9 else if x = 3 then 3 else if x = 4 then 4 else if x = 0 then 0 else x, fun n => n⟩
theorem Try.compL : SlLaysE.n43 Try.prog compLRen := by
  constructor <;> first | (intro w; kernel_rfl) | kernel_rfl | exact bears_of (by kernel_rfl) (by kernel_rfl)
def sfLRen : Ren := ⟨fun x => if x = 6 then 106 else if x = 15 then 88 else if x = 14 then 115 else if x = 28 then 104 else if x = 29 then 105 else if x = 20 then 119 else if x = 21 then 120 else if x = 22 then 121 else if x = 23 then 122 else if x = 24 then 123 else if x = 25 then 124 else if x = 26 then 125 else if x = 27 then 126 else if x = 46 then 128 else if x = 47 then 110 else if x = 48 then 111 else if x = 49 then 129 else if x = 50 then 130 else if x = 57 then 131 else x, fun x => if x = 22 then 130 else if x = 24 then 122 else if x = 25 then 148 else if x = 3 then 3 else if x = 39 then 85 else if x = 0 then 0 else if x = 53 then 83 else if x = 55 then 145 else if x = 4 then 4 else if x = 46 then 137 else if x = 45 then 136 else if x = 50 then 141 else if x = 5 then 5 else if x = 9 then 9 else if x = 66 then 150 else if x = 70 then 154 else if x = 76 then 158 else if x = 77 then 159 else x, fun n => n⟩
theorem Try.sfL : SlLaysF0.n6 Try.prog sfLRen := by
  constructor <;> first | (intro w; kernel_rfl) | kernel_rfl | exact bears_of (by kernel_rfl) (by kernel_rfl)
end Go.Proofs.Yteljbblbdiploaa
