/-
  WALKS: package wire's readUpdate.
-/
import Derived.Test.YteljbblbdiploaaBlk
import Derived.Deep.RegionLaw
import Derived.Deep.DeepCutAuto
namespace Go.Proofs.Yteljbblbdiploaa
open Go.RowKit

theorem three_start (w : World) (l : List UInt8) : AtR (((w.alloc (.cells #[.int .i64 0, .slice none 0 0, .int .u8 0, .int .u8 0, .string ⟨#[]⟩, .string ⟨#[]⟩, .int .i64 0, .int .i64 0, .int .i64 0] 28)).alloc (.cells #[.string ⟨l.toArray⟩] 89)).alloc (.cells #[.int .i64 0, .slice none 0 0, .int .u8 0, .int .u8 0, .string ⟨#[]⟩, .string ⟨#[]⟩, .int .i64 0, .int .i64 0, .int .i64 0] 28)) (w.heap.size + 1) l 0 ∧
    Ub (((w.alloc (.cells #[.int .i64 0, .slice none 0 0, .int .u8 0, .int .u8 0, .string ⟨#[]⟩, .string ⟨#[]⟩, .int .i64 0, .int .i64 0, .int .i64 0] 28)).alloc (.cells #[.string ⟨l.toArray⟩] 89)).alloc (.cells #[.int .i64 0, .slice none 0 0, .int .u8 0, .int .u8 0, .string ⟨#[]⟩, .string ⟨#[]⟩, .int .i64 0, .int .i64 0, .int .i64 0] 28)) w.heap.size (.int .i64 0) (.slice none 0 0) (.int .u8 0) (.int .u8 0) (.string ⟨#[]⟩) (.string ⟨#[]⟩) (.int .i64 0) (.int .i64 0) (.int .i64 0) ∧
    Ub (((w.alloc (.cells #[.int .i64 0, .slice none 0 0, .int .u8 0, .int .u8 0, .string ⟨#[]⟩, .string ⟨#[]⟩, .int .i64 0, .int .i64 0, .int .i64 0] 28)).alloc (.cells #[.string ⟨l.toArray⟩] 89)).alloc (.cells #[.int .i64 0, .slice none 0 0, .int .u8 0, .int .u8 0, .string ⟨#[]⟩, .string ⟨#[]⟩, .int .i64 0, .int .i64 0, .int .i64 0] 28)) (w.heap.size + 1 + 1) (.int .i64 0) (.slice none 0 0) (.int .u8 0) (.int .u8 0) (.string ⟨#[]⟩) (.string ⟨#[]⟩) (.int .i64 0) (.int .i64 0) (.int .i64 0) ∧
    Below w.heap.size w (((w.alloc (.cells #[.int .i64 0, .slice none 0 0, .int .u8 0, .int .u8 0, .string ⟨#[]⟩, .string ⟨#[]⟩, .int .i64 0, .int .i64 0, .int .i64 0] 28)).alloc (.cells #[.string ⟨l.toArray⟩] 89)).alloc (.cells #[.int .i64 0, .slice none 0 0, .int .u8 0, .int .u8 0, .string ⟨#[]⟩, .string ⟨#[]⟩, .int .i64 0, .int .i64 0, .int .i64 0] 28)) := by
  refine ⟨?_, ?_, ?_, (((Below.refl _ _).alloc (Nat.le_refl _) _).alloc (by simp) _).alloc (by simp; omega) _⟩
  · exact (Below.heap_alloc _ _ _ (by simp)).trans (heap_new_at _ _ _ (by simp))
  · exact (Below.heap_alloc _ _ _ (by simp; omega)).trans ((Below.heap_alloc _ _ _ (by simp)).trans (heap_alloc_new w _))
  · exact heap_new_at _ _ _ (by simp)

theorem read_one (v : Int) : ∀ u ∈ [Value.int .i64 v], u.oneCell' = true := by simp; rfl
theorem read_own {w w2 : World} {N : Nat} {sl : Value} {j : Nat} {xs : List Value} (h : w.ownsRow (N + 3) 3 1 sl j xs) (hg : w.drew.grownBy w2 (some (N + 1))) : w2.ownsRow (N + 3) 3 1 sl j xs := by
  have h' : w.drew.ownsRow (N + 3) 3 1 sl j xs := h
  refine h'.kept hg ?_
  cases hb : sl.ownBlock with
  | none => exact .inl rfl
  | some k => right; intro e; cases e; have := (h.lt _ hb).1; omega
theorem read_free1 {w w2 : World} {N : Nat} {v : Value} (hc : w.cell? ⟨N + 1 + 1, 1, none⟩ = some v) (hf : w.frozen? ⟨N + 1 + 1, 1, none⟩ = false) (hg : w.drew.grownBy w2 (some (N + 1))) : w2.frozen? ⟨N + 1 + 1, 1, none⟩ = false := by
  have hlt := lt_of_cell hc
  rw [World.frozen?_of_block (w := w.drew) (hg.block (N + 1 + 1) hlt (by simp))]; exact hf
theorem row_ne {w : World} {N : Nat} {sl : Value} {j : Nat} {xs : List Value} (h : w.ownsRow (N + 3) 3 1 sl j xs) : some (N + 1 + 1) ≠ sl.ownBlock := by
  intro e
  have := (h.lt _ e.symm).1
  omega
theorem read_cell {w w3 : World} {N : Nat} {v sl : Value} {j : Nat} {xs : List Value} {o : Obj} (hc : w.cell? ⟨N + 1 + 1, 1, none⟩ = some v) (hg : (w.alloc o).grownBy w3 sl.ownBlock) (h : w.ownsRow (N + 3) 3 1 sl j xs) : w3.cell? ⟨N + 1 + 1, 1, none⟩ = some v := by
  have hlt := lt_of_cell hc
  exact hg.cell ((World.cell?_alloc_past o _ _ hlt).trans hc) (row_ne h)
theorem read_free {w w3 : World} {N : Nat} {v sl : Value} {j : Nat} {xs : List Value} {o : Obj} (hc : w.cell? ⟨N + 1 + 1, 1, none⟩ = some v) (hf : w.frozen? ⟨N + 1 + 1, 1, none⟩ = false) (hg : (w.alloc o).grownBy w3 sl.ownBlock) (h : w.ownsRow (N + 3) 3 1 sl j xs) : w3.frozen? ⟨N + 1 + 1, 1, none⟩ = false := by
  have hlt := lt_of_cell hc
  rw [World.frozen?_of_block (w := w.alloc o) (hg.block (N + 1 + 1) (by simp; omega) (row_ne h)), World.frozen?_of_block (w := w) (Below.heap_alloc w o _ hlt)]; exact hf

theorem read_step {W w w2 w3 : World} {l : List UInt8} {j : Nat} {sl v : Value} {c : Int} {o : Obj} (hR : Ub w W.heap.size (.int .i64 0) (.slice none 0 0) (.int .u8 0) (.int .u8 0) (.string ⟨#[]⟩) (.string ⟨#[]⟩) (.int .i64 0) (.int .i64 0) (.int .i64 0)) (hU : Ub w (W.heap.size + 1 + 1) (.int .i64 0) sl (.int .u8 0) (.int .u8 0) (.string ⟨#[]⟩) (.string ⟨#[]⟩) (.int .i64 0) (.int .i64 0) (.int .i64 0)) (hO : w2.ownsRow (W.heap.size + 3) 3 1 sl j (ics (clkAt l j)))
    (hB : Below W.heap.size W w) (hsz : W.heap.size + 3 ≤ w.heap.size) (hA2 : AtR w2 (W.heap.size + 1) l (1 + 2 * j + 2)) (hg2 : w.drew.grownBy w2 (some (W.heap.size + 1))) (hg3 : (w2.alloc o).grownBy w3 sl.ownBlock)
    (hO3 : w3.ownsRow (W.heap.size + 3) 3 1 v (j + 1) (ics (clkAt l j) ++ [.int .i64 c])) (hc : clkAt l (j + 1) = clkAt l j ++ [c]) :
    AtR (w3.setCell ⟨W.heap.size + 1 + 1, 1, none⟩ v) (W.heap.size + 1) l (1 + 2 * (j + 1)) ∧ Ub (w3.setCell ⟨W.heap.size + 1 + 1, 1, none⟩ v) W.heap.size (.int .i64 0) (.slice none 0 0) (.int .u8 0) (.int .u8 0) (.string ⟨#[]⟩) (.string ⟨#[]⟩) (.int .i64 0) (.int .i64 0) (.int .i64 0) ∧
    Ub (w3.setCell ⟨W.heap.size + 1 + 1, 1, none⟩ v) (W.heap.size + 1 + 1) (.int .i64 0) v (.int .u8 0) (.int .u8 0) (.string ⟨#[]⟩) (.string ⟨#[]⟩) (.int .i64 0) (.int .i64 0) (.int .i64 0) ∧ (w3.setCell ⟨W.heap.size + 1 + 1, 1, none⟩ v).ownsRow (W.heap.size + 3) 3 1 v (j + 1) (ics (clkAt l (j + 1))) ∧
    Below W.heap.size W (w3.setCell ⟨W.heap.size + 1 + 1, 1, none⟩ v) ∧ W.heap.size + 3 ≤ (w3.setCell ⟨W.heap.size + 1 + 1, 1, none⟩ v).heap.size := by
  have hrow : ∀ k, sl.ownBlock = some k → W.heap.size + 3 ≤ k := fun k hk => (hO.lt k hk).1
  have hne : ∀ k, k < W.heap.size + 3 → some k ≠ sl.ownBlock := fun k hk e => by have := hrow k e.symm; omega
  have hz2 : w.heap.size ≤ w2.heap.size := hg2.size
  have hz3 : w2.heap.size + 1 ≤ w3.heap.size := by have := hg3.size; simp at this; omega
  refine ⟨?_, ?_, ?_, ?_, ?_, ?_⟩
  · refine AtR.far ?_ v (by omega)
    refine AtR.grown (w := w2.alloc o) ?_ hg3 (hne _ (by omega))
    exact (Below.heap_alloc w2 o _ hA2.lt).trans hA2
  · refine Ub.far ?_ v (by omega)
    refine Ub.grown (w := w2.alloc o) (Ub.alloc ?_ o) hg3 (hne _ (by omega))
    exact Ub.grown (w := w.drew) hR hg2 (by simp)
  · refine Ub.set1 (a1 := sl) ?_ v
    refine Ub.grown (w := w2.alloc o) (Ub.alloc ?_ o) hg3 (hne _ (by omega))
    exact Ub.grown (w := w.drew) hU hg2 (by simp)
  · refine ownsRow_setCell_below ?_ (by simp) v
    rw [hc]
    simpa [ics] using hO3
  · refine Below.setCell ?_ (by show W.heap.size ≤ W.heap.size + 1 + 1; omega) v
    refine Below.grown (w := w2.alloc o) (Below.alloc ?_ (by omega) o) hg3 (by simp; omega) (fun k hk => by have := hrow k hk; omega)
    exact Below.grown (w := w.drew) hB.drew hg2 (by show W.heap.size ≤ w.heap.size; omega) (fun k hk => by cases hk; omega)
  · have : (w3.setCell ⟨W.heap.size + 1 + 1, 1, none⟩ v).heap.size = w3.heap.size := by simp [World.setCell]
    omega

theorem own_form {w : World} {base : Nat} {e : TypeId} {sl : Value} {j : Nat} {xs : List Value} (h : w.ownsRow base e 1 sl j xs) : ∃ ao cp, sl = .slice ao j cp := by
  rcases h.2 with ⟨rfl, rfl⟩ | ⟨g, cap, cur, rfl, _⟩
  · exact ⟨_, _, rfl⟩
  · exact ⟨_, _, rfl⟩

/-- how things stand while an update is read: the reader's place, the result's block, the update's own block, its clock -/
def RdSt (W w : World) (l : List UInt8) (p : Nat) (sl : Value) (n : Nat) (xs : List Value) (a0 a2 a3 a4 a5 a6 a7 a8 : Value) : Prop :=
  AtR w (W.heap.size + 1) l p ∧ Ub w W.heap.size (.int .i64 0) (.slice none 0 0) (.int .u8 0) (.int .u8 0) (.string ⟨#[]⟩) (.string ⟨#[]⟩) (.int .i64 0) (.int .i64 0) (.int .i64 0) ∧ Ub w (W.heap.size + 1 + 1) a0 sl a2 a3 a4 a5 a6 a7 a8 ∧ w.ownsRow (W.heap.size + 3) 3 1 sl n xs ∧ Below W.heap.size W w ∧ W.heap.size + 3 ≤ w.heap.size

section
variable {W w w' : World} {l : List UInt8} {p p' : Nat} {sl : Value} {n : Nat} {xs : List Value} {a0 a2 a3 a4 a5 a6 a7 a8 : Value}
theorem RdSt.call (h : RdSt W w l p sl n xs a0 a2 a3 a4 a5 a6 a7 a8) (hg : w.grownBy w' (some (W.heap.size + 1))) (hA : AtR w' (W.heap.size + 1) l p') : RdSt W w' l p' sl n xs a0 a2 a3 a4 a5 a6 a7 a8 := by
  obtain ⟨_, h2, h3, h4, h5, h6⟩ := h
  refine ⟨hA, h2.grown hg (by simp), h3.grown hg (by simp), h4.kept hg ?_, h5.grown hg (by omega) (fun k hk => by cases hk; omega), Nat.le_trans h6 hg.size⟩
  cases hb : sl.ownBlock with
  | none => exact .inl rfl
  | some k => right; intro e; cases e; have := (h4.lt _ hb).1; omega
theorem RdSt.cells (h : RdSt W w l p sl n xs a0 a2 a3 a4 a5 a6 a7 a8) : (∀ i, w.cell? ⟨W.heap.size + 1 + 1, i, none⟩ = (#[a0, sl, a2, a3, a4, a5, a6, a7, a8] : Array Value)[i]?) ∧ (∀ i, w.frozen? ⟨W.heap.size + 1 + 1, i, none⟩ = false) := h.2.2.1.cells
theorem RdSt.store (h : RdSt W w l p sl n xs a0 a2 a3 a4 a5 a6 a7 a8) (i : Nat) (v : Value) {b0 b2 b3 b4 b5 b6 b7 b8 : Value} (hu : Ub (w.setCell ⟨W.heap.size + 1 + 1, i, none⟩ v) (W.heap.size + 1 + 1) b0 sl b2 b3 b4 b5 b6 b7 b8) :
    RdSt W (w.setCell ⟨W.heap.size + 1 + 1, i, none⟩ v) l p sl n xs b0 b2 b3 b4 b5 b6 b7 b8 := by
  obtain ⟨h1, h2, h3, h4, h5, h6⟩ := h
  refine ⟨h1.far v (by omega), h2.far v (by omega), hu, ownsRow_setCell_below h4 (by simp) v, h5.setCell (by show W.heap.size ≤ W.heap.size + 1 + 1; omega) v, ?_⟩
  have : (w.setCell ⟨W.heap.size + 1 + 1, i, none⟩ v).heap.size = w.heap.size := by simp [World.setCell]
  omega
theorem RdSt.st0 (h : RdSt W w l p sl n xs a0 a2 a3 a4 a5 a6 a7 a8) (v : Value) : RdSt W (w.setCell ⟨W.heap.size + 1 + 1, 0, none⟩ v) l p sl n xs v a2 a3 a4 a5 a6 a7 a8 := h.store 0 v (h.2.2.1.set0 v)
theorem RdSt.st2 (h : RdSt W w l p sl n xs a0 a2 a3 a4 a5 a6 a7 a8) (v : Value) : RdSt W (w.setCell ⟨W.heap.size + 1 + 1, 2, none⟩ v) l p sl n xs a0 v a3 a4 a5 a6 a7 a8 := h.store 2 v (h.2.2.1.set2 v)
theorem RdSt.st3 (h : RdSt W w l p sl n xs a0 a2 a3 a4 a5 a6 a7 a8) (v : Value) : RdSt W (w.setCell ⟨W.heap.size + 1 + 1, 3, none⟩ v) l p sl n xs a0 a2 v a4 a5 a6 a7 a8 := h.store 3 v (h.2.2.1.set3 v)
theorem RdSt.st4 (h : RdSt W w l p sl n xs a0 a2 a3 a4 a5 a6 a7 a8) (v : Value) : RdSt W (w.setCell ⟨W.heap.size + 1 + 1, 4, none⟩ v) l p sl n xs a0 a2 a3 v a5 a6 a7 a8 := h.store 4 v (h.2.2.1.set4 v)
theorem RdSt.st5 (h : RdSt W w l p sl n xs a0 a2 a3 a4 a5 a6 a7 a8) (v : Value) : RdSt W (w.setCell ⟨W.heap.size + 1 + 1, 5, none⟩ v) l p sl n xs a0 a2 a3 a4 v a6 a7 a8 := h.store 5 v (h.2.2.1.set5 v)
theorem RdSt.st6 (h : RdSt W w l p sl n xs a0 a2 a3 a4 a5 a6 a7 a8) (v : Value) : RdSt W (w.setCell ⟨W.heap.size + 1 + 1, 6, none⟩ v) l p sl n xs a0 a2 a3 a4 a5 v a7 a8 := h.store 6 v (h.2.2.1.set6 v)
theorem RdSt.st7 (h : RdSt W w l p sl n xs a0 a2 a3 a4 a5 a6 a7 a8) (v : Value) : RdSt W (w.setCell ⟨W.heap.size + 1 + 1, 7, none⟩ v) l p sl n xs a0 a2 a3 a4 a5 a6 v a8 := h.store 7 v (h.2.2.1.set7 v)
theorem RdSt.st8 (h : RdSt W w l p sl n xs a0 a2 a3 a4 a5 a6 a7 a8) (v : Value) : RdSt W (w.setCell ⟨W.heap.size + 1 + 1, 8, none⟩ v) l p sl n xs a0 a2 a3 a4 a5 a6 a7 v := h.store 8 v (h.2.2.1.set8 v)
end

set_option maxRecDepth 16000 in
set_option maxHeartbeats 4000000 in
theorem readUpdate_any (hT : TextSaid) (s : ByteArray) (w : World) (hs : s.size ≤ 140737488351232) :
    Calls Try.prog 31 #[.string s] w fun e w' => ∃ sl, e = .returned (.agg #[.int .i64 (byteAt s.data.toList (pO s.data.toList) : Nat), sl, .int .u8 (byteAt s.data.toList (pO s.data.toList + 1) : Nat), .int .u8 (byteAt s.data.toList (pO s.data.toList + 2) : Nat),
        .string ⟨(cutAt s.data.toList (pO s.data.toList + 4) (kN s.data.toList)).toArray⟩, .string ⟨(cutAt s.data.toList (pX s.data.toList + 1) (kX s.data.toList)).toArray⟩, .int .i64 (((pairAt s.data.toList (pA s.data.toList) : Nat) : Int) - 1000), .int .i64 (byteAt s.data.toList (pA s.data.toList + 2) : Nat), .int .i64 (pairAt s.data.toList (pA s.data.toList + 3) : Nat)]) ∧
      w'.ownsRow w.heap.size 3 1 sl (byteAt s.data.toList 0) (ics (clkAt s.data.toList (byteAt s.data.toList 0))) ∧ Below w.heap.size w w' := by
  obtain ⟨i0, hi, hz0, hz1, hz2⟩ := info_parts Try.infoInt
  obtain ⟨l, hl⟩ : ∃ l, l = s.data.toList := ⟨_, rfl⟩
  rw [← hl]
  have hll : l.length ≤ 140737488351232 := by rw [hl, Array.length_toList]; exact hs
  have hlm : l.length ≤ maxLen := by unfold maxLen; omega
  have hsl : s = ⟨(l.drop 0).toArray⟩ := by rw [hl]; rfl
  clear hl
  subst hsl
  have hn := byteAt_lt l 0
  go_enter Try.func31, Try.ntmps31
  go_wp2_with fail
  obtain ⟨hA, hR, hU, hB⟩ := three_start w l
  refine (single_any (w.heap.size + 1) l 0 _ hA hlm).mono ?_
  rintro e w1 ⟨rfl, hA1, hg1⟩
  have HA1 := hid hA1
  have HR1 := hid (hR.grown hg1 (by simp))
  have HU1 := hid (hU.grown hg1 (by simp))
  have HB1 := hid (hB.grown hg1 (by simp; omega) (fun k hk => by cases hk; omega))
  have hz1' : w.heap.size + 3 ≤ w1.heap.size := by have := hg1.size; simp at this; omega
  clear hA hR hU hB hA1 hg1
  have HNB : Hid (byteAt l 0 < 256) := hn
  generalize hn0 : byteAt l 0 = n at *
  have HN0 := hid hn0
  clear hn0
  go_wp2_with fail
  go_loopw [8] (fun i wr => ∃ (j : Nat) (sl : Value), j ≤ n ∧ i = .int .i64 j ∧ AtR wr (w.heap.size + 1) l (1 + 2 * j) ∧ Ub wr w.heap.size (.int .i64 0) (.slice none 0 0) (.int .u8 0) (.int .u8 0) (.string ⟨#[]⟩) (.string ⟨#[]⟩) (.int .i64 0) (.int .i64 0) (.int .i64 0) ∧ Ub wr (w.heap.size + 1 + 1) (.int .i64 0) sl (.int .u8 0) (.int .u8 0) (.string ⟨#[]⟩) (.string ⟨#[]⟩) (.int .i64 0) (.int .i64 0) (.int .i64 0) ∧
      wr.ownsRow (w.heap.size + 3) 3 1 sl j (ics (clkAt l j)) ∧ Below w.heap.size w wr ∧ w.heap.size + 3 ≤ wr.heap.size) (fun i _ => n - (intOf i).toNat)
  case atStart => exact ⟨0, _, by omega, rfl, HA1.out, HR1.out, HU1.out, World.ownsRow_nil _ _ _ _, HB1.out, hz1'⟩
  case round =>
    obtain ⟨j, sl, hj, rfl, hA, hR, hU, hown, hB, hsz⟩ := hrel
    have HA := hid hA
    have HR := hid hR
    have HU := hid hU
    have HO := hid hown
    have HB := hid hB
    clear hA hR hU hown hB
    by_cases hlt : j < n
    · have q1 : wr.cell? ⟨w.heap.size + 1 + 1, 1, none⟩ = some sl := by rw [HU.out.cells.1]; rfl
      have f1 := HU.out.cells.2 1
      have hpl := pairAt_lt l (1 + 2 * j)
      have hn63 : j + 1 ≤ maxLen := by unfold maxLen; omega
      have hn47 : (j + 1) * 8 ≤ 140737488355328 := by omega
      have HSU : Hid (clkAt l (j + 1) = clkAt l j ++ [((pairAt l (1 + 2 * j) : Nat) : Int)]) := clkAt_succ l j
      go_wp2_with fail
      go_region_law (first
        | (refine step_append_lies _ (by rfl) (.tmp 11) (.tmp 13) 22 (by rfl) (w.heap.size + 3) 3 i0 (.int .i64 0) 1 8 Try.underlying22 hi hz0 hz1 hz2 rfl (by decide) sl j (ics (clkAt l j)) (by rfl) (World.ownsRow.alloc HO2.out _) ⟨w2.heap.size, 0, none⟩ 1 1 [.int .i64 (pairAt l (1 + 2 * j) : Nat)] (by rfl) rfl (World.news_of_block (heap_alloc_new w2 _)) (read_one _) (by decide) hn63 hn47 hbase2 (w2.heap.size + 1) (by simp) ?_; intro g c3 w3 hown3 hg3 hat3 hlt3; have q3 : w3.cell? ⟨w.heap.size + 1 + 1, 1, none⟩ = some sl := read_cell q2 hg3 HO2.out; have f3 : w3.frozen? ⟨w.heap.size + 1 + 1, 1, none⟩ = false := read_free q2 f2 hg3 HO2.out; have HO3 := hid hown3; have HG3 := hid hg3; clear hown3 hg3)
        | (go_simp; go_at_call 58; refine (pair_any (w.heap.size + 1) l (1 + 2 * j) _ ?_ hlm).mono ?_; (exact HA.out); rintro e w2 ⟨rfl, hA2, hg2⟩; have q2 : w2.cell? ⟨w.heap.size + 1 + 1, 1, none⟩ = some sl := (hg2.cell (show World.cell? _ _ = _ from q1) (by simp)); have f2 : w2.frozen? ⟨w.heap.size + 1 + 1, 1, none⟩ = false := (read_free1 q1 f1 hg2); have HO2 := hid (read_own HO.out hg2); have z2 : w.heap.size + 1 + 1 < w2.heap.size := lt_of_cell q2; have hbase2 : w.heap.size + 3 ≤ (w2.alloc (.cells #[.int .i64 (pairAt l (1 + 2 * j) : Nat)] 3)).heap.size := (by have := hg2.size; simp at this ⊢; omega); have HA2 := hid hA2; have HG2 := hid hg2; clear hA2 hg2))
      all_goals
        have R := read_step HR.out HU.out HO2.out HB.out hsz HA2.out HG2.out HG3.out HO3.out HSU.out
        obtain ⟨r1, r2, r3, r4, r5, r6⟩ := R
        have R1 := hid r1
        have R2 := hid r2
        have R3 := hid r3
        have R4 := hid r4
        have R5 := hid r5
        have R6 := hid r6
        clear r1 r2 r3 r4 r5 r6 q1 f1 q2 f2 q3 f3 hbase2
        go_wp2
        go_roundw
        case rel => exact ⟨j + 1, _, by omega, by go_num, R1.out, R2.out, R3.out, R4.out, R5.out, R6.out⟩
        case measure => simp [intOf]; omega
    · have hjn : j = n := by omega
      subst hjn
      have hpO : 1 + 2 * j = pO l := by rw [pO, HN0.out]
      obtain ⟨ao, cp, hsl⟩ := own_form HO.out
      subst hsl
      have H := hid (show RdSt w wr l (pO l) (.slice ao j cp) j (ics (clkAt l j)) (.int .i64 0) (.int .u8 0) (.int .u8 0) (.string ⟨#[]⟩) (.string ⟨#[]⟩) (.int .i64 0) (.int .i64 0) (.int .i64 0) from ⟨by rw [← hpO]; exact HA.out, HR.out, HU.out, HO.out, HB.out, hsz⟩)
      clear hpO HA HR HU HO HB
      go_wp2_with fail
      refine (single_any (w.heap.size + 1) l (pO l) _ H.out.1 hlm).mono ?_
      rintro e v1 ⟨rfl, hA1, hg1⟩
      have K1 := H.out.call hg1 hA1
      obtain ⟨hc1, hf1⟩ := K1.cells
      clear hg1 hA1
      have hbx1 := byteAt_lt l (pO l)
      generalize hex1 : byteAt l (pO l) = x1 at *
      have HEx1 := hid hex1
      clear hex1
      have H1 := hid (K1.st0 (.int .i64 (x1 : Nat)))
      clear K1
      go_wp2_with fail
      clear hc1 hf1
      refine (single_any (w.heap.size + 1) l (pO l + 1) _ H1.out.1 hlm).mono ?_
      rintro e v2 ⟨rfl, hA2, hg2⟩
      have K2 := H1.out.call hg2 hA2
      obtain ⟨hc2, hf2⟩ := K2.cells
      clear hg2 hA2
      have hbx2 := byteAt_lt l (pO l + 1)
      generalize hex2 : byteAt l (pO l + 1) = x2 at *
      have HEx2 := hid hex2
      clear hex2
      have H2 := hid (K2.st2 (.int .u8 (x2 : Nat)))
      clear K2
      go_wp2_with fail
      clear hc2 hf2
      refine (single_any (w.heap.size + 1) l (pO l + 2) _ H2.out.1 hlm).mono ?_
      rintro e v3 ⟨rfl, hA3, hg3⟩
      have K3 := H2.out.call hg3 hA3
      obtain ⟨hc3, hf3⟩ := K3.cells
      clear hg3 hA3
      have hbx3 := byteAt_lt l (pO l + 2)
      generalize hex3 : byteAt l (pO l + 2) = x3 at *
      have HEx3 := hid hex3
      clear hex3
      have H3 := hid (K3.st3 (.int .u8 (x3 : Nat)))
      clear K3
      go_wp2_with fail
      clear hc3 hf3
      refine (hT (w.heap.size + 1) l (pO l + 3) _ H3.out.1 hll).mono ?_
      rintro e v4 ⟨rfl, hA4, hg4⟩
      have K4 := H3.out.call hg4 hA4
      obtain ⟨hc4, hf4⟩ := K4.cells
      clear hg4 hA4
      generalize hex4 : (⟨(cutAt l (pO l + 3 + 1) (byteAt l (pO l + 3))).toArray⟩ : ByteArray) = x4 at *
      have HEx4 := hid hex4
      clear hex4
      have H4 := hid (K4.st4 (.string x4))
      clear K4
      go_wp2_with fail
      clear hc4 hf4
      have HPX : Hid (pO l + 3 + 1 + byteAt l (pO l + 3) = pX l) := rfl
      generalize hpx : pO l + 3 + 1 + byteAt l (pO l + 3) = px at *
      clear hpx
      refine (hT (w.heap.size + 1) l px _ H4.out.1 hll).mono ?_
      rintro e v5 ⟨rfl, hA5, hg5⟩
      have K5 := H4.out.call hg5 hA5
      obtain ⟨hc5, hf5⟩ := K5.cells
      clear hg5 hA5
      generalize hex5 : (⟨(cutAt l (px + 1) (byteAt l px)).toArray⟩ : ByteArray) = x5 at *
      have HEx5 := hid hex5
      clear hex5
      have H5 := hid (K5.st5 (.string x5))
      clear K5
      go_wp2_with fail
      clear hc5 hf5
      have HPA : Hid (px + 1 + byteAt l px = pA l) := by rw [pA, kX, ← HPX.out]; rfl
      generalize hpa : px + 1 + byteAt l px = pa at *
      clear hpa
      refine (pair_any (w.heap.size + 1) l pa _ H5.out.1 hlm).mono ?_
      rintro e v6 ⟨rfl, hA6, hg6⟩
      have K6 := H5.out.call hg6 hA6
      obtain ⟨hc6, hf6⟩ := K6.cells
      clear hg6 hA6
      have hbx6 := pairAt_lt l pa
      generalize hex6 : pairAt l pa = x6 at *
      have HEx6 := hid hex6
      clear hex6
      have H6 := hid (K6.st6 (.int .i64 ((x6 : Nat) - 1000 : Int)))
      clear K6
      go_wp2_with fail
      clear hc6 hf6
      refine (single_any (w.heap.size + 1) l (pa + 2) _ H6.out.1 hlm).mono ?_
      rintro e v7 ⟨rfl, hA7, hg7⟩
      have K7 := H6.out.call hg7 hA7
      obtain ⟨hc7, hf7⟩ := K7.cells
      clear hg7 hA7
      have hbx7 := byteAt_lt l (pa + 2)
      generalize hex7 : byteAt l (pa + 2) = x7 at *
      have HEx7 := hid hex7
      clear hex7
      have H7 := hid (K7.st7 (.int .i64 (x7 : Nat)))
      clear K7
      go_wp2_with fail
      clear hc7 hf7
      refine (pair_any (w.heap.size + 1) l (pa + 2 + 1) _ H7.out.1 hlm).mono ?_
      rintro e v8 ⟨rfl, hA8, hg8⟩
      have K8 := H7.out.call hg8 hA8
      obtain ⟨hc8, hf8⟩ := K8.cells
      obtain ⟨hr8, hs8⟩ := K8.2.1.cells
      clear hg8 hA8
      generalize hex8 : pairAt l (pa + 2 + 1) = x8 at *
      have HEx8 := hid hex8
      clear hex8
      have H8 := hid (K8.st8 (.int .i64 (x8 : Nat)))
      clear K8
      go_wp2_with fail
      refine bodyPost_ret (v := .agg #[.int .i64 (x1 : Nat), .slice ao j cp, .int .u8 (x2 : Nat), .int .u8 (x3 : Nat), .string x4, .string x5, .int .i64 ((x6 : Nat) - 1000 : Int), .int .i64 (x7 : Nat), .int .i64 (x8 : Nat)]) ?_ rfl ⟨.slice ao j cp, ?_, ?_, ?_⟩
      · simp [results, Try.results31, go_sem, hr8]
      · have hpx := HPX.out
        have hpa := HPA.out
        subst hpx
        subst hpa
        rw [← HEx1.out, ← HEx2.out, ← HEx3.out, ← HEx4.out, ← HEx5.out, ← HEx6.out, ← HEx7.out, ← HEx8.out]
        rfl
      · rw [HN0.out]
        refine ownsRow_mono ?_ (show w.heap.size ≤ w.heap.size + 3 by omega)
        iterate 9 (refine ownsRow_setCell_below ?_ (by simp) _)
        exact H8.out.2.2.2.1
      · iterate 9 (refine Below.setCell ?_ (by simp) _)
        exact H8.out.2.2.2.2.1
end Go.Proofs.Yteljbblbdiploaa
