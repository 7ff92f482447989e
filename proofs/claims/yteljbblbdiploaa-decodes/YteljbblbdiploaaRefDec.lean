/-
  WALKS: the document's answer's Decode.
-/
import Derived.Test.YteljbblbdiploaaReadU
import Derived.Test.YteljbblbdiploaaBoth
namespace Go.Proofs.Yteljbblbdiploaa
open Go.RowKit

theorem number_one (s : ByteArray) (x : Int) (p : Nat) (w : World) (hs : s.size ≤ maxLen) (hx : x = (p : Int)) (hp : p ≤ 100000) :
    Calls Try.prog 32 #[.string s, .int .i64 x, .int .i64 1] w fun e w' => e = .returned (.int .i64 (byteAt s.data.toList p : Nat)) ∧ w' = w := by
  subst hx
  have := number_any s p 1 w hs hp (by omega)
  rw [bigAt_one] at this
  exact this
theorem number_two (s : ByteArray) (x : Int) (p : Nat) (w : World) (hs : s.size ≤ maxLen) (hx : x = (p : Int)) (hp : p ≤ 100000) :
    Calls Try.prog 32 #[.string s, .int .i64 x, .int .i64 2] w fun e w' => e = .returned (.int .i64 (pairAt s.data.toList p : Nat)) ∧ w' = w := by
  subst hx
  have := number_any s p 2 w hs hp (by omega)
  rw [bigAt_two] at this
  exact this
theorem text_at (s : ByteArray) (x y : Int) (p n : Nat) (w : World) (hs : s.size ≤ maxLen) (hx : x = (p : Int)) (hy : y = (n : Int)) (hp : p ≤ 100000) (hn : n ≤ 1000) :
    Calls Try.prog 33 #[.string s, .int .i64 x, .int .i64 y] w fun e w' => e = .returned (.string ⟨(textAt s.data.toList p n).toArray⟩) ∧ w' = w := by
  subst hx; subst hy
  exact text_any s p n w hs hp hn

theorem text_size (l : List UInt8) (p k : Nat) (hk : k ≤ 1000) : (⟨(textAt l p k).toArray⟩ : ByteArray).size ≤ maxLen := by
  have h1 : (⟨(textAt l p k).toArray⟩ : ByteArray).size = (textAt l p k).length := by show (textAt l p k).toArray.size = _; rw [List.size_toArray]
  have h2 : (textAt l p k).length ≤ k := by
    unfold textAt
    split
    · exact List.length_take_le _ _
    · simp
  rw [h1]; unfold maxLen; omega
/-- how things stand while the document's answer reads: the result's block, the update's own block, its clock -/
def RfSt (W w : World) (sl : Value) (n : Nat) (xs : List Value) (a0 a2 a3 a4 a5 a6 a7 a8 : Value) : Prop :=
  Ub w W.heap.size (.int .i64 0) (.slice none 0 0) (.int .u8 0) (.int .u8 0) (.string ⟨#[]⟩) (.string ⟨#[]⟩) (.int .i64 0) (.int .i64 0) (.int .i64 0) ∧ Ub w (W.heap.size + 1) a0 sl a2 a3 a4 a5 a6 a7 a8 ∧ w.ownsRow (W.heap.size + 2) 3 1 sl n xs ∧ Below W.heap.size W w ∧ W.heap.size + 2 ≤ w.heap.size

section
variable {W w w' : World} {sl : Value} {n : Nat} {xs : List Value} {a0 a2 a3 a4 a5 a6 a7 a8 : Value}
theorem RfSt.cells (h : RfSt W w sl n xs a0 a2 a3 a4 a5 a6 a7 a8) : (∀ i, w.cell? ⟨W.heap.size + 1, i, none⟩ = (#[a0, sl, a2, a3, a4, a5, a6, a7, a8] : Array Value)[i]?) ∧ (∀ i, w.frozen? ⟨W.heap.size + 1, i, none⟩ = false) := h.2.1.cells
theorem RfSt.store (h : RfSt W w sl n xs a0 a2 a3 a4 a5 a6 a7 a8) (i : Nat) (v : Value) {b0 b2 b3 b4 b5 b6 b7 b8 : Value} (hu : Ub (w.setCell ⟨W.heap.size + 1, i, none⟩ v) (W.heap.size + 1) b0 sl b2 b3 b4 b5 b6 b7 b8) :
    RfSt W (w.setCell ⟨W.heap.size + 1, i, none⟩ v) sl n xs b0 b2 b3 b4 b5 b6 b7 b8 := by
  obtain ⟨h2, h3, h4, h5, h6⟩ := h
  refine ⟨h2.far v (by omega), hu, ownsRow_setCell_below h4 (by simp) v, h5.setCell (by show W.heap.size ≤ W.heap.size + 1; omega) v, ?_⟩
  have : (w.setCell ⟨W.heap.size + 1, i, none⟩ v).heap.size = w.heap.size := by simp [World.setCell]
  omega
theorem RfSt.st0 (h : RfSt W w sl n xs a0 a2 a3 a4 a5 a6 a7 a8) (v : Value) : RfSt W (w.setCell ⟨W.heap.size + 1, 0, none⟩ v) sl n xs v a2 a3 a4 a5 a6 a7 a8 := h.store 0 v (h.2.1.set0 v)
theorem RfSt.st2 (h : RfSt W w sl n xs a0 a2 a3 a4 a5 a6 a7 a8) (v : Value) : RfSt W (w.setCell ⟨W.heap.size + 1, 2, none⟩ v) sl n xs a0 v a3 a4 a5 a6 a7 a8 := h.store 2 v (h.2.1.set2 v)
theorem RfSt.st3 (h : RfSt W w sl n xs a0 a2 a3 a4 a5 a6 a7 a8) (v : Value) : RfSt W (w.setCell ⟨W.heap.size + 1, 3, none⟩ v) sl n xs a0 a2 v a4 a5 a6 a7 a8 := h.store 3 v (h.2.1.set3 v)
theorem RfSt.st4 (h : RfSt W w sl n xs a0 a2 a3 a4 a5 a6 a7 a8) (v : Value) : RfSt W (w.setCell ⟨W.heap.size + 1, 4, none⟩ v) sl n xs a0 a2 a3 v a5 a6 a7 a8 := h.store 4 v (h.2.1.set4 v)
theorem RfSt.st5 (h : RfSt W w sl n xs a0 a2 a3 a4 a5 a6 a7 a8) (v : Value) : RfSt W (w.setCell ⟨W.heap.size + 1, 5, none⟩ v) sl n xs a0 a2 a3 a4 v a6 a7 a8 := h.store 5 v (h.2.1.set5 v)
theorem RfSt.st6 (h : RfSt W w sl n xs a0 a2 a3 a4 a5 a6 a7 a8) (v : Value) : RfSt W (w.setCell ⟨W.heap.size + 1, 6, none⟩ v) sl n xs a0 a2 a3 a4 a5 v a7 a8 := h.store 6 v (h.2.1.set6 v)
theorem RfSt.st7 (h : RfSt W w sl n xs a0 a2 a3 a4 a5 a6 a7 a8) (v : Value) : RfSt W (w.setCell ⟨W.heap.size + 1, 7, none⟩ v) sl n xs a0 a2 a3 a4 a5 a6 v a8 := h.store 7 v (h.2.1.set7 v)
theorem RfSt.st8 (h : RfSt W w sl n xs a0 a2 a3 a4 a5 a6 a7 a8) (v : Value) : RfSt W (w.setCell ⟨W.heap.size + 1, 8, none⟩ v) sl n xs a0 a2 a3 a4 a5 a6 a7 v := h.store 8 v (h.2.1.set8 v)
end

theorem ref_step {W w w3 : World} {l : List UInt8} {j : Nat} {sl v : Value} {c : Int} {o : Obj} (h : RfSt W w sl j (ics (clkAt l j)) (.int .i64 0) (.int .u8 0) (.int .u8 0) (.string ⟨#[]⟩) (.string ⟨#[]⟩) (.int .i64 0) (.int .i64 0) (.int .i64 0)) (hg : (w.alloc o).grownBy w3 sl.ownBlock)
    (hO3 : w3.ownsRow (W.heap.size + 2) 3 1 v (j + 1) (ics (clkAt l j) ++ [.int .i64 c])) (hc : clkAt l (j + 1) = clkAt l j ++ [c]) :
    RfSt W (w3.setCell ⟨W.heap.size + 1, 1, none⟩ v) v (j + 1) (ics (clkAt l (j + 1))) (.int .i64 0) (.int .u8 0) (.int .u8 0) (.string ⟨#[]⟩) (.string ⟨#[]⟩) (.int .i64 0) (.int .i64 0) (.int .i64 0) := by
  obtain ⟨h2, h3, h4, h5, h6⟩ := h
  have hrow : ∀ k, sl.ownBlock = some k → W.heap.size + 2 ≤ k := fun k hk => (h4.lt k hk).1
  have hne : ∀ k, k < W.heap.size + 2 → some k ≠ sl.ownBlock := fun k hk e => by have := hrow k e.symm; omega
  have hz3 : w.heap.size + 1 ≤ w3.heap.size := by have := hg.size; simp at this; omega
  refine ⟨?_, ?_, ?_, ?_, ?_⟩
  · exact Ub.far (Ub.grown (w := w.alloc o) (h2.alloc o) hg (hne _ (by omega))) v (by omega)
  · exact Ub.set1 (a1 := sl) (Ub.grown (w := w.alloc o) (h3.alloc o) hg (hne _ (by omega))) v
  · refine ownsRow_setCell_below ?_ (by simp) v
    rw [hc]
    simpa [ics] using hO3
  · refine Below.setCell ?_ (by show W.heap.size ≤ W.heap.size + 1; omega) v
    exact Below.grown (w := w.alloc o) (h5.alloc (by omega) o) hg (by simp; omega) (fun k hk => by have := hrow k hk; omega)
  · have : (w3.setCell ⟨W.heap.size + 1, 1, none⟩ v).heap.size = w3.heap.size := by simp [World.setCell]
    omega
theorem ref_cells {W w w3 : World} {sl : Value} {n : Nat} {xs : List Value} {a0 a2 a3 a4 a5 a6 a7 a8 : Value} {o : Obj} (h : RfSt W w sl n xs a0 a2 a3 a4 a5 a6 a7 a8) (hg : (w.alloc o).grownBy w3 sl.ownBlock) :
    w3.cell? ⟨W.heap.size + 1, 1, none⟩ = some sl ∧ w3.frozen? ⟨W.heap.size + 1, 1, none⟩ = false := by
  have hne : some (W.heap.size + 1) ≠ sl.ownBlock := fun e => by have := (h.2.2.1.lt _ e.symm).1; omega
  have hu := Ub.grown (w := w.alloc o) (h.2.1.alloc o) hg hne
  exact ⟨by rw [hu.cells.1]; rfl, hu.cells.2 1⟩

set_option maxRecDepth 100000 in
set_option maxHeartbeats 8000000 in
theorem rDecode_walk (s : ByteArray) (w : World) (hs : s.size ≤ maxLen) (l : List UInt8) (hl : l = s.data.toList) (R : ByteArray) (E : Int)
    (HR : Hid (encR (byteAt l (pO l) : Nat) (clkAt l (byteAt l 0)) (byteAt l (pO l + 1) : Nat) (byteAt l (pO l + 2) : Nat) ⟨(textAt l (pO l + 4) (kN l)).toArray⟩ ⟨(textAt l (pX l + 1) (kX l)).toArray⟩ (((pairAt l (pA l) : Nat) : Int) - 1000) (byteAt l (pA l + 2) : Nat) (pairAt l (pA l + 3) : Nat) = R))
    (HE : Hid (encE (byteAt l (pO l) : Nat) (clkAt l (byteAt l 0)) (byteAt l (pO l + 1) : Nat) (byteAt l (pO l + 2) : Nat) ⟨(textAt l (pO l + 4) (kN l)).toArray⟩ ⟨(textAt l (pX l + 1) (kX l)).toArray⟩ (((pairAt l (pA l) : Nat) : Int) - 1000) (byteAt l (pA l + 2) : Nat) (pairAt l (pA l + 3) : Nat) = E))
    (Post : Ending → World → Prop) (HBAD : Hid (¬ (E = 0 ∧ R = s) → ∀ w', Below w.heap.size w w' → Post (.returned (.tuple #[.agg #[.int .i64 0, .slice none 0 0, .int .u8 0, .int .u8 0, .string ⟨#[]⟩, .string ⟨#[]⟩, .int .i64 0, .int .i64 0, .int .i64 0], .int .i64 3])) w'))
    (HOK : Hid ((E = 0 ∧ R = s) → ∀ ao cp w', w'.ownsRow w.heap.size 3 1 (.slice ao (byteAt l 0) cp) (byteAt l 0) (ics (clkAt l (byteAt l 0))) → Below w.heap.size w w' → Post (.returned (.tuple #[.agg #[.int .i64 (byteAt l (pO l) : Nat), .slice ao (byteAt l 0) cp, .int .u8 (byteAt l (pO l + 1) : Nat), .int .u8 (byteAt l (pO l + 2) : Nat), .string ⟨(textAt l (pO l + 4) (kN l)).toArray⟩, .string ⟨(textAt l (pX l + 1) (kX l)).toArray⟩, .int .i64 (((pairAt l (pA l) : Nat) : Int) - 1000), .int .i64 (byteAt l (pA l + 2) : Nat), .int .i64 (pairAt l (pA l + 3) : Nat)], .int .i64 0])) w')) :
    Calls Try.prog 13 #[.string s] w Post := by
  obtain ⟨i0, hi, hz0, hz1, hz2⟩ := info_parts Try.infoInt
  have HL := hid hl
  have hn := byteAt_lt l 0
  have hkn : kN l < 256 := byteAt_lt _ _
  have hkx : kX l < 256 := byteAt_lt _ _
  have HPO : Hid (pO l = 1 + 2 * byteAt l 0) := rfl
  have HPX : Hid (pX l = pO l + 4 + kN l) := rfl
  have HPA : Hid (pA l = pX l + 1 + kX l) := rfl
  have HKN : Hid (kN l = byteAt l (pO l + 3)) := rfl
  have HKX : Hid (kX l = byteAt l (pX l)) := rfl
  go_enter Try.func13, Try.ntmps13
  go_wp2_with fail
  refine (number_one s 0 0 _ hs rfl (by omega)).mono ?_
  rintro e w' ⟨rfl, rfl⟩
  rw [← HL.out]
  generalize hn0 : byteAt l 0 = n at *
  have HN0 := hid hn0
  clear hn0 hl
  go_wp2_with fail
  have hstart : RfSt w ((w.alloc (.cells #[.int .i64 0, .slice none 0 0, .int .u8 0, .int .u8 0, .string ⟨#[]⟩, .string ⟨#[]⟩, .int .i64 0, .int .i64 0, .int .i64 0] 28)).alloc (.cells #[.int .i64 0, .slice none 0 0, .int .u8 0, .int .u8 0, .string ⟨#[]⟩, .string ⟨#[]⟩, .int .i64 0, .int .i64 0, .int .i64 0] 28)) (.slice none 0 0) 0 [] (.int .i64 0) (.int .u8 0) (.int .u8 0) (.string ⟨#[]⟩) (.string ⟨#[]⟩) (.int .i64 0) (.int .i64 0) (.int .i64 0) :=
    ⟨(Below.heap_alloc _ _ _ (by simp)).trans (heap_alloc_new w _), heap_new_at _ _ _ (by simp), World.ownsRow_nil _ _ _ _, ((Below.refl _ _).alloc (Nat.le_refl _) _).alloc (by simp) _, by simp⟩
  have HST := hid hstart
  clear hstart
  go_loopw [6] (fun i wr => ∃ (j : Nat) (sl : Value), j ≤ n ∧ i = .int .i64 j ∧ RfSt w wr sl j (ics (clkAt l j)) (.int .i64 0) (.int .u8 0) (.int .u8 0) (.string ⟨#[]⟩) (.string ⟨#[]⟩) (.int .i64 0) (.int .i64 0) (.int .i64 0)) (fun i _ => n - (intOf i).toNat)
  case atStart => exact ⟨0, _, by omega, rfl, HST.out⟩
  case round =>
    obtain ⟨j, sl, hj, rfl, hst⟩ := hrel
    have HS := hid hst
    clear hst
    by_cases hlt : j < n
    · have q1 : wr.cell? ⟨w.heap.size + 1, 1, none⟩ = some sl := by rw [HS.out.cells.1]; rfl
      have hsz := HS.out.2.2.2.2
      have hzz : w.heap.size + 1 < wr.heap.size := by omega
      have HSU : Hid (clkAt l (j + 1) = clkAt l j ++ [((pairAt l (1 + 2 * j) : Nat) : Int)]) := clkAt_succ l j
      go_wp2_with fail
      refine (number_two s _ (1 + 2 * j) _ hs (by omega) (by omega)).mono ?_
      rintro e w' ⟨rfl, rfl⟩
      rw [← HL.out]
      have hpl := pairAt_lt l (1 + 2 * j)
      generalize pairAt l (1 + 2 * j) = c at *
      go_wp2_with (at_builtin; refine wpList_append_lies _ rfl (.tmp 26) (.tmp 28) 22 rfl (w.heap.size + 2) 3 i0 (.int .i64 0) 1 8 Try.underlying22 hi hz0 hz1 hz2 rfl (by decide) sl j (ics (clkAt l j)) rfl (World.ownsRow.alloc HS.out.2.2.1 _) ⟨w'.heap.size, 0, none⟩ 1 1 [.int .i64 (c : Nat)] rfl rfl (World.news_of_block (heap_alloc_new w' _)) (read_one _) (by decide) ?d3 ?d4 ?d5 (w'.heap.size + 1) ?d6 ?_)
      case d3 => unfold maxLen; omega
      case d4 => omega
      case d5 => simp; omega
      case d6 => simp
      intro g c3 w3 hown3 hg3 hat3 hlt3
      obtain ⟨q3, f3⟩ := ref_cells HS.out hg3
      have HS3 := hid (ref_step HS.out hg3 hown3 HSU.out)
      clear hown3 hg3 hat3 q1
      go_wp2
      go_roundw
      case rel => exact ⟨j + 1, _, by omega, by go_num, HS3.out⟩
      case measure => simp [intOf]; omega
    · have hjn : j = n := by omega
      subst hjn
      obtain ⟨ao, cp, hsl⟩ := own_form HS.out.2.2.1
      subst hsl
      have hPb : pO l ≤ 600 := by have := HPO.out; omega
      have hXb : pX l ≤ 900 := by have := HPX.out; omega
      have hAb : pA l ≤ 1200 := by have := HPA.out; omega
      have H0 := HS
      clear HS
      have hz0' := H0.out.2.2.2.2
      go_wp2_with fail
      refine (number_one s _ (pO l) _ hs (by have := HPO.out; have := HPX.out; have := HPA.out; have := HN0.out; omega) (by omega)).mono ?_
      rintro e wq ⟨rfl, hwq⟩
      rw [hwq]
      clear hwq
      rw [← HL.out]
      have hbx1 := byteAt_lt l (pO l)
      generalize hex1 : byteAt l (pO l) = x1 at *
      have HEx1 := hid hex1
      clear hex1
      obtain ⟨hc, hf⟩ := H0.out.cells
      have H1 := hid (H0.out.st0 (.int .i64 (x1 : Nat)))
      go_wp2_with fail
      clear hc hf
      obtain ⟨v1, hv1⟩ : ∃ W, W = wr.setCell ⟨w.heap.size + 1, 0, none⟩ (.int .i64 (x1 : Nat)) := ⟨_, rfl⟩
      rw [← hv1] at H1 ⊢
      clear hv1
      refine (number_one s _ (pO l + 1) _ hs (by have := HPO.out; have := HPX.out; have := HPA.out; have := HN0.out; omega) (by omega)).mono ?_
      rintro e wq ⟨rfl, hwq⟩
      rw [hwq]
      clear hwq
      rw [← HL.out]
      have hbx2 := byteAt_lt l (pO l + 1)
      generalize hex2 : byteAt l (pO l + 1) = x2 at *
      have HEx2 := hid hex2
      clear hex2
      obtain ⟨hc, hf⟩ := H1.out.cells
      have H2 := hid (H1.out.st2 (.int .u8 (x2 : Nat)))
      go_wp2_with fail
      clear hc hf
      obtain ⟨v2, hv2⟩ : ∃ W, W = v1.setCell ⟨w.heap.size + 1, 2, none⟩ (.int .u8 (x2 : Nat)) := ⟨_, rfl⟩
      rw [← hv2] at H2 ⊢
      clear hv2
      refine (number_one s _ (pO l + 2) _ hs (by have := HPO.out; have := HPX.out; have := HPA.out; have := HN0.out; omega) (by omega)).mono ?_
      rintro e wq ⟨rfl, hwq⟩
      rw [hwq]
      clear hwq
      rw [← HL.out]
      have hbx3 := byteAt_lt l (pO l + 2)
      generalize hex3 : byteAt l (pO l + 2) = x3 at *
      have HEx3 := hid hex3
      clear hex3
      obtain ⟨hc, hf⟩ := H2.out.cells
      have H3 := hid (H2.out.st3 (.int .u8 (x3 : Nat)))
      go_wp2_with fail
      clear hc hf
      obtain ⟨v3, hv3⟩ : ∃ W, W = v2.setCell ⟨w.heap.size + 1, 3, none⟩ (.int .u8 (x3 : Nat)) := ⟨_, rfl⟩
      rw [← hv3] at H3 ⊢
      clear hv3
      refine (number_one s _ (pO l + 3) _ hs (by have := HPO.out; have := HPX.out; have := HPA.out; have := HN0.out; omega) (by omega)).mono ?_
      rintro e wq ⟨rfl, hwq⟩
      rw [hwq]
      clear hwq
      rw [← HL.out, ← HKN.out]
      go_wp2_with fail
      refine (text_at s _ _ (pO l + 4) (kN l) _ hs (by have := HPO.out; have := HPX.out; have := HPA.out; have := HN0.out; omega) (by have := HPO.out; have := HPX.out; have := HPA.out; have := HN0.out; omega) (by omega) (by omega)).mono ?_
      rintro e wq ⟨rfl, hwq⟩
      rw [hwq]
      clear hwq
      rw [← HL.out]
      generalize hex4 : (⟨(textAt l (pO l + 4) (kN l)).toArray⟩ : ByteArray) = x4 at *
      have HEx4 := hid hex4
      clear hex4
      obtain ⟨hc, hf⟩ := H3.out.cells
      have H4 := hid (H3.out.st4 (.string x4))
      go_wp2_with fail
      clear hc hf
      obtain ⟨v4, hv4⟩ : ∃ W, W = v3.setCell ⟨w.heap.size + 1, 4, none⟩ (.string x4) := ⟨_, rfl⟩
      rw [← hv4] at H4 ⊢
      clear hv4
      refine (number_one s _ (pX l) _ hs (by have := HPO.out; have := HPX.out; have := HPA.out; have := HN0.out; omega) (by omega)).mono ?_
      rintro e wq ⟨rfl, hwq⟩
      rw [hwq]
      clear hwq
      rw [← HL.out, ← HKX.out]
      go_wp2_with fail
      refine (text_at s _ _ (pX l + 1) (kX l) _ hs (by have := HPO.out; have := HPX.out; have := HPA.out; have := HN0.out; omega) (by have := HPO.out; have := HPX.out; have := HPA.out; have := HN0.out; omega) (by omega) (by omega)).mono ?_
      rintro e wq ⟨rfl, hwq⟩
      rw [hwq]
      clear hwq
      rw [← HL.out]
      generalize hex5 : (⟨(textAt l (pX l + 1) (kX l)).toArray⟩ : ByteArray) = x5 at *
      have HEx5 := hid hex5
      clear hex5
      obtain ⟨hc, hf⟩ := H4.out.cells
      have H5 := hid (H4.out.st5 (.string x5))
      go_wp2_with fail
      clear hc hf
      obtain ⟨v5, hv5⟩ : ∃ W, W = v4.setCell ⟨w.heap.size + 1, 5, none⟩ (.string x5) := ⟨_, rfl⟩
      rw [← hv5] at H5 ⊢
      clear hv5
      refine (number_two s _ (pA l) _ hs (by have := HPO.out; have := HPX.out; have := HPA.out; have := HN0.out; omega) (by omega)).mono ?_
      rintro e wq ⟨rfl, hwq⟩
      rw [hwq]
      clear hwq
      rw [← HL.out]
      have hbx6 := pairAt_lt l (pA l)
      generalize hex6 : pairAt l (pA l) = x6 at *
      have HEx6 := hid hex6
      clear hex6
      obtain ⟨hc, hf⟩ := H5.out.cells
      have H6 := hid (H5.out.st6 (.int .i64 ((x6 : Nat) - 1000 : Int)))
      go_wp2_with fail
      clear hc hf
      obtain ⟨v6, hv6⟩ : ∃ W, W = v5.setCell ⟨w.heap.size + 1, 6, none⟩ (.int .i64 ((x6 : Nat) - 1000 : Int)) := ⟨_, rfl⟩
      rw [← hv6] at H6 ⊢
      clear hv6
      refine (number_one s _ (pA l + 2) _ hs (by have := HPO.out; have := HPX.out; have := HPA.out; have := HN0.out; omega) (by omega)).mono ?_
      rintro e wq ⟨rfl, hwq⟩
      rw [hwq]
      clear hwq
      rw [← HL.out]
      have hbx7 := byteAt_lt l (pA l + 2)
      generalize hex7 : byteAt l (pA l + 2) = x7 at *
      have HEx7 := hid hex7
      clear hex7
      obtain ⟨hc, hf⟩ := H6.out.cells
      have H7 := hid (H6.out.st7 (.int .i64 (x7 : Nat)))
      go_wp2_with fail
      clear hc hf
      obtain ⟨v7, hv7⟩ : ∃ W, W = v6.setCell ⟨w.heap.size + 1, 7, none⟩ (.int .i64 (x7 : Nat)) := ⟨_, rfl⟩
      rw [← hv7] at H7 ⊢
      clear hv7
      refine (number_two s _ (pA l + 3) _ hs (by have := HPO.out; have := HPX.out; have := HPA.out; have := HN0.out; omega) (by omega)).mono ?_
      rintro e wq ⟨rfl, hwq⟩
      rw [hwq]
      clear hwq
      rw [← HL.out]
      have hbx8 := pairAt_lt l (pA l + 3)
      generalize hex8 : pairAt l (pA l + 3) = x8 at *
      have HEx8 := hid hex8
      clear hex8
      obtain ⟨hc, hf⟩ := H7.out.cells
      have H8 := hid (H7.out.st8 (.int .i64 (x8 : Nat)))
      go_wp2_with fail
      clear hc hf
      obtain ⟨v8, hv8⟩ : ∃ W, W = v7.setCell ⟨w.heap.size + 1, 8, none⟩ (.int .i64 (x8 : Nat)) := ⟨_, rfl⟩
      rw [← hv8] at H8 ⊢
      clear hv8
      have hs4 : x4.size ≤ maxLen := by rw [← HEx4.out]; exact text_size _ _ _ (by omega)
      have hs5 : x5.size ≤ maxLen := by rw [← HEx5.out]; exact text_size _ _ _ (by omega)
      have henc := rEncode_any (x1 : Nat) (x2 : Nat) (x3 : Nat) ((x6 : Nat) - 1000 : Int) (x7 : Nat) (x8 : Nat) x4 x5 ao cp (clkAt l j) v8 (own_clk2 H8.out.2.2.1).2 (by rw [clkAt_len]; unfold maxLen; omega) hs4 hs5 (by omega) (by omega) (by omega) (by omega)
      rw [HR.out, HE.out, clkAt_len] at henc
      refine henc.mono ?_
      rintro e w9 ⟨rfl, hb9⟩
      have hz8 := H8.out.2.2.2.2
      obtain ⟨hu9, hf9⟩ := (H8.out.2.1.below hb9 (by omega)).cells
      obtain ⟨hr9, hg9⟩ := (H8.out.1.below hb9 (by omega)).cells
      have HO9 := hid (ownsRow_later H8.out.2.2.1 hb9)
      have HB9 := hid (H8.out.2.2.2.1.trans (hb9.mono (by omega)))
      clear henc hb9
      by_cases hE : (E != 0) = true
      · have hno : ¬ (E = 0 ∧ R = s) := fun h => by rw [h.1] at hE; simp at hE
        go_wp2_with fail
        refine bodyPost_ret (v := .tuple #[.agg #[.int .i64 0, .slice none 0 0, .int .u8 0, .int .u8 0, .string ⟨#[]⟩, .string ⟨#[]⟩, .int .i64 0, .int .i64 0, .int .i64 0], .int .i64 3]) ?_ rfl (HBAD.out hno _ ?_)
        · simp [results, Try.results13, go_sem, hr9]
        · iterate 9 (refine Below.setCell ?_ (by simp) _)
          exact HB9.out
      · have hE0 : E = 0 := by simpa using hE
        subst hE0
        by_cases hRs : (R.toList == s.toList) = true
        · have hRe : R = s := by
            apply Go.WideShapes.bytes_inj
            have := beq_iff_eq.1 hRs
            rwa [ByteArray.toList_eq, ByteArray.toList_eq] at this
          subst hRe
          clear hRs
          go_wp2_with fail
          have hfin := HOK.out (by simp) ao cp
          refine bodyPost_ret (v := .tuple #[.agg #[.int .i64 (x1 : Nat), .slice ao j cp, .int .u8 (x2 : Nat), .int .u8 (x3 : Nat), .string x4, .string x5, .int .i64 ((x6 : Nat) - 1000 : Int), .int .i64 (x7 : Nat), .int .i64 (x8 : Nat)], .int .i64 0]) ?_ rfl (hfin _ ?_ ?_)
          · simp [results, Try.results13, go_sem, hr9]
          · refine ownsRow_mono ?_ (show w.heap.size ≤ w.heap.size + 2 by omega)
            iterate 9 (refine ownsRow_setCell_below ?_ (by simp) _)
            exact HO9.out
          · iterate 9 (refine Below.setCell ?_ (by simp) _)
            exact HB9.out
        · have hno : ¬ ((0 : Int) = 0 ∧ R = s) := fun h => hRs (by rw [h.2]; simp)
          have hRf : (R.toList == s.toList) = false := by simpa using hRs
          clear hRs
          go_wp2_with fail
          refine bodyPost_ret (v := .tuple #[.agg #[.int .i64 0, .slice none 0 0, .int .u8 0, .int .u8 0, .string ⟨#[]⟩, .string ⟨#[]⟩, .int .i64 0, .int .i64 0, .int .i64 0], .int .i64 3]) ?_ rfl (HBAD.out hno _ ?_)
          · simp [results, Try.results13, go_sem, hr9]
          · iterate 9 (refine Below.setCell ?_ (by simp) _)
            exact HB9.out
end Go.Proofs.Yteljbblbdiploaa
