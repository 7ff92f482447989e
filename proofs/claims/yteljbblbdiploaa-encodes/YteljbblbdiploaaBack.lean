/-
  WALKS: the statement's own 'back': is what was lent as it was?
-/
import Derived.Test.YteljbblbdiploaaLent
namespace Go.Proofs.Yteljbblbdiploaa
open Go.RowKit

/-- what 'back' finds from place j on: the numbers as they were lent; all may be written -/
def BackInv (w : World) (g : Nat) (zs : List Int) (j : Nat) : Prop :=
  (∀ q, j ≤ q → q < zs.length + 3 → w.cell? ⟨g, q, none⟩ = some (.int .i64 ((zs ++ [7000, 7000, 7000]).getD q 0))) ∧ (∀ q, q < zs.length + 3 → w.frozen? ⟨g, q, none⟩ = false)

theorem BackInv.alloc2 {w : World} {g : Nat} {zs : List Int} {j : Nat} (h : BackInv w g zs j) (hg : g < w.heap.size) (a b : Obj) : BackInv ((w.alloc a).alloc b) g zs j := by
  have hb : Below w.heap.size w ((w.alloc a).alloc b) := ((Below.refl _ _).alloc (Nat.le_refl _) _).alloc (by simp) _
  exact ⟨fun q h1 h2 => (hb.cell (p := ⟨g, q, none⟩) hg).trans (h.1 q h1 h2), fun q h2 => (hb.frozen (p := ⟨g, q, none⟩) hg).trans (h.2 q h2)⟩

theorem BackInv.step {w : World} {g : Nat} {zs : List Int} {j : Nat} (h : BackInv w g zs j) (i : Nat) (v : Value) (hi : i = j := by rfl) : BackInv (w.setCell ⟨g, i, none⟩ v) g zs (j + 1) := by
  subst hi
  refine ⟨fun q h1 h2 => ?_, fun q h2 => ?_⟩
  · have := h.1 q (by omega) h2
    rw [World.cell?_setCell_other]
    · exact this
    · intro e; cases e; omega
  · rw [World.frozen?_setCell]; exact h.2 q h2

theorem grown_set {W w : World} {g j : Nat} (h : W.grownBy w (some g)) (v : Value) : W.grownBy (w.setCell ⟨g, j, none⟩ v) (some g) :=
  ⟨h.os, h.tape, h.output, by simpa [World.setCell] using h.size, fun k hk hne => (Below.heap_setCell w ⟨g, j, none⟩ v k (fun e => hne (by rw [e]))).trans (h.block k hk hne)⟩

theorem back_mark (zs : List Int) (j : Nat) (h : zs.length ≤ j) (h3 : j < zs.length + 3) : (zs ++ [7000, 7000, 7000]).getD j 0 = 7000 := by
  obtain ⟨d, rfl⟩ := Nat.exists_eq_add_of_le h
  have : d = 0 ∨ d = 1 ∨ d = 2 := by omega
  rcases this with rfl | rfl | rfl <;> simp

theorem row_parts {w : World} {base g c2 : Nat} {zs : List Int} (hown : w.ownsRow base 3 1 (.slice (some ⟨g, 0, none⟩) (zs.length + 3) c2) (zs.length + 3) (ics (zs ++ [7000, 7000, 7000]))) :
    base ≤ g ∧ g < w.heap.size ∧ zs.length + 3 ≤ c2 ∧ c2 ≤ 9223372036854775807 ∧ (∀ q, q < zs.length + 3 → w.cell? ⟨g, q, none⟩ = some (.int .i64 ((zs ++ [7000, 7000, 7000]).getD q 0))) ∧ (∀ q, q < zs.length + 3 → w.frozen? ⟨g, q, none⟩ = false) := by
  have hcells := World.ownsRow.cells hown (g := g) rfl
  rcases hown.2 with ⟨h, _⟩ | ⟨g', c', cur, hv, hb, hh, hnc, hm, hcs, htk⟩
  · cases h
  · cases hv
    refine ⟨hb, (Array.getElem?_eq_some_iff.1 hh).1, hnc, by unfold maxLen at hm; omega, ?_, ?_⟩
    · intro q hq
      have hlen : q < (zs ++ [7000, 7000, 7000]).length := by simpa using hq
      have := hcells q (.int .i64 ((zs ++ [7000, 7000, 7000]).getD q 0)) (by rw [ics, List.getElem?_map, List.getD_eq_getElem?_getD, List.getElem?_eq_getElem hlen]; rfl)
      rwa [show (⟨g, 0, none⟩ : Addr).add q = ⟨g, q, none⟩ by rw [Addr.add_lit, Nat.zero_add]] at this
    · intro q hq
      exact frozen_of_row w g q cur _ hh

set_option maxHeartbeats 4000000 in
theorem back_plain (org t k am o s : Int) (nm tx : ByteArray) (b off : Nat) (cap : Nat) (zs : List Int) (g c2 base : Nat) (w : World) (hbb : b < base) (hc : ∀ k, k < zs.length → w.cell? ⟨b, off + k, none⟩ = some (.int .i64 (zs.getD k 0))) (hl : zs.length * 8 ≤ 140737488351232)
    (hown : w.ownsRow base 3 1 (.slice (some ⟨g, 0, none⟩) (zs.length + 3) c2) (zs.length + 3) (ics (zs ++ [7000, 7000, 7000]))) (hbw : base ≤ w.heap.size) :
    Calls Try.prog 11 #[.agg #[.int .i64 org, .slice (some ⟨g, 0, none⟩) zs.length c2, .int .u8 t, .int .u8 k, .string nm, .string tx, .int .i64 am, .int .i64 o, .int .i64 s], .agg #[.int .i64 org, .slice (some ⟨b, off, none⟩) zs.length cap, .int .u8 t, .int .u8 k, .string nm, .string tx, .int .i64 am, .int .i64 o, .int .i64 s]] w
      fun e w' => e = .returned (.bool true) ∧ Below base w w' := by
  obtain ⟨hgb, hgw, hnc, hcm, hcell, hfr⟩ := row_parts hown
  have HI0 : Hid (BackInv w g zs 0) := ⟨fun q _ hq => hcell q hq, hfr⟩
  clear hcell hfr hown
  have hbw' : b < w.heap.size := by omega
  have HC := hid hc
  clear hc
  go_enter Try.func11, Try.ntmps11
  go_wp2_with fail
  go_loopw [7, 8] (fun ok i wr => ∃ j : Nat, j ≤ zs.length + 3 ∧ i = .int .i64 j ∧ ok = .bool true ∧ BackInv wr g zs j ∧ ((w.alloc (.cells #[.int .i64 org, .slice (some ⟨g, 0, none⟩) zs.length c2, .int .u8 t, .int .u8 k, .string nm, .string tx, .int .i64 am, .int .i64 o, .int .i64 s] 28)).alloc (.cells #[.int .i64 org, .slice (some ⟨b, off, none⟩) zs.length cap, .int .u8 t, .int .u8 k, .string nm, .string tx, .int .i64 am, .int .i64 o, .int .i64 s] 28)).grownBy wr (some g)) (fun _ i _ => zs.length + 3 - (intOf i).toNat)
  case atStart => exact ⟨0, by omega, rfl, rfl, HI0.out.alloc2 hgw _ _, ⟨rfl, rfl, rfl, Nat.le_refl _, fun _ _ _ => rfl⟩⟩
  case round =>
    obtain ⟨j, hj, rfl, rfl, hinv, hgr⟩ := hrel
    have HINV := hid hinv
    have HGR := hid hgr
    have q1 : wr.cell? ⟨w.heap.size + 1, 1, none⟩ = some (.slice (some ⟨b, off, none⟩) zs.length cap) := by
      rw [hgr.cell_far ⟨w.heap.size + 1, 1, none⟩ (by simp) (by simp; omega)]; simp [go_sem]
    clear hinv hgr
    by_cases hlt : j < zs.length + 3
    · have c0 := HINV.out.1 j (Nat.le_refl _) hlt
      have f0 := HINV.out.2 j hlt
      have HNX : Hid (BackInv (wr.setCell ⟨g, j, none⟩ (.int .i64 7001)) g zs (j + 1)) := HINV.out.step _ _
      have HGX : Hid (((w.alloc (.cells #[.int .i64 org, .slice (some ⟨g, 0, none⟩) zs.length c2, .int .u8 t, .int .u8 k, .string nm, .string tx, .int .i64 am, .int .i64 o, .int .i64 s] 28)).alloc (.cells #[.int .i64 org, .slice (some ⟨b, off, none⟩) zs.length cap, .int .u8 t, .int .u8 k, .string nm, .string tx, .int .i64 am, .int .i64 o, .int .i64 s] 28)).grownBy (wr.setCell ⟨g, j, none⟩ (.int .i64 7001)) (some g)) := grown_set HGR.out _
      by_cases hjn : j < zs.length
      · have e0 : (zs ++ [7000, 7000, 7000]).getD j 0 = zs.getD j 0 := by simp [List.getElem?_append, hjn]
        rw [e0] at c0
        clear e0
        have d0 : wr.cell? ⟨b, off + j, none⟩ = some (.int .i64 (zs.getD j 0)) := by
          rw [HGR.out.cell_far ⟨b, off + j, none⟩ (by simp; omega) (by simp; omega)]; simp [go_sem, hbw', show b < w.heap.size + 1 by omega]; exact (HC.out j hjn)
        generalize zs.getD j 0 = z at *
        go_wp2_with fail
        go_roundw
        case rel => exact ⟨j + 1, by omega, by go_num, by first | rfl | simp, HNX.out, HGX.out⟩
        case measure => simp [intOf]; omega
      · have e0 : (zs ++ [7000, 7000, 7000]).getD j 0 = 7000 := back_mark zs j (by omega) hlt
        rw [e0] at c0
        clear e0
        go_wp2_with fail
        go_roundw
        case rel => exact ⟨j + 1, by omega, by go_num, by first | rfl | simp, HNX.out, HGX.out⟩
        case measure => simp [intOf]; omega
    · go_wp2_with fail
      go_ret
      exact ⟨rfl, (((Below.refl _ _).alloc hbw _).alloc (by simp; omega) _).trans ((Below.refl _ _).grown HGR.out (by simp; omega) (fun q hq => by cases hq; exact hgb))⟩

set_option maxHeartbeats 4000000 in
theorem back_empty (org t k am o s : Int) (nm tx : ByteArray) (ao : Option Addr) (cap : Nat) (zs : List Int) (g c2 base : Nat) (w : World) (h0 : zs.length < 1) (_hl : zs.length * 8 ≤ 140737488351232)
    (hown : w.ownsRow base 3 1 (.slice (some ⟨g, 0, none⟩) (zs.length + 3) c2) (zs.length + 3) (ics (zs ++ [7000, 7000, 7000]))) (hbw : base ≤ w.heap.size) :
    Calls Try.prog 11 #[.agg #[.int .i64 org, .slice (some ⟨g, 0, none⟩) zs.length c2, .int .u8 t, .int .u8 k, .string nm, .string tx, .int .i64 am, .int .i64 o, .int .i64 s], .agg #[.int .i64 org, .slice ao zs.length cap, .int .u8 t, .int .u8 k, .string nm, .string tx, .int .i64 am, .int .i64 o, .int .i64 s]] w
      fun e w' => e = .returned (.bool true) ∧ Below base w w' := by
  obtain ⟨hgb, hgw, hnc, hcm, hcell, hfr⟩ := row_parts hown
  have HI0 : Hid (BackInv w g zs 0) := ⟨fun q _ hq => hcell q hq, hfr⟩
  clear hcell hfr hown
  go_enter Try.func11, Try.ntmps11
  go_wp2_with fail
  go_loopw [7, 8] (fun ok i wr => ∃ j : Nat, j ≤ zs.length + 3 ∧ i = .int .i64 j ∧ ok = .bool true ∧ BackInv wr g zs j ∧ ((w.alloc (.cells #[.int .i64 org, .slice (some ⟨g, 0, none⟩) zs.length c2, .int .u8 t, .int .u8 k, .string nm, .string tx, .int .i64 am, .int .i64 o, .int .i64 s] 28)).alloc (.cells #[.int .i64 org, .slice ao zs.length cap, .int .u8 t, .int .u8 k, .string nm, .string tx, .int .i64 am, .int .i64 o, .int .i64 s] 28)).grownBy wr (some g)) (fun _ i _ => zs.length + 3 - (intOf i).toNat)
  case atStart => exact ⟨0, by omega, rfl, rfl, HI0.out.alloc2 hgw _ _, ⟨rfl, rfl, rfl, Nat.le_refl _, fun _ _ _ => rfl⟩⟩
  case round =>
    obtain ⟨j, hj, rfl, rfl, hinv, hgr⟩ := hrel
    have HINV := hid hinv
    have HGR := hid hgr
    have q1 : wr.cell? ⟨w.heap.size + 1, 1, none⟩ = some (.slice ao zs.length cap) := by
      rw [hgr.cell_far ⟨w.heap.size + 1, 1, none⟩ (by simp) (by simp; omega)]; simp [go_sem]
    clear hinv hgr
    by_cases hlt : j < zs.length + 3
    · have c0 := HINV.out.1 j (Nat.le_refl _) hlt
      have f0 := HINV.out.2 j hlt
      have HNX : Hid (BackInv (wr.setCell ⟨g, j, none⟩ (.int .i64 7001)) g zs (j + 1)) := HINV.out.step _ _
      have HGX : Hid (((w.alloc (.cells #[.int .i64 org, .slice (some ⟨g, 0, none⟩) zs.length c2, .int .u8 t, .int .u8 k, .string nm, .string tx, .int .i64 am, .int .i64 o, .int .i64 s] 28)).alloc (.cells #[.int .i64 org, .slice ao zs.length cap, .int .u8 t, .int .u8 k, .string nm, .string tx, .int .i64 am, .int .i64 o, .int .i64 s] 28)).grownBy (wr.setCell ⟨g, j, none⟩ (.int .i64 7001)) (some g)) := grown_set HGR.out _
      by_cases hjn : j < zs.length
      · omega
      · have e0 : (zs ++ [7000, 7000, 7000]).getD j 0 = 7000 := back_mark zs j (by omega) hlt
        rw [e0] at c0
        clear e0
        go_wp2_with fail
        go_roundw
        case rel => exact ⟨j + 1, by omega, by go_num, by first | rfl | simp, HNX.out, HGX.out⟩
        case measure => simp [intOf]; omega
    · go_wp2_with fail
      go_ret
      exact ⟨rfl, (((Below.refl _ _).alloc hbw _).alloc (by simp; omega) _).trans ((Below.refl _ _).grown HGR.out (by simp; omega) (fun q hq => by cases hq; exact hgb))⟩
end Go.Proofs.Yteljbblbdiploaa
