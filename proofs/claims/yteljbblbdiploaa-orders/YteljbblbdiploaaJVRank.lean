/-
  WALKS: package crdt: reaches.
-/
/-
  WALKS: package crdt: what was known in a reach or by a clock.
-/
/-
  WALKS: package causes: an update's rank.
-/
import Derived.Test.YteljbblbdiploaaJVKids
import Derived.Test.YteljbblbdiploaaJVRefSeq
import Derived.Test.YteljbblbdiploaaJVBeh
namespace Go.Proofs.Yteljbblbdiploaa
open Go.RowKit

/-- a reach as a value -/
def rV (r : List Int) : Value := .agg (r.map (Value.int .i64)).toArray

theorem rV8 (r : List Int) (h : r.length = 8) : rV r = .agg #[.int .i64 (r.getD 0 0), .int .i64 (r.getD 1 0), .int .i64 (r.getD 2 0), .int .i64 (r.getD 3 0), .int .i64 (r.getD 4 0), .int .i64 (r.getD 5 0), .int .i64 (r.getD 6 0), .int .i64 (r.getD 7 0)] := by
  match r, h with
  | [a, b, c, d, e, f, g, i], _ => rfl

/-- a reach in a block of its own -/
def BoxR (w : World) (B : Nat) (r : List Int) : Prop := w.heap[B]? = some (.cells (r.map (Value.int .i64)).toArray 110 (0, 0))
theorem BoxR.cell {w : World} {B : Nat} {r : List Int} (h : BoxR w B r) {j : Nat} (hj : j < r.length) : w.cell? ⟨B, j, none⟩ = some (.int .i64 (r.getD j 0)) := by
  rw [cell_of_row w B j _ _ (0, 0) h]
  simp [hj]
theorem BoxR.free {w : World} {B : Nat} {r : List Int} (h : BoxR w B r) (j : Nat) : w.frozen? ⟨B, j, none⟩ = false := frozen_of_row w B j _ _ h
theorem BoxR.later {w w' : World} {B : Nat} {r : List Int} (h : BoxR w B r) (hb : Below w.heap.size w w') : BoxR w' B r := (hb.block B (lt_of_block h)).trans h

theorem list8 {r : List Int} (h : r.length = 8) : ∃ r0 r1 r2 r3 r4 r5 r6 r7, r = [r0, r1, r2, r3, r4, r5, r6, r7] := by
  match r, h with
  | [a, b, c, d, e, f, g, i], _ => exact ⟨a, b, c, d, e, f, g, i, rfl⟩

set_option maxRecDepth 16000 in
set_option maxHeartbeats 1000000 in
theorem hasId_any (r : List Int) (h8 : r.length = 8) (o s : Int) (w : World) (ho : 0 ≤ o) (ho8 : o < 8) :
    Calls Try.prog 77 #[rV r, .agg #[.int .i64 o, .int .i64 s]] w fun e w' => e = .returned (.bool (decide (s ≤ r.getD o.toNat 0))) ∧ Below w.heap.size w w' := by
  have hx : ∀ (cs : Array Value) (T : TypeId), cs = (r.map (Value.int .i64)).toArray → (w.alloc (.cells cs T)).cell? ⟨w.heap.size, o.toNat, none⟩ = some (.int .i64 (r.getD o.toNat 0)) := by
    intro cs T hcs
    rw [cell_of_row _ _ _ _ _ (0, 0) (heap_alloc_new w _), hcs]
    have : o.toNat < r.length := by omega
    simp [this]
  generalize r.getD o.toNat 0 = x at *
  obtain ⟨r0, r1, r2, r3, r4, r5, r6, r7, rfl⟩ := list8 h8
  have hx := hx _ 110 rfl
  unfold rV
  simp only [List.map_cons, List.map_nil] at hx ⊢
  clear h8
  go_enter Try.func77, Try.ntmps77
  go_wp2_with fail
  have l1 : Below w.heap.size w (w.alloc (.cells #[.int .i64 r0, .int .i64 r1, .int .i64 r2, .int .i64 r3, .int .i64 r4, .int .i64 r5, .int .i64 r6, .int .i64 r7] 110)) := (Below.refl _ _).alloc (Nat.le_refl _) _
  have hz1 : (w.alloc (.cells #[.int .i64 r0, .int .i64 r1, .int .i64 r2, .int .i64 r3, .int .i64 r4, .int .i64 r5, .int .i64 r6, .int .i64 r7] 110)).heap.size = w.heap.size + 1 := by simp
  generalize w.alloc (.cells #[.int .i64 r0, .int .i64 r1, .int .i64 r2, .int .i64 r3, .int .i64 r4, .int .i64 r5, .int .i64 r6, .int .i64 r7] 110) = w1 at *
  have k2 : (w1.alloc (.cells #[.int .i64 o, .int .i64 s] 24)).heap[w1.heap.size]? = some (.cells #[.int .i64 o, .int .i64 s] 24 (0, 0)) := heap_alloc_new w1 _
  have l2 : Below w1.heap.size w1 (w1.alloc (.cells #[.int .i64 o, .int .i64 s] 24)) := (Below.refl _ _).alloc (Nat.le_refl _) _
  rw [hz1] at k2
  have hx2 := (l2.cell (p := ⟨w.heap.size, o.toNat, none⟩) (by show w.heap.size < w1.heap.size; omega)).trans hx
  have hb2 : Below w.heap.size w _ := l1.trans (l2.mono l1.size)
  generalize w1.alloc (.cells #[.int .i64 o, .int .i64 s] 24) = wq at *
  have q0 : wq.cell? ⟨w.heap.size + 1, 0, none⟩ = some (.int .i64 o) := by rw [cell_of_row _ _ _ _ _ (0, 0) k2]; rfl
  have q1 : wq.cell? ⟨w.heap.size + 1, 1, none⟩ = some (.int .i64 s) := by rw [cell_of_row _ _ _ _ _ (0, 0) k2]; rfl
  have HB2 := hid hb2
  clear hx l1 l2 k2 hb2 hz1
  go_quiet (fail)
  go_wp2_with fail
  go_ret
  exact ⟨rfl, ⟨HB2.out.os, HB2.out.tape, HB2.out.output, HB2.out.size, HB2.out.block⟩⟩
theorem has_any (r : List Int) (h8 : r.length = 8) (u : Up) (w : World) (hg : u.good = true) :
    Calls Try.prog 77 #[rV r, .agg #[.int .i64 u.id.1, .int .i64 u.id.2]] w fun e w' => e = .returned (.bool (rHas r u)) ∧ Below w.heap.size w w' := by
  have := u.good_iff.1 hg
  exact hasId_any r h8 u.o u.seq w (by omega) (by omega)
end Go.Proofs.Yteljbblbdiploaa

namespace Go.Proofs.Yteljbblbdiploaa
open Go.RowKit

theorem BoxR.set {w : World} {B : Nat} {r : List Int} (h : BoxR w B r) (j : Nat) (v : Int) : BoxR (w.setCell ⟨B, j, none⟩ (.int .i64 v)) B (r.set j v) := by
  have := val_setBlk (i := j) h (.int .i64 v)
  unfold BoxR
  rw [this]
  congr 2
  simp [List.map_set]
theorem BoxR.eight {w : World} {B : Nat} {r : List Int} (h : BoxR w B r) (h8 : r.length = 8) : w.cell? ⟨B, 0, none⟩ = some (.int .i64 (r.getD 0 0)) ∧ w.cell? ⟨B, 1, none⟩ = some (.int .i64 (r.getD 1 0)) ∧ w.cell? ⟨B, 2, none⟩ = some (.int .i64 (r.getD 2 0)) ∧ w.cell? ⟨B, 3, none⟩ = some (.int .i64 (r.getD 3 0)) ∧
    w.cell? ⟨B, 4, none⟩ = some (.int .i64 (r.getD 4 0)) ∧ w.cell? ⟨B, 5, none⟩ = some (.int .i64 (r.getD 5 0)) ∧ w.cell? ⟨B, 6, none⟩ = some (.int .i64 (r.getD 6 0)) ∧ w.cell? ⟨B, 7, none⟩ = some (.int .i64 (r.getD 7 0)) :=
  ⟨h.cell (by omega), h.cell (by omega), h.cell (by omega), h.cell (by omega), h.cell (by omega), h.cell (by omega), h.cell (by omega), h.cell (by omega)⟩

set_option maxRecDepth 16000 in
set_option maxHeartbeats 1000000 in
theorem reachWith_any (r : List Int) (h8 : r.length = 8) (b off cap : Nat) (c : List Int) (w : World) (hc8 : c.length ≤ 8) (hbl : b < w.heap.size) (hc : ∀ j, j < c.length → w.cell? ⟨b, off + j, none⟩ = some (.int .i64 (c.getD j 0))) :
    Calls Try.prog 89 #[rV r, .slice (some ⟨b, off, none⟩) c.length cap] w fun e w' => e = .returned (rV (rWith r c)) ∧ Below w.heap.size w w' := by
  have HC := hid hc
  have H8 := hid h8
  clear hc
  have hbx : ∀ T, T = 110 → BoxR (w.alloc (.cells (r.map (Value.int .i64)).toArray T)) w.heap.size r := fun T hT => by subst hT; exact heap_alloc_new w _
  obtain ⟨r0, r1, r2, r3, r4, r5, r6, r7, hr⟩ := list8 h8
  have HR := hid hr
  have hbx := hbx _ rfl
  have e8 : rV r = .agg #[.int .i64 r0, .int .i64 r1, .int .i64 r2, .int .i64 r3, .int .i64 r4, .int .i64 r5, .int .i64 r6, .int .i64 r7] := by rw [hr]; rfl
  have e9 : (r.map (Value.int .i64)).toArray = #[.int .i64 r0, .int .i64 r1, .int .i64 r2, .int .i64 r3, .int .i64 r4, .int .i64 r5, .int .i64 r6, .int .i64 r7] := by rw [hr]; rfl
  rw [e9] at hbx
  rw [e8]
  clear e8 e9 h8 hr
  go_enter Try.func89, Try.ntmps89
  go_wp2_with fail
  have l1 : Below w.heap.size w (w.alloc (.cells #[.int .i64 r0, .int .i64 r1, .int .i64 r2, .int .i64 r3, .int .i64 r4, .int .i64 r5, .int .i64 r6, .int .i64 r7] 110)) := (Below.refl _ _).alloc (Nat.le_refl _) _
  have hz1 : (w.alloc (.cells #[.int .i64 r0, .int .i64 r1, .int .i64 r2, .int .i64 r3, .int .i64 r4, .int .i64 r5, .int .i64 r6, .int .i64 r7] 110)).heap.size = w.heap.size + 1 := by simp
  generalize w.alloc (.cells #[.int .i64 r0, .int .i64 r1, .int .i64 r2, .int .i64 r3, .int .i64 r4, .int .i64 r5, .int .i64 r6, .int .i64 r7] 110) = w1 at *
  have l2 : Below w1.heap.size w1 (w1.alloc (.cells #[.int .i64 0, .int .i64 0, .int .i64 0, .int .i64 0, .int .i64 0, .int .i64 0, .int .i64 0, .int .i64 0] 110)) := (Below.refl _ _).alloc (Nat.le_refl _) _
  have k2 : BoxR (w1.alloc (.cells #[.int .i64 0, .int .i64 0, .int .i64 0, .int .i64 0, .int .i64 0, .int .i64 0, .int .i64 0, .int .i64 0] 110)) w1.heap.size zero8 := heap_alloc_new w1 _
  generalize w1.alloc (.cells #[.int .i64 0, .int .i64 0, .int .i64 0, .int .i64 0, .int .i64 0, .int .i64 0, .int .i64 0, .int .i64 0] 110) = w2 at *
  rw [hz1] at k2
  have K1 := hid (hbx.later l2)
  have K2 := hid k2
  have LW : Hid (Below w.heap.size w w2) := l1.trans (l2.mono l1.size)
  clear hbx l1 l2 k2 hz1
  go_loopw [9] (fun i wr => ∃ j : Nat, j ≤ c.length ∧ i = .int .i64 j ∧ BoxR wr w.heap.size (rWith r (c.take j)) ∧ w2.grownBy wr (some w.heap.size)) (fun i _ => c.length - (intOf i).toNat)
  case atStart => exact ⟨0, by omega, rfl, by rw [List.take_zero, rWith_nil]; exact K1.out, ⟨rfl, rfl, rfl, Nat.le_refl _, fun _ _ _ => rfl⟩⟩
  case round =>
    obtain ⟨j, hj, rfl, hbx, hg⟩ := hrel
    have HBX := hid hbx
    have HG := hid hg
    have hbw : Below w.heap.size w wr := LW.out.grown hg LW.out.size (fun k hk => by cases hk; exact Nat.le_refl _)
    have HBW := hid hbw
    have hl8 : (rWith r (c.take j)).length = 8 := by rw [rWith_len]; exact H8.out
    have HL8 := hid hl8
    by_cases hlt : j < c.length
    · have hcj := (hbw.cell (p := ⟨b, off + j, none⟩) hbl).trans (HC.out j hlt)
      have hxj := hbx.cell (j := j) (by omega)
      have hfj := hbx.free j
      have hst := rWith_snoc r (c.take j) (c.getD j 0) (by rw [List.length_take, H8.out]; omega)
      have htk : c.take (j + 1) = c.take j ++ [c.getD j 0] := by rw [List.take_add_one, List.getD_eq_getElem?_getD, List.getElem?_eq_getElem hlt]; rfl
      rw [← htk, List.length_take, Nat.min_eq_left (by omega : j ≤ c.length)] at hst
      have HST := hid hst
      clear hbx hg hbw hl8 hst htk
      generalize (rWith r (c.take j)).getD j 0 = x at *
      generalize c.getD j 0 = y at *
      go_wp2_with fail
      go_roundw
      case rel => exact ⟨j + 1, by omega, by go_num, by rw [HST.out]; exact HBX.out.set j _, ⟨HG.out.os, HG.out.tape, HG.out.output, by simpa [World.setCell] using HG.out.size, fun k hk hne => (Below.heap_setCell wr ⟨w.heap.size, j, none⟩ _ k (fun e => hne (by rw [e]))).trans (HG.out.block k hk hne)⟩⟩
      case measure => simp [intOf]; omega
    · have htk : c.take j = c := List.take_of_length_le (by omega)
      rw [htk] at hbx hl8
      have k3 : BoxR wr (w.heap.size + 1) zero8 := (hg.block _ (lt_of_block K2.out) (by simp)).trans K2.out
      obtain ⟨a0, a1, a2, a3, a4, a5, a6, a7⟩ := hbx.eight hl8
      obtain ⟨z0, z1, z2, z3, z4, z5, z6, z7⟩ := k3.eight rfl
      have f0 := k3.free 0
      have f1 := k3.free 1
      have f2 := k3.free 2
      have f3 := k3.free 3
      have f4 := k3.free 4
      have f5 := k3.free 5
      have f6 := k3.free 6
      have f7 := k3.free 7
      have HV := hid (rV8 _ hl8)
      clear hbx hg hbw hl8 htk k3 HBX HL8
      generalize (rWith r c).getD 0 0 = t0 at *
      generalize (rWith r c).getD 1 0 = t1 at *
      generalize (rWith r c).getD 2 0 = t2 at *
      generalize (rWith r c).getD 3 0 = t3 at *
      generalize (rWith r c).getD 4 0 = t4 at *
      generalize (rWith r c).getD 5 0 = t5 at *
      generalize (rWith r c).getD 6 0 = t6 at *
      generalize (rWith r c).getD 7 0 = t7 at *
      go_wp2_with fail
      refine bodyPost_ret (v := .agg #[.int .i64 t0, .int .i64 t1, .int .i64 t2, .int .i64 t3, .int .i64 t4, .int .i64 t5, .int .i64 t6, .int .i64 t7]) ?_ rfl ⟨by rw [HV.out], ?_⟩
      · simp [results, Try.results89, go_sem, z0, z1, z2, z3, z4, z5, z6, z7]
      · iterate 8 (refine Below.setCell ?_ (Nat.le_succ _) _)
        exact HBW.out
end Go.Proofs.Yteljbblbdiploaa

namespace Go.Proofs.Yteljbblbdiploaa
open Go.RowKit

/-- a rank as a value -/
abbrev rkV (u : Up) : Value := .agg #[.int .i64 u.age, .int .i64 u.id.1, .int .i64 u.id.2]

set_option maxRecDepth 16000 in
set_option maxHeartbeats 2000000 in
theorem rankOf_any (u : Up) (ao : Option Addr) (cap : Nat) (w : World) (hg : u.good = true) (hc : ClkAt w ao cap u.c) :
    Calls Try.prog 90 #[upV u ao cap] w fun e w' => e = .returned (rkV u) ∧ Below w.heap.size w w' := by
  have HG := hid hg
  have HCK := hid hc
  obtain ⟨b, off, g, rfl, -, -, hcell, -, hbl⟩ := Up.parts hg hc
  obtain ⟨h8, hin, _⟩ := u.good_iff.1 hg
  have HC := hid hcell
  have HIN := hid hin
  unfold upV
  clear hg hc hcell hin
  go_enter Try.func90, Try.ntmps90
  go_wp2_with fail
  go_loop [3, 9] (fun n i => ∃ k : Nat, k ≤ u.c.length ∧ i = .int .i64 k ∧ n = .int .i64 (u.c.take k).sum) (fun _ i => u.c.length - (intOf i).toNat)
  case atStart => exact ⟨0, by omega, rfl, by simp⟩
  case round =>
    obtain ⟨k, hk, rfl, rfl⟩ := hrel
    obtain ⟨s0, s1, s2⟩ := sum_step HIN.out h8.2 k
    have HS := hid s2
    clear s2
    generalize hn : (u.c.take k).sum = n at *
    have HN := hid hn
    clear hn
    by_cases hlt : k < u.c.length
    · have hcell := HC.out k hlt
      generalize u.c.getD k 0 = z at *
      go_wp2_with fail
      go_round
      case rel => exact ⟨k + 1, by omega, by go_num, by rw [HS.out]⟩
      case measure => simp [intOf]; omega
    · have HA : Hid (u.age = n) := by show u.c.sum = n; rw [← HN.out, List.take_of_length_le (by omega)]
      go_wp2_with fail
      refine (idOf_any u (some ⟨b, off, none⟩) cap _ HG.out (HCK.out.later (((Below.refl _ _).alloc (Nat.le_refl _) _).alloc (by simp) _))).mono ?_
      rintro e w1 ⟨rfl, hb1⟩
      have hz : w.heap.size + 1 < w1.heap.size := by have := hb1.size; simp at this; omega
      have HB1 : Hid (Below w.heap.size w w1) := (((Below.refl _ _).alloc (Nat.le_refl _) _).alloc (by simp) _).trans (hb1.mono (by simp; omega))
      obtain ⟨hcc, hff⟩ := bcell hb1
      clear hb1
      go_wp2_with fail
      refine bodyPost_ret (v := .agg #[.int .i64 n, .int .i64 u.id.1, .int .i64 u.id.2]) (by simp [results, Try.results90, go_sem, hcc]) rfl ⟨?_, ?_⟩
      · rw [rkV, HA.out]
      · iterate 3 (refine Below.setCell ?_ (by show w.heap.size ≤ w.heap.size + 1; omega) _)
        exact HB1.out
end Go.Proofs.Yteljbblbdiploaa
