/-
  WALKS: ids, ages, what is behind what: package crdt's, and the document's answer's.
-/
/-
  WALKS: the document's answer: what is behind what; how old an update is.
-/
import Derived.Test.YteljbblbdiploaaJVMem
import Derived.BigRegion
import Derived.Deep.QuietTactic
import Derived.BigQuiet
import Derived.Lib.QuietBelow
import Derived.Deep.RegionWith
namespace Go.Proofs.Yteljbblbdiploaa
open Go.RowKit

/-- an id as a value -/
abbrev idV (i : Int × Int) : Value := .agg #[.int .i64 i.1, .int .i64 i.2]

/-- of a right update: its clock's address, its origin, its own number -/
theorem Up.parts {w : World} {u : Up} {ao : Option Addr} {cap : Nat} (hg : u.good = true) (hc : ClkAt w ao cap u.c) :
    ∃ b off g, ao = some ⟨b, off, none⟩ ∧ u.o = (g : Nat) ∧ g < u.c.length ∧ (∀ j, j < u.c.length → w.cell? ⟨b, off + j, none⟩ = some (.int .i64 (u.c.getD j 0))) ∧ w.cell? ⟨b, off + g, none⟩ = some (.int .i64 u.seq) ∧ b < w.heap.size := by
  obtain ⟨h1, _, ⟨h3, h4⟩, _⟩ := u.good_iff.1 hg
  obtain ⟨b, off, rfl, hp⟩ := hc.plain (by omega)
  refine ⟨b, off, u.o.toNat, rfl, by omega, by omega, hp, hp _ (by omega), lt_of_cell (hp 0 (by omega))⟩

set_option maxRecDepth 16000 in
set_option maxHeartbeats 1000000 in
theorem idOf_any (u : Up) (ao : Option Addr) (cap : Nat) (w : World) (hg : u.good = true) (hc : ClkAt w ao cap u.c) :
    Calls Try.prog 60 #[upV u ao cap] w fun e w' => e = .returned (idV u.id) ∧ Below w.heap.size w w' := by
  obtain ⟨b, off, g, rfl, hog, hgl, -, hcell, hbl⟩ := Up.parts hg hc
  have h8 := (u.good_iff.1 hg).1
  unfold upV idV Up.id
  clear hc
  generalize u.seq = q at *
  generalize u.o = o at *
  subst hog
  go_enter Try.func60, Try.ntmps60
  go_wp2
  go_region
  go_wp2
  refine bodyPost_ret (v := .agg #[.int .i64 g, .int .i64 q]) ?_ rfl ⟨rfl, ?_⟩
  · simp [results, Try.results60, go_sem]
  · exact (((Below.refl _ _).alloc (Nat.le_refl _) _).alloc (by simp) _).drew

set_option maxRecDepth 16000 in
set_option maxHeartbeats 1000000 in
theorem refId_any (u : Up) (ao : Option Addr) (cap : Nat) (w : World) (hg : u.good = true) (hc : ClkAt w ao cap u.c) :
    Calls Try.prog 43 #[upV u ao cap] w fun e w' => e = .returned (idV u.id) ∧ Below w.heap.size w w' := by
  obtain ⟨b, off, g, rfl, hog, hgl, -, hcell, hbl⟩ := Up.parts hg hc
  have h8 := (u.good_iff.1 hg).1
  unfold upV idV Up.id
  clear hc
  generalize u.seq = q at *
  generalize u.o = o at *
  subst hog
  go_enter Try.func43, Try.ntmps43
  go_wp2
  go_region
  go_wp2
  refine bodyPost_ret (v := .agg #[.int .i64 g, .int .i64 q]) ?_ rfl ⟨rfl, ?_⟩
  · simp [results, Try.results43, go_sem]
  · exact (((Below.refl _ _).alloc (Nat.le_refl _) _).alloc (by simp) _).drew
end Go.Proofs.Yteljbblbdiploaa

namespace Go.Proofs.Yteljbblbdiploaa
open Go.RowKit

/-- a sum that goes on -/
theorem sum_step {c : List Int} (h : ∀ n ∈ c, 0 ≤ n ∧ n ≤ 1000) (h8 : c.length ≤ 8) (k : Nat) : (0 ≤ (c.take k).sum ∧ (c.take k).sum ≤ 8000) ∧ (0 ≤ c.getD k 0 ∧ c.getD k 0 ≤ 1000) ∧ (c.take (k + 1)).sum = (c.take k).sum + c.getD k 0 := by
  have h1 := sum_in (l := c.take k) fun n hn => h n (List.mem_of_mem_take hn)
  rw [List.length_take] at h1
  refine ⟨by omega, getD_in h, ?_⟩
  rw [List.take_add_one, List.sum_append]
  by_cases hk : k < c.length
  · simp [hk]
  · simp [Nat.not_lt.1 hk]

set_option maxRecDepth 16000 in
set_option maxHeartbeats 2000000 in
theorem refAge_any (u : Up) (ao : Option Addr) (cap : Nat) (w : World) (hg : u.good = true) (hc : ClkAt w ao cap u.c) :
    Calls Try.prog 93 #[upV u ao cap] w fun e w' => e = .returned (.int .i64 u.age) ∧ Below w.heap.size w w' := by
  obtain ⟨b, off, g, rfl, -, -, hcell, -, hbl⟩ := Up.parts hg hc
  obtain ⟨h8, hin, _⟩ := u.good_iff.1 hg
  have HC := hid hcell
  have HIN := hid hin
  unfold upV Up.age
  clear hc hcell hin
  generalize u.c = c at *
  go_enter Try.func93, Try.ntmps93
  go_wp2_with fail
  go_loop [3, 4] (fun n i => ∃ k : Nat, k ≤ c.length ∧ i = .int .i64 k ∧ n = .int .i64 (c.take k).sum) (fun _ i => c.length - (intOf i).toNat)
  case atStart => exact ⟨0, by omega, rfl, by simp⟩
  case round =>
    obtain ⟨k, hk, rfl, rfl⟩ := hrel
    obtain ⟨s0, s1, s2⟩ := sum_step HIN.out h8.2 k
    have HS := hid s2
    clear s2
    generalize hn : (c.take k).sum = n at *
    have HN := hid hn
    clear hn
    by_cases hlt : k < c.length
    · have hcell := HC.out k hlt
      generalize c.getD k 0 = z at *
      go_wp2_with fail
      go_round
      case rel => exact ⟨k + 1, by omega, by go_num, by rw [HS.out]⟩
      case measure => simp [intOf]; omega
    · go_wp2_with fail
      go_ret
      exact ⟨ret_int (by rw [← HN.out, List.take_of_length_le (by omega)]), (Below.refl _ _).alloc (Nat.le_refl _) _⟩

/-- two ids, asked whether they are others -/
theorem id_neq (i j : Int × Int) (w : World) : (binOp .neq 24 (idV i) (idV j)).run Try.prog w = .ok (.bool (decide (i ≠ j))) w := by
  have e : decide (i ≠ j) = !(i.1 == j.1 && i.2 == j.2) := by
    rw [Bool.eq_iff_iff]
    simp [Prod.ext_iff]
  rw [e]
  simp [go_sem]
  by_cases h1 : i.fst = j.fst <;> by_cases h2 : i.snd = j.snd <;> simp [h1, h2]
theorem id_eql (i j : Int × Int) (w : World) : (binOp .eql 24 (idV i) (idV j)).run Try.prog w = .ok (.bool (decide (i = j))) w := by
  have e : decide (i = j) = (i.1 == j.1 && i.2 == j.2) := by
    rw [Bool.eq_iff_iff]
    simp [Prod.ext_iff]
  rw [e]
  simp [go_sem]
  by_cases h1 : i.fst = j.fst <;> by_cases h2 : i.snd = j.snd <;> simp [h1, h2]

theorem two_boxes (w : World) (A B : Array Value) (T : TypeId) : (∀ i, ((w.alloc (.cells A T)).alloc (.cells B T)).cell? ⟨w.heap.size, i, none⟩ = A[i]?) ∧ (∀ i, ((w.alloc (.cells A T)).alloc (.cells B T)).cell? ⟨w.heap.size + 1, i, none⟩ = B[i]?) ∧ Below w.heap.size w ((w.alloc (.cells A T)).alloc (.cells B T)) := by
  have hb : Below (w.heap.size + 1) (w.alloc (.cells A T)) ((w.alloc (.cells A T)).alloc (.cells B T)) := (Below.refl _ _).alloc (by simp) _
  refine ⟨fun i => ?_, fun i => ?_, ((Below.refl _ _).alloc (Nat.le_refl _) _).alloc (by simp) _⟩
  · rw [hb.cell (p := ⟨w.heap.size, i, none⟩) (by simp)]
    exact cell_of_row _ _ i _ _ (0, 0) (heap_alloc_new w _)
  · have := cell_of_row ((w.alloc (.cells A T)).alloc (.cells B T)) (w.heap.size + 1) i B T (0, 0) (by have := heap_alloc_new (w.alloc (.cells A T)) (.cells B T); simpa using this)
    exact this

set_option maxRecDepth 16000 in
set_option maxHeartbeats 2000000 in
theorem behind_any (u v : Up) (ao bo : Option Addr) (cap cbp : Nat) (w : World) (hu : u.good = true) (hv : v.good = true) (hlen : u.c.length = v.c.length) (hc : ClkAt w ao cap u.c) (hd : ClkAt w bo cbp v.c) :
    Calls Try.prog 81 #[upV u ao cap, upV v bo cbp] w fun e w' => e = .returned (.bool (behindB u v)) ∧ Below w.heap.size w w' := by
  obtain ⟨b1, o1, g1, rfl, -, -, hcell, -, hbl1⟩ := Up.parts hu hc
  obtain ⟨b2, o2, g2, rfl, hg, hgl, hcell2, -, hbl2⟩ := Up.parts hv hd
  have hat : w.cell? ⟨b1, o1 + v.o.toNat, none⟩ = some (.int .i64 (u.at v.o)) := hcell v.o.toNat (by omega)
  have hseq : w.cell? ⟨b2, o2 + v.o.toNat, none⟩ = some (.int .i64 v.seq) := hcell2 v.o.toNat (by omega)
  have hv0 : 0 ≤ v.o := by omega
  have hv1 : v.o < v.c.length := by omega
  have hv2 : v.o < u.c.length := by omega
  have hlu := (u.good_iff.1 hu).1
  have hlv := (v.good_iff.1 hv).1
  have HB : Hid (behindB u v = (decide (u.id ≠ v.id) && decide (v.seq ≤ u.at v.o))) := rfl
  have HU := hid hu
  have HV := hid hv
  have HC := hid hc
  have HD := hid hd
  clear hcell hcell2 hc hd hu hv hlen hg hgl
  unfold upV
  generalize u.at v.o = x at *
  generalize v.seq = y at *
  go_enter Try.func81, Try.ntmps81
  go_wp2_with fail
  have htb := two_boxes w #[.int .i64 u.o, .slice (some ⟨b1, o1, none⟩) u.c.length cap, .int .u8 u.t, .int .u8 u.k, .string (bs u.n), .string (bs u.x), .int .i64 u.a, .int .i64 u.ao, .int .i64 u.az] #[.int .i64 v.o, .slice (some ⟨b2, o2, none⟩) v.c.length cbp, .int .u8 v.t, .int .u8 v.k, .string (bs v.n), .string (bs v.x), .int .i64 v.a, .int .i64 v.ao, .int .i64 v.az] 28
  generalize (w.alloc (.cells #[.int .i64 u.o, .slice (some ⟨b1, o1, none⟩) u.c.length cap, .int .u8 u.t, .int .u8 u.k, .string (bs u.n), .string (bs u.x), .int .i64 u.a, .int .i64 u.ao, .int .i64 u.az] 28)).alloc (.cells #[.int .i64 v.o, .slice (some ⟨b2, o2, none⟩) v.c.length cbp, .int .u8 v.t, .int .u8 v.k, .string (bs v.n), .string (bs v.x), .int .i64 v.a, .int .i64 v.ao, .int .i64 v.az] 28) = wq at *
  obtain ⟨hA, hB, hbq⟩ := htb
  have c0 : ∀ d os, (Sort.grow (redrawn wq d) os).cell? ⟨w.heap.size, 0, none⟩ = some (.int .i64 u.o) := cell_regrown (hA 0)
  have c1 : ∀ d os, (Sort.grow (redrawn wq d) os).cell? ⟨w.heap.size, 1, none⟩ = some (.slice (some ⟨b1, o1, none⟩) u.c.length cap) := cell_regrown (hA 1)
  have c2 : ∀ d os, (Sort.grow (redrawn wq d) os).cell? ⟨w.heap.size, 2, none⟩ = some (.int .u8 u.t) := cell_regrown (hA 2)
  have c3 : ∀ d os, (Sort.grow (redrawn wq d) os).cell? ⟨w.heap.size, 3, none⟩ = some (.int .u8 u.k) := cell_regrown (hA 3)
  have c4 : ∀ d os, (Sort.grow (redrawn wq d) os).cell? ⟨w.heap.size, 4, none⟩ = some (.string (bs u.n)) := cell_regrown (hA 4)
  have c5 : ∀ d os, (Sort.grow (redrawn wq d) os).cell? ⟨w.heap.size, 5, none⟩ = some (.string (bs u.x)) := cell_regrown (hA 5)
  have c6 : ∀ d os, (Sort.grow (redrawn wq d) os).cell? ⟨w.heap.size, 6, none⟩ = some (.int .i64 u.a) := cell_regrown (hA 6)
  have c7 : ∀ d os, (Sort.grow (redrawn wq d) os).cell? ⟨w.heap.size, 7, none⟩ = some (.int .i64 u.ao) := cell_regrown (hA 7)
  have c8 : ∀ d os, (Sort.grow (redrawn wq d) os).cell? ⟨w.heap.size, 8, none⟩ = some (.int .i64 u.az) := cell_regrown (hA 8)
  have d0 : ∀ d os, (Sort.grow (redrawn wq d) os).cell? ⟨w.heap.size + 1, 0, none⟩ = some (.int .i64 v.o) := cell_regrown (hB 0)
  have d1 : ∀ d os, (Sort.grow (redrawn wq d) os).cell? ⟨w.heap.size + 1, 1, none⟩ = some (.slice (some ⟨b2, o2, none⟩) v.c.length cbp) := cell_regrown (hB 1)
  have d2 : ∀ d os, (Sort.grow (redrawn wq d) os).cell? ⟨w.heap.size + 1, 2, none⟩ = some (.int .u8 v.t) := cell_regrown (hB 2)
  have d3 : ∀ d os, (Sort.grow (redrawn wq d) os).cell? ⟨w.heap.size + 1, 3, none⟩ = some (.int .u8 v.k) := cell_regrown (hB 3)
  have d4 : ∀ d os, (Sort.grow (redrawn wq d) os).cell? ⟨w.heap.size + 1, 4, none⟩ = some (.string (bs v.n)) := cell_regrown (hB 4)
  have d5 : ∀ d os, (Sort.grow (redrawn wq d) os).cell? ⟨w.heap.size + 1, 5, none⟩ = some (.string (bs v.x)) := cell_regrown (hB 5)
  have d6 : ∀ d os, (Sort.grow (redrawn wq d) os).cell? ⟨w.heap.size + 1, 6, none⟩ = some (.int .i64 v.a) := cell_regrown (hB 6)
  have d7 : ∀ d os, (Sort.grow (redrawn wq d) os).cell? ⟨w.heap.size + 1, 7, none⟩ = some (.int .i64 v.ao) := cell_regrown (hB 7)
  have d8 : ∀ d os, (Sort.grow (redrawn wq d) os).cell? ⟨w.heap.size + 1, 8, none⟩ = some (.int .i64 v.az) := cell_regrown (hB 8)
  have e1 : ∀ d os, (Sort.grow (redrawn wq d) os).cell? ⟨b1, o1 + v.o.toNat, none⟩ = some (.int .i64 x) := cell_regrown ((hbq.cell (p := ⟨b1, o1 + v.o.toNat, none⟩) hbl1).trans hat)
  have e2 : ∀ d os, (Sort.grow (redrawn wq d) os).cell? ⟨b2, o2 + v.o.toNat, none⟩ = some (.int .i64 y) := cell_regrown ((hbq.cell (p := ⟨b2, o2 + v.o.toNat, none⟩) hbl2).trans hseq)
  have HQ := hid hbq
  have HCu : Hid (∀ d os, ClkAt (Sort.grow (redrawn wq d) os) (some ⟨b1, o1, none⟩) cap u.c) := fun d os => (HC.out.later hbq).later (below_regrown wq d os)
  have HCv : Hid (∀ d os, ClkAt (Sort.grow (redrawn wq d) os) (some ⟨b2, o2, none⟩) cbp v.c) := fun d os => (HD.out.later hbq).later (below_regrown wq d os)
  clear hA hB hat hseq hbq
  have hcase : (u.id.fst = v.id.fst ∧ u.id.snd = v.id.snd ∧ Hid (u.id = v.id)) ∨ (u.id.fst = v.id.fst ∧ u.id.snd ≠ v.id.snd ∧ Hid (u.id ≠ v.id)) ∨ (u.id.fst ≠ v.id.fst ∧ True ∧ Hid (u.id ≠ v.id)) := by
    by_cases h1 : u.id.fst = v.id.fst
    · by_cases h2 : u.id.snd = v.id.snd
      · exact .inl ⟨h1, h2, Prod.ext h1 h2⟩
      · exact .inr (.inl ⟨h1, h2, fun e => h2 (by rw [e])⟩)
    · exact .inr (.inr ⟨h1, trivial, fun e => h1 (by rw [e])⟩)
  rcases hcase with ⟨h1, h2, h3⟩ | ⟨h1, h2, h3⟩ | ⟨h1, h2, h3⟩
  all_goals
    refine wp_region_quiet_below (by kernel_rfl) (by kernel_rfl) ?_
    repeat (go_big_quiet_step (first | (go_at_call_of 43 (u.o); exact Calls.regrown_of (refId_any u _ _ _ HU.out (HCu.out _ _))) | (go_at_call_of 43 (v.o); exact Calls.regrown_of (refId_any v _ _ _ HV.out (HCv.out _ _)))))
    refine wpQuiet_nil ?_
    intro _ hw'
    obtain ⟨⟨nq, osq⟩, hw''⟩ := hw'
    subst hw''
    go_wp2
    go_ret
    refine ⟨ret_bool ?_, HQ.out.trans ((below_regrown wq nq osq).mono HQ.out.size)⟩
    rw [HB.out]
    have h3 := h3.out
    simp [h3]
end Go.Proofs.Yteljbblbdiploaa
