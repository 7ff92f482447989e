/-
  WALKS: package crdt: what removes and clears knew.
-/
import Derived.Test.YteljbblbdiploaaJVRank
import Derived.Test.YteljbblbdiploaaJVMapS
namespace Go.Proofs.Yteljbblbdiploaa
open Go.RowKit

theorem clearsOf_step {l : List Up} {i : Nat} {u : Up} (h : l[i]? = some u) : clearsOf (l.take (i + 1)) = if u.k = 2 then rWith (clearsOf (l.take i)) u.c else clearsOf (l.take i) := by
  unfold clearsOf
  rw [List.take_add_one, h, List.filter_append, List.map_append]
  by_cases hk : u.k = 2
  · rw [if_pos hk]; simp [hk, rAll_app]
  · rw [if_neg hk]; simp [hk]
theorem removesOf_step {l : List Up} {i : Nat} {u : Up} (h : l[i]? = some u) (x : Tx) : removesOf (l.take (i + 1)) x = if u.k = 1 ∧ u.x = x then rWith (removesOf (l.take i) x) u.c else removesOf (l.take i) x := by
  unfold removesOf
  rw [List.take_add_one, h, List.filter_append, List.map_append]
  by_cases hk : u.k = 1 ∧ u.x = x
  · rw [if_pos hk]; simp [hk.1, hk.2, rAll_app]
  · rw [if_neg hk]
    have : (decide (u.k = 1) && decide (u.x = x)) = false := by
      rw [Bool.eq_false_iff]; intro h2; simp at h2; exact hk h2
    simp [this]
theorem kind_cases (u : Up) : ((u.k == 1) = true ∧ True ∧ Hid (u.k = 1)) ∨ ((u.k == 1) = false ∧ (u.k == 2) = true ∧ Hid (u.k = 2)) ∨ ((u.k == 1) = false ∧ (u.k == 2) = false ∧ Hid (u.k ≠ 1 ∧ u.k ≠ 2)) := by
  by_cases h1 : u.k = 1
  · exact .inl ⟨by simp [h1], trivial, h1⟩
  · by_cases h2 : u.k = 2
    · exact .inr (.inl ⟨by simp [h1], by simp [h2], h2⟩)
    · exact .inr (.inr ⟨by simp [h1], by simp [h2], h1, h2⟩)

theorem MapS.setCell {w : World} {b : Nat} {kv : List (Tx × Value)} (h : MapS w b kv) {a : Addr} (hne : b ≠ a.block) (v : Value) : MapS (w.setCell a v) b kv := by
  obtain ⟨es, c, h, r⟩ := h
  exact ⟨es, c, (Below.heap_setCell w a v b hne).trans h, r⟩

set_option maxRecDepth 16000 in
set_option maxHeartbeats 2000000 in
theorem takenAway_any (vo : Option Addr) (cap : Nat) (l : List Up) (w : World) (hu : UpsO w vo l) (hs : ∀ u ∈ l, u.good = true) (hl : l.length ≤ 8000) :
    Calls Try.prog 76 #[.slice vo l.length cap] w fun e w' => ∃ B kv, e = .returned (.tuple #[.map (some B), rV (clearsOf l)]) ∧ MapS w' B kv ∧ w.heap.size ≤ B ∧ (∀ s, (getS kv s).getD (rV zero8) = rV (removesOf l s)) ∧ Below w.heap.size w w' := by
  have HU := hid hu
  have HS := hid hs
  clear hu hs
  have hmk : ∀ t w, (Instr.makeMap t none).run Try.prog w = .ok (.map (some w.heap.size)) (w.alloc (.map #[] 0)) := fun t w => run_makeMap t w
  go_enter Try.func76, Try.ntmps76
  go_wp2_with fail
  clear hmk
  have k1 : BoxR (w.alloc (.cells #[.int .i64 0, .int .i64 0, .int .i64 0, .int .i64 0, .int .i64 0, .int .i64 0, .int .i64 0, .int .i64 0] 110)) w.heap.size zero8 := heap_alloc_new w _
  have l1 : Below w.heap.size w (w.alloc (.cells #[.int .i64 0, .int .i64 0, .int .i64 0, .int .i64 0, .int .i64 0, .int .i64 0, .int .i64 0, .int .i64 0] 110)) := (Below.refl _ _).alloc (Nat.le_refl _) _
  have z1 : (w.alloc (.cells #[.int .i64 0, .int .i64 0, .int .i64 0, .int .i64 0, .int .i64 0, .int .i64 0, .int .i64 0, .int .i64 0] 110)).heap.size = w.heap.size + 1 := by simp
  generalize w.alloc (.cells #[.int .i64 0, .int .i64 0, .int .i64 0, .int .i64 0, .int .i64 0, .int .i64 0, .int .i64 0, .int .i64 0] 110) = w1 at *
  have k2 : MapS (w1.alloc (.map #[] 0)) w1.heap.size [] := MapS.made w1
  have l2 : Below w1.heap.size w1 (w1.alloc (.map #[] 0)) := (Below.refl _ _).alloc (Nat.le_refl _) _
  have z2 : (w1.alloc (.map #[] 0)).heap.size = w1.heap.size + 1 := by simp
  generalize w1.alloc (.map #[] 0) = w2 at *
  have k3 : BoxR (w2.alloc (.cells #[.int .i64 0, .int .i64 0, .int .i64 0, .int .i64 0, .int .i64 0, .int .i64 0, .int .i64 0, .int .i64 0] 110)) w2.heap.size zero8 := heap_alloc_new w2 _
  have l3 : Below w2.heap.size w2 (w2.alloc (.cells #[.int .i64 0, .int .i64 0, .int .i64 0, .int .i64 0, .int .i64 0, .int .i64 0, .int .i64 0, .int .i64 0] 110)) := (Below.refl _ _).alloc (Nat.le_refl _) _
  generalize w2.alloc (.cells #[.int .i64 0, .int .i64 0, .int .i64 0, .int .i64 0, .int .i64 0, .int .i64 0, .int .i64 0, .int .i64 0] 110) = w3 at *
  rw [z2, z1] at k3
  rw [z1] at k2
  have K1 := hid ((k1.later l2).later l3)
  have K2 := hid (k2.later l3)
  have K3 := hid k3
  have L3 : Hid (Below w.heap.size w w3) := (l1.trans (l2.mono l1.size)).trans (l3.mono (Nat.le_trans l1.size l2.size))
  clear k1 k2 k3 l1 l2 l3 z1 z2
  go_loopw [11] (fun i wr => ∃ k : Nat, k ≤ l.length ∧ i = .int .i64 k ∧ (∃ kv, MapS wr (w.heap.size + 1) kv ∧ ∀ s, (getS kv s).getD (rV zero8) = rV (removesOf (l.take k) s)) ∧ BoxR wr w.heap.size zero8 ∧ BoxR wr (w.heap.size + 1 + 1) (clearsOf (l.take k)) ∧ Below w.heap.size w wr) (fun i _ => l.length - (intOf i).toNat)
  case atStart => exact ⟨0, by omega, rfl, ⟨[], K2.out, fun s => rfl⟩, K1.out, K3.out, L3.out⟩
  case round =>
    obtain ⟨k, hk, rfl, ⟨kv, hm, hkv⟩, hb0, hb2, hb⟩ := hrel
    have HM := hid hm
    have HKV := hid hkv
    have HB0 := hid hb0
    have HB2 := hid hb2
    have HB := hid hb
    clear hm hkv
    by_cases hlt : k < l.length
    · obtain ⟨u, hu⟩ : ∃ u, l[k]? = some u := ⟨l[k], List.getElem?_eq_getElem hlt⟩
      obtain ⟨b, off, rfl, hup⟩ := HU.out (by omega)
      obtain ⟨ua, uc, hut⟩ := (hup.later hb) k u hu
      clear hup
      obtain ⟨c0, c1, c2, c3, c4, c5, c6, c7, c8⟩ := hut.nine
      have HUT := hid hut
      have HC := hid (clearsOf_step hu)
      have HR := hid (removesOf_step hu)
      have HGU := hid (HS.out u (List.mem_of_getElem? hu))
      clear hb0 hb2 hb hut hu
      obtain ⟨w0, hw0⟩ : ∃ w0, w0 = wr := ⟨_, rfl⟩
      subst hw0
      have hzr : w.heap.size + 1 + 1 < w0.heap.size := lt_of_block HB2.out
      have HFR : Hid (u.k ≠ 1 → ∀ s, removesOf (l.take (k + 1)) s = removesOf (l.take k) s) := fun h s => by rw [HR.out, if_neg (fun e => h e.1)]
      have H8 : Hid (2 ≤ u.c.length ∧ u.c.length ≤ 8) := (u.good_iff.1 HGU.out).1
      obtain ⟨kb, lb⟩ := boxU_new w0 u ua uc
      simp only [upArr] at kb lb
      have KB := hid kb
      have LB := hid lb
      clear kb lb
      rcases kind_cases u with ⟨h1, h2, h3⟩ | ⟨h1, h2, h3⟩ | ⟨h1, h2, h3⟩
      · go_wp2_with fail
        generalize w0.alloc (.cells #[.int .i64 u.o, .slice ua u.c.length uc, .int .u8 u.t, .int .u8 u.k, .string (bs u.n), .string (bs u.x), .int .i64 u.a, .int .i64 u.ao, .int .i64 u.az] 28) = w5 at *
        clear c0 c1 c2 c3 c4 c5 c6 c7 c8
        obtain ⟨q0, q1, q2, q3, q4, q5, q6, q7, q8⟩ := KB.out.nine
        obtain ⟨cb, co, hua, _⟩ := HUT.out.clk.plain (by have := H8.out; omega)
        subst hua
        have hmd : MapS w5.drew (w.heap.size + 1) kv := (HM.out.later LB.out).later ((Below.refl _ _).drew)
        have hlk := lookup_str (z := rV zero8) hmd Try.underlying108 (by simp [go_sem, rV, zero8]) u.x
        rw [HKV.out] at hlk
        have HMD := hid hmd
        clear hmd
        obtain ⟨_, _, hua2, hcc⟩ := ((HUT.out.clk.later LB.out).later ((Below.refl _ _).drew)).plain (by have := H8.out; omega)
        cases hua2
        have hcb : cb < w5.drew.heap.size := by have := lt_of_cell (hcc 0 (by have := H8.out; omega)); exact this
        have HCC := hid hcc
        have HCB := hid hcb
        clear hcc hcb
        go_region_law (first
          | (go_simp; go_at_call 89; refine (reachWith_any (removesOf (l.take k) u.x) (rAll_len _) cb co uc u.c _ H8.out.2 HCB.out HCC.out).mono ?_; rintro e w6 ⟨rfl, hb6⟩; obtain ⟨w7, hrun, hm7, hg7⟩ := update_str (HMD.out.later hb6) Try.underlying108 u.x (rV (rWith (removesOf (l.take k) u.x) u.c)); have q5' := ((KB.out.later ((Below.refl _ _).drew)).later hb6).nine.2.2.2.2.2.1; have HM7 := hid hm7; have HG7 := hid hg7; have HB6 := hid hb6; clear hm7 hg7 hb6))
        all_goals
          have HW6 : Hid (Below w.heap.size w w6) := ((HB.out.trans (LB.out.mono HB.out.size)).drew).trans (HB6.out.mono (Nat.le_trans HB.out.size LB.out.size))
          have HX : Hid (Below w0.heap.size w0 w6) := (LB.out.drew).trans (HB6.out.mono LB.out.size)
          clear hlk q0 q1 q2 q3 q4 q5 q6 q7 q8 q5' hrun
          go_wp2_with fail
          go_roundw
        all_goals try (simp [intOf]; omega)
        all_goals
          exact ⟨k + 1, by omega, by go_num, ⟨_, HM7.out, fun s => by
            rw [getS_put, HR.out]
            by_cases hx : s = u.x
            · rw [if_pos hx, if_pos ⟨h3.out, hx.symm⟩, hx]; rfl
            · rw [if_neg hx, if_neg (fun e => hx e.2.symm)]; exact HKV.out s⟩,
            (HG7.out.block _ (Nat.lt_of_lt_of_le (by omega) HX.out.size) (by simp)).trans (HB0.out.later HX.out),
            by rw [HC.out, if_neg (by rw [h3.out]; decide)]; exact (HG7.out.block _ (Nat.lt_of_lt_of_le (by omega) HX.out.size) (by simp)).trans (HB2.out.later HX.out),
            HW6.out.grown HG7.out HW6.out.size (fun j hj => by cases hj; omega)⟩
      · obtain ⟨r0, r1, r2, r3, r4, r5, r6, r7, hr⟩ := list8 (r := clearsOf (l.take k)) (rAll_len _)
        obtain ⟨s0, s1, s2, s3, s4, s5, s6, s7, hs⟩ := list8 (r := rWith (clearsOf (l.take k)) u.c) (by rw [rWith_len]; exact rAll_len _)
        have hx5 := HB2.out.later LB.out
        rw [hr] at hx5
        have HX5 := hid hx5
        have e8 : rV (clearsOf (l.take k)) = .agg #[.int .i64 r0, .int .i64 r1, .int .i64 r2, .int .i64 r3, .int .i64 r4, .int .i64 r5, .int .i64 r6, .int .i64 r7] := by rw [hr]; rfl
        have HE := hid e8
        have e9 : rV (rWith (clearsOf (l.take k)) u.c) = .agg #[.int .i64 s0, .int .i64 s1, .int .i64 s2, .int .i64 s3, .int .i64 s4, .int .i64 s5, .int .i64 s6, .int .i64 s7] := by rw [hs]; rfl
        have HN := hid hs
        obtain ⟨p0, p1, p2, p3, p4, p5, p6, p7⟩ := hx5.eight rfl
        simp only [List.getD_cons_zero, List.getD_cons_succ] at p0 p1 p2 p3 p4 p5 p6 p7
        obtain ⟨cb, co, hua, _⟩ := HUT.out.clk.plain (by have := H8.out; omega)
        subst hua
        obtain ⟨_, _, hua2, hcc⟩ := (HUT.out.clk.later LB.out).plain (by have := H8.out; omega)
        cases hua2
        have hcb := lt_of_cell (hcc 0 (by have := H8.out; omega))
        have hcall := reachWith_any (clearsOf (l.take k)) (rAll_len _) cb co uc u.c _ H8.out.2 hcb hcc
        rw [e8, e9] at hcall
        have HCALL := hid hcall
        clear hcc hcb hcall e8 e9 hr hs hx5
        go_wp2_with fail
        refine HCALL.out.mono ?_
        rintro e w6 ⟨rfl, hb6⟩
        have HX : Hid (Below w0.heap.size w0 w6) := (LB.out).trans (hb6.mono LB.out.size)
        have hx6 := HX5.out.later hb6
        have HX6 := hid hx6
        clear HCALL
        clear c0 c1 c2 c3 c4 c5 c6 c7 c8 p0 p1 p2 p3 p4 p5 p6 p7 hb6
        obtain ⟨p0, p1, p2, p3, p4, p5, p6, p7⟩ := hx6.eight rfl
        simp only [List.getD_cons_zero, List.getD_cons_succ] at p0 p1 p2 p3 p4 p5 p6 p7
        have f0 := hx6.free 0
        have f1 := hx6.free 1
        have f2 := hx6.free 2
        have f3 := hx6.free 3
        have f4 := hx6.free 4
        have f5 := hx6.free 5
        have f6 := hx6.free 6
        have f7 := hx6.free 7
        clear hx6
        go_wp2_with fail
        have hx7 := (((((((HX6.out.set 0 s0).set 1 s1).set 2 s2).set 3 s3).set 4 s4).set 5 s5).set 6 s6).set 7 s7
        simp only [List.set_cons_zero, List.set_cons_succ] at hx7
        have hb7 : Below (w.heap.size + 1 + 1) w6 ((((((((w6.setCell ⟨w.heap.size + 1 + 1, 0, none⟩ (.int .i64 s0)).setCell ⟨w.heap.size + 1 + 1, 1, none⟩ (.int .i64 s1)).setCell ⟨w.heap.size + 1 + 1, 2, none⟩ (.int .i64 s2)).setCell ⟨w.heap.size + 1 + 1, 3, none⟩ (.int .i64 s3)).setCell ⟨w.heap.size + 1 + 1, 4, none⟩ (.int .i64 s4)).setCell ⟨w.heap.size + 1 + 1, 5, none⟩ (.int .i64 s5)).setCell ⟨w.heap.size + 1 + 1, 6, none⟩ (.int .i64 s6)).setCell ⟨w.heap.size + 1 + 1, 7, none⟩ (.int .i64 s7)) := by
          iterate 8 (refine Below.setCell ?_ (show w.heap.size + 1 + 1 ≤ w.heap.size + 1 + 1 from Nat.le_refl _) _)
          exact Below.refl _ _
        generalize ((((((((w6.setCell ⟨w.heap.size + 1 + 1, 0, none⟩ (.int .i64 s0)).setCell ⟨w.heap.size + 1 + 1, 1, none⟩ (.int .i64 s1)).setCell ⟨w.heap.size + 1 + 1, 2, none⟩ (.int .i64 s2)).setCell ⟨w.heap.size + 1 + 1, 3, none⟩ (.int .i64 s3)).setCell ⟨w.heap.size + 1 + 1, 4, none⟩ (.int .i64 s4)).setCell ⟨w.heap.size + 1 + 1, 5, none⟩ (.int .i64 s5)).setCell ⟨w.heap.size + 1 + 1, 6, none⟩ (.int .i64 s6)).setCell ⟨w.heap.size + 1 + 1, 7, none⟩ (.int .i64 s7)) = w8 at *
        go_roundw
        case rel => exact ⟨k + 1, by omega, by go_num, ⟨kv, (HM.out.later HX.out).below hb7 (by omega), fun s => by rw [HFR.out (by rw [h3.out]; decide)]; exact HKV.out s⟩, (hb7.block _ (by omega)).trans (HB0.out.later HX.out), by rw [HC.out, if_pos h3.out, HN.out]; exact hx7, (HB.out.trans (HX.out.mono HB.out.size)).trans (hb7.mono (by omega))⟩
        case measure => simp [intOf]; omega
      · go_wp2_with fail
        generalize w0.alloc (.cells #[.int .i64 u.o, .slice ua u.c.length uc, .int .u8 u.t, .int .u8 u.k, .string (bs u.n), .string (bs u.x), .int .i64 u.a, .int .i64 u.ao, .int .i64 u.az] 28) = w5 at *
        go_roundw
        case rel => exact ⟨k + 1, by omega, by go_num, ⟨kv, HM.out.later LB.out, fun s => by rw [HFR.out h3.out.1]; exact HKV.out s⟩, HB0.out.later LB.out, by rw [HC.out, if_neg h3.out.2]; exact HB2.out.later LB.out, HB.out.trans (LB.out.mono HB.out.size)⟩
        case measure => simp [intOf]; omega
    · have htk : l.take k = l := List.take_of_length_le (by omega)
      rw [htk] at hb2
      obtain ⟨p0, p1, p2, p3, p4, p5, p6, p7⟩ := hb2.eight (rAll_len _)
      obtain ⟨z0, z1, z2, z3, z4, z5, z6, z7⟩ := hb0.eight rfl
      have f0 := hb0.free 0
      have f1 := hb0.free 1
      have f2 := hb0.free 2
      have f3 := hb0.free 3
      have f4 := hb0.free 4
      have f5 := hb0.free 5
      have f6 := hb0.free 6
      have f7 := hb0.free 7
      have HV := hid (rV8 (clearsOf l) (rAll_len _))
      have HK2 : Hid (∀ s, (getS kv s).getD (rV zero8) = rV (removesOf l s)) := fun s => by rw [HKV.out, htk]
      clear hb0 hb2 hb htk
      generalize (clearsOf l).getD 0 0 = t0 at *
      generalize (clearsOf l).getD 1 0 = t1 at *
      generalize (clearsOf l).getD 2 0 = t2 at *
      generalize (clearsOf l).getD 3 0 = t3 at *
      generalize (clearsOf l).getD 4 0 = t4 at *
      generalize (clearsOf l).getD 5 0 = t5 at *
      generalize (clearsOf l).getD 6 0 = t6 at *
      generalize (clearsOf l).getD 7 0 = t7 at *
      go_wp2_with fail
      go_region
      have hm7 : MapS (((((((((wr.setCell ⟨w.heap.size, 0, none⟩ (.int .i64 t0)).setCell ⟨w.heap.size, 1, none⟩ (.int .i64 t1)).setCell ⟨w.heap.size, 2, none⟩ (.int .i64 t2)).setCell ⟨w.heap.size, 3, none⟩ (.int .i64 t3)).setCell ⟨w.heap.size, 4, none⟩ (.int .i64 t4)).setCell ⟨w.heap.size, 5, none⟩ (.int .i64 t5)).setCell ⟨w.heap.size, 6, none⟩ (.int .i64 t6)).setCell ⟨w.heap.size, 7, none⟩ (.int .i64 t7)).drew) (w.heap.size + 1) kv := by
        refine MapS.later ?_ ((Below.refl _ _).drew)
        iterate 8 (refine MapS.setCell ?_ (show w.heap.size + 1 ≠ w.heap.size by omega) _)
        exact HM.out
      have hb7 : Below w.heap.size w (((((((((wr.setCell ⟨w.heap.size, 0, none⟩ (.int .i64 t0)).setCell ⟨w.heap.size, 1, none⟩ (.int .i64 t1)).setCell ⟨w.heap.size, 2, none⟩ (.int .i64 t2)).setCell ⟨w.heap.size, 3, none⟩ (.int .i64 t3)).setCell ⟨w.heap.size, 4, none⟩ (.int .i64 t4)).setCell ⟨w.heap.size, 5, none⟩ (.int .i64 t5)).setCell ⟨w.heap.size, 6, none⟩ (.int .i64 t6)).setCell ⟨w.heap.size, 7, none⟩ (.int .i64 t7)).drew) := by
        refine Below.drew ?_
        iterate 8 (refine Below.setCell ?_ (show w.heap.size ≤ w.heap.size from Nat.le_refl _) _)
        exact HB.out
      have HM7 := hid hm7
      have HB7 := hid hb7
      clear hm7 hb7
      go_wp2_with fail
      refine bodyPost_ret (v := .tuple #[.map (some (w.heap.size + 1)), .agg #[.int .i64 t0, .int .i64 t1, .int .i64 t2, .int .i64 t3, .int .i64 t4, .int .i64 t5, .int .i64 t6, .int .i64 t7]]) ?_ rfl ⟨w.heap.size + 1, kv, by rw [HV.out], HM7.out, by omega, HK2.out, HB7.out⟩
      simp [results, Try.results76, go_sem, z0, z1, z2, z3, z4, z5, z6, z7]
end Go.Proofs.Yteljbblbdiploaa
