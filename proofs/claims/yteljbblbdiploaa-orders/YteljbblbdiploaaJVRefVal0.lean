/-
  WALKS: the document's answer: Value.
-/
/-
  WALKS: the document's answer: Value of no updates.
-/
import Derived.Test.YteljbblbdiploaaJVAlike
namespace Go.Proofs.Yteljbblbdiploaa
open Go.RowKit

set_option maxRecDepth 16000 in
set_option maxHeartbeats 2000000 in
theorem rValue_any (kind : Int) (name : Tx) (b off cap : Nat) (l : List Up) (w : World) (hu : UpsAt w b off l) (hk0 : 0 ≤ kind) (hl0 : 0 < l.length) (hlm : l.length ≤ 9223372036854775807) (hnm : name.length ≤ maxLen) :
    Calls Try.prog 19 #[.int .u8 kind, .string (bs name), .slice (some ⟨b, off, none⟩) l.length cap] w fun e w' => ∃ v, e = .returned (.tuple #[v, .int .i64 (valD kind name l).2]) ∧ IsVal w' w.heap.size v (valD kind name l).1 ∧ Below w.heap.size w w' := by
  have HU := hid hu
  clear hu
  unfold maxLen at hnm
  by_cases harg : kind ≤ 3 ∧ 1 ≤ name.length ∧ name.length ≤ 8
  · obtain ⟨hk3, hn1, hn8⟩ := harg
    have HDY : Hid (Ups l → valD kind name l = (worthD kind name l, 0)) := valD_yes ⟨hk3, hn1, hn8⟩
    have HDN : Hid (¬ Ups l → valD kind name l = (([], [], 0), 2)) := valD_bad ⟨hk3, hn1, hn8⟩
    go_enter Try.func19, Try.ntmps19
    go_wp2_with fail
    have hv1 : ValB (w.alloc (.cells #[.slice none 0 0, .slice none 0 0, .int .i64 0] 51)) w.heap.size (.slice none 0 0) (.slice none 0 0) := heap_alloc_new w _
    have hb1 : Below w.heap.size w (w.alloc (.cells #[.slice none 0 0, .slice none 0 0, .int .i64 0] 51)) := (Below.refl _ _).alloc (Nat.le_refl _) _
    generalize w.alloc (.cells #[.slice none 0 0, .slice none 0 0, .int .i64 0] 51) = w1 at *
    have HV1 := hid hv1
    have HB1 := hid hb1
    have hz1 : w.heap.size < w1.heap.size := lt_of_block hv1
    obtain ⟨z, hz⟩ : ∃ z, l[0]? = some z := ⟨l[0], List.getElem?_eq_getElem hl0⟩
    have HZ := hid hz
    clear hv1 hb1 hz
    go_loopw [8] (fun i wr => ∃ k : Nat, k ≤ l.length ∧ i = .int .i64 k ∧ Ups (l.take k) ∧ Below w1.heap.size w1 wr) (fun i _ => l.length - (intOf i).toNat)
    case atStart => exact ⟨0, by omega, rfl, Ups.nil, Below.refl _ _⟩
    case round =>
      obtain ⟨k, hk, rfl, hups, hb⟩ := hrel
      have HUPS := hid hups
      have HB := hid hb
      have hbw : Below w.heap.size w wr := HB1.out.trans (hb.mono HB1.out.size)
      have HBW := hid hbw
      clear hups hb
      by_cases hlt : k < l.length
      · obtain ⟨u, hu⟩ : ∃ u, l[k]? = some u := ⟨l[k], List.getElem?_eq_getElem hlt⟩
        obtain ⟨ua, uc, hut⟩ := (HU.out.later hbw) k u hu
        obtain ⟨c0, c1, c2, c3, c4, c5, c6, c7, c8⟩ := hut.nine
        have HUT := hid hut
        have HUK := hid hu
        clear hu hut hbw
        obtain ⟨w0, hw0⟩ : ∃ w0, w0 = wr := ⟨_, rfl⟩
        subst hw0
        go_wp2_with fail
        refine (isUpdate_any u ua uc _ HUT.out.clk HUT.out.fit).mono ?_
        rintro e w2 ⟨rfl, hb2⟩
        have hbw2 : Below w.heap.size w w2 := HBW.out.trans (hb2.mono HBW.out.size)
        have HBW2 := hid hbw2
        have HB2 : Hid (Below w1.heap.size w1 w2) := HB.out.trans (hb2.mono HB.out.size)
        have hres2 : ValB w2 w.heap.size (.slice none 0 0) (.slice none 0 0) := HV1.out.below HB2.out hz1
        have HRES2 := hid hres2
        obtain ⟨x0, x1, x2, _, _⟩ := hres2.cells
        obtain ⟨y0, y1, y2⟩ := hres2.free
        obtain ⟨za, zc, hzt⟩ := (HU.out.later hbw2) 0 z HZ.out
        obtain ⟨_, z1, _⟩ := hzt.nine
        obtain ⟨_, u1, _⟩ := (HUT.out.later hb2).nine
        rw [Nat.zero_mul, Nat.add_zero] at z1
        have hfu := HUT.out.fit.c
        have hfz := hzt.fit.c
        clear hb2 hbw2 hres2 hzt c0 c1 c2 c3 c4 c5 c6 c7 c8
        by_cases hg : u.good = true
        · by_cases hlen : u.c.length = z.c.length
          · go_wp2_with fail
            go_quiet (fail)
            go_wp2_with fail
            have hq0 : Below w.heap.size w (w2.drewN nq) := ⟨HBW2.out.os, HBW2.out.tape, HBW2.out.output, HBW2.out.size, HBW2.out.block⟩
            have hq1 : Below w1.heap.size w1 (w2.drewN nq) := ⟨HB2.out.os, HB2.out.tape, HB2.out.output, HB2.out.size, HB2.out.block⟩
            clear x0 x1 x2 y0 y1 y2 z1 u1
            have HLEN := hid hlen
            clear hlen
            generalize w2.drewN nq = w3 at *
            have HQ0 := hid hq0
            have HQ1 := hid hq1
            clear hq0 hq1
            go_loopw [10] (fun i wr => ∃ q : Nat, q ≤ k ∧ i = .int .i64 q ∧ (∀ v ∈ l.take q, v.id ≠ u.id) ∧ Below w3.heap.size w3 wr) (fun i _ => k - (intOf i).toNat)
            case atStart => exact ⟨0, by omega, rfl, by simp, Below.refl _ _⟩
            case round =>
              obtain ⟨q, hq, rfl, hall, hbx⟩ := hrel
              have HALL := hid hall
              have HX := hid hbx
              have hbwx : Below w.heap.size w wr := HQ0.out.trans (hbx.mono HQ0.out.size)
              have HBX := hid hbwx
              clear hall hbx
              by_cases hqk : q < k
              · obtain ⟨y, hy⟩ : ∃ y, l[q]? = some y := ⟨l[q]'(by omega), List.getElem?_eq_getElem (by omega)⟩
                obtain ⟨ya, yc, hyt⟩ := (HU.out.later hbwx) q y hy
                obtain ⟨ua', uc', hut'⟩ := (HU.out.later hbwx) k u HUK.out
                have hgy : y.good = true := HUPS.out.good y (List.mem_take_iff_getElem.2 ⟨q, by omega, by rw [List.getElem?_eq_getElem (by omega : q < l.length)] at hy; exact Option.some.inj hy⟩)
                have HGY := hid hgy
                have HY := hid hy
                have HYT := hid hyt
                have HUT' := hid hut'
                obtain ⟨d0, d1, d2, d3, d4, d5, d6, d7, d8⟩ := hyt.re9
                obtain ⟨c0, c1, c2, c3, c4, c5, c6, c7, c8⟩ := hut'.re9
                have HG := hid hg
                have hres2 : ValB wr w.heap.size (.slice none 0 0) (.slice none 0 0) := HV1.out.below (HQ1.out.trans (HX.out.mono HQ1.out.size)) hz1
                have HRES3 := hid hres2
                have hql : q < l.length := by omega
                clear hy hyt hut' hbwx hres2 hgy
                go_wp2_with fail
                have hcase : (y.id.fst = u.id.fst ∧ y.id.snd = u.id.snd ∧ Hid (y.id = u.id)) ∨ (y.id.fst = u.id.fst ∧ y.id.snd ≠ u.id.snd ∧ Hid (y.id ≠ u.id)) ∨ (y.id.fst ≠ u.id.fst ∧ True ∧ Hid (y.id ≠ u.id)) := by
                  by_cases h1 : y.id.fst = u.id.fst
                  · by_cases h2 : y.id.snd = u.id.snd
                    · exact .inl ⟨h1, h2, Prod.ext h1 h2⟩
                    · exact .inr (.inl ⟨h1, h2, fun e => h2 (by rw [e])⟩)
                  · exact .inr (.inr ⟨h1, trivial, fun e => h1 (by rw [e])⟩)
                rcases hcase with ⟨h1, h2, h3⟩ | ⟨h1, h2, h3⟩ | ⟨h1, h2, h3⟩
                all_goals
                  refine wp_region_quiet_below (by kernel_rfl) (by kernel_rfl) ?_
                  repeat (go_big_quiet_step (first | (go_at_call_of 43 (y.o); exact Calls.regrown_of (refId_any y _ _ _ HGY.out (HYT.out.clk.later (below_regrown wr _ _)))) | (go_at_call_of 43 (u.o); exact Calls.regrown_of (refId_any u _ _ _ HG.out (HUT'.out.clk.later (below_regrown wr _ _))))))
                  refine wpQuiet_nil ?_
                  intro _ hw'
                  obtain ⟨⟨nq', osq⟩, hw''⟩ := hw'
                  subst hw''
                  clear c0 c1 c2 c3 c4 c5 c6 c7 c8 d0 d1 d2 d3 d4 d5 d6 d7 d8 h1 h2
                  have hbr := below_regrown wr nq' osq
                  have hres4 := HRES3.out.later' hbr
                  have HBR : Hid (Below w.heap.size w (Sort.grow (redrawn wr nq') osq)) := HBX.out.trans (hbr.mono HBX.out.size)
                  have HXR : Hid (Below w3.heap.size w3 (Sort.grow (redrawn wr nq') osq)) := HX.out.trans (hbr.mono HX.out.size)
                  obtain ⟨x0, x1, x2, _, _⟩ := hres4.cells
                  obtain ⟨y0, y1, y2⟩ := hres4.free
                  clear hbr hres4
                  generalize Sort.grow (redrawn wr nq') osq = w5 at *
                · go_wp2_with fail
                  have hd : valD kind name l = (([], [], 0), 2) := HDN.out (fun h : Ups l => absurd h3.out (List.pairwise_iff_getElem.1 h.ids q k (by omega) hlt hqk |> fun hne => by rw [← show l[q] = y by (have := HY.out; rw [List.getElem?_eq_getElem hql] at this; exact Option.some.inj this), ← show l[k] = u by (have := HUK.out; rw [List.getElem?_eq_getElem hlt] at this; exact Option.some.inj this)]; exact hne))
                  refine bodyPost_ret (v := .tuple #[.agg #[.slice none 0 0, .slice none 0 0, .int .i64 0], .int .i64 2]) ?_ rfl ⟨_, by rw [hd], by rw [hd]; exact ⟨_, _, 0, 0, rfl, World.ownsRow_nil _ _ _ _, World.ownsRow_nil _ _ _ _⟩, ?_⟩
                  · simp [results, Try.results19, go_sem, x0, x1, x2]
                  · have q := HBR.out
                    have q0 := Below.setCell q (p := ⟨w.heap.size, 0, none⟩) (Nat.le_refl _) (.slice none 0 0)
                    have q1 := Below.setCell q0 (p := ⟨w.heap.size, 1, none⟩) (Nat.le_refl _) (.slice none 0 0)
                    exact Below.setCell q1 (p := ⟨w.heap.size, 2, none⟩) (Nat.le_refl _) (.int .i64 0)
                all_goals
                  go_wp2_with fail
                  go_roundw
                  case rel =>
                    refine ⟨q + 1, by omega, by go_num, fun v hv => ?_, HXR.out⟩
                    rw [List.take_add_one, HY.out] at hv
                    rcases List.mem_append.1 hv with m | m
                    · exact HALL.out v m
                    · simp at m; subst m; exact h3.out
                  case measure => simp [intOf]; omega
              · have hqe : q = k := by omega
                subst hqe
                have HN := hid (Ups.snoc HUK.out HUPS.out hg (fun z' hz' => by rw [HZ.out] at hz'; cases hz'; exact HLEN.out) HALL.out)
                go_wp2_with fail
                go_roundw
                case rel => exact ⟨q + 1, by omega, by go_num, HN.out, HQ1.out.trans (HX.out.mono HQ1.out.size)⟩
                case measure => simp [intOf]; omega
          · go_wp2_with fail
            go_quiet (fail)
            go_wp2_with fail
            have hd : valD kind name l = (([], [], 0), 2) := HDN.out (fun h : Ups l => hlen (h.one u (List.mem_of_getElem? HUK.out) z (List.mem_of_getElem? HZ.out)))
            refine bodyPost_ret (v := .tuple #[.agg #[.slice none 0 0, .slice none 0 0, .int .i64 0], .int .i64 2]) ?_ rfl ⟨_, by rw [hd], by rw [hd]; exact ⟨_, _, 0, 0, rfl, World.ownsRow_nil _ _ _ _, World.ownsRow_nil _ _ _ _⟩, ?_⟩
            · simp [results, Try.results19, go_sem, x0, x1, x2]
            · have q := (⟨HBW2.out.os, HBW2.out.tape, HBW2.out.output, HBW2.out.size, HBW2.out.block⟩ : Below w.heap.size w (w2.drewN nq))
              have q0 := Below.setCell q (p := ⟨w.heap.size, 0, none⟩) (Nat.le_refl _) (.slice none 0 0)
              have q1 := Below.setCell q0 (p := ⟨w.heap.size, 1, none⟩) (Nat.le_refl _) (.slice none 0 0)
              exact Below.setCell q1 (p := ⟨w.heap.size, 2, none⟩) (Nat.le_refl _) (.int .i64 0)
        · have hg' : u.good = false := by simpa using hg
          go_wp2_with fail
          go_quiet (fail)
          go_wp2_with fail
          have hd : valD kind name l = (([], [], 0), 2) := HDN.out (fun h : Ups l => hg (h.good u (List.mem_of_getElem? HUK.out)))
          refine bodyPost_ret (v := .tuple #[.agg #[.slice none 0 0, .slice none 0 0, .int .i64 0], .int .i64 2]) ?_ rfl ⟨_, by rw [hd], by rw [hd]; exact ⟨_, _, 0, 0, rfl, World.ownsRow_nil _ _ _ _, World.ownsRow_nil _ _ _ _⟩, ?_⟩
          · simp [results, Try.results19, go_sem, x0, x1, x2]
          · have q := (⟨HBW2.out.os, HBW2.out.tape, HBW2.out.output, HBW2.out.size, HBW2.out.block⟩ : Below w.heap.size w (w2.drewN nq))
            have q0 := Below.setCell q (p := ⟨w.heap.size, 0, none⟩) (Nat.le_refl _) (.slice none 0 0)
            have q1 := Below.setCell q0 (p := ⟨w.heap.size, 1, none⟩) (Nat.le_refl _) (.slice none 0 0)
            exact Below.setCell q1 (p := ⟨w.heap.size, 2, none⟩) (Nat.le_refl _) (.int .i64 0)
      · have hkl : l.take k = l := List.take_of_length_le (by omega)
        have hups := HUPS.out
        rw [hkl] at hups
        have HD2 : Hid (valD kind name l = (worthD kind name l, 0)) := HDY.out hups
        have hres : ValB wr w.heap.size (.slice none 0 0) (.slice none 0 0) := HV1.out.below HB.out hz1
        have HRES := hid hres
        have HUPL := hid hups
        clear hres hups hkl hbw
        go_wp2_with fail
        refine (worth_any kind name b off cap l wr (HU.out.later HBW.out) HUPL.out HUPL.out.len hk0 hk3).mono ?_
        rintro e w4 ⟨v4, rfl, hval, hb4⟩
        obtain ⟨t, ix, n, m, rfl, ht, hix⟩ := hval
        obtain ⟨ta, tc, rfl⟩ := own_slice ht
        obtain ⟨xa, xc, rfl⟩ := own_slice hix
        have hres4 := HRES.out.later' hb4
        have hzw4 : w.heap.size < w4.heap.size := lt_of_block hres4
        obtain ⟨x0, x1, x2, _, _⟩ := hres4.cells
        obtain ⟨y0, y1, y2⟩ := hres4.free
        have HT := hid ht
        have HI := hid hix
        have HB4 : Hid (Below w.heap.size w w4) := HBW.out.trans (hb4.mono HBW.out.size)
        have hzr : w.heap.size < wr.heap.size := lt_of_block HRES.out
        clear ht hix hb4 hres4
        go_wp2_with fail
        refine bodyPost_ret (v := .tuple #[.agg #[.slice ta n tc, .slice xa m xc, .int .i64 (worthD kind name l).2.2], .int .i64 0]) ?_ rfl ⟨.agg #[.slice ta n tc, .slice xa m xc, .int .i64 (worthD kind name l).2.2], by rw [HD2.out], ?_, ?_⟩
        · simp [results, Try.results19, go_sem, x0, x1, x2, hzw4]
        · rw [HD2.out]
          refine ⟨_, _, n, m, rfl, ?_, ?_⟩
          · refine ownsRow_mono ?_ (Nat.le_of_lt hzr)
            refine World.ownsRow.alloc ?_ _
            iterate 3 (refine ownsRow_setCell_below ?_ hzr _)
            exact HT.out
          · refine ownsRow_mono ?_ (Nat.le_of_lt hzr)
            refine World.ownsRow.alloc ?_ _
            iterate 3 (refine ownsRow_setCell_below ?_ hzr _)
            exact HI.out
        · have q0 := Below.setCell HB4.out (p := ⟨w.heap.size, 0, none⟩) (Nat.le_refl _) (.slice ta n tc)
          have q1 := Below.setCell q0 (p := ⟨w.heap.size, 1, none⟩) (Nat.le_refl _) (.slice xa m xc)
          have q2 := Below.setCell q1 (p := ⟨w.heap.size, 2, none⟩) (Nat.le_refl _) (.int .i64 (worthD kind name l).2.2)
          exact q2.alloc q2.size _
  · have HD : Hid (valD kind name l = (([], [], 0), 1)) := by rw [Hid, valD, if_neg harg]
    have hbad : 3 < kind ∨ name.length < 1 ∨ 8 < name.length := by omega
    clear harg
    go_enter Try.func19, Try.ntmps19
    go_wp2_with fail
    all_goals
      first
        | (exfalso; omega)
        | (refine bodyPost_ret (v := .tuple #[.agg #[.slice none 0 0, .slice none 0 0, .int .i64 0], .int .i64 1]) ?_ rfl ⟨_, by rw [HD.out], by rw [HD.out]; exact ⟨_, _, 0, 0, rfl, World.ownsRow_nil _ _ _ _, World.ownsRow_nil _ _ _ _⟩, (Below.refl _ _).alloc (Nat.le_refl _) _⟩
           simp [results, Try.results19, go_sem])
end Go.Proofs.Yteljbblbdiploaa

namespace Go.Proofs.Yteljbblbdiploaa
open Go.RowKit

set_option maxRecDepth 16000 in
set_option maxHeartbeats 2000000 in
theorem worth_nil (kind : Int) (name : Tx) (ao : Option Addr) (cap : Nat) (w : World) (hk0 : 0 ≤ kind) (hk3 : kind ≤ 3) :
    Calls Try.prog 44 #[.int .u8 kind, .string (bs name), .slice ao 0 cap] w fun e w' => e = .returned (.agg #[.slice none 0 0, .slice none 0 0, .int .i64 0]) ∧ Below w.heap.size w w' := by
  go_enter Try.func44, Try.ntmps44
  go_wp2_with fail
  have hv1 : ValB (w.alloc (.cells #[.slice none 0 0, .slice none 0 0, .int .i64 0] 51)) w.heap.size (.slice none 0 0) (.slice none 0 0) := heap_alloc_new w _
  have hb1 : Below w.heap.size w (w.alloc (.cells #[.slice none 0 0, .slice none 0 0, .int .i64 0] 51)) := (Below.refl _ _).alloc (Nat.le_refl _) _
  generalize w.alloc (.cells #[.slice none 0 0, .slice none 0 0, .int .i64 0] 51) = w1 at *
  have HRES := hid hv1
  have HBW := hid hb1
  clear hv1 hb1
  go_loopw [7, 8, 9] (fun v n i wr => v = .slice none 0 0 ∧ n = .int .i64 0 ∧ i = .int .i64 0 ∧ wr = w1) (fun _ _ _ _ => 0)
  case atStart => exact ⟨rfl, rfl, rfl, rfl⟩
  case round =>
    obtain ⟨rfl, rfl, rfl, rfl⟩ := hrel
    obtain ⟨x0, x1, x2, _, _⟩ := HRES.out.cells
    obtain ⟨y0, y1, y2⟩ := HRES.out.free
    have HQ : Hid (Below w.heap.size w (((wr.setCell ⟨w.heap.size, 0, none⟩ (.slice none 0 0)).setCell ⟨w.heap.size, 1, none⟩ (.slice none 0 0)).setCell ⟨w.heap.size, 2, none⟩ (.int .i64 0))) := by
      have q0 := Below.setCell HBW.out (p := ⟨w.heap.size, 0, none⟩) (Nat.le_refl _) (.slice none 0 0)
      have q1 := Below.setCell q0 (p := ⟨w.heap.size, 1, none⟩) (Nat.le_refl _) (.slice none 0 0)
      exact Below.setCell q1 (p := ⟨w.heap.size, 2, none⟩) (Nat.le_refl _) (.int .i64 0)
    have hcase : kind = 0 ∨ kind = 1 ∨ kind = 2 ∨ kind = 3 := by omega
    rcases hcase with rfl | rfl | rfl | rfl
    · go_wp2_with fail
      refine (texts_nil _).mono ?_
      rintro e w4 ⟨rfl, rfl⟩
      go_wp2_with fail
      refine bodyPost_ret (v := .agg #[.slice none 0 0, .slice none 0 0, .int .i64 0]) ?_ rfl ⟨rfl, HQ.out⟩
      simp [results, Try.results44, go_sem, x0, x1, x2]
    · go_wp2_with fail
      refine (texts_nil _).mono ?_
      rintro e w4 ⟨rfl, rfl⟩
      go_wp2_with fail
      refine bodyPost_ret (v := .agg #[.slice none 0 0, .slice none 0 0, .int .i64 0]) ?_ rfl ⟨rfl, HQ.out⟩
      simp [results, Try.results44, go_sem, x0, x1, x2]
    · go_wp2_with fail
      refine bodyPost_ret (v := .agg #[.slice none 0 0, .slice none 0 0, .int .i64 0]) ?_ rfl ⟨rfl, HQ.out⟩
      simp [results, Try.results44, go_sem, x0, x1, x2]
    · go_wp2_with fail
      refine (sequence_nil _).mono ?_
      rintro e w4 ⟨rfl, hb4⟩
      have hres4 := HRES.out.later' hb4
      obtain ⟨a0, a1, a2, _, _⟩ := hres4.cells
      obtain ⟨b0, b1, b2⟩ := hres4.free
      have HB4 : Hid (Below w.heap.size w w4) := HBW.out.trans (hb4.mono HBW.out.size)
      clear hb4 hres4
      go_wp2_with fail
      refine bodyPost_ret (v := .agg #[.slice none 0 0, .slice none 0 0, .int .i64 0]) ?_ rfl ⟨rfl, ?_⟩
      · simp [results, Try.results44, go_sem, a0, a1, a2]
      · have q0 := Below.setCell HB4.out (p := ⟨w.heap.size, 0, none⟩) (Nat.le_refl _) (.slice none 0 0)
        have q1 := Below.setCell q0 (p := ⟨w.heap.size, 1, none⟩) (Nat.le_refl _) (.slice none 0 0)
        exact Below.setCell q1 (p := ⟨w.heap.size, 2, none⟩) (Nat.le_refl _) (.int .i64 0)

theorem valD_nil (kind : Int) (name : Tx) : valD kind name [] = (([], [], 0), if kind ≤ 3 ∧ 1 ≤ name.length ∧ name.length ≤ 8 then 0 else 1) := by
  unfold valD
  have hw : worthD kind name [] = ([], [], 0) := by
    unfold worthD
    split
    · rfl
    · split
      · rfl
      · split <;> rfl
  split
  · rw [if_pos ((upsB_iff []).2 Ups.nil), hw]
  · rfl

set_option maxRecDepth 16000 in
set_option maxHeartbeats 2000000 in
theorem rValue_nil (kind : Int) (name : Tx) (ao : Option Addr) (cap : Nat) (w : World) (hk0 : 0 ≤ kind) (hnm : name.length ≤ maxLen) :
    Calls Try.prog 19 #[.int .u8 kind, .string (bs name), .slice ao 0 cap] w fun e w' => e = .returned (.tuple #[.agg #[.slice none 0 0, .slice none 0 0, .int .i64 0], .int .i64 (valD kind name []).2]) ∧ Below w.heap.size w w' := by
  unfold maxLen at hnm
  rw [valD_nil]
  by_cases harg : kind ≤ 3 ∧ 1 ≤ name.length ∧ name.length ≤ 8
  · rw [if_pos harg]
    obtain ⟨hk3, hn1, hn8⟩ := harg
    go_enter Try.func19, Try.ntmps19
    go_wp2_with fail
    have hv1 : ValB (w.alloc (.cells #[.slice none 0 0, .slice none 0 0, .int .i64 0] 51)) w.heap.size (.slice none 0 0) (.slice none 0 0) := heap_alloc_new w _
    have hb1 : Below w.heap.size w (w.alloc (.cells #[.slice none 0 0, .slice none 0 0, .int .i64 0] 51)) := (Below.refl _ _).alloc (Nat.le_refl _) _
    generalize w.alloc (.cells #[.slice none 0 0, .slice none 0 0, .int .i64 0] 51) = w1 at *
    have HRES := hid hv1
    have HBW := hid hb1
    clear hv1 hb1
    go_loopw [8] (fun i wr => i = .int .i64 0 ∧ wr = w1) (fun _ _ => 0)
    case atStart => exact ⟨rfl, rfl⟩
    case round =>
      obtain ⟨rfl, rfl⟩ := hrel
      go_wp2_with fail
      refine (worth_nil kind name ao cap _ hk0 hk3).mono ?_
      rintro e w4 ⟨rfl, hb4⟩
      have hres4 := HRES.out.later' hb4
      have hzw4 : w.heap.size < w4.heap.size := lt_of_block hres4
      obtain ⟨x0, x1, x2, _, _⟩ := hres4.cells
      obtain ⟨y0, y1, y2⟩ := hres4.free
      have HB4 : Hid (Below w.heap.size w w4) := HBW.out.trans (hb4.mono HBW.out.size)
      clear hb4 hres4
      go_wp2_with fail
      refine bodyPost_ret (v := .tuple #[.agg #[.slice none 0 0, .slice none 0 0, .int .i64 0], .int .i64 0]) ?_ rfl ⟨rfl, ?_⟩
      · simp [results, Try.results19, go_sem, x0, x1, x2, hzw4]
      · have q0 := Below.setCell HB4.out (p := ⟨w.heap.size, 0, none⟩) (Nat.le_refl _) (.slice none 0 0)
        have q1 := Below.setCell q0 (p := ⟨w.heap.size, 1, none⟩) (Nat.le_refl _) (.slice none 0 0)
        have q2 := Below.setCell q1 (p := ⟨w.heap.size, 2, none⟩) (Nat.le_refl _) (.int .i64 0)
        exact q2.alloc q2.size _
  · rw [if_neg harg]
    have hbad : 3 < kind ∨ name.length < 1 ∨ 8 < name.length := by omega
    clear harg
    go_enter Try.func19, Try.ntmps19
    go_wp2_with fail
    all_goals
      first
        | (exfalso; omega)
        | (refine bodyPost_ret (v := .tuple #[.agg #[.slice none 0 0, .slice none 0 0, .int .i64 0], .int .i64 1]) ?_ rfl ⟨rfl, (Below.refl _ _).alloc (Nat.le_refl _) _⟩
           simp [results, Try.results19, go_sem])
end Go.Proofs.Yteljbblbdiploaa
