/-
  WALKS: the statement Orders' own function.
-/
import Derived.Test.YteljbblbdiploaaJOLaw1
import Derived.Test.YteljbblbdiploaaJVSameK
import Derived.Test.YteljbblbdiploaaJVLen
import Derived.Deep.Cut
import Derived.Deep.Light
namespace Go.Proofs.Yteljbblbdiploaa
open Go.RowKit

set_option maxRecDepth 100000 in
set_option maxHeartbeats 4000000 in
theorem orders_any (kind : Int) (name : Tx) (vo : Option Addr) (cap : Nat) (l : List Up) (tv : Option Addr) (tc : Nat) (ts : List Int) (w : World) (hu : UpsO w vo l) (hn : vo = none → cap = 0) (hf : ∀ u ∈ l, UpFit u) (hl : l.length * 96 ≤ 140737488351232) (hk0 : 0 ≤ kind) (hnm : name.length ≤ maxLen)
    (ht : ClkAt w tv tc ts) (htl : ts.length * 8 ≤ 140737488351232) (hti : ∀ z ∈ ts, -9223372036854775808 ≤ z ∧ z ≤ 9223372036854775807) :
    Calls Try.prog 7 #[.int .u8 kind, .string (bs name), .slice vo l.length cap, .slice tv ts.length tc] w fun e w' => e = .returned (.bool true) ∧ Below w.heap.size w w' := by
  have HU := hid hu
  have HN := hid hn
  have HF := hid hf
  have HNM := hid hnm
  have HT := hid ht
  have HTI := hid hti
  clear hu hn hf hnm ht hti
  go_enter Try.func7, Try.ntmps7
  go_wp2_with fail
  refine (countO_any 5 _).mono ?_
  rintro e w1 ⟨rfl, hb1⟩
  have hb01 : Below w.heap.size w w1 := ((Below.refl _ _).alloc (Nat.le_refl _) _).trans (hb1.mono (by simp))
  have HK1 : Hid (w1.heap[w.heap.size]? = some (.cells #[.int .i64 1, .int .i64 0] 3 (0, 0))) := (hb1.block _ (by simp)).trans (heap_alloc_new w _)
  have HB01 := hid hb01
  clear hb1 hb01
  go_wp2_with fail
  have hv1 := value_any 2 [110] (some ⟨w1.heap.size, 0, none⟩) 1 [⟨0, [1, 0], 2, 0, [110], [], 5, 0, 0⟩] _ (one_ups HK1.out).o (by simp) (by omega) (by simp) (by simp [maxLen])
  rw [val_one] at hv1
  refine hv1.mono ?_
  clear hv1
  rintro e w2 ⟨v1, rfl, hval1, hb2⟩
  obtain ⟨t1, i1, n1, m1, rfl, ht1, hi1⟩ := hval1
  obtain ⟨ta1, tc1, rfl⟩ := own_slice ht1
  obtain ⟨xa1, xc1, rfl⟩ := own_slice hi1
  have HB2 : Hid (Below w.heap.size w w2) := (HB01.out.alloc HB01.out.size _).trans (hb2.mono (by have := HB01.out.size; simp; omega))
  clear ht1 hi1 hb2
  go_wp2_with fail
  have lx : Below w2.heap.size w2 (w2.alloc (.cells #[.slice ta1 n1 tc1, .slice xa1 m1 xc1, .int .i64 5] 51)) := (Below.refl _ _).alloc (Nat.le_refl _) _
  generalize w2.alloc (.cells #[.slice ta1 n1 tc1, .slice xa1 m1 xc1, .int .i64 5] 51) = w3 at *
  have HB3 : Hid (Below w.heap.size w w3) := HB2.out.trans (lx.mono HB2.out.size)
  have hlm : l.length ≤ 9223372036854775807 := by omega
  have hvl := valD_len kind name l
  have hv0 := value_any kind name vo cap l w3 (HU.out.later HB3.out) (fun u hu => (HF.out u hu).k.1) hk0 hlm HNM.out
  obtain ⟨r, hr⟩ : ∃ r, valD kind name l = r := ⟨_, rfl⟩
  rw [hr] at hvl hv0
  have HVR := hid hr
  refine hv0.mono ?_
  clear hv0 hr lx
  rintro e w4 ⟨v, rfl, hval, hb4⟩
  have HV4 := hid hval
  obtain ⟨t, i, n1', n2', rfl, ht, hi⟩ := hval
  obtain ⟨ta, tcc, rfl⟩ := own_slice ht
  obtain ⟨xa, xc, rfl⟩ := own_slice hi
  have HB4 : Hid (Below w.heap.size w w4) := HB3.out.trans (hb4.mono HB3.out.size)
  clear ht hi hb4
  go_wp2_with (at_builtin; refine app_upds _ rfl (.tmp 43) (.tmp 44) rfl (w4.heap.size + 1) rfl vo cap l rfl ?c1 HN.out hl ?c2 ?_)
  case c1 => exact HU.out.later (HB4.out.alloc HB4.out.size _)
  case c2 => simp
  intro mo mc w5 ps hpl hck hrow hlc hmc hb5
  have HPL := hid hpl
  have kx : (w4.alloc (.cells #[.slice ta n1' tcc, .slice xa n2' xc, .int .i64 r.1.2.2] 51)).heap[w4.heap.size]? = some (.cells #[.slice ta n1' tcc, .slice xa n2' xc, .int .i64 r.1.2.2] 51 (0, 0)) := heap_alloc_new w4 _
  have lx : Below w4.heap.size w4 (w4.alloc (.cells #[.slice ta n1' tcc, .slice xa n2' xc, .int .i64 r.1.2.2] 51)) := (Below.refl _ _).alloc (Nat.le_refl _) _
  have zx : (w4.alloc (.cells #[.slice ta n1' tcc, .slice xa n2' xc, .int .i64 r.1.2.2] 51)).heap.size = w4.heap.size + 1 := by simp
  generalize w4.alloc (.cells #[.slice ta n1' tcc, .slice xa n2' xc, .int .i64 r.1.2.2] 51) = wb at *
  have hkx5 : w5.heap[w4.heap.size]? = some (.cells #[.slice ta n1' tcc, .slice xa n2' xc, .int .i64 r.1.2.2] 51 (0, 0)) := (hb5.block _ (by omega)).trans kx
  have HKX := hid hkx5
  have hb5' : Below wb.heap.size wb w5 := by rw [zx]; exact hb5
  have HCK := hid hck
  have HZX := hid zx
  have HBB := hid hb5
  have HVB : Hid (IsVal wb w3.heap.size (.agg #[.slice ta n1' tcc, .slice xa n2' xc, .int .i64 r.1.2.2]) r.1) := HV4.out.later lx
  have HB5 : Hid (Below w.heap.size w w5) := (HB4.out.trans (lx.mono HB4.out.size)).trans (hb5'.mono (HB4.out.trans (lx.mono HB4.out.size)).size)
  have HROW := hid hrow
  have hz5 : w4.heap.size + 1 ≤ w5.heap.size := by have := hb5.size; omega
  have hzw : w.heap.size ≤ w4.heap.size := HB4.out.size
  clear hpl hck hrow kx lx zx hb5 hb5' hkx5
  go_wp2_with fail
  go_loopw [14] (fun i wr => ∃ (k : Nat) (qs : List (Up × Option Addr × Nat)), k ≤ ts.length ∧ i = .int .i64 k ∧ qs.Perm ps ∧ (0 < l.length → ∃ g, mo = some ⟨g, 0, none⟩ ∧ w4.heap.size + 1 ≤ g ∧ g < wr.heap.size ∧ MAt wr g qs) ∧ Below (w4.heap.size + 1) w5 wr) (fun i _ => ts.length - (intOf i).toNat)
  case atStart => exact ⟨0, ps, by omega, rfl, List.Perm.refl _, HROW.out, Below.refl _ _⟩
  case round =>
    obtain ⟨k, qs, hk, rfl, hqp, hrow, hb⟩ := hrel
    have HQP := hid hqp
    have HR := hid hrow
    have HB := hid hb
    have hqn : qs.length = l.length := by rw [hqp.length_eq, ← HPL.out, List.length_map]
    clear hqp hrow hb
    by_cases hgo : k < ts.length ∧ 1 < l.length
    · obtain ⟨hlt, h1⟩ := hgo
      obtain ⟨g, rfl, hgb, hgw, hmt⟩ := HR.out (Nat.lt_trans Nat.zero_lt_one h1)
      have HMT := hid hmt
      clear hmt
      obtain ⟨tb, toff, rfl, hcl⟩ := (HT.out.later (HB5.out.trans (HB.out.mono (Nat.le_succ_of_le hzw)))).plain (Nat.lt_of_le_of_lt (Nat.zero_le _) hlt)
      have ct := hcl k hlt
      have hz := HTI.out _ (List.getElem_mem hlt)
      have ez : ts.getD k 0 = ts[k] := by simp [hlt]
      rw [ez] at ct
      generalize ts[k] = z at *
      clear hcl ez
      go_wp2_with fail
      refine (pickN_any z l.length _ hz.1 hz.2 (by omega) (by omega)).mono ?_
      rintro e wz ⟨a, rfl, ha, hwz⟩
      subst hwz
      obtain ⟨b, hb, hbe⟩ := next_place a k l.length ha h1 (len_small hl)
      have HBE := hid hbe
      obtain ⟨pa, hpa⟩ := has_at hqn ha
      obtain ⟨pb, hpb⟩ := has_at hqn hb
      have HPA := hid hpa
      have HPB := hid hpb
      obtain ⟨x0, x1, x2, x3, x4, x5, x6, x7, x8⟩ := HMT.out.nine hpa
      clear hbe hpa hpb
      go_upto_region 13 with fail
      rw [HBE.out]
      have la : Below wz.heap.size wz (wz.alloc (.cells #[.int .i64 pa.1.o, .slice pa.2.1 pa.1.c.length pa.2.2, .int .u8 pa.1.t, .int .u8 pa.1.k, .string (bs pa.1.n), .string (bs pa.1.x), .int .i64 pa.1.a, .int .i64 pa.1.ao, .int .i64 pa.1.az] 28)) := (Below.refl _ _).alloc (Nat.le_refl _) _
      have ka : (wz.alloc (.cells #[.int .i64 pa.1.o, .slice pa.2.1 pa.1.c.length pa.2.2, .int .u8 pa.1.t, .int .u8 pa.1.k, .string (bs pa.1.n), .string (bs pa.1.x), .int .i64 pa.1.a, .int .i64 pa.1.ao, .int .i64 pa.1.az] 28)).heap[wz.heap.size]? = some (.cells #[.int .i64 pa.1.o, .slice pa.2.1 pa.1.c.length pa.2.2, .int .u8 pa.1.t, .int .u8 pa.1.k, .string (bs pa.1.n), .string (bs pa.1.x), .int .i64 pa.1.a, .int .i64 pa.1.ao, .int .i64 pa.1.az] 28 (0, 0)) := heap_alloc_new wz _
      generalize wz.alloc (.cells #[.int .i64 pa.1.o, .slice pa.2.1 pa.1.c.length pa.2.2, .int .u8 pa.1.t, .int .u8 pa.1.k, .string (bs pa.1.n), .string (bs pa.1.x), .int .i64 pa.1.a, .int .i64 pa.1.ao, .int .i64 pa.1.az] 28) = w6 at *
      clear x0 x1 x2 x3 x4 x5 x6 x7 x8
      have HM6 := hid (HMT.out.later hgw la)
      have HB6 := hid (HB.out.trans (la.mono (Nat.le_trans hgb (Nat.le_of_lt hgw))))
      have HKA := hid ka
      have hne : wz.heap.size ≠ g := Nat.ne_of_gt hgw
      have hg6 : g < w6.heap.size := Nat.lt_trans hgw (lt_of_block ka)
      obtain ⟨x0, x1, x2, x3, x4, x5, x6, x7, x8⟩ := HM6.out.nine HPA.out
      obtain ⟨y0, y1, y2, y3, y4, y5, y6, y7, y8⟩ := HM6.out.nine HPB.out
      obtain ⟨f0, f1, f2, f3, f4, f5, f6, f7, f8⟩ := HM6.out.freeOf HPA.out
      clear la ka
      go_upto_region 14 with fail
      rw [← run_nine w6 g a pb.1 pb.2.1 pb.2.2]
      have hm7 := HM6.out.put HPA.out pb
      have hb7 := setRun_below hgb (upCells pb.1 pb.2.1 pb.2.2) w6 (a * 9) HB6.out
      have hg7 : g < (setRun w6 g (a * 9) (upCells pb.1 pb.2.1 pb.2.2)).heap.size := by rw [setRun_size]; exact hg6
      obtain ⟨z0, z1, z2, z3, z4, z5, z6, z7, z8⟩ := nine_apart (p := a * 9) (cs := upCells pb.1 pb.2.1 pb.2.2) hne HKA.out
      clear x0 x1 x2 x3 x4 x5 x6 x7 x8 y0 y1 y2 y3 y4 y5 y6 y7 y8 f0 f1 f2 f3 f4 f5 f6 f7 f8
      generalize setRun w6 g (a * 9) (upCells pb.1 pb.2.1 pb.2.2) = w7 at *
      have HM7 := hid hm7
      have HB7 := hid hb7
      clear hm7 hb7
      obtain ⟨y0, y1, y2, y3, y4, y5, y6, y7, y8⟩ := HM7.out.nine (turn_same HPA.out HPB.out)
      obtain ⟨f0, f1, f2, f3, f4, f5, f6, f7, f8⟩ := HM7.out.freeOf (turn_same HPA.out HPB.out)
      go_upto_region 9 with fail
      rw [← run_nine w7 g b pa.1 pa.2.1 pa.2.2]
      have hm8 := HM7.out.put (turn_same HPA.out HPB.out) pa
      have hb8 := setRun_below hgb (upCells pa.1 pa.2.1 pa.2.2) w7 (b * 9) HB7.out
      have hg8 : g < (setRun w7 g (b * 9) (upCells pa.1 pa.2.1 pa.2.2)).heap.size := by rw [setRun_size]; exact hg7
      clear z0 z1 z2 z3 z4 z5 z6 z7 z8 y0 y1 y2 y3 y4 y5 y6 y7 y8 f0 f1 f2 f3 f4 f5 f6 f7 f8
      generalize setRun w7 g (b * 9) (upCells pa.1 pa.2.1 pa.2.2) = w8 at *
      have HM8 := hid hm8
      have HB8 := hid hb8
      clear hm8 hb8
      go_wp2_with fail
      go_roundw
      case rel => exact ⟨k + 1, (qs.set a pb).set b pa, hlt, by go_num, (swap_perm HPA.out HPB.out).trans HQP.out, fun _ => ⟨g, rfl, hgb, hg8, HM8.out⟩, HB8.out⟩
      case measure => (go_light; simp [intOf]; omega)
    · have hor : (¬ k < ts.length) ∨ (k < ts.length ∧ ¬ 1 < l.length) := by
        by_cases h : k < ts.length
        · exact .inr ⟨h, fun h1 => hgo ⟨h, h1⟩⟩
        · exact .inl h
      clear hgo
      obtain ⟨hu', hpm, hln⟩ := turned_ups HZX.out HCK.out HBB.out HB.out HQP.out HPL.out HR.out
      have hv2 := value_any kind name mo mc (qs.map Prod.fst) wr hu' (fun u hu => (HF.out u (hpm.subset hu)).k.1) hk0 (by rw [hln]; exact hlm) HNM.out
      rw [valD_perm hpm, hln, HVR.out] at hv2
      have HV2 := hid hv2
      have HBX := hid (HB5.out.trans (HB.out.mono (Nat.le_succ_of_le hzw)))
      clear hu' hpm hln hv2
      rcases hor with hno | ⟨hyes, hno⟩
      all_goals
        go_wp2_with fail
        refine HV2.out.mono ?_
        rintro e w6 ⟨v', rfl, hval', hb6⟩
        have HVY := hid hval'
        obtain ⟨t', i', m1', m2', rfl, ht', hi'⟩ := hval'
        obtain ⟨ta', tc', rfl⟩ := own_slice ht'
        obtain ⟨xa', xc', rfl⟩ := own_slice hi'
        have HB6 := hid hb6
        clear ht' hi' hb6
        go_upto_region 16 with fail
        have la : Below w6.heap.size w6 (w6.alloc (.cells #[.slice ta' m1' tc', .slice xa' m2' xc', .int .i64 r.1.2.2] 51)) := (Below.refl _ _).alloc (Nat.le_refl _) _
        have ka : (w6.alloc (.cells #[.slice ta' m1' tc', .slice xa' m2' xc', .int .i64 r.1.2.2] 51)).heap[w6.heap.size]? = some (.cells #[.slice ta' m1' tc', .slice xa' m2' xc', .int .i64 r.1.2.2] 51 (0, 0)) := heap_alloc_new w6 _
        generalize w6.alloc (.cells #[.slice ta' m1' tc', .slice xa' m2' xc', .int .i64 r.1.2.2] 51) = w7 at *
        obtain ⟨x0, x1, x2⟩ := three_box (box_kept HKX.out HB.out HB6.out la)
        obtain ⟨y0, y1, y2⟩ := three_box ka
        have HVX := hid (isval_kept HZX.out HVB.out HBB.out HB.out HB6.out la)
        have HVZ := hid (HVY.out.later la)
        have HB7 := hid ((HBX.out.trans (HB6.out.mono HBX.out.size)).trans (la.mono (HBX.out.trans (HB6.out.mono HBX.out.size)).size))
        clear la ka
        go_wp2_with fail
        refine (keepSame_same _ _ _ _ r.1 w7 HVX.out HVZ.out (Nat.le_trans hvl.1 (by decide)) (Nat.le_trans hvl.2 (by decide))).mono ?_
        rintro e w9 ⟨rfl, hb9⟩
        have HB9 := hid (HB7.out.trans (hb9.mono HB7.out.size))
        clear hb9 x0 x1 x2 y0 y1 y2
        go_wp2_with fail
        go_ret
        exact ⟨rfl, HB9.out⟩
end Go.Proofs.Yteljbblbdiploaa
