/-
  WALKS: the statement Values' own function.
-/
import Derived.Test.YteljbblbdiploaaJVLen
namespace Go.Proofs.Yteljbblbdiploaa
open Go.RowKit

/-- the clocks from place q on are as they were lent -/
def LentK (w : World) (base : Nat) (l : List Up) (gs : List (Nat × Nat)) (q : Nat) : Prop := ∀ (k : Nat) (u : Up) (p : Nat × Nat), q ≤ k → l[k]? = some u → gs[k]? = some p → w.ownsRow base 3 1 (.slice (some ⟨p.1, 0, none⟩) (u.c.length + 3) p.2) (u.c.length + 3) (ics (u.c ++ [7000, 7000, 7000]))
theorem lentRow_cells {w : World} {base g c : Nat} {l : List Up} {gs : List (Nat × Nat)} (hlen : gs.length = l.length) (hrow : w.ownsRow base 28 9 (.slice (some ⟨g, 0, none⟩) (l.length + 1) c) (l.length + 1) (upFlat l (lentCs gs) ++ endCells)) {j : Nat} {u : Up} {p : Nat × Nat} (hu : l[j]? = some u) (hp : gs[j]? = some p) : ∀ i, i < 9 → w.cell? ⟨g, j * 9 + i, none⟩ = (upCells u (some ⟨p.1, 0, none⟩) p.2)[i]? := by
  intro i hi
  have hj := (List.getElem?_eq_some_iff.1 hu).1
  have hl : (upFlat l (lentCs gs)).length = l.length * 9 := upFlat_len (by rw [lentCs_len]; exact hlen)
  have e := upFlat_get (l := l) (cs := lentCs gs) (by rw [lentCs_len]; exact hlen) hu (c := (some ⟨p.1, 0, none⟩, p.2)) (by simp [lentCs, hp]) i hi
  obtain ⟨x, hx⟩ : ∃ x, (upCells u (some ⟨p.1, 0, none⟩) p.2)[i]? = some x := ⟨(upCells u (some ⟨p.1, 0, none⟩) p.2)[i]'(by rw [upCells_len]; exact hi), List.getElem?_eq_getElem _⟩
  rw [hx]
  have := World.ownsRow.cells hrow (g := g) rfl (j * 9 + i) x (by rw [List.getElem?_append_left (by rw [hl]; omega), e]; exact hx)
  rwa [Addr.add_lit, Nat.zero_add] at this
/-- one clock was given back -/
theorem lent_back {w9 wr w11 : World} {base g c : Nat} {l : List Up} {gs : List (Nat × Nat)} (he : LentE w9 base g c l gs) {q : Nat} {u : Up} {p : Nat × Nat} (hu : l[q]? = some u) (hp : gs[q]? = some p) (hs : Spared w9 wr (IntBlk w9 base)) (hk : LentK wr base l gs q) (hg : wr.grownBy w11 (some p.1)) :
    Spared w9 w11 (IntBlk w9 base) ∧ LentK w11 base l gs (q + 1) := by
  refine ⟨hs.grown hg (fun k e hk' => ?_), fun k y p' hqk hy hp' => ?_⟩
  · cases e
    have ho := he.clk q u p hu hp
    rcases ho.2 with ⟨hv, _⟩ | ⟨g', cap', cur, hv, hb, hh, _⟩
    · cases hv
    · cases hv
      exact ⟨hb, cur, _, hh⟩
  · have ho := hk k y p' (by omega) hy hp'
    refine ho.kept hg (.inr fun e => ?_)
    simp only [Value.ownBlock, Option.some.injEq] at e
    obtain ⟨h1, rfl⟩ := List.getElem?_eq_some_iff.1 hp
    obtain ⟨h2, rfl⟩ := List.getElem?_eq_some_iff.1 hp'
    have := List.pairwise_iff_getElem.1 he.ap q k h1 h2 (by omega)
    omega
theorem clk_low {w : World} {ao : Option Addr} {cap : Nat} {zs : List Int} (h : ClkAt w ao cap zs) : ∀ a, ao = some a → 0 < zs.length → a.block < w.heap.size := by
  intro a e h0
  obtain ⟨b, off, rfl, hc⟩ := h.plain h0
  cases e
  exact lt_of_cell (hc 0 h0)

set_option maxRecDepth 100000 in
set_option maxHeartbeats 4000000 in
theorem values_any (kind other : Int) (name : Tx) (vo : Option Addr) (cap : Nat) (l : List Up) (w : World) (hu : UpsO w vo l) (hf : ∀ u ∈ l, UpFit u) (hl : l.length * 96 ≤ 140737488351232) (hk0 : 0 ≤ kind) (ho0 : 0 ≤ other) (hnm : name.length ≤ maxLen) :
    Calls Try.prog 5 #[.int .u8 kind, .string (bs name), .slice vo l.length cap, .int .u8 other] w fun e w' => e = .returned (.bool true) ∧ Below w.heap.size w w' := by
  have HU := hid hu
  have HF := hid hf
  have HNM := hid hnm
  clear hu hf hnm
  obtain ⟨B, hBw⟩ : ∃ B, B = w.heap.size := ⟨_, rfl⟩
  go_enter Try.func5, Try.ntmps5
  go_wp2_with fail
  rw [← hBw]
  have HBw := hid hBw
  clear hBw
  go_loopw [10] (fun i wr => ∃ (c : Nat) (r1 r2 c6 c7 c8 c9 : Value) (L1 L2 : List Value) (ts : List ByteArray) (ds : List (Int × Int)), c ≤ 4 ∧ i = .int .i64 c ∧ L1.length = 4 * c ∧ L2.length = 4 * c ∧ ts.length ≤ 8000 ∧ ds.length ≤ 8000 ∧ BookAt wr B B (.slice none 0 0) r1 r2 (.slice none 0 0) (.slice none 0 0) c6 c7 c8 c9 [] L1 L2 [] ts ds ∧ Below B w wr) (fun i _ => 4 - (intOf i).toNat)
  case atStart =>
    refine ⟨0, .slice none 0 0, .slice none 0 0, .slice none 0 0, .slice none 0 0, .slice none 0 0, .slice none 0 0, [], [], [], [], by omega, rfl, rfl, rfl, by simp, by simp, ⟨by rw [HBw.out]; exact heap_alloc_new w _, ?_, ?_, ?_⟩, by rw [HBw.out]; exact (Below.refl _ _).alloc (Nat.le_refl _) _⟩
    all_goals exact ⟨World.ownsRow_nil _ _ _ _, Views.nil _ _ _ _ _ _ _, World.ownsRow_nil _ _ _ _, World.ownsRow_nil _ _ _ _, fun g hg => by simp [Value.ownBlock] at hg, rfl⟩
  case round =>
    obtain ⟨c, r1, r2, c6, c7, c8, c9, L1, L2, ts, ds, hc4, rfl, hL1, hL2, ht8, hd8, hbk, hb⟩ := hrel
    have HBK := hid hbk
    have HB := hid hb
    have hBr : B < wr.heap.size := hbk.bb.lt
    clear hbk hb
    by_cases hlt : c < 4
    · obtain ⟨x, hx, hx0⟩ : ∃ x, (x = other ∧ ((c : Int) == 2) = true ∨ x = kind ∧ ((c : Int) == 2) = false) ∧ 0 ≤ x := by
        by_cases h2 : c = 2
        · exact ⟨other, .inl ⟨rfl, by simp; omega⟩, ho0⟩
        · exact ⟨kind, .inr ⟨rfl, by simp; omega⟩, hk0⟩
      have HLT := hid hlt
      have hd : decide ((c : Int) < 4) = true := by simp; omega
      clear hlt
      rcases hx with ⟨rfl, h2⟩ | ⟨rfl, h2⟩
      all_goals
        go_wp2_with fail
        obtain ⟨wz, hwz⟩ : ∃ wz, wz = wr := ⟨_, rfl⟩
        subst hwz
        go_loopw [12, 13] (fun v jv wx => ∃ (j : Nat) (gs : List (Nat × Nat)), j ≤ l.length ∧ jv = .int .i64 j ∧ LentR wx wz.heap.size v (l.take j) gs ∧ Below wz.heap.size wz wx) (fun _ jv _ => l.length - (intOf jv).toNat)
        case atStart => exact ⟨0, [], by omega, rfl, by rw [List.take_zero]; exact LentR.nil _ _, Below.refl _ _⟩
        case round =>
          obtain ⟨j, gs, hj, rfl, hlr, hbx⟩ := hrel
          have HLR := hid hlr
          have HBX := hid hbx
          by_cases hjl : j < l.length
          · obtain ⟨b, off, rfl, hup⟩ := HU.out (by omega)
            obtain ⟨u, hu⟩ : ∃ u, l[j]? = some u := ⟨l[j], List.getElem?_eq_getElem hjl⟩
            have hbw : Below w.heap.size w wr := by have := HB.out; rw [HBw.out] at this; exact this.trans (hbx.mono (by have := HB.out.size; omega))
            obtain ⟨ua, uc, hut⟩ := (hup.later hbw) j u hu
            obtain ⟨e0, e1, e2, e3, e4, e5, e6, e7, e8⟩ := hut.nine
            have HUT := hid hut
            have HTK : Hid (l.take (j + 1) = l.take j ++ [u]) := by rw [Hid, List.take_add_one, hu]; rfl
            have hlj : (l.take j).length = j := by rw [List.length_take]; omega
            have hzx := hbx.size
            clear hup hu hbw hut hlr hbx
            go_wp2_with fail
            refine (lent_any u.o u.t u.k u.a u.ao u.az (bs u.n) (bs u.x) ua uc u.c wr HUT.out.clk HUT.out.fit.c).mono ?_
            rintro e w1 ⟨g, d2, rfl, hown, hb1⟩
            have HO := hid hown
            have HB1 := hid hb1
            have hz1 := hb1.size
            have HR1 : Hid (w1.ownsRow wz.heap.size 28 9 u12 j (upFlat (l.take j) (lentCs gs))) := by have := (HLR.out.later hb1).row; rw [hlj] at this; exact this
            clear hown hb1 e0 e1 e2 e3 e4 e5 e6 e7 e8
            go_wp2_with (at_builtin; refine app_one el_update _ rfl (.tmp 44) (.tmp 46) rfl wz.heap.size _ _ _ rfl (World.ownsRow.alloc HR1.out _) (upCells u (some ⟨g, 0, none⟩) d2) rfl (up_one _ _ _) (by rw [World.size_alloc]; rfl) ?c2 ?c3 ?c4 ?_)
            case c2 => omega
            case c3 => unfold maxLen; omega
            case c4 => simp; omega
            intro g3 d3 w3 ho3 hg3 hb3
            have HR3 : Hid (LentR w3 wz.heap.size (.slice (some ⟨g3, 0, none⟩) (j + 1) d3) (l.take (j + 1)) (gs ++ [(g, d2)])) := by
              rw [HTK.out]
              exact HLR.out.snoc hzx HB1.out HO.out (by rw [hlj]; exact ho3) hg3
            have HB3 : Hid (Below wz.heap.size wz w3) := (HBX.out.trans (HB1.out.mono hzx)).trans ((((Below.refl _ _).alloc (by omega) _).trans hb3))
            clear ho3 hg3 hb3
            go_wp2_with fail
            go_roundw
            case rel => exact ⟨j + 1, _, by omega, by go_num, HR3.out, HB3.out⟩
            case measure => simp [intOf]; omega
          · have htk : l.take j = l := List.take_of_length_le (by omega)
            rw [htk] at hlr
            have HLR2 := hid hlr
            have hzx := hbx.size
            have hlm : l.length ≤ 9223372036854775807 := by omega
            clear hlr hbx htk HLR hj
            go_wp2_with (at_builtin; refine app_one el_update _ rfl (.tmp 48) (.tmp 50) rfl wz.heap.size _ _ _ rfl HLR2.out.row endCells rfl end_one rfl ?c2 ?c3 ?c4 ?_)
            case c2 => omega
            case c3 => unfold maxLen; omega
            case c4 => exact hzx
            intro g4 d4 w4 ho4 hg4 hb4
            have he4 : LentE w4 wz.heap.size g4 d4 l gs := HLR2.out.close ho4 hg4
            have HE := hid he4
            have HB4 : Hid (Below wz.heap.size wz w4) := HBX.out.trans hb4
            have hd4 := he4.end_.2.2
            have hz4 : wz.heap.size ≤ w4.heap.size := HB4.out.size
            clear ho4 hg4 hb4 he4 HLR2 HBX
            go_wp2_with fail
            have hvl := valD_len x name l
            have hv0 := value_any x name (some ⟨g4, 0, none⟩) d4 l w4 (HE.out.ups HF.out).o (fun u hu => (HF.out u hu).k.1) hx0 hlm HNM.out
            obtain ⟨r, hr⟩ : ∃ r, valD x name l = r := ⟨_, rfl⟩
            rw [hr] at hvl hv0
            have HVR := hid hr
            refine hv0.mono ?_
            clear hv0 hr
            rintro e w5 ⟨v, rfl, hval, hb5⟩
            have HV5 := hid hval
            obtain ⟨t, i, n1, n2, rfl, ht, hi⟩ := hval
            obtain ⟨ta, tc, rfl⟩ := own_slice ht
            obtain ⟨xa, xc, rfl⟩ := own_slice hi
            have HB5 := hid hb5
            clear ht hi hb5
            go_wp2_with fail
            have kx : (w5.alloc (.cells #[.slice ta n1 tc, .slice xa n2 xc, .int .i64 r.1.2.2] 51)).heap[w5.heap.size]? = some (.cells #[.slice ta n1 tc, .slice xa n2 xc, .int .i64 r.1.2.2] 51 (0, 0)) := heap_alloc_new w5 _
            have lx : Below w5.heap.size w5 (w5.alloc (.cells #[.slice ta n1 tc, .slice xa n2 xc, .int .i64 r.1.2.2] 51)) := (Below.refl _ _).alloc (Nat.le_refl _) _
            generalize w5.alloc (.cells #[.slice ta n1 tc, .slice xa n2 xc, .int .i64 r.1.2.2] 51) = w6 at *
            have hb46 : Below w4.heap.size w4 w6 := HB5.out.trans (lx.mono HB5.out.size)
            have hbz6 : Below wz.heap.size wz w6 := HB4.out.trans (hb46.mono hz4)
            have hbw6 : Below w.heap.size w w6 := by have := HB.out; rw [HBw.out] at this; exact this.trans (hbz6.mono (by have := HB.out.size; omega))
            have hrv := rValueO_any x name vo cap l w6 (HU.out.later hbw6) hx0 hlm HNM.out
            rw [HVR.out] at hrv
            refine hrv.mono ?_
            clear hrv
            rintro e w7 ⟨v2, rfl, hval2, hb7⟩
            have HV7 := hid hval2
            obtain ⟨t2, i2, m1, m2, rfl, ht2, hi2⟩ := hval2
            obtain ⟨ta2, tc2, rfl⟩ := own_slice ht2
            obtain ⟨xa2, xc2, rfl⟩ := own_slice hi2
            have kx7 := (hb7.block _ (lt_of_block kx)).trans kx
            have HV57 := hid ((HV5.out.later lx).later hb7)
            have hb47 : Below w4.heap.size w4 w7 := hb46.trans (hb7.mono hb46.size)
            have HB47 := hid hb47
            have hz57 : w5.heap.size < w7.heap.size := lt_of_block kx7
            clear kx lx hb46 hbz6 hbw6 ht2 hi2 hb7 hb47
            have y0 : w7.cell? ⟨w5.heap.size, 0, none⟩ = some (.slice ta n1 tc) := by rw [cell_of_row _ _ _ _ _ (0, 0) kx7]; rfl
            have y1 : w7.cell? ⟨w5.heap.size, 1, none⟩ = some (.slice xa n2 xc) := by rw [cell_of_row _ _ _ _ _ (0, 0) kx7]; rfl
            have y2 : w7.cell? ⟨w5.heap.size, 2, none⟩ = some (.int .i64 r.1.2.2) := by rw [cell_of_row _ _ _ _ _ (0, 0) kx7]; rfl
            have HKX7 := hid kx7
            clear kx7
            go_wp2_with fail
            have l8 : Below w7.heap.size w7 (w7.alloc (.cells #[.slice ta2 m1 tc2, .slice xa2 m2 xc2, .int .i64 r.1.2.2] 51)) := (Below.refl _ _).alloc (Nat.le_refl _) _
            generalize w7.alloc (.cells #[.slice ta2 m1 tc2, .slice xa2 m2 xc2, .int .i64 r.1.2.2] 51) = w8 at *
            refine (same_same w4.heap.size w6.heap.size _ _ r.1 w8 (HV57.out.later l8) (HV7.out.later l8) (by omega) (by omega)).mono ?_
            rintro e w9 ⟨rfl, hb9⟩
            have hb79 : Below w7.heap.size w7 w9 := l8.trans (hb9.mono l8.size)
            have hb49 : Below w4.heap.size w4 w9 := HB47.out.trans (hb79.mono HB47.out.size)
            have HE9 := hid (HE.out.later hb49)
            obtain ⟨z0, z1, _⟩ := HE9.out.end_
            have HV9 := hid (HV57.out.later hb79)
            have HKX9 := hid ((hb79.block _ (lt_of_block HKX7.out)).trans HKX7.out)
            have HB49 := hid hb49
            have HBz9 : Hid (Below wz.heap.size wz w9) := HB4.out.trans (hb49.mono hz4)
            have HZw : Hid (w.heap.size ≤ wz.heap.size) := by have := HB.out.size; have := HBw.out; rw [Hid]; omega
            have HBw9 : Hid (Below w.heap.size w w9) := by have := HB.out; rw [HBw.out] at this; exact this.trans (HBz9.out.mono HZw.out)
            have hlk : LentK w9 wz.heap.size l gs 0 := fun k u p _ hu hp => HE9.out.clk k u p hu hp
            have HLK := hid hlk
            have HZ9 : Hid (wz.heap.size ≤ w9.heap.size) := HBz9.out.size
            clear y0 y1 y2 l8 hb9 hb79 hb49 hlk
            go_wp2_with fail
            go_loopw [20] (fun jv wx => ∃ q : Nat, q ≤ l.length ∧ jv = .int .i64 q ∧ Spared w9 wx (IntBlk w9 wz.heap.size) ∧ LentK wx wz.heap.size l gs q) (fun jv _ => l.length - (intOf jv).toNat)
            case atStart => exact ⟨0, by omega, rfl, Spared.refl _ _, HLK.out⟩
            case round =>
              obtain ⟨q, hq, rfl, hsp, hlk⟩ := hrel
              have HSP := hid hsp
              have HLQ := hid hlk
              have hb9x : Below wz.heap.size w9 wr := hsp.below HZ9.out (fun k h => h.1)
              have HB9x := hid hb9x
              have HBwx : Hid (Below w.heap.size w wr) := HBw9.out.trans (hb9x.mono HZw.out)
              clear hb9x
              by_cases hql : q < l.length
              · obtain ⟨b, off, rfl, hup⟩ := HU.out (by omega)
                obtain ⟨u, hu⟩ : ∃ u, l[q]? = some u := ⟨l[q], List.getElem?_eq_getElem hql⟩
                obtain ⟨p, hp⟩ : ∃ p, gs[q]? = some p := ⟨gs[q]'(by rw [HE9.out.len]; exact hql), List.getElem?_eq_getElem _⟩
                obtain ⟨ua, uc, hut0⟩ := hup q u hu
                have hut := hut0.later HBwx.out
                obtain ⟨e0, e1, e2, e3, e4, e5, e6, e7, e8⟩ := hut.nine
                have hcl := lentRow_cells HE9.out.len (HE9.out.spared hsp) hu hp
                have f0 := hcl 0 (by omega)
                have f1 := hcl 1 (by omega)
                have f2 := hcl 2 (by omega)
                have f3 := hcl 3 (by omega)
                have f4 := hcl 4 (by omega)
                have f5 := hcl 5 (by omega)
                have f6 := hcl 6 (by omega)
                have f7 := hcl 7 (by omega)
                have f8 := hcl 8 (by omega)
                simp only [upCells, List.getElem?_cons_zero, List.getElem?_cons_succ, Nat.add_zero] at f0 f1 f2 f3 f4 f5 f6 f7 f8
                have HLOW : Hid (∀ a, ua = some a → 0 < u.c.length → a.block < wz.heap.size) := fun a ea h0 => Nat.lt_of_lt_of_le (clk_low hut0.clk a ea h0) HZw.out
                have HCK : Hid (ClkAt wr.drew ua uc u.c) := hut.clk.later ((Below.refl _ _).drew)
                have HOW : Hid (wr.drew.ownsRow wz.heap.size 3 1 (.slice (some ⟨p.1, 0, none⟩) (u.c.length + 3) p.2) (u.c.length + 3) (ics (u.c ++ [7000, 7000, 7000]))) := ownsRow_later (hlk q u p (Nat.le_refl _) hu hp) ((Below.refl _ _).drew)
                have HLB : Hid (∀ w11, wr.drew.grownBy w11 (some p.1) → Spared w9 w11 (IntBlk w9 wz.heap.size) ∧ LentK w11 wz.heap.size l gs (q + 1)) := fun w11 hg => lent_back HE9.out hu hp hsp hlk ⟨hg.os, hg.tape, hg.output, hg.size, hg.block⟩
                have HFC := hid hut0.fit.c
                clear hup hu hp hut0 hut hcl hsp hlk
                generalize p.1 = p1 at *
                generalize p.2 = p2 at *
                go_wp2_with fail
                go_region_with (go_at_call 11; refine (backG_any u.o u.t u.k u.a u.ao u.az (bs u.n) (bs u.x) ua uc u.c p1 p2 wz.heap.size _ HCK.out HLOW.out HFC.out HOW.out).mono ?_; rintro e w11 ⟨rfl, hg11⟩)
                all_goals
                  obtain ⟨hs11, hk11⟩ := HLB.out _ hg11
                  have HS11 := hid hs11
                  have HK11 := hid hk11
                  clear hs11 hk11 hg11 e0 e1 e2 e3 e4 e5 e6 e7 e8 f0 f1 f2 f3 f4 f5 f6 f7 f8
                  go_wp2_with fail
                  go_roundw
                  case rel => exact ⟨q + 1, by omega, by go_num, HS11.out, HK11.out⟩
                  case measure => simp [intOf]; omega
              · have hkx : wr.heap[w5.heap.size]? = some (.cells #[.slice ta n1 tc, .slice xa n2 xc, .int .i64 r.1.2.2] 51 (0, 0)) := (hsp.block _ (lt_of_block HKX9.out) (fun ⟨_, _, _, hbl⟩ => by
                  have := HKX9.out.symm.trans hbl
                  simp only [Option.some.injEq, Obj.cells.injEq] at this
                  exact absurd this.2.1 (by decide))).trans HKX9.out
                have hbk9 := book_spared (HBK.out.later HBz9.out) hsp
                have hvr := HV9.out.spared hsp
                obtain ⟨tb, htb⟩ : ∃ tb, r.1.1.map bs = tb := ⟨_, rfl⟩
                obtain ⟨js, hjs⟩ : ∃ js, r.1.2.1 = js := ⟨_, rfl⟩
                have htl : tb.length ≤ 8000 := by rw [← htb, List.length_map]; exact hvl.1
                have hjl8 : js.length ≤ 8000 := by rw [← hjs]; exact hvl.2
                obtain ⟨t', i', n1', n2', heq, ht, hi⟩ := hvr
                cases heq
                rw [tcs_scs, htb] at ht
                rw [idcs_dcs, hjs] at hi
                have en1 : n1 = tb.length := by
                  have h1 := ht.1
                  rw [scs_len] at h1
                  rcases ht.2 with ⟨q1, q2⟩ | ⟨g', c', cur, q1, _⟩
                  · cases q1; omega
                  · cases q1; omega
                have en2 : n2 = js.length := by
                  have h1 := hi.1
                  rw [dcs_len] at h1
                  rcases hi.2 with ⟨q1, q2⟩ | ⟨g', c', cur, q1, _⟩
                  · cases q1; omega
                  · cases q1; omega
                have en1' : n1' = tb.length := by have h1 := ht.1; rw [scs_len] at h1; omega
                have en2' : n2' = js.length := by have h1 := hi.1; rw [dcs_len] at h1; omega
                subst en1 en2 en1' en2'
                have hB4 : B ≤ w4.heap.size := by omega
                have HT := hid (ownsRow_mono ht hB4)
                have HIi := hid (ownsRow_mono hi hB4)
                have HFT : Hid (∀ g, (Value.slice ta tb.length tc).ownBlock = some g → c6.ownBlock ≠ some g ∧ ∀ s ∈ L1, s.ownBlock ≠ some g) := by
                  intro g hg
                  have hg1 := (ht.lt g hg).1
                  refine ⟨fun qq => ?_, fun s hs qq => ?_⟩
                  · have := (HBK.out.k1.cm.lt g qq).2
                    omega
                  · obtain ⟨i, hi⟩ := List.getElem?_of_mem hs
                    obtain ⟨kk, hk1, _⟩ := HBK.out.k1.views i s hi
                    have := (hk1.lt g qq).2
                    omega
                have HFI : Hid (∀ g, (Value.slice xa js.length xc).ownBlock = some g → c8.ownBlock ≠ some g ∧ ∀ s ∈ L2, s.ownBlock ≠ some g) := by
                  intro g hg
                  have hg1 := (hi.lt g hg).1
                  refine ⟨fun qq => ?_, fun s hs qq => ?_⟩
                  · have := (HBK.out.k2.cm.lt g qq).2
                    omega
                  · obtain ⟨i, hi⟩ := List.getElem?_of_mem hs
                    obtain ⟨kk, hk1, _⟩ := HBK.out.k2.views i s hi
                    have := (hk1.lt g qq).2
                    omega
                have HBK9 := hid hbk9
                have y0 : wr.cell? ⟨w5.heap.size, 0, none⟩ = some (.slice ta tb.length tc) := by rw [cell_of_row _ _ _ _ _ (0, 0) hkx]; rfl
                have y1 : wr.cell? ⟨w5.heap.size, 1, none⟩ = some (.slice xa js.length xc) := by rw [cell_of_row _ _ _ _ _ (0, 0) hkx]; rfl
                have y2 : wr.cell? ⟨w5.heap.size, 2, none⟩ = some (.int .i64 r.1.2.2) := by rw [cell_of_row _ _ _ _ _ (0, 0) hkx]; rfl
                have HBx : Hid (Below B w wr) := (HB.out.trans (HBz9.out.mono (by omega))).trans (HB9x.out.mono (by omega))
                clear hkx hbk9 ht hi htb hjs hsp hlk z0 z1
                go_wp2_with fail
                refine (bookValue_any B B wr (.slice none 0 0) r1 r2 (.slice none 0 0) (.slice none 0 0) c6 c7 c8 c9 [] L1 L2 [] ts ds HBK9.out (Nat.le_refl _) (.slice ta tb.length tc) (.slice xa js.length xc) r.1.2.2 tb js HT.out HIi.out HFT.out HFI.out (by omega) (by omega) (by omega) (by omega) (by omega) (by omega)).mono ?_
                rintro e w12 ⟨rfl, r1', r2', c7', c9', L1', L2', hL1', hL2', hbk12, hb12⟩
                have HBK12 := hid hbk12
                have HB12 : Hid (Below B w w12) := HBx.out.trans hb12
                clear y0 y1 y2 hbk12 hb12
                go_wp2_with fail
                refine (still_any B B w12 _ _ _ _ _ _ _ _ _ _ _ _ _ _ _ HBK12.out (by simp) (by omega) (by omega) (by simp) (by omega) (by omega)).mono ?_
                rintro e w13 ⟨rfl, hb13⟩
                have HBK13 := hid (HBK12.out.later hb13)
                have HB13 : Hid (Below B w w13) := HB12.out.trans (hb13.mono (Nat.le_of_lt HBK12.out.bb.lt))
                have hcl := HLT.out
                clear hb13
                go_wp2_with fail
                go_roundw
                case rel => exact ⟨c + 1, _, _, _, _, _, _, L1', L2', tb, js, by omega, by go_num, by omega, by omega, htl, hjl8, HBK13.out, HB13.out⟩
                case measure => simp [intOf]; omega
    · have hd : decide ((c : Int) < 4) = false := by simp; omega
      go_wp2_with fail
      refine (ends_any B B wr _ _ _ _ _ _ _ _ _ _ _ _ _ _ _ HBK.out (Nat.le_refl _) (by simp) (by omega) (by omega) (by simp) (by omega) (by omega)).mono ?_
      rintro e w6 ⟨rfl, hb6⟩
      have HB6 := hid (HB.out.trans hb6)
      clear hb6
      go_wp2_with fail
      go_ret
      exact ⟨rfl, by have := HB6.out; rwa [HBw.out] at this⟩
end Go.Proofs.Yteljbblbdiploaa
