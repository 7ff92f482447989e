/-
  WALKS: the document's answer: what updates of a thing come to.
-/
import Derived.Test.YteljbblbdiploaaJVRefSeq
namespace Go.Proofs.Yteljbblbdiploaa
open Go.RowKit

set_option maxRecDepth 16000 in
set_option maxHeartbeats 2000000 in
theorem texts_nil (w : World) : Calls Try.prog 66 #[.slice none 0 0] w fun e w' => e = .returned (.slice none 0 0) ∧ w' = w := by
  go_enter Try.func66, Try.ntmps66
  go_wp2_with fail
  go_loopw [3, 4] (fun out i wr => out = .slice none 0 0 ∧ i = .int .i64 0 ∧ wr = w) (fun _ _ _ => 0)
  case atStart => exact ⟨rfl, rfl, rfl⟩
  case round =>
    obtain ⟨rfl, rfl, rfl⟩ := hrel
    go_wp2_with fail
    go_ret
    exact ⟨rfl, rfl⟩

/-- the updates of a thing -/
def ofD (kind : Int) (name : Tx) (l : List Up) : List Up := l.filter fun u => decide (u.t = kind) && decide (u.n = name)
theorem ofD_step {kind : Int} {name : Tx} {l : List Up} {i : Nat} {u : Up} (h : l[i]? = some u) : ofD kind name (l.take (i + 1)) = if u.t = kind ∧ u.n = name then ofD kind name (l.take i) ++ [u] else ofD kind name (l.take i) := by
  rw [ofD, List.take_add_one, h, List.filter_append]
  by_cases hk : u.t = kind ∧ u.n = name
  · rw [if_pos hk]; simp [ofD, hk.1, hk.2]
  · rw [if_neg hk]
    have : (decide (u.t = kind) && decide (u.n = name)) = false := by
      rw [Bool.eq_false_iff]; simpa using hk
    simp [ofD, this]
theorem ofD_len (kind : Int) (name : Tx) (l : List Up) : (ofD kind name l).length ≤ l.length := List.length_filter_le _ _
/-- their amounts, added up -/
def sumD (l : List Up) : Int := (l.map Up.a).sum
theorem sumD_app (l : List Up) (u : Up) : sumD (l ++ [u]) = sumD l + u.a := by simp [sumD]
theorem Up.amt_in {u : Up} (h : u.good = true) : -1000 ≤ u.a ∧ u.a ≤ 1000 := by
  have := (u.good_iff.1 h).2.2.2.2
  simp only [opB, inbB, Bool.and_eq_true, decide_eq_true_eq] at this
  omega
theorem sumD_in : ∀ {l : List Up}, (∀ u ∈ l, u.good = true) → -1000 * (l.length : Int) ≤ sumD l ∧ sumD l ≤ 1000 * (l.length : Int)
  | [], _ => by simp [sumD]
  | u :: l, h => by
    have h1 := sumD_in (l := l) fun v hv => h v (by simp [hv])
    have h2 := Up.amt_in (h u (by simp))
    simp only [sumD, List.map_cons, List.sum_cons, List.length_cons] at *
    omega

/-- what updates come to: texts, ids, number: as the document says it -/
def worthD (kind : Int) (name : Tx) (l : List Up) : List Tx × List (Int × Int) × Int :=
  if kind = 0 then (layT (textsD false (ofD kind name l)), [], 0) else if kind = 1 then (layT (textsD true (ofD kind name l)), [], 0)
  else if kind = 2 then ([], [], sumD (ofD kind name l)) else ((seqD (ofD kind name l)).map Up.x, (seqD (ofD kind name l)).map Up.id, 0)
theorem ValB.later' {w w' : World} {B : Nat} {t i : Value} (h : ValB w B t i) (hb : Below w.heap.size w w') : ValB w' B t i := h.below hb (lt_of_block h)
/-- a value, its lists of the call's own -/
def IsVal (w : World) (base : Nat) (v : Value) (r : List Tx × List (Int × Int) × Int) : Prop :=
  ∃ t i n m, v = .agg #[t, i, .int .i64 r.2.2] ∧ w.ownsRow base 9 1 t n (tcs r.1) ∧ w.ownsRow base 24 2 i m (idcs r.2.1)
theorem IsVal.later {w w' : World} {base : Nat} {v : Value} {r : List Tx × List (Int × Int) × Int} (h : IsVal w base v r) (hb : Below w.heap.size w w') : IsVal w' base v r := by
  obtain ⟨t, i, n, m, h1, h2, h3⟩ := h
  exact ⟨t, i, n, m, h1, ownsRow_later h2 hb, ownsRow_later h3 hb⟩

set_option maxRecDepth 16000 in
set_option maxHeartbeats 2000000 in
theorem worth_any (kind : Int) (name : Tx) (b off cap : Nat) (l : List Up) (w : World) (hu : UpsAt w b off l) (hs : Ups l) (hl : l.length ≤ 8000) (hk0 : 0 ≤ kind) (hk3 : kind ≤ 3) :
    Calls Try.prog 44 #[.int .u8 kind, .string (bs name), .slice (some ⟨b, off, none⟩) l.length cap] w fun e w' => ∃ v, e = .returned v ∧ IsVal w' w.heap.size v (worthD kind name l) ∧ Below w.heap.size w w' := by
  have HU := hid hu
  have HS := hid hs
  clear hu hs
  go_enter Try.func44, Try.ntmps44
  go_wp2_with fail
  have hv1 : ValB (w.alloc (.cells #[.slice none 0 0, .slice none 0 0, .int .i64 0] 51)) w.heap.size (.slice none 0 0) (.slice none 0 0) := heap_alloc_new w _
  have hb1 : Below w.heap.size w (w.alloc (.cells #[.slice none 0 0, .slice none 0 0, .int .i64 0] 51)) := (Below.refl _ _).alloc (Nat.le_refl _) _
  have hz1 : (w.alloc (.cells #[.slice none 0 0, .slice none 0 0, .int .i64 0] 51)).heap.size = w.heap.size + 1 := by simp
  generalize w.alloc (.cells #[.slice none 0 0, .slice none 0 0, .int .i64 0] 51) = w1 at *
  have HV1 := hid hv1
  have HB1 := hid hb1
  have HZ1 := hid hz1
  clear hv1 hb1 hz1
  go_loopw [7, 8, 9] (fun v n i wr => ∃ k : Nat, k ≤ l.length ∧ i = .int .i64 k ∧ n = .int .i64 (sumD (ofD kind name (l.take k))) ∧ UpRow w wr w1.heap.size v (ofD kind name (l.take k)) ∧ (ofD kind name (l.take k) = [] → v = .slice none 0 0) ∧ Below w1.heap.size w1 wr) (fun _ _ i _ => l.length - (intOf i).toNat)
  case atStart => exact ⟨0, by omega, rfl, rfl, UpRow.nil _ _ _, fun _ => rfl, Below.refl _ _⟩
  case round =>
    obtain ⟨k, hk, rfl, rfl, hrow, hnil, hb⟩ := hrel
    have HNIL := hid hnil
    clear hnil
    have HR := hid hrow
    have HB := hid hb
    have hbw : Below w.heap.size w wr := HB1.out.trans (hb.mono HB1.out.size)
    have HBW := hid hbw
    clear hrow hb
    have hil := ofD_len kind name (l.take k)
    rw [List.length_take] at hil
    have hsum := sumD_in (l := ofD kind name (l.take k)) (fun u hu => HS.out.good u (List.mem_of_mem_take (List.mem_filter.1 hu).1))
    have hs0 : -8000000 ≤ sumD (ofD kind name (l.take k)) ∧ sumD (ofD kind name (l.take k)) ≤ 8000000 := by omega
    clear hsum
    by_cases hlt : k < l.length
    · obtain ⟨u, hu⟩ : ∃ u, l[k]? = some u := ⟨l[k], List.getElem?_eq_getElem hlt⟩
      obtain ⟨ua, uc, hut⟩ := (HU.out.later hbw) k u hu
      obtain ⟨ua', uc', hut'⟩ := HU.out k u hu
      have hst := ofD_step (kind := kind) (name := name) hu
      have ham := Up.amt_in (HS.out.good u (List.mem_of_getElem? hu))
      obtain ⟨c0, c1, c2, c3, c4, c5, c6, c7, c8⟩ := hut.nine
      have hsame : ua = ua' ∧ uc = uc' := by
        have h1 := hut'.nine.2.1
        have h2 := (hbw.cell (p := ⟨b, off + k * 9 + 1, none⟩) hut'.lt).trans h1
        have h3 := h2.symm.trans c1
        cases h3; exact ⟨rfl, rfl⟩
      obtain ⟨rfl, rfl⟩ := hsame
      have HUT := hid hut'
      have HST := hid hst
      have HU2 := hid (HU.out k u hu)
      have hub := hut.lt
      clear hu hut hut' hst hbw
      by_cases hk1 : u.t = kind
      · have hk1' : (u.t == kind) = true := by simp [hk1]
        by_cases hk2 : u.n = name
        · have hk2' : (u.n == name) = true := by simp [hk2]
          have HK : Hid (u.t = kind ∧ u.n = name) := ⟨hk1, hk2⟩
          clear hk1 hk2
          generalize hsd : sumD (ofD kind name (l.take k)) = sm at *
          have HSD := hid hsd
          clear hsd
          go_wp2_with (at_builtin; refine app_up w _ rfl (.tmp 34) (.tmp 39) rfl w1.heap.size _ _ rfl HR.out u ua uc HUT.out.clk HUT.out.fit rfl ?c2 ?c4 ?_)
          case c2 => omega
          case c4 => exact HB.out.size
          intro g2 cap2 w2 ho2 hg2 hb2
          have HO2 := hid ho2
          have HB2 : Hid (Below w1.heap.size w1 w2) := HB.out.trans hb2
          have hbw2 : Below w.heap.size w w2 := HB1.out.trans (HB2.out.mono HB1.out.size)
          obtain ⟨_, _, _, _, _, _, e6, _, _⟩ := (HUT.out.later hbw2).nine
          clear ho2 hg2 hb2 hbw2
          go_wp2_with fail
          go_roundw
          case rel => exact ⟨k + 1, by omega, by go_num, by rw [HST.out, if_pos HK.out, sumD_app, HSD.out], by rw [HST.out, if_pos HK.out]; exact HO2.out, by rw [HST.out, if_pos HK.out]; simp, HB2.out⟩
          case measure => simp [intOf]; omega
        · have hk2' : (u.n == name) = false := by simp [hk2]
          have HK : Hid (¬ (u.t = kind ∧ u.n = name)) := fun h => hk2 h.2
          clear hk1 hk2
          go_wp2_with fail
          go_roundw
          case rel => exact ⟨k + 1, by omega, by go_num, by rw [HST.out, if_neg HK.out], by rw [HST.out, if_neg HK.out]; exact HR.out, by rw [HST.out, if_neg HK.out]; exact HNIL.out, HB.out⟩
          case measure => simp [intOf]; omega
      · have hk1' : (u.t == kind) = false := by simp [hk1]
        have HK : Hid (¬ (u.t = kind ∧ u.n = name)) := fun h => hk1 h.1
        clear hk1
        go_wp2_with fail
        go_roundw
        case rel => exact ⟨k + 1, by omega, by go_num, by rw [HST.out, if_neg HK.out], by rw [HST.out, if_neg HK.out]; exact HR.out, by rw [HST.out, if_neg HK.out]; exact HNIL.out, HB.out⟩
        case measure => simp [intOf]; omega
    · have htk : l.take k = l := List.take_of_length_le (by omega)
      have hrow := HR.out
      have hnil := HNIL.out
      rw [htk] at hrow hnil
      have hso : Ups (ofD kind name l) := HS.out.filter _
      have hlo : (ofD kind name l).length ≤ 8000 := Nat.le_trans (ofD_len kind name l) hl
      have hto : ∀ u ∈ ofD kind name l, u.t = kind := fun u hu => by have := (List.mem_filter.1 hu).2; simp at this; exact this.1
      rw [htk] at hs0 ⊢
      clear HR HNIL htk hil
      have hz1' := HZ1.out
      have hres : ValB wr w.heap.size (.slice none 0 0) (.slice none 0 0) := HV1.out.below HB.out (by omega)
      have hzr : w.heap.size < wr.heap.size := lt_of_block hres
      have HRES := hid hres
      have HSO := hid hso
      have HTO := hid hto
      clear hres hso hto
      generalize hown : ofD kind name l = own at *
      have HOWN := hid hown
      clear hown
      generalize hsm : sumD own = sm at *
      have HSM := hid hsm
      clear hsm
      have hcase : kind = 0 ∨ kind = 1 ∨ kind = 2 ∨ kind = 3 := by omega
      rcases hcase with rfl | rfl | rfl | rfl
      · rcases hrow.slice hbw with ⟨rfl, rfl⟩ | ⟨ib, io, ic, rfl, hib, hiw, hia⟩
        · clear hrow hbw hnil
          go_wp2_with fail
          refine (texts_nil _).mono ?_
          rintro e w4 ⟨rfl, rfl⟩
          obtain ⟨x0, x1, x2, _, _⟩ := HRES.out.cells
          obtain ⟨y0, y1, y2⟩ := HRES.out.free
          go_wp2_with fail
          have hw : worthD 0 name l = ([], [], 0) := by simp [worthD, HOWN.out, textsD, layT]
          refine bodyPost_ret (v := .agg #[.slice none 0 0, .slice none 0 0, .int .i64 0]) ?_ rfl ⟨_, rfl, ?_, ?_⟩
          · simp [results, Try.results44, go_sem, x0, x1, x2]
          · rw [hw]; exact ⟨_, _, 0, 0, rfl, World.ownsRow_nil _ _ _ _, World.ownsRow_nil _ _ _ _⟩
          · have q0 := Below.setCell HBW.out (p := ⟨w.heap.size, 0, none⟩) (Nat.le_refl _) (.slice none 0 0)
            have q1 := Below.setCell q0 (p := ⟨w.heap.size, 1, none⟩) (Nat.le_refl _) (.slice none 0 0)
            exact Below.setCell q1 (p := ⟨w.heap.size, 2, none⟩) (Nat.le_refl _) (.int .i64 0)
        · clear hrow hbw hnil
          go_wp2_with fail
          refine (texts_any false ib io ic own wr hia HSO.out (fun u hu => HTO.out u hu) hlo).mono ?_
          rintro e w4 ⟨v4, n4, rfl, ho4, hb4⟩
          obtain ⟨ta, tc, rfl⟩ := own_slice ho4
          have hres4 := HRES.out.later' hb4
          obtain ⟨x0, x1, x2, _, _⟩ := hres4.cells
          obtain ⟨y0, y1, y2⟩ := hres4.free
          have HO4 := hid ho4
          have HB4 := hid hb4
          clear ho4 hb4 hres4 hia
          go_wp2_with fail
          have hw : worthD 0 name l = (layT (textsD false own), [], 0) := by simp [worthD, HOWN.out]
          refine bodyPost_ret (v := .agg #[.slice ta n4 tc, .slice none 0 0, .int .i64 0]) ?_ rfl ⟨_, rfl, ?_, ?_⟩
          · simp [results, Try.results44, go_sem, x0, x1, x2]
          · rw [hw]
            refine ⟨_, _, n4, 0, rfl, ?_, World.ownsRow_nil _ _ _ _⟩
            refine ownsRow_mono ?_ (Nat.le_of_lt hzr)
            iterate 3 (refine ownsRow_setCell_below ?_ hzr _)
            exact HO4.out
          · have q0 := Below.setCell (HBW.out.trans (HB4.out.mono HBW.out.size)) (p := ⟨w.heap.size, 0, none⟩) (Nat.le_refl _) (.slice ta n4 tc)
            have q1 := Below.setCell q0 (p := ⟨w.heap.size, 1, none⟩) (Nat.le_refl _) (.slice none 0 0)
            exact Below.setCell q1 (p := ⟨w.heap.size, 2, none⟩) (Nat.le_refl _) (.int .i64 0)
      · rcases hrow.slice hbw with ⟨rfl, rfl⟩ | ⟨ib, io, ic, rfl, hib, hiw, hia⟩
        · clear hrow hbw hnil
          go_wp2_with fail
          refine (texts_nil _).mono ?_
          rintro e w4 ⟨rfl, rfl⟩
          obtain ⟨x0, x1, x2, _, _⟩ := HRES.out.cells
          obtain ⟨y0, y1, y2⟩ := HRES.out.free
          go_wp2_with fail
          have hw : worthD 1 name l = ([], [], 0) := by simp [worthD, HOWN.out, textsD, layT]
          refine bodyPost_ret (v := .agg #[.slice none 0 0, .slice none 0 0, .int .i64 0]) ?_ rfl ⟨_, rfl, ?_, ?_⟩
          · simp [results, Try.results44, go_sem, x0, x1, x2]
          · rw [hw]; exact ⟨_, _, 0, 0, rfl, World.ownsRow_nil _ _ _ _, World.ownsRow_nil _ _ _ _⟩
          · have q0 := Below.setCell HBW.out (p := ⟨w.heap.size, 0, none⟩) (Nat.le_refl _) (.slice none 0 0)
            have q1 := Below.setCell q0 (p := ⟨w.heap.size, 1, none⟩) (Nat.le_refl _) (.slice none 0 0)
            exact Below.setCell q1 (p := ⟨w.heap.size, 2, none⟩) (Nat.le_refl _) (.int .i64 0)
        · clear hrow hbw hnil
          go_wp2_with fail
          refine (texts_any true ib io ic own wr hia HSO.out (fun u hu => HTO.out u hu) hlo).mono ?_
          rintro e w4 ⟨v4, n4, rfl, ho4, hb4⟩
          obtain ⟨ta, tc, rfl⟩ := own_slice ho4
          have hres4 := HRES.out.later' hb4
          obtain ⟨x0, x1, x2, _, _⟩ := hres4.cells
          obtain ⟨y0, y1, y2⟩ := hres4.free
          have HO4 := hid ho4
          have HB4 := hid hb4
          clear ho4 hb4 hres4 hia
          go_wp2_with fail
          have hw : worthD 1 name l = (layT (textsD true own), [], 0) := by simp [worthD, HOWN.out]
          refine bodyPost_ret (v := .agg #[.slice ta n4 tc, .slice none 0 0, .int .i64 0]) ?_ rfl ⟨_, rfl, ?_, ?_⟩
          · simp [results, Try.results44, go_sem, x0, x1, x2]
          · rw [hw]
            refine ⟨_, _, n4, 0, rfl, ?_, World.ownsRow_nil _ _ _ _⟩
            refine ownsRow_mono ?_ (Nat.le_of_lt hzr)
            iterate 3 (refine ownsRow_setCell_below ?_ hzr _)
            exact HO4.out
          · have q0 := Below.setCell (HBW.out.trans (HB4.out.mono HBW.out.size)) (p := ⟨w.heap.size, 0, none⟩) (Nat.le_refl _) (.slice ta n4 tc)
            have q1 := Below.setCell q0 (p := ⟨w.heap.size, 1, none⟩) (Nat.le_refl _) (.slice none 0 0)
            exact Below.setCell q1 (p := ⟨w.heap.size, 2, none⟩) (Nat.le_refl _) (.int .i64 0)
      · obtain ⟨x0, x1, x2, _, _⟩ := HRES.out.cells
        obtain ⟨y0, y1, y2⟩ := HRES.out.free
        clear hrow hbw hnil
        go_wp2_with fail
        have hw : worthD 2 name l = ([], [], sm) := by simp [worthD, HOWN.out, HSM.out]
        refine bodyPost_ret (v := .agg #[.slice none 0 0, .slice none 0 0, .int .i64 sm]) ?_ rfl ⟨_, rfl, ?_, ?_⟩
        · simp [results, Try.results44, go_sem, x0, x1, x2]
        · rw [hw]; exact ⟨_, _, 0, 0, rfl, World.ownsRow_nil _ _ _ _, World.ownsRow_nil _ _ _ _⟩
        · have q0 := Below.setCell HBW.out (p := ⟨w.heap.size, 0, none⟩) (Nat.le_refl _) (.slice none 0 0)
          have q1 := Below.setCell q0 (p := ⟨w.heap.size, 1, none⟩) (Nat.le_refl _) (.slice none 0 0)
          exact Below.setCell q1 (p := ⟨w.heap.size, 2, none⟩) (Nat.le_refl _) (.int .i64 sm)
      · rcases hrow.slice hbw with ⟨rfl, rfl⟩ | ⟨ib, io, ic, rfl, hib, hiw, hia⟩
        · clear hrow hbw hnil
          go_wp2_with fail
          refine (sequence_nil _).mono ?_
          rintro e w4 ⟨rfl, hb4⟩
          have hres4 := HRES.out.later' hb4
          obtain ⟨x0, x1, x2, _, _⟩ := hres4.cells
          obtain ⟨y0, y1, y2⟩ := hres4.free
          have HB4 := hid hb4
          clear hb4 hres4
          go_wp2_with fail
          have hw : worthD 3 name l = ([], [], 0) := by simp [worthD, HOWN.out]; rfl
          refine bodyPost_ret (v := .agg #[.slice none 0 0, .slice none 0 0, .int .i64 0]) ?_ rfl ⟨_, rfl, ?_, ?_⟩
          · simp [results, Try.results44, go_sem, x0, x1, x2]
          · rw [hw]; exact ⟨_, _, 0, 0, rfl, World.ownsRow_nil _ _ _ _, World.ownsRow_nil _ _ _ _⟩
          · have q0 := Below.setCell (HBW.out.trans (HB4.out.mono HBW.out.size)) (p := ⟨w.heap.size, 0, none⟩) (Nat.le_refl _) (.slice none 0 0)
            have q1 := Below.setCell q0 (p := ⟨w.heap.size, 1, none⟩) (Nat.le_refl _) (.slice none 0 0)
            exact Below.setCell q1 (p := ⟨w.heap.size, 2, none⟩) (Nat.le_refl _) (.int .i64 0)
        · clear hrow hbw hnil
          go_wp2_with fail
          refine (sequence_any ib io ic own wr hia HSO.out hlo).mono ?_
          rintro e w4 ⟨v4, j4, n4, m4, rfl, ho4, hj4, hb4⟩
          obtain ⟨ta, tc, rfl⟩ := own_slice ho4
          obtain ⟨ja, jc, rfl⟩ := own_slice hj4
          have hres4 := HRES.out.later' hb4
          obtain ⟨x0, x1, x2, _, _⟩ := hres4.cells
          obtain ⟨y0, y1, y2⟩ := hres4.free
          have HO4 := hid ho4
          have HJ4 := hid hj4
          have HB4 := hid hb4
          clear ho4 hj4 hb4 hres4 hia
          go_wp2_with fail
          have hw : worthD 3 name l = ((seqD own).map Up.x, (seqD own).map Up.id, 0) := by simp [worthD, HOWN.out]
          refine bodyPost_ret (v := .agg #[.slice ta n4 tc, .slice ja m4 jc, .int .i64 0]) ?_ rfl ⟨_, rfl, ?_, ?_⟩
          · simp [results, Try.results44, go_sem, x0, x1, x2]
          · rw [hw]
            refine ⟨_, _, n4, m4, rfl, ?_, ?_⟩
            · refine ownsRow_mono ?_ (Nat.le_of_lt hzr)
              iterate 3 (refine ownsRow_setCell_below ?_ hzr _)
              exact HO4.out
            · refine ownsRow_mono ?_ (Nat.le_of_lt hzr)
              iterate 3 (refine ownsRow_setCell_below ?_ hzr _)
              exact HJ4.out
          · have q0 := Below.setCell (HBW.out.trans (HB4.out.mono HBW.out.size)) (p := ⟨w.heap.size, 0, none⟩) (Nat.le_refl _) (.slice ta n4 tc)
            have q1 := Below.setCell q0 (p := ⟨w.heap.size, 1, none⟩) (Nat.le_refl _) (.slice ja m4 jc)
            exact Below.setCell q1 (p := ⟨w.heap.size, 2, none⟩) (Nat.le_refl _) (.int .i64 0)
end Go.Proofs.Yteljbblbdiploaa
