/-
  WALKS: package crdt: Value.
-/
import Derived.Test.YteljbblbdiploaaJVRw
import Derived.Test.YteljbblbdiploaaJVAdded
import Derived.Test.YteljbblbdiploaaJVDist
import Derived.Test.YteljbblbdiploaaJVAlike
namespace Go.Proofs.Yteljbblbdiploaa
open Go.RowKit Go.Shelf

set_option maxHeartbeats 400000 in
theorem compact_nil (w : World) : Calls Try.prog 75 #[.slice none 0 0] w fun e w' => e = .returned (.slice none 0 0) ∧ w' = w := by
  go_enter Try.func75, Try.ntmps75
  go_wp2_with fail
  go_ret
  exact ⟨rfl, rfl⟩

set_option maxRecDepth 16000 in
set_option maxHeartbeats 400000 in
theorem distinct_nil (w : World) : Calls Try.prog 61 #[.slice none 0 0] w fun e w' => e = .returned (.slice none 0 0) ∧ w' = w := by
  go_enter Try.func61, Try.ntmps61
  go_wp2_with fail
  refine (AnyM.slices_Sort_string_none Try.sortL none 0 w).mono ?_
  rintro e w1 ⟨rfl, rfl⟩
  go_wp2_with fail
  refine (compact_nil _).mono ?_
  rintro e w1 ⟨rfl, rfl⟩
  go_wp2_with fail
  go_loopw [11] (fun i wx => i = .int .i64 0 ∧ wx = w1) (fun _ _ => 0)
  case atStart => exact ⟨rfl, rfl⟩
  case round =>
    obtain ⟨rfl, rfl⟩ := hrel
    go_wp2_with fail
    go_ret
    exact ⟨rfl, rfl⟩

/-- a row of texts of some call's own, in order, each once -/
theorem distinct_own (base : Nat) (v : Value) (n : Nat) (ss : List Tx) (w : World) (hbase : base ≤ w.heap.size) (h : w.ownsRow base 9 1 v n (tcs ss)) (hn : n ≤ 8000) (hx : ∀ s ∈ ss, s.length ≤ 20) :
    Calls Try.prog 61 #[v] w fun e w' => ∃ v m, e = .returned v ∧ w'.ownsRow base 9 1 v m (tcs (sortT ss)) ∧ Below base w w' := by
  have hl := (own_texts h).1
  rcases h.2 with ⟨rfl, h0⟩ | ⟨g, cp, cur, rfl, -⟩
  · have : ss = [] := List.eq_nil_of_length_eq_zero (by omega)
    subst this
    refine (distinct_nil w).mono ?_
    rintro e w' ⟨rfl, rfl⟩
    exact ⟨_, 0, rfl, World.ownsRow_nil _ _ _ _, Below.refl _ _⟩
  · exact distinct_any base g n cp ss w hbase h hn hx

/-- what updates of one thing come to -/
def worthO (kind : Int) (l : List Up) : List Tx × List (Int × Int) × Int :=
  if kind = 0 then (layT (textsD false l), [], 0) else if kind = 1 then (layT (textsD true l), [], 0) else if kind = 2 then ([], [], sumD l) else ((seqD l).map Up.x, (seqD l).map Up.id, 0)
theorem worthD_O (kind : Int) (name : Tx) (l : List Up) : worthD kind name l = worthO kind (ofD kind name l) := rfl

/-- what it answers -/
def ValAns (w : World) (r : List Tx × List (Int × Int) × Int) (e : Ending) (w' : World) : Prop := ∃ v, e = .returned v ∧ IsVal w' w.heap.size v r ∧ Below w.heap.size w w'

theorem texts_len {reg : Bool} {l : List Up} : (textsD reg l).length ≤ l.length := by
  unfold textsD
  rw [List.length_map]
  exact List.length_filter_le _ _
theorem texts_in {reg : Bool} {l : List Up} (hs : Ups l) : ∀ s ∈ textsD reg l, s.length ≤ 20 := by
  intro s h
  unfold textsD at h
  obtain ⟨u, hu, rfl⟩ := List.mem_map.1 h
  exact Up.text_in (hs.good u (List.mem_filter.1 hu).1)

/-- a value's block, filled -/
theorem val_fill {w wr : World} {base : Nat} {t i : Value} {n m : Nat} {xs : List Tx} {js : List (Int × Int)} {z : Int} (hz : w.heap.size < base) (ht : wr.ownsRow base 9 1 t n (tcs xs)) (hi : wr.ownsRow base 24 2 i m (idcs js)) (hb : Below w.heap.size w wr) (a b c : Value) :
    IsVal (((wr.setCell ⟨w.heap.size, 0, none⟩ a).setCell ⟨w.heap.size, 1, none⟩ b).setCell ⟨w.heap.size, 2, none⟩ c) w.heap.size (.agg #[t, i, .int .i64 z]) (xs, js, z) ∧ Below w.heap.size w (((wr.setCell ⟨w.heap.size, 0, none⟩ a).setCell ⟨w.heap.size, 1, none⟩ b).setCell ⟨w.heap.size, 2, none⟩ c) := by
  refine ⟨⟨t, i, n, m, rfl, ?_, ?_⟩, ?_⟩
  · refine ownsRow_mono ?_ (Nat.le_of_lt hz)
    iterate 3 (refine ownsRow_setCell_below ?_ hz _)
    exact ht
  · refine ownsRow_mono ?_ (Nat.le_of_lt hz)
    iterate 3 (refine ownsRow_setCell_below ?_ hz _)
    exact hi
  · have q1 : Below w.heap.size w (wr.setCell ⟨w.heap.size, 0, none⟩ a) := Below.setCell hb (Nat.le_refl _) _
    have q2 := Below.setCell q1 (p := ⟨w.heap.size, 1, none⟩) (Nat.le_refl _) b
    exact Below.setCell q2 (p := ⟨w.heap.size, 2, none⟩) (Nat.le_refl _) _

set_option maxRecDepth 16000 in
set_option maxHeartbeats 1000000 in
theorem valueOf_any (kind : Int) (vo : Option Addr) (cap : Nat) (l : List Up) (w : World) (hu : UpsO w vo l) (hs : Ups l) (hk : kind = 3 → ∀ u ∈ l, u.k = 0 ∨ u.k = 1) (hl : l.length ≤ 8000) (hk0 : 0 ≤ kind) (hk3 : kind ≤ 3) :
    Calls Try.prog 41 #[.int .u8 kind, .slice vo l.length cap] w (ValAns w (worthO kind l)) := by
  have HU := hid hu
  have HS := hid hs
  have HK := hid hk
  clear hu hs hk
  have hv1 : ValB (w.alloc (.cells #[.slice none 0 0, .slice none 0 0, .int .i64 0] 51)) w.heap.size (.slice none 0 0) (.slice none 0 0) := heap_alloc_new w _
  have hb1 : Below w.heap.size w (w.alloc (.cells #[.slice none 0 0, .slice none 0 0, .int .i64 0] 51)) := (Below.refl _ _).alloc (Nat.le_refl _) _
  have hz1 : w.heap.size < (w.alloc (.cells #[.slice none 0 0, .slice none 0 0, .int .i64 0] 51)).heap.size := by simp
  have hc : kind = 0 ∨ kind = 1 ∨ kind = 2 ∨ kind = 3 := by omega
  rcases hc with rfl | rfl | rfl | rfl
  · go_enter Try.func41, Try.ntmps41
    go_wp2_with fail
    generalize w.alloc (.cells #[.slice none 0 0, .slice none 0 0, .int .i64 0] 51) = w1 at *
    refine (added_any vo cap l w1 (HU.out.later hb1) HS.out.good hl).mono ?_
    rintro e w2 ⟨v, n, rfl, ho, -, hb2⟩
    rw [addsOf_D HS.out] at ho
    have hn : n ≤ 8000 := by have h1 := (own_texts ho).1; have h2 := texts_len (reg := false) (l := l); omega
    have HO := hid ho
    have HV2 := hid (hv1.below hb2 hz1)
    have HB2 : Hid (Below w.heap.size w w2) := hb1.trans (hb2.mono hb1.size)
    have hz2 := hb2.size
    clear ho hb2 hv1 hb1
    go_wp2_with fail
    refine (distinct_own w1.heap.size v n (textsD false l) w2 hz2 HO.out hn (texts_in HS.out)).mono ?_
    rintro e w3 ⟨v3, m, rfl, ho3, hb3⟩
    obtain ⟨a3, c3, rfl⟩ := own_slice ho3
    have hv3 := HV2.out.below hb3 hz1
    obtain ⟨x0, x1, x2, _, _⟩ := hv3.cells
    obtain ⟨y0, y1, y2⟩ := hv3.free
    have HO3 := hid ho3
    have HB3 : Hid (Below w.heap.size w w3) := HB2.out.trans (hb3.mono (Nat.le_of_lt hz1))
    clear hv3 ho3 hb3
    go_wp2_with fail
    refine bodyPost_ret (v := .agg #[.slice a3 m c3, .slice none 0 0, .int .i64 0]) (by simp [results, Try.results41, go_sem, x0, x1, x2]) rfl ?_
    have hw : worthO 0 l = (sortT (textsD false l), [], 0) := by rw [sortT_layT (fun _ => Iff.rfl)]; rfl
    have := val_fill (js := []) (z := 0) hz1 HO3.out (World.ownsRow_nil w3 _ _ _) HB3.out (.slice a3 m c3) (.slice none 0 0) (.int .i64 0)
    exact ⟨_, rfl, by rw [hw]; exact this.1, this.2⟩
  · go_enter Try.func41, Try.ntmps41
    go_wp2_with fail
    generalize w.alloc (.cells #[.slice none 0 0, .slice none 0 0, .int .i64 0] 51) = w1 at *
    refine (written_any vo cap l w1 (HU.out.later hb1) HS.out.good hl).mono ?_
    rintro e w2 ⟨v, n, rfl, ho, -, hb2⟩
    rw [writesOf_D HS.out] at ho
    have hn : n ≤ 8000 := by have h1 := (own_texts ho).1; have h2 := texts_len (reg := true) (l := l); omega
    have HO := hid ho
    have HV2 := hid (hv1.below hb2 hz1)
    have HB2 : Hid (Below w.heap.size w w2) := hb1.trans (hb2.mono hb1.size)
    have hz2 := hb2.size
    clear ho hb2 hv1 hb1
    go_wp2_with fail
    refine (distinct_own w1.heap.size v n (textsD true l) w2 hz2 HO.out hn (texts_in HS.out)).mono ?_
    rintro e w3 ⟨v3, m, rfl, ho3, hb3⟩
    obtain ⟨a3, c3, rfl⟩ := own_slice ho3
    have hv3 := HV2.out.below hb3 hz1
    obtain ⟨x0, x1, x2, _, _⟩ := hv3.cells
    obtain ⟨y0, y1, y2⟩ := hv3.free
    have HO3 := hid ho3
    have HB3 : Hid (Below w.heap.size w w3) := HB2.out.trans (hb3.mono (Nat.le_of_lt hz1))
    clear hv3 ho3 hb3
    go_wp2_with fail
    refine bodyPost_ret (v := .agg #[.slice a3 m c3, .slice none 0 0, .int .i64 0]) (by simp [results, Try.results41, go_sem, x0, x1, x2]) rfl ?_
    have hw : worthO 1 l = (sortT (textsD true l), [], 0) := by rw [sortT_layT (fun _ => Iff.rfl)]; rfl
    have := val_fill (js := []) (z := 0) hz1 HO3.out (World.ownsRow_nil w3 _ _ _) HB3.out (.slice a3 m c3) (.slice none 0 0) (.int .i64 0)
    exact ⟨_, rfl, by rw [hw]; exact this.1, this.2⟩
  · go_enter Try.func41, Try.ntmps41
    go_wp2_with fail
    generalize w.alloc (.cells #[.slice none 0 0, .slice none 0 0, .int .i64 0] 51) = w1 at *
    refine (total_any vo cap l w1 (HU.out.later hb1) HS.out.good hl).mono ?_
    rintro e w3 ⟨rfl, hb3⟩
    have hv3 := hv1.below hb3 hz1
    obtain ⟨x0, x1, x2, _, _⟩ := hv3.cells
    obtain ⟨y0, y1, y2⟩ := hv3.free
    have HB3 : Hid (Below w.heap.size w w3) := hb1.trans (hb3.mono hb1.size)
    clear hv3 hb3 hv1 hb1
    go_wp2_with fail
    refine bodyPost_ret (v := .agg #[.slice none 0 0, .slice none 0 0, .int .i64 (sumD l)]) (by simp [results, Try.results41, go_sem, x0, x1, x2]) rfl ?_
    have := val_fill (base := w1.heap.size) (xs := []) (js := []) (z := sumD l) hz1 (World.ownsRow_nil w3 _ _ _) (World.ownsRow_nil w3 _ _ _) HB3.out (.slice none 0 0) (.slice none 0 0) (.int .i64 (sumD l))
    exact ⟨_, rfl, this.1, this.2⟩
  · go_enter Try.func41, Try.ntmps41
    go_wp2_with fail
    generalize w.alloc (.cells #[.slice none 0 0, .slice none 0 0, .int .i64 0] 51) = w1 at *
    refine (row_any vo cap l w1 (HU.out.later hb1) HS.out (HK.out (by trivial)) hl).mono ?_
    rintro e w3 ⟨t, i, n, m, rfl, ho, hi, hb3⟩
    obtain ⟨a3, c3, rfl⟩ := own_slice ho
    obtain ⟨a4, c4, rfl⟩ := own_slice hi
    have hv3 := hv1.below hb3 hz1
    obtain ⟨x0, x1, x2, _, _⟩ := hv3.cells
    obtain ⟨y0, y1, y2⟩ := hv3.free
    have HO3 := hid ho
    have HI3 := hid hi
    have HB3 : Hid (Below w.heap.size w w3) := hb1.trans (hb3.mono hb1.size)
    clear hv3 hb3 hv1 hb1 ho hi
    go_wp2_with fail
    refine bodyPost_ret (v := .agg #[.slice a3 n c3, .slice a4 m c4, .int .i64 0]) (by simp [results, Try.results41, go_sem, x0, x1, x2]) rfl ?_
    have := val_fill (z := 0) hz1 HO3.out HI3.out HB3.out (.slice a3 n c3) (.slice a4 m c4) (.int .i64 0)
    exact ⟨_, rfl, this.1, this.2⟩

theorem ofD_good {kind : Int} {name : Tx} {l : List Up} (hs : Ups l) : Ups (ofD kind name l) := hs.filter _
theorem ofD_kind {name : Tx} {l : List Up} (hf : ∀ u ∈ l, 0 ≤ u.k) (hs : Ups l) : ∀ u ∈ ofD 3 name l, u.k = 0 ∨ u.k = 1 := by
  intro u hu
  obtain ⟨hm, ht⟩ := List.mem_filter.1 hu
  have h0 := hf u hm
  have hg := (u.good_iff.1 (hs.good u hm)).2.2.2.2
  simp only [Bool.and_eq_true, decide_eq_true_eq] at ht
  simp only [opB, fKind, Bool.and_eq_true, decide_eq_true_eq, ht.1] at hg
  omega

/-- what Value answers -/
def VAns (w : World) (r : (List Tx × List (Int × Int) × Int) × Int) (e : Ending) (w' : World) : Prop := ∃ v, e = .returned (.tuple #[v, .int .i64 r.2]) ∧ IsVal w' w.heap.size v r.1 ∧ Below w.heap.size w w'

theorem UpRow.o {W w : World} {base : Nat} {v : Value} {l : List Up} (h : UpRow W w base v l) (hb : Below W.heap.size W w) : ∃ vo cap, v = .slice vo l.length cap ∧ UpsO w vo l := by
  rcases h.slice hb with ⟨rfl, rfl⟩ | ⟨g, off, cap, rfl, _, _, hu⟩
  · exact ⟨none, 0, rfl, UpsO.nil _ _⟩
  · exact ⟨_, cap, rfl, hu.o⟩
theorem nothing_val {w wr : World} (hb : Below w.heap.size w wr) (a b c : Value) : IsVal (((wr.setCell ⟨w.heap.size, 0, none⟩ a).setCell ⟨w.heap.size, 1, none⟩ b).setCell ⟨w.heap.size, 2, none⟩ c) w.heap.size (.agg #[.slice none 0 0, .slice none 0 0, .int .i64 0]) ([], [], 0) ∧ Below w.heap.size w (((wr.setCell ⟨w.heap.size, 0, none⟩ a).setCell ⟨w.heap.size, 1, none⟩ b).setCell ⟨w.heap.size, 2, none⟩ c) := by
  refine ⟨⟨_, _, 0, 0, rfl, World.ownsRow_nil _ _ _ _, World.ownsRow_nil _ _ _ _⟩, ?_⟩
  have q1 : Below w.heap.size w (wr.setCell ⟨w.heap.size, 0, none⟩ a) := Below.setCell hb (Nat.le_refl _) _
  have q2 := Below.setCell q1 (p := ⟨w.heap.size, 1, none⟩) (Nat.le_refl _) b
  exact Below.setCell q2 (p := ⟨w.heap.size, 2, none⟩) (Nat.le_refl _) _
theorem not_ups {l : List Up} (h : l.all Up.good = false) : ¬ Ups l := fun hu => by
  rw [List.all_eq_true.2 hu.good] at h
  cases h

set_option maxRecDepth 16000 in
set_option maxHeartbeats 1000000 in
theorem value_any (kind : Int) (name : Tx) (vo : Option Addr) (cap : Nat) (l : List Up) (w : World) (hu : UpsO w vo l) (hf : ∀ u ∈ l, 0 ≤ u.k) (hk0 : 0 ≤ kind) (hlm : l.length ≤ 9223372036854775807) (hnm : name.length ≤ maxLen) :
    Calls Try.prog 18 #[.int .u8 kind, .string (bs name), .slice vo l.length cap] w (VAns w (valD kind name l)) := by
  have HU := hid hu
  have HF := hid hf
  have hns : (bs name).size = name.length := bs_size name
  have hnm' : (bs name).size ≤ maxLen := by rw [hns]; exact hnm
  have HNS := hid hns
  clear hu hf hns hnm
  have hv1 : ValB (w.alloc (.cells #[.slice none 0 0, .slice none 0 0, .int .i64 0] 51)) w.heap.size (.slice none 0 0) (.slice none 0 0) := heap_alloc_new w _
  have hb1 : Below w.heap.size w (w.alloc (.cells #[.slice none 0 0, .slice none 0 0, .int .i64 0] 51)) := (Below.refl _ _).alloc (Nat.le_refl _) _
  have hz1 : w.heap.size < (w.alloc (.cells #[.slice none 0 0, .slice none 0 0, .int .i64 0] 51)).heap.size := by simp
  by_cases hk3 : kind ≤ 3
  · have hk3' : ¬ 3 < kind := by omega
    go_enter Try.func18, Try.ntmps18
    go_wp2_with fail
    generalize w.alloc (.cells #[.slice none 0 0, .slice none 0 0, .int .i64 0] 51) = w1 at *
    refine (name_any (bs name) w1 hnm').mono ?_
    rintro e w1 ⟨rfl, rfl⟩
    have hwn : wthn (bs name).size 1 8 = true ↔ 1 ≤ name.length ∧ name.length ≤ 8 := by
      rw [HNS.out, wthn, decide_eq_true_eq]; omega
    have HWN := hid hwn
    clear hwn
    generalize wthn (bs name).size 1 8 = nb at *
    cases nb
    · have HD : Hid (valD kind name l = (([], [], 0), 1)) := valD_arg (fun h => by have := HWN.out.2 h.2; cases this)
      obtain ⟨x0, x1, x2, _, _⟩ := hv1.cells
      obtain ⟨y0, y1, y2⟩ := hv1.free
      have HB1 := hid hb1
      clear hv1 hb1
      go_wp2_with fail
      refine bodyPost_ret (v := .tuple #[.agg #[.slice none 0 0, .slice none 0 0, .int .i64 0], .int .i64 1]) (by simp [results, Try.results18, go_sem, x0, x1, x2]) rfl ?_
      rw [HD.out]
      have := nothing_val HB1.out (.slice none 0 0) (.slice none 0 0) (.int .i64 0)
      exact ⟨_, rfl, this.1, this.2⟩
    · have harg : kind ≤ 3 ∧ 1 ≤ name.length ∧ name.length ≤ 8 := ⟨hk3, HWN.out.1 rfl⟩
      have HV1 := hid hv1
      have HB1 := hid hb1
      have HARG := hid harg
      clear hv1 hb1 harg
      go_wp2_with fail
      refine (areUpdates_any vo cap l w1 (HU.out.later HB1.out) hlm).mono ?_
      rintro e w2 ⟨rfl, hb2⟩
      have HV2 := hid (HV1.out.below hb2 hz1)
      have HB2 : Hid (Below w.heap.size w w2) := HB1.out.trans (hb2.mono HB1.out.size)
      have hz2 : w.heap.size < w2.heap.size := Nat.lt_of_lt_of_le hz1 hb2.size
      clear hb2
      obtain ⟨g, hg⟩ : ∃ g, l.all Up.good = g := ⟨_, rfl⟩
      have HG := hid hg
      rw [hg]
      clear hg
      cases g
      · have HD : Hid (valD kind name l = (([], [], 0), 2)) := valD_bad HARG.out (not_ups HG.out)
        obtain ⟨x0, x1, x2, _, _⟩ := HV2.out.cells
        obtain ⟨y0, y1, y2⟩ := HV2.out.free
        go_wp2_with fail
        refine bodyPost_ret (v := .tuple #[.agg #[.slice none 0 0, .slice none 0 0, .int .i64 0], .int .i64 2]) (by simp [results, Try.results18, go_sem, x0, x1, x2]) rfl ?_
        rw [HD.out]
        have := nothing_val HB2.out (.slice none 0 0) (.slice none 0 0) (.int .i64 0)
        exact ⟨_, rfl, this.1, this.2⟩
      · go_wp2_with fail
        refine (areAlike_any vo cap l w2 (HU.out.later HB2.out) (fun u h => List.all_eq_true.1 HG.out u h) hlm).mono ?_
        rintro e w3 ⟨r, rfl, hr, hb3⟩
        have HV3 := hid (HV2.out.below hb3 hz2)
        have HB3 : Hid (Below w.heap.size w w3) := HB2.out.trans (hb3.mono HB2.out.size)
        have hz3 : w.heap.size < w3.heap.size := Nat.lt_of_lt_of_le hz2 hb3.size
        have HR := hid hr
        clear hb3 hr
        cases r
        · have HD : Hid (valD kind name l = (([], [], 0), 2)) := valD_bad HARG.out (fun h => by have := HR.out.2 h; cases this)
          obtain ⟨x0, x1, x2, _, _⟩ := HV3.out.cells
          obtain ⟨y0, y1, y2⟩ := HV3.out.free
          go_wp2_with fail
          refine bodyPost_ret (v := .tuple #[.agg #[.slice none 0 0, .slice none 0 0, .int .i64 0], .int .i64 2]) (by simp [results, Try.results18, go_sem, x0, x1, x2]) rfl ?_
          rw [HD.out]
          have := nothing_val HB3.out (.slice none 0 0) (.slice none 0 0) (.int .i64 0)
          exact ⟨_, rfl, this.1, this.2⟩
        · have hups : Ups l := HR.out.1 rfl
          have HUPS := hid hups
          have h8 := hups.len
          have HD : Hid (valD kind name l = (worthD kind name l, 0)) := valD_yes HARG.out hups
          clear hups
          go_wp2_with fail
          refine (ofThing_any kind name vo cap l w3 (HU.out.later HB3.out) h8).mono ?_
          rintro e w4 ⟨v, rfl, hrow, -, hb4⟩
          obtain ⟨vo', cap', rfl, hu4⟩ := hrow.o hb4
          have HU4 := hid hu4
          have HV4 := hid (HV3.out.below hb4 hz3)
          have HB4 : Hid (Below w.heap.size w w4) := HB3.out.trans (hb4.mono HB3.out.size)
          have hz4 : w.heap.size < w4.heap.size := Nat.lt_of_lt_of_le hz3 hb4.size
          clear hrow hu4 hb4
          go_wp2_with fail
          refine (valueOf_any kind vo' cap' (ofD kind name l) w4 HU4.out (ofD_good HUPS.out) (fun e => by subst e; exact ofD_kind HF.out HUPS.out) (Nat.le_trans (List.length_filter_le _ _) h8) hk0 hk3).mono ?_
          rintro e w5 ⟨v5, rfl, hval, hb5⟩
          rw [← worthD_O] at hval
          obtain ⟨t, i, n, m, rfl, ho, hi⟩ := hval
          obtain ⟨a3, c3, rfl⟩ := own_slice ho
          obtain ⟨a4, c4, rfl⟩ := own_slice hi
          obtain ⟨r, hr⟩ : ∃ r, worthD kind name l = r := ⟨_, rfl⟩
          rw [hr] at ho hi
          have HO := hid ho
          have HI := hid hi
          have HWR := hid hr
          have hv5 := HV4.out.below hb5 hz4
          obtain ⟨x0, x1, x2, _, _⟩ := hv5.cells
          obtain ⟨y0, y1, y2⟩ := hv5.free
          have HB5 : Hid (Below w.heap.size w w5) := HB4.out.trans (hb5.mono HB4.out.size)
          rw [hr]
          clear hr ho hi hv5 hb5
          go_wp2_with fail
          refine bodyPost_ret (v := .tuple #[.agg #[.slice a3 n c3, .slice a4 m c4, .int .i64 r.2.2], .int .i64 0]) (by simp [results, Try.results18, go_sem, x0, x1, x2]) rfl ?_
          rw [HD.out, HWR.out]
          have := val_fill (xs := r.1) (js := r.2.1) (z := r.2.2) hz4 HO.out HI.out HB5.out (.slice a3 n c3) (.slice a4 m c4) (.int .i64 r.2.2)
          exact ⟨_, rfl, this.1, this.2⟩
  · have hk3' : 3 < kind := by omega
    have HD : Hid (valD kind name l = (([], [], 0), 1)) := valD_arg (by omega)
    have HB1 := hid hb1
    clear hb1 hv1
    go_enter Try.func18, Try.ntmps18
    go_wp2_with fail
    refine bodyPost_ret (v := .tuple #[.agg #[.slice none 0 0, .slice none 0 0, .int .i64 0], .int .i64 1]) (by simp [results, Try.results18, go_sem]) rfl ?_
    rw [HD.out]
    exact ⟨_, rfl, ⟨_, _, 0, 0, rfl, World.ownsRow_nil _ _ _ _, World.ownsRow_nil _ _ _ _⟩, HB1.out⟩
end Go.Proofs.Yteljbblbdiploaa
