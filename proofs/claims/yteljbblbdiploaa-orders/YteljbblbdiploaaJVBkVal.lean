/-
  WALKS: the statements' own 'sameTexts', 'sameIds', 'same', of two values that hold the same.
-/
/-
  WALKS: the statements' book: a value that came out is laid down.
-/
import Derived.Test.YteljbblbdiploaaJVBk
import Derived.Test.YteljbblbdiploaaJVWorth
namespace Go.Proofs.Yteljbblbdiploaa
open Go.RowKit

theorem at_s_later {w w' : World} {ao : Option Addr} {ts : List ByteArray} (h : ∀ j, j < ts.length → ∃ a, ao = some ⟨a, 0, none⟩ ∧ w.cell? ⟨a, j, none⟩ = some (.string (ts.getD j ⟨#[]⟩))) (hb : Below w.heap.size w w') : ∀ j, j < ts.length → ∃ a, ao = some ⟨a, 0, none⟩ ∧ w'.cell? ⟨a, j, none⟩ = some (.string (ts.getD j ⟨#[]⟩)) := by
  intro j hj
  obtain ⟨a, h1, h2⟩ := h j hj
  exact ⟨a, h1, (hb.cell (World.block_lt_of_cell? w _ h2)).trans h2⟩
theorem at_d_later {w w' : World} {ao : Option Addr} {ds : List (Int × Int)} (h : ∀ j, j < ds.length → ∃ a, ao = some ⟨a, 0, none⟩ ∧ w.cell? ⟨a, j * 2, none⟩ = some (.int .i64 (ds.getD j (0, 0)).1) ∧ w.cell? ⟨a, j * 2 + 1, none⟩ = some (.int .i64 (ds.getD j (0, 0)).2)) (hb : Below w.heap.size w w') : ∀ j, j < ds.length → ∃ a, ao = some ⟨a, 0, none⟩ ∧ w'.cell? ⟨a, j * 2, none⟩ = some (.int .i64 (ds.getD j (0, 0)).1) ∧ w'.cell? ⟨a, j * 2 + 1, none⟩ = some (.int .i64 (ds.getD j (0, 0)).2) := by
  intro j hj
  obtain ⟨a, h1, h2, h3⟩ := h j hj
  exact ⟨a, h1, (hb.cell (World.block_lt_of_cell? w _ h2)).trans h2, (hb.cell (World.block_lt_of_cell? w _ h3)).trans h3⟩

set_option maxRecDepth 16000 in
set_option maxHeartbeats 2000000 in
theorem sameTexts_same (base base' : Nat) (va vb : Value) (ts : List ByteArray) (w : World) (ha : w.ownsRow base 9 1 va ts.length (scs ts)) (hb : w.ownsRow base' 9 1 vb ts.length (scs ts)) (hn : ts.length ≤ 1099511627776) :
    Calls Try.prog 45 #[va, vb] w fun e w' => e = .returned (.bool true) ∧ Below w.heap.size w w' := by
  obtain ⟨ao, ca, rfl, h1⟩ := own_at_s ha
  obtain ⟨bo, cb, rfl, h2⟩ := own_at_s hb
  have H1 := hid h1
  have H2 := hid h2
  clear h1 h2 ha hb
  go_enter Try.func45, Try.ntmps45
  go_wp2_with fail
  go_loopw [5] (fun i wr => ∃ j : Nat, j ≤ ts.length ∧ i = .int .i64 j ∧ Below w.heap.size w wr) (fun i _ => ts.length - (intOf i).toNat)
  case atStart => exact ⟨0, by omega, rfl, Below.refl _ _⟩
  case round =>
    obtain ⟨j, hj, rfl, hb⟩ := hrel
    have HB := hid hb
    by_cases hlt : j < ts.length
    · obtain ⟨a, rfl, q1⟩ := at_s_later H1.out hb j hlt
      obtain ⟨b, rfl, q2⟩ := at_s_later H2.out hb j hlt
      generalize ts.getD j ⟨#[]⟩ = z at *
      clear hb
      go_wp2_with fail
      go_quiet (fail)
      all_goals
        go_wp2_with fail
        go_roundw
        case rel => exact ⟨j + 1, by omega, by go_num, below_drewN HB.out _⟩
        case measure => simp [intOf]; omega
    · clear hb
      go_wp2_with fail
      go_ret
      exact ⟨rfl, HB.out⟩

set_option maxRecDepth 16000 in
set_option maxHeartbeats 2000000 in
theorem sameIds_same (base base' : Nat) (va vb : Value) (ds : List (Int × Int)) (w : World) (ha : w.ownsRow base 24 2 va ds.length (dcs ds)) (hb : w.ownsRow base' 24 2 vb ds.length (dcs ds)) (hn : ds.length ≤ 1099511627776) :
    Calls Try.prog 46 #[va, vb] w fun e w' => e = .returned (.bool true) ∧ Below w.heap.size w w' := by
  obtain ⟨ao, ca, rfl, h1⟩ := own_at_d ha
  obtain ⟨bo, cb, rfl, h2⟩ := own_at_d hb
  have H1 := hid h1
  have H2 := hid h2
  clear h1 h2 ha hb
  go_enter Try.func46, Try.ntmps46
  go_wp2_with fail
  go_loopw [5] (fun i wr => ∃ j : Nat, j ≤ ds.length ∧ i = .int .i64 j ∧ Below w.heap.size w wr) (fun i _ => ds.length - (intOf i).toNat)
  case atStart => exact ⟨0, by omega, rfl, Below.refl _ _⟩
  case round =>
    obtain ⟨j, hj, rfl, hb⟩ := hrel
    have HB := hid hb
    by_cases hlt : j < ds.length
    · obtain ⟨a, rfl, q1, r1⟩ := at_d_later H1.out hb j hlt
      obtain ⟨b, rfl, q2, r2⟩ := at_d_later H2.out hb j hlt
      generalize (ds.getD j (0, 0)).1 = z at *
      generalize (ds.getD j (0, 0)).2 = y at *
      clear hb
      go_wp2_with fail
      go_quiet (fail)
      all_goals
        go_wp2_with fail
        go_roundw
        case rel => exact ⟨j + 1, by omega, by go_num, below_drewN HB.out _⟩
        case measure => simp [intOf]; omega
    · clear hb
      go_wp2_with fail
      go_ret
      exact ⟨rfl, HB.out⟩

theorem tcs_scs (l : List Tx) : tcs l = scs (l.map bs) := by simp [tcs, scs]
theorem idcs_dcs : ∀ l : List (Int × Int), idcs l = dcs l
  | [] => rfl
  | i :: l => by rw [idcs, dcs, idcs_dcs l]

set_option maxRecDepth 16000 in
set_option maxHeartbeats 2000000 in
theorem same_same (base base' : Nat) (va vb : Value) (r : List Tx × List (Int × Int) × Int) (w : World) (ha : IsVal w base va r) (hb : IsVal w base' vb r) (hn1 : r.1.length ≤ 1099511627776) (hn2 : r.2.1.length ≤ 1099511627776) :
    Calls Try.prog 20 #[va, vb] w fun e w' => e = .returned (.bool true) ∧ Below w.heap.size w w' := by
  obtain ⟨ts, ds, z⟩ := r
  obtain ⟨t1, i1, n1, m1, rfl, ht1, hi1⟩ := ha
  obtain ⟨t2, i2, n2, m2, rfl, ht2, hi2⟩ := hb
  simp only at ht1 ht2 hi1 hi2 hn1 hn2 ⊢
  have e1 : n1 = (ts.map bs).length := by have := ht1.1; rw [tcs_scs, scs_len] at this; omega
  have e2 : n2 = (ts.map bs).length := by have := ht2.1; rw [tcs_scs, scs_len] at this; omega
  have e3 : m1 = ds.length := by have := hi1.1; rw [idcs_dcs, dcs_len] at this; omega
  have e4 : m2 = ds.length := by have := hi2.1; rw [idcs_dcs, dcs_len] at this; omega
  subst e1 e2 e3 e4
  rw [tcs_scs] at ht1 ht2
  rw [idcs_dcs] at hi1 hi2
  have hl : (ts.map bs).length ≤ 1099511627776 := by rw [List.length_map]; exact hn1
  generalize ts.map bs = tb at *
  obtain ⟨a1, c1, rfl⟩ := own_slice ht1
  obtain ⟨a2, c2, rfl⟩ := own_slice ht2
  obtain ⟨a3, c3, rfl⟩ := own_slice hi1
  obtain ⟨a4, c4, rfl⟩ := own_slice hi2
  have H1 := hid ht1
  have H2 := hid ht2
  have H3 := hid hi1
  have H4 := hid hi2
  clear ht1 ht2 hi1 hi2 hn1
  go_enter Try.func20, Try.ntmps20
  go_wp2_with fail
  obtain ⟨hA, hB, hbq⟩ := two_boxes w #[.slice a1 tb.length c1, .slice a3 ds.length c3, .int .i64 z] #[.slice a2 tb.length c2, .slice a4 ds.length c4, .int .i64 z] 51
  generalize hwq : (w.alloc (.cells #[.slice a1 tb.length c1, .slice a3 ds.length c3, .int .i64 z] 51)).alloc (.cells #[.slice a2 tb.length c2, .slice a4 ds.length c4, .int .i64 z] 51) = wq at *
  have hzq : w.heap.size + 1 < wq.heap.size := by rw [← hwq]; simp
  clear hwq
  refine (sameTexts_same base base' _ _ tb wq (ownsRow_later H1.out hbq) (ownsRow_later H2.out hbq) hl).mono ?_
  rintro e w1 ⟨rfl, hb1⟩
  have HBQ := hid hbq
  have q1 : ∀ i, w1.cell? ⟨w.heap.size, i, none⟩ = (#[.slice a1 tb.length c1, .slice a3 ds.length c3, .int .i64 z] : Array Value)[i]? := fun i => (hb1.cell (p := ⟨w.heap.size, i, none⟩) (by show w.heap.size < wq.heap.size; omega)).trans (hA i)
  have q2 : ∀ i, w1.cell? ⟨w.heap.size + 1, i, none⟩ = (#[.slice a2 tb.length c2, .slice a4 ds.length c4, .int .i64 z] : Array Value)[i]? := fun i => (hb1.cell (p := ⟨w.heap.size + 1, i, none⟩) (by show w.heap.size + 1 < wq.heap.size; omega)).trans (hB i)
  have HB1 : Hid (Below w.heap.size w w1) := hbq.trans (hb1.mono hbq.size)
  have hz1 : w.heap.size + 1 < w1.heap.size := Nat.lt_of_lt_of_le hzq hb1.size
  clear hA hB hbq hb1 hzq
  go_wp2_with fail
  refine (sameIds_same base base' _ _ ds w1 (ownsRow_later H3.out HB1.out) (ownsRow_later H4.out HB1.out) hn2).mono ?_
  rintro e w2 ⟨rfl, hb2⟩
  have r1 : ∀ i, w2.cell? ⟨w.heap.size, i, none⟩ = (#[.slice a1 tb.length c1, .slice a3 ds.length c3, .int .i64 z] : Array Value)[i]? := fun i => (hb2.cell (p := ⟨w.heap.size, i, none⟩) (by show w.heap.size < w1.heap.size; omega)).trans (q1 i)
  have r2 : ∀ i, w2.cell? ⟨w.heap.size + 1, i, none⟩ = (#[.slice a2 tb.length c2, .slice a4 ds.length c4, .int .i64 z] : Array Value)[i]? := fun i => (hb2.cell (p := ⟨w.heap.size + 1, i, none⟩) (by show w.heap.size + 1 < w1.heap.size; omega)).trans (q2 i)
  have HB2 : Hid (Below w.heap.size w w2) := HB1.out.trans (hb2.mono HB1.out.size)
  clear q1 q2 hb2 hz1
  go_wp2_with fail
  go_ret
  exact ⟨ret_bool (by simp), HB2.out⟩
end Go.Proofs.Yteljbblbdiploaa

namespace Go.Proofs.Yteljbblbdiploaa
open Go.RowKit

set_option maxRecDepth 16000 in
set_option maxHeartbeats 2000000 in
theorem bookValue_any (B base : Nat) (w : World) (r0 r1 r2 c4 c5 c6 c7 c8 c9 : Value) (L0 L1 L2 : List Value) (zs : List Int) (ts : List ByteArray) (ds : List (Int × Int)) (hbk : BookAt w base B r0 r1 r2 c4 c5 c6 c7 c8 c9 L0 L1 L2 zs ts ds) (hbB : base ≤ B)
    (t i : Value) (n : Int) (tb : List ByteArray) (js : List (Int × Int)) (ht : w.ownsRow base 9 1 t tb.length (scs tb)) (hi : w.ownsRow base 24 2 i js.length (dcs js))
    (hft : ∀ g, t.ownBlock = some g → c6.ownBlock ≠ some g ∧ ∀ s ∈ L1, s.ownBlock ≠ some g) (hfi : ∀ g, i.ownBlock = some g → c8.ownBlock ≠ some g ∧ ∀ s ∈ L2, s.ownBlock ≠ some g)
    (hl1 : L1.length ≤ 1099511627000) (hl2 : L2.length ≤ 1099511627000) (hn1 : ts.length ≤ 1099511627776) (hn2 : ds.length ≤ 1099511627776) (hy1 : tb.length ≤ 1099511627776) (hy2 : js.length ≤ 1099511627776) :
    Calls Try.prog 21 #[.pointer (some ⟨B, 0, none⟩), .agg #[t, i, .int .i64 n]] w fun e w' => e = .returned (.tuple #[]) ∧ ∃ r1' r2' c7' c9' L1' L2', L1'.length = L1.length + 4 ∧ L2'.length = L2.length + 4 ∧
      BookAt w' base B r0 r1' r2' c4 c5 t c7' i c9' L0 L1' L2' zs tb js ∧ Below base w w' := by
  obtain ⟨ta, tc, rfl⟩ := own_slice ht
  obtain ⟨xa, xc, rfl⟩ := own_slice hi
  have HBK := hid hbk
  have HT := hid ht
  have HI := hid hi
  have HFT := hid hft
  have HFI := hid hfi
  have hbw : base ≤ w.heap.size := Nat.le_trans hbB (Nat.le_of_lt hbk.bb.lt)
  clear hbk ht hi hft hfi
  go_enter Try.func21, Try.ntmps21
  go_wp2_with fail
  have hb1 : Below w.heap.size w (w.alloc (.cells #[.slice ta tb.length tc, .slice xa js.length xc, .int .i64 n] 51)) := (Below.refl _ _).alloc (Nat.le_refl _) _
  have hx1 : (w.alloc (.cells #[.slice ta tb.length tc, .slice xa js.length xc, .int .i64 n] 51)).heap[w.heap.size]? = some (.cells #[.slice ta tb.length tc, .slice xa js.length xc, .int .i64 n] 51 (0, 0)) := heap_alloc_new w _
  generalize w.alloc (.cells #[.slice ta tb.length tc, .slice xa js.length xc, .int .i64 n] 51) = w1 at *
  have HBK1 := hid (HBK.out.later hb1)
  have HT1 := hid (ownsRow_later HT.out hb1)
  have HI1 := hid (ownsRow_later HI.out hb1)
  refine (bookText_any B base w1 r1 c6 c7 r0 r2 c4 c5 c8 c9 (.slice ta tb.length tc) L1 ts tb HBK1.out.bb hbB HBK1.out.k1 HT1.out HFT.out (by omega) hn1 hy1).mono ?_
  rintro e w2 ⟨rfl, r1', c7', L1', hL1, hB2, hK2, hsp2⟩
  have hb2 : Below base w1 w2 := hsp2.below (Nat.le_trans hbw hb1.size) (inS_low HBK1.out.k1 hbB)
  have HBK2 : Hid (BookAt w2 base B r0 r1' r2 c4 c5 (.slice ta tb.length tc) c7' c8 c9 L0 L1' L2 zs tb ds) := ⟨hB2, HBK1.out.k0.kept HBK1.out.k1 HBK1.out.bb hsp2 (by decide) (by decide), hK2, HBK1.out.k2.kept HBK1.out.k1 HBK1.out.bb hsp2 (by decide) (by decide)⟩
  have HI2 : Hid (w2.ownsRow base 24 2 (.slice xa js.length xc) js.length (dcs js)) := hsp2.owns HI1.out (not_in HI1.out HBK1.out.bb HBK1.out.k1.cm HBK1.out.k1.rw (by decide))
  have hx2 : w2.heap[w.heap.size]? = some (.cells #[.slice ta tb.length tc, .slice xa js.length xc, .int .i64 n] 51 (0, 0)) := (hsp2.block _ (lt_of_block hx1) (fun q => by
    have q1 := HBK.out.bb.lt
    rcases q with q | q | q
    · omega
    · have := (HBK.out.k1.cm.lt _ q.symm).2; omega
    · have := (HBK.out.k1.rw.lt _ q.symm).2; omega)).trans hx1
  have x1 : w2.cell? ⟨w.heap.size, 1, none⟩ = some (.slice xa js.length xc) := by rw [cell_of_row _ _ _ _ _ (0, 0) hx2]; rfl
  have HB2 : Hid (Below base w w2) := (hb1.mono hbw).trans hb2
  clear hb1 hx1 hB2 hK2 hsp2 hb2 hx2
  go_wp2_with fail
  refine (bookId_any B base w2 r2 c8 c9 r0 r1' c4 c5 (.slice ta tb.length tc) c7' (.slice xa js.length xc) L2 ds js HBK2.out.bb hbB HBK2.out.k2 HI2.out HFI.out (by omega) hn2 hy2).mono ?_
  rintro e w3 ⟨rfl, r2', c9', L2', hL2, hB3, hK3, hsp3⟩
  have hb3 : Below base w2 w3 := hsp3.below (Nat.le_trans hbw HB2.out.size) (inS_low HBK2.out.k2 hbB)
  have HBK3 : Hid (BookAt w3 base B r0 r1' r2' c4 c5 (.slice ta tb.length tc) c7' (.slice xa js.length xc) c9' L0 L1' L2' zs tb js) := ⟨hB3, HBK2.out.k0.kept HBK2.out.k2 HBK2.out.bb hsp3 (by decide) (by decide), HBK2.out.k1.kept HBK2.out.k2 HBK2.out.bb hsp3 (by decide) (by decide), hK3⟩
  have HB3 : Hid (Below base w w3) := HB2.out.trans hb3
  clear x1 hB3 hK3 hsp3 hb3
  go_wp2_with fail
  refine bodyPost_end (v := .tuple #[]) ?_ rfl ?_
  · simp [results, Try.results21, go_sem]
  exact ⟨rfl, r1', r2', c7', c9', L1', L2', hL1, hL2, HBK3.out, HB3.out⟩
end Go.Proofs.Yteljbblbdiploaa
