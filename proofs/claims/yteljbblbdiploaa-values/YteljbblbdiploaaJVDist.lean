/-
  WALKS: package crdt: texts in order, each once.
-/
import Derived.Test.YteljbblbdiploaaJVWritten
import Derived.Test.YteljbblbdiploaaJVLay
import Derived.Test.YteljbblbdiploaaJVRw
namespace Go.Proofs.Yteljbblbdiploaa
open Go.RowKit Go.Shelf Go.Sort

/-- a row of the call's own, laid anew, and cut -/
theorem own_put {w : World} {base g n cap m : Nat} {l : List Tx} {d : List Tx} (h : w.ownsRow base 9 1 (.slice (some ⟨g, 0, none⟩) n cap) n (tcs l)) (hd : d.length = n) (hm : m ≤ n) :
    (putRow encStr w g 0 d.toArray).ownsRow base 9 1 (.slice (some ⟨g, 0, none⟩) m cap) m (tcs (d.take m)) := by
  rcases h.2 with ⟨hv, _⟩ | ⟨g', cap', cur, hv, hg, hh, hnc, hmx, hsz, htk⟩
  · cases hv
  · cases hv
    have hlt := (Array.getElem?_eq_some_iff.1 hh).1
    refine ⟨by rw [tcs_len, List.length_take]; omega, .inr ⟨g, cap, putCells encStr 0 d.toArray cur, rfl, hg, ?_, by omega, hmx, ?_, ?_⟩⟩
    · unfold putRow mapBlock
      simp [Array.getElem?_modify, hh]
      rfl
    · simp [putCells, hsz]
    · refine List.ext_getElem? fun k => ?_
      rw [Nat.mul_one, List.getElem?_take]
      by_cases hk : k < m
      · rw [if_pos hk]
        have hkd : k < d.length := by omega
        have hkc : k < cur.size := by omega
        simp [putCells, tcs, hkd, hkc, hk, encStr]
      · rw [if_neg hk, List.getElem?_eq_none (by rw [tcs_len, List.length_take]; omega)]
theorem holds_own {w : World} {base g n cap : Nat} {l : List Tx} (h : w.ownsRow base 9 1 (.slice (some ⟨g, 0, none⟩) n cap) n (tcs l)) : Holds encStr w g 0 l.toArray := by
  intro j hj
  have hj' : j < l.length := by simpa using hj
  rcases h.2 with ⟨hv, _⟩ | ⟨g', cap', cur, hv, hg, hh, _⟩
  · cases hv
  · cases hv
    refine ⟨?_, frozen_of_row w g _ _ _ hh⟩
    have := World.ownsRow.cells h (g := g) rfl j (.string (bs l[j])) (by simp [tcs, hj'])
    rw [Addr.add_lit] at this
    rw [this]
    simp [encStr, hj']

theorem below_put {w : World} {base g : Nat} (hg : base ≤ g) (hb : base ≤ w.heap.size) (q : Nat) (d : Array Tx) (os : Array Obj) : RowKit.Below base w (grow (putRow encStr (Sort.ahead w q) g 0 d) os) := by
  have hsz : (putRow encStr (Sort.ahead w q) g 0 d).heap.size = w.heap.size := by rw [size_putRow]; rfl
  refine ⟨rfl, rfl, rfl, ?_, fun k hk => ?_⟩
  · show w.heap.size ≤ ((putRow encStr (Sort.ahead w q) g 0 d).heap ++ os).size
    rw [Array.size_append, hsz]; omega
  · show ((putRow encStr (Sort.ahead w q) g 0 d).heap ++ os)[k]? = _
    rw [Array.getElem?_append_left (by omega)]
    unfold putRow mapBlock
    simp only [Array.getElem?_modify]
    rw [if_neg (by omega)]
    rfl
theorem own_grow {w : World} {base : Nat} {v : Value} {n : Nat} {xs : List Value} (h : w.ownsRow base 9 1 v n xs) (os : Array Obj) : (grow w os).ownsRow base 9 1 v n xs := by
  refine ownsRow_later h ⟨rfl, rfl, rfl, ?_, fun k hk => ?_⟩
  · show w.heap.size ≤ (w.heap ++ os).size
    rw [Array.size_append]; omega
  · show (w.heap ++ os)[k]? = _
    rw [Array.getElem?_append_left hk]

theorem sort_any (base g n cap : Nat) (ss : List Tx) (w : World) (hbase : base ≤ w.heap.size) (h : w.ownsRow base 9 1 (.slice (some ⟨g, 0, none⟩) n cap) n (tcs ss)) (hn : n ≤ 8000) :
    Calls Try.prog 74 #[.slice (some ⟨g, 0, none⟩) n cap] w fun e w' => e = .returned (.tuple #[]) ∧ w'.ownsRow base 9 1 (.slice (some ⟨g, 0, none⟩) n cap) n (tcs (ss.mergeSort fun x y => decide (x ≤ y))) ∧ RowKit.Below base w w' := by
  have hl := (own_texts h).1
  subst hl
  obtain ⟨hg1, hg2⟩ := h.lt g rfl
  have hp := List.mergeSort_perm ss (fun x y : Tx => decide (x ≤ y))
  refine (AnyM.slices_Sort_string Try.sortL g 0 cap ss w (holds_own h) hg2 (by omega)).mono ?_
  rintro e w' ⟨rfl, q, os, rfl⟩
  refine ⟨rfl, ?_, below_put hg1 hbase q _ os⟩
  have := own_put (w := Sort.ahead w q) (m := ss.length) (d := ss.mergeSort fun x y => decide (x ≤ y)) h hp.length_eq (Nat.le_refl _)
  rw [List.take_of_length_le (Nat.le_of_eq hp.length_eq)] at this
  exact own_grow this os

theorem str_same (x y : Tx) : ((bs x).toList == (bs y).toList) = decide (x = y) := by
  rw [ByteArray.toList_eq, ByteArray.toList_eq, Bool.eq_iff_iff]
  simp

theorem compact_any (base g n cap : Nat) (ss : List Tx) (w : World) (hbase : base ≤ w.heap.size) (h : w.ownsRow base 9 1 (.slice (some ⟨g, 0, none⟩) n cap) n (tcs ss)) (hn : n ≤ 8000) :
    Calls Try.prog 75 #[.slice (some ⟨g, 0, none⟩) n cap] w fun e w' => ∃ m, e = .returned (.slice (some ⟨g, 0, none⟩) m cap) ∧ w'.ownsRow base 9 1 (.slice (some ⟨g, 0, none⟩) m cap) m (tcs (Lib.compactUpTo ss.toArray ss.length)) ∧ RowKit.Below base w w' := by
  have hl := (own_texts h).1
  subst hl
  obtain ⟨hg1, hg2⟩ := h.lt g rfl
  have hcap : ss.length ≤ cap := by
    rcases h.2 with ⟨hv, _⟩ | ⟨g', cap', cur, hv, _, _, hnc, _⟩
    · cases hv
    · cases hv; exact hnc
  have hlen : (Lib.compactUpTo ss.toArray ss.toArray.size).length ≤ ss.length := by
    unfold Lib.compactUpTo
    rw [List.length_map]
    refine Nat.le_trans (List.length_filter_le _ _) ?_
    simp
  refine (AnyE.slices_Compact Try.compL encStr (fun _ => rfl) ?_ ?_ [] ?_ g 0 cap ss.toArray w (holds_own h) (by simp; omega) (by simpa using hcap)).mono ?_
  · exact ⟨fun x y w => (((EqlAt.string Try.prog _).1 (bs x) (bs y) w).trans (by simp only [str_same])), fun op a b x y w => (EqlAt.string Try.prog _).2 op a b (bs x) (bs y) w⟩
  · exact ⟨fun x y w => (((NeqAt.string Try.prog _).1 (bs x) (bs y) w).trans (by simp only [str_same])), fun op a b x y w => (NeqAt.string Try.prog _).2 op a b (bs x) (bs y) w⟩
  · intro w; exact Try.zeroValue9 w
  · rintro e w' ⟨rfl, q, rfl⟩
    refine ⟨_, rfl, ?_, ?_⟩
    · have := own_put (w := Sort.ahead w q) (m := (Lib.compactUpTo ss.toArray ss.toArray.size).length) (d := Lib.compactUpTo ss.toArray ss.toArray.size ++ List.replicate (ss.toArray.size - (Lib.compactUpTo ss.toArray ss.toArray.size).length) []) h (by rw [List.length_append, List.length_replicate]; simp at hlen ⊢; omega) hlen
      rw [List.take_left] at this
      simpa using this
    · have := below_put hg1 hbase q (Lib.compactUpTo ss.toArray ss.toArray.size ++ List.replicate (ss.toArray.size - (Lib.compactUpTo ss.toArray ss.toArray.size).length) []).toArray #[]
      rwa [grow_empty] at this

/-- the same text, written where it stands -/
theorem own_same {w : World} {base g n cap : Nat} {l : List Tx} (h : w.ownsRow base 9 1 (.slice (some ⟨g, 0, none⟩) n cap) n (tcs l)) {j : Nat} (hj : j < l.length) : (w.setCell ⟨g, j, none⟩ (.string (bs (l.getD j [])))).ownsRow base 9 1 (.slice (some ⟨g, 0, none⟩) n cap) n (tcs l) := by
  have hc : w.cell? ⟨g, j, none⟩ = some (.string (bs (l.getD j []))) := by
    obtain ⟨_, q⟩ := own_texts h
    rcases q with ⟨hv, _⟩ | ⟨g', cp, hv, _, _, hcl⟩
    · cases hv
    · cases hv; exact hcl j hj
  refine ⟨h.1, ?_⟩
  rcases h.2 with q | ⟨g', cap', cur, hv, hg, hh, r⟩
  · exact .inl q
  · cases hv
    refine .inr ⟨g, cap, cur, rfl, hg, ?_, r⟩
    have h2 := val_setBlk (i := j) hh (.string (bs (l.getD j [])))
    rw [h2]
    rw [cell_of_row w g j _ _ (0, 0) hh] at hc
    congr 2
    refine Array.ext_getElem? fun k => ?_
    rw [Array.getElem?_setIfInBounds]
    split
    · rename_i e
      subst e
      split
      · exact hc.symm
      · rename_i hlt
        exact (Array.getElem?_eq_none (Nat.not_lt.1 hlt)).symm
    · rfl

set_option maxRecDepth 16000 in
set_option maxHeartbeats 1000000 in
theorem distinct_any (base g n cap : Nat) (ss : List Tx) (w : World) (hbase : base ≤ w.heap.size) (h : w.ownsRow base 9 1 (.slice (some ⟨g, 0, none⟩) n cap) n (tcs ss)) (hn : n ≤ 8000) (hx : ∀ s ∈ ss, s.length ≤ 20) :
    Calls Try.prog 61 #[.slice (some ⟨g, 0, none⟩) n cap] w fun e w' => ∃ v m, e = .returned v ∧ w'.ownsRow base 9 1 v m (tcs (sortT ss)) ∧ RowKit.Below base w w' := by
  have hl := (own_texts h).1
  subst hl
  have hp := List.mergeSort_perm ss (fun x y : Tx => decide (x ≤ y))
  have HO := hid h
  have HX : Hid (∀ s ∈ sortT ss, s.length ≤ 20) := fun s hs => hx s ((sortT_ok ss).2 s |>.1 hs)
  have hlen : (sortT ss).length ≤ ss.length := by
    unfold sortT Lib.compactUpTo
    rw [List.length_map]
    refine Nat.le_trans (List.length_filter_le _ _) ?_
    simp
  have HS : Hid (sortT ss = Lib.compactUpTo (ss.mergeSort fun x y => decide (x ≤ y)).toArray (ss.mergeSort fun x y => decide (x ≤ y)).length) := by rw [Hid, sortT, hp.length_eq]
  clear h hx
  go_enter Try.func61, Try.ntmps61
  go_wp2_with fail
  refine (sort_any base g ss.length cap ss w hbase HO.out hn).mono ?_
  rintro e w1 ⟨rfl, ho1, hb1⟩
  have HO1 := hid ho1
  have HB1 := hid hb1
  clear ho1 hb1
  go_wp2_with fail
  refine (compact_any base g ss.length cap (ss.mergeSort fun x y => decide (x ≤ y)) w1 (Nat.le_trans hbase HB1.out.size) HO1.out hn).mono ?_
  rintro e w2 ⟨m, rfl, ho2, hb2⟩
  rw [← HS.out] at ho2
  have hm := (own_texts ho2).1
  subst hm
  have HO2 := hid ho2
  have HB2 : Hid (RowKit.Below base w w2) := HB1.out.trans hb2
  clear ho2 hb2 HO1 HS
  generalize hst : sortT ss = st at *
  have HST := hid hst
  clear hst
  go_wp2_with fail
  go_loopw [11] (fun i wr => ∃ j : Nat, j ≤ st.length ∧ i = .int .i64 j ∧ wr.ownsRow base 9 1 (.slice (some ⟨g, 0, none⟩) st.length cap) st.length (tcs st) ∧ RowKit.Below base w wr) (fun i _ => st.length - (intOf i).toNat)
  case atStart => exact ⟨0, by omega, rfl, HO2.out, HB2.out⟩
  case round =>
    obtain ⟨j, hj, rfl, ho, hb⟩ := hrel
    have HOJ := hid ho
    have HBJ := hid hb
    by_cases hlt : j < st.length
    · have hg1 := (ho.lt g rfl)
      have hcell : wr.cell? ⟨g, j, none⟩ = some (.string (bs (st.getD j []))) := by
        obtain ⟨_, q⟩ := own_texts ho
        rcases q with ⟨hv, _⟩ | ⟨g', cp, hv, _, _, hcl⟩
        · cases hv
        · cases hv; exact hcl j hlt
      have hlen20 : (st.getD j []).length ≤ 20 := HX.out _ (by rw [List.getD_eq_getElem?_getD, List.getElem?_eq_getElem hlt]; exact List.getElem_mem hlt)
      have HSM : Hid (∀ W : World, W.ownsRow base 9 1 (.slice (some ⟨g, 0, none⟩) st.length cap) st.length (tcs st) → (W.setCell ⟨g, j, none⟩ (.string (bs (st.getD j [])))).ownsRow base 9 1 (.slice (some ⟨g, 0, none⟩) st.length cap) st.length (tcs st)) := fun W hW => own_same hW hlt
      clear ho hb
      generalize st.getD j [] = sj at *
      go_wp2_with fail
      refine (clone_any (bs sj) wr (by rw [bs_size]; omega)).mono ?_
      rintro e w4 ⟨rfl, hb4⟩
      have HO4 := hid (ownsRow_later HOJ.out hb4)
      have hc4 := (hb4.cell (p := ⟨g, j, none⟩) hg1.2).trans hcell
      have hf4 : w4.frozen? ⟨g, j, none⟩ = false := by
        rcases HO4.out.2 with ⟨hv, _⟩ | ⟨g', cp, cur, hv, _, hh, _⟩
        · cases hv
        · cases hv; exact frozen_of_row w4 g j _ _ hh
      have HB4 : Hid (RowKit.Below base w w4) := HBJ.out.trans (hb4.mono (Nat.le_trans hbase HBJ.out.size))
      clear hb4 hcell
      go_wp2_with fail
      go_roundw
      case rel => exact ⟨j + 1, by omega, by go_num, HSM.out _ HO4.out, RowKit.Below.setCell HB4.out (p := ⟨g, j, none⟩) hg1.1 _⟩
      case measure => simp [intOf]; omega
    · clear ho hb
      go_wp2_with fail
      go_ret
      exact ⟨_, st.length, rfl, by rw [HST.out]; exact HOJ.out, HBJ.out⟩
end Go.Proofs.Yteljbblbdiploaa
