/-
  WALKS: the law Round, of what is an update.
-/
import Derived.Test.YteljbblbdiploaaRnd2
import Derived.Lib.ConvBytes
import Derived.Deep.RegionLaw
namespace Go.Proofs.Yteljbblbdiploaa
open Go.RowKit

/-- '[]byte(s)': a row of its own -/
theorem conv_str (W : World) (S : ByteArray) : ∃ c W', (convert 9 58 (.string S)).run Try.prog W = .ok (.slice (some ⟨W.heap.size, 0, none⟩) S.size c) W' ∧ S.size ≤ c ∧
    (∀ j, j < S.size → W'.cell? ⟨W.heap.size, j, none⟩ = some (.int .u8 ((S.data.toList.getD j 0).toNat : Nat))) ∧ (∀ j, j < S.size → W'.frozen? ⟨W.heap.size, j, none⟩ = false) ∧ Below W.heap.size W W' ∧ W.heap.size < W'.heap.size := by
  refine ⟨_, _, Lib.run_convert_string_bytes (P := Try.prog) W 9 58 5 S Try.underlying9 Try.underlying58 Try.underlying5, grownCap_ge _ _ _ _, fun j hj => Lib.bytesWorld_cell W _ S j hj, fun j hj => ?_, ?_, ?_⟩
  · have h := Lib.bytesWorld_at_new W 5 S
    have hs : S.size ≤ (Lib.bytesCells W 5 S).size := by unfold Lib.bytesCells; rw [Array.size_append, Array.size_map]; show S.data.size ≤ _; omega
    simp only [World.frozen?, h]
    simp; omega
  · exact ⟨rfl, rfl, rfl, by rw [Lib.bytesWorld_size]; omega, fun k hk => Lib.bytesWorld_at_old W _ S k hk⟩
  · rw [Lib.bytesWorld_size]; omega

theorem mk_size (l : List UInt8) : (⟨l.toArray⟩ : ByteArray).size = l.length := by show l.toArray.size = _; rw [List.size_toArray]
theorem cut_list (S : ByteArray) : (S.extract 0 (S.size - 1)).data.toList = S.data.toList.take (S.data.toList.length - 1) := by
  rw [Lib.extract_data, List.drop_zero, Nat.sub_zero, bsize]
theorem more_list (S : ByteArray) : (S ++ (⟨#[0]⟩ : ByteArray)).data.toList = S.data.toList ++ [0] := by
  rw [ByteArray.data_append, Array.toList_append]
theorem list_size {T : ByteArray} {l : List UInt8} (h : T.data.toList = l) : T.size = l.length := by rw [← bsize T, h]

/-- one byte of a row turned -/
theorem turned {w : World} {X i y r : Nat} {S : ByteArray} (hc : ∀ j, j < S.size → w.cell? ⟨X, j, none⟩ = some (.int .u8 ((S.data.toList.getD j 0).toNat : Nat))) (hi : i < S.size) (hy : (S.data.toList.getD i 0).toNat = y) (hr : r < 255) :
    ∃ v8 : UInt8, v8 ≠ S.data.toList.getD i 0 ∧ ∀ j, j < S.size → (w.setCell ⟨X, i, none⟩ (.int .u8 (IntKind.u8.wrap ((y : Int) + IntKind.u8.wrap (IntKind.i64.wrap (1 + (r : Int))))))).drew.cell? ⟨X, 0 + j, none⟩ = some (.int .u8 (((S.data.toList.set i v8).getD j 0).toNat : Nat)) := by
  have hy8 : y < 256 := by rw [← hy]; exact (S.data.toList.getD i 0).toNat_lt
  have hw : IntKind.u8.wrap ((y : Int) + IntKind.u8.wrap (IntKind.i64.wrap (1 + (r : Int)))) = (((UInt8.ofNat (y + 1 + r)).toNat : Nat) : Int) := by
    rw [UInt8.toNat_ofNat', IntKind.wrap_u8, IntKind.wrap_u8, IntKind.wrap_i64]; omega
  refine ⟨UInt8.ofNat (y + 1 + r), ?_, fun j hj => ?_⟩
  · intro e
    have := congrArg UInt8.toNat e
    rw [UInt8.toNat_ofNat', hy] at this
    omega
  · rw [hw, Nat.zero_add]
    show (w.setCell ⟨X, i, none⟩ _).cell? ⟨X, j, none⟩ = _
    have hl : S.data.toList.length = S.size := bsize S
    by_cases hij : j = i
    · subst hij
      rw [World.cell?_setCell_same w _ _ (hc j hj), List.getD_eq_getElem?_getD, List.getElem?_set_self (by rw [hl]; exact hj)]
      rfl
    · rw [World.cell?_setCell_other]
      · rw [hc j hj, List.getD_eq_getElem?_getD, List.getD_eq_getElem?_getD, List.getElem?_set_ne (fun e => hij e.symm)]
      · intro e; cases e; exact hij rfl

/-- Decode of an update's own bytes, its texts as they were -/
theorem dec_own (hT : TextSaid) (S : ByteArray) (w : World) (hs : S.size ≤ 1000) (org : Int) (zs : List Int) (t k : Int) (nm tx : ByteArray) (am o q : Int) (h : IsEnc S.data.toList org zs t k nm.data.toList tx.data.toList am o q) (h2 : 2 ≤ zs.length) :
    Calls Try.prog 12 #[.string S] w fun e w' => ∃ g cp, e = .returned (.tuple #[.agg #[.int .i64 org, .slice (some ⟨g, 0, none⟩) zs.length cp, .int .u8 t, .int .u8 k, .string nm, .string tx, .int .i64 am, .int .i64 o, .int .i64 q], .int .i64 0]) ∧
      (∀ j, j < zs.length → w'.cell? ⟨g, 0 + j, none⟩ = some (.int .i64 (zs.getD j 0))) ∧ Below w.heap.size w w' := by
  refine (wDecode_yes hT S w (by omega) org zs t k nm.data.toList tx.data.toList am o q h).mono ?_
  rintro e w' ⟨ao, cp, rfl, hown, hb⟩
  obtain ⟨g, c2, hv, _, _⟩ := World.ownsRow.form hown (by omega)
  cases hv
  obtain ⟨b, off, he, hc⟩ := (own_clk2 hown).2.plain (by omega)
  cases he
  exact ⟨g, cp, rfl, hc, hb⟩

set_option maxRecDepth 100000 in
set_option maxHeartbeats 16000000 in
theorem round_yes (hT : TextSaid) (org t k am o s a b : Int) (nm tx : ByteArray) (b0 off : Nat) (cap : Nat) (zs : List Int) (w : World) (hc0 : ∀ j, j < zs.length → w.cell? ⟨b0, off + j, none⟩ = some (.int .i64 (zs.getD j 0))) (h2 : 2 ≤ zs.length) (h8 : zs.length ≤ 8) (hn : nm.size ≤ maxLen) (hx : tx.size ≤ maxLen)
    (ht0 : 0 ≤ t) (ht1 : t < 256) (hk0 : 0 ≤ k) (hk1 : k < 256) (hg : goodU org zs t k nm.size tx.size am o s = true) (ha0 : -9223372036854775808 ≤ a) (ha1 : a ≤ 9223372036854775807) (hb0 : -9223372036854775808 ≤ b) (hb1 : b ≤ 9223372036854775807) :
    Calls Try.prog 6 #[.agg #[.int .i64 org, .slice (some ⟨b0, off, none⟩) zs.length cap, .int .u8 t, .int .u8 k, .string nm, .string tx, .int .i64 am, .int .i64 o, .int .i64 s], .int .i64 a, .int .i64 b] w
      fun e w' => e = .returned (.bool true) ∧ Below w.heap.size w w' := by
  have hbl : b0 < w.heap.size := lt_of_cell (hc0 0 (by omega))
  have HC0 := hid hc0
  obtain ⟨S, hS⟩ : ∃ S : ByteArray, S = ⟨(withSum (encBody org zs t k nm.data.toList tx.data.toList am o s)).toArray⟩ := ⟨_, rfl⟩
  have hSl : S.data.toList = withSum (encBody org zs t k nm.data.toList tx.data.toList am o s) := by rw [hS]
  have HIE : Hid (IsEnc S.data.toList org zs t k nm.data.toList tx.data.toList am o s) := ⟨by rw [bsize, bsize]; exact hg, ⟨ht0, ht1⟩, ⟨hk0, hk1⟩, hSl⟩
  have hgp := hg
  simp only [goodU, Bool.and_eq_true, decide_eq_true_eq] at hgp
  obtain ⟨_, _, hn8, hx20, _⟩ := upd_parts hgp.2
  have hSs : S.size = 2 * zs.length + nm.size + tx.size + 15 := by
    have : S.size = S.data.toList.length := (bsize S).symm
    rw [this, hSl, withSum, List.length_append, lastB_len, encBody_len, bsize, bsize]
  have HSS := hid hSs
  have hS1 : S.size ≤ 100 := by omega
  have hS0 : 15 ≤ S.size := by omega
  have HR : Hid (encR org zs t k nm tx am o s = S) := by show _ = _; rw [encR, if_pos hg, hS]
  have HE : Hid (encE org zs t k nm tx am o s = 0) := by show _ = _; rw [encE, if_pos hg]
  have HSRC : Hid (ClkAt w (some ⟨b0, off, none⟩) cap zs) := .inr ⟨_, rfl, fun j hj => by rw [Addr.add_lit]; exact hc0 j hj⟩
  clear hc0 hg hgp hSs hS hSl
  go_enter Try.func6, Try.ntmps6
  go_wp2_with fail
  refine (count_any 5 _).mono ?_
  rintro e w1 ⟨rfl, hb1'⟩
  have hz1 : w.heap.size + 2 ≤ w1.heap.size := by have := hb1'.size; simp at this; omega
  have e0 : w1.cell? ⟨w.heap.size + 1, 0, none⟩ = some (.int .i64 1) := by rw [hb1'.cell (p := ⟨w.heap.size + 1, 0, none⟩) (by simp), World.cell?_alloc_at _ _ _ _ (by simp)]; rfl
  have e1 : w1.cell? ⟨w.heap.size + 1, 1, none⟩ = some (.int .i64 0) := by rw [hb1'.cell (p := ⟨w.heap.size + 1, 1, none⟩) (by simp), World.cell?_alloc_at _ _ _ _ (by simp)]; rfl
  have HEX := hid (ex_enc _ _ e0 e1)
  have HU1 : Hid (Below (w.heap.size + 1) (w.alloc (.cells #[.int .i64 org, .slice (some ⟨b0, off, none⟩) zs.length cap, .int .u8 t, .int .u8 k, .string nm, .string tx, .int .i64 am, .int .i64 o, .int .i64 s] 28)) w1) := ((Below.refl _ _).alloc (by simp) _).trans (hb1'.mono (by simp))
  clear e0 e1 hb1'
  go_wp2_with fail
  refine HEX.out.mono ?_
  rintro e w2 ⟨K, rfl, hK0, hK1, hb2⟩
  have hU2 := HU1.out.trans (hb2.mono (by omega))
  have HU2 := hid hU2
  have hz2 : w1.heap.size ≤ w2.heap.size := hb2.size
  obtain ⟨p0, p1, p2, p3, p4, p5, p6, p7, p8⟩ := box_cells hU2
  have HB2 : Hid (Below w.heap.size w w2) := ((Below.refl _ _).alloc (Nat.le_refl _) _).trans (hU2.mono (by omega))
  clear hb2 hU2 HEX
  go_wp2_with fail
  have henc := wEncode_any org t k am o s nm tx (some ⟨b0, off, none⟩) cap zs w2 (HSRC.out.later HB2.out) (by unfold maxLen; omega) hn hx ht0 ht1 hk0 hk1
  rw [HR.out, HE.out] at henc
  refine henc.mono ?_
  rintro e w3 ⟨rfl, hb3⟩
  have HU3 := hid (HU2.out.trans (hb3.mono (by omega)))
  have HB3 := hid (HB2.out.trans (hb3.mono (by omega)))
  have hz3 : w2.heap.size ≤ w3.heap.size := hb3.size
  clear henc hb3 hK0 hK1 p0 p1 p2 p3 p4 p5 p6 p7 p8
  go_wp2_with fail
  refine (dec_own hT S _ (by omega) org zs t k nm tx am o s HIE.out h2).mono ?_
  rintro e w4 ⟨g, c2, rfl, hcg, hb4⟩
  have hgl : g < w4.heap.size := lt_of_cell (hcg 0 (by omega))
  have HCG := hid hcg
  have hU4 := HU3.out.trans (hb4.mono (by omega))
  have HU4 := hid hU4
  have HB4 := hid (HB3.out.trans (hb4.mono (by omega)))
  have hz4 : w3.heap.size ≤ w4.heap.size := hb4.size
  obtain ⟨p0, p1, p2, p3, p4, p5, p6, p7, p8⟩ := box_cells hU4
  have hzw : w.heap.size < w4.heap.size := by omega
  clear hcg hb4 hU4
  go_wp2_with fail
  clear p0 p1 p2 p3 p4 p5 p6 p7 p8
  go_loopw [13] (fun i wr => ∃ j : Nat, j ≤ zs.length ∧ i = .int .i64 j ∧ Below (w4.heap.size + 1) (w4.alloc (.cells #[.int .i64 org, .slice (some ⟨g, 0, none⟩) zs.length c2, .int .u8 t, .int .u8 k, .string nm, .string tx, .int .i64 am, .int .i64 o, .int .i64 s] 28)) wr) (fun i _ => zs.length - (intOf i).toNat)
  case atStart => exact ⟨0, by omega, rfl, Below.refl _ _⟩
  case round =>
    obtain ⟨j, hj, rfl, hbr⟩ := hrel
    have HBR := hid hbr
    obtain ⟨v0, v1, v2, v3, v4, v5, v6, v7, v8⟩ := box_cells hbr
    have h4r : Below w4.heap.size w4 wr := ((Below.refl _ _).alloc (Nat.le_refl _) _).trans (hbr.mono (by omega))
    have u1 : wr.cell? ⟨w.heap.size, 1, none⟩ = some (.slice (some ⟨b0, off, none⟩) zs.length cap) := (h4r.cell (p := ⟨w.heap.size, 1, none⟩) hzw).trans (box_cells HU4.out).2.1
    have H4R := hid h4r
    clear v0 v2 v3 v4 v5 v6 v7 v8 hbr
    by_cases hlt : j < zs.length
    · have cg : wr.cell? ⟨g, j, none⟩ = some (.int .i64 (zs.getD j 0)) := by have := (h4r.cell (p := ⟨g, 0 + j, none⟩) hgl).trans (HCG.out j hlt); rwa [Nat.zero_add] at this
      have cb : wr.cell? ⟨b0, off + j, none⟩ = some (.int .i64 (zs.getD j 0)) := (h4r.cell (p := ⟨b0, off + j, none⟩) (by show b0 < w4.heap.size; omega)).trans ((HB4.out.cell (p := ⟨b0, off + j, none⟩) hbl).trans (HC0.out j hlt))
      clear h4r
      have i0 : (0 : Int) ≤ (j : Int) := by omega
      have i1 : (j : Int) < (zs.length : Int) := by omega
      generalize zs.getD j 0 = z at *
      go_wp2_with fail
      go_quiet (fail)
      go_wp2
      go_roundw
      case rel => exact ⟨j + 1, by omega, by go_num, below_drewN HBR.out _⟩
      case measure => simp [intOf]; omega
    · obtain ⟨c5, w5, kc, hc5, hcell5, hfr5, hb5, hz5⟩ := conv_str wr S
      have HCL5 := hid hcell5
      have HFR5 := hid hfr5
      have HB5 := hid hb5
      have hz6 : w4.heap.size < wr.heap.size := by have := HBR.out.size; simp at this; omega
      clear h4r hcell5 hfr5 hb5
      generalize hX : wr.heap.size = X at *
      have HX := hid hX
      clear hX
      go_wp2_with fail
      refine (pick_any a S.size _ ha0 ha1 (by omega) (by omega)).mono ?_
      rintro e w' ⟨i, rfl, hi, rfl⟩
      have q0 := HCL5.out i hi
      have f0 := HFR5.out i hi
      have hv : ((S.data.toList.getD i 0).toNat : Nat) < 256 := (S.data.toList.getD i 0).toNat_lt
      generalize hY : (S.data.toList.getD i 0).toNat = y at *
      have HY := hid hY
      clear hY kc
      have j0 : (0 : Int) ≤ (i : Int) := by omega
      have j1 : (i : Int) < (S.size : Int) := by omega
      go_wp2_with fail
      go_region_law (first
        | (go_simp; go_at_call 23; refine (pick_any b 255 _ hb0 hb1 (by omega) (by omega)).mono ?_; rintro e w' ⟨r, rfl, hr, rfl⟩))
      all_goals
        have HW6 := turned HCL5.out hi HY.out hr
        have HB6 : Hid (Below w.heap.size w (w'.setCell ⟨X, i, none⟩ (.int .u8 (IntKind.u8.wrap ((y : Int) + IntKind.u8.wrap (IntKind.i64.wrap (1 + (r : Int))))))).drew) :=
          ((HB4.out.trans (H4R.out.mono (by omega))).trans (HB5.out.mono (by omega))).setCell (by show w.heap.size ≤ X; omega) _ |>.drew
        generalize (w'.setCell ⟨X, i, none⟩ (.int .u8 (IntKind.u8.wrap ((y : Int) + IntKind.u8.wrap (IntKind.i64.wrap (1 + (r : Int))))))).drew = W6 at *
        obtain ⟨v8, hv8, hc6⟩ := HW6
        have hlen : (S.data.toList.set i v8).length = S.size := by rw [List.length_set]; exact bsize S
        have kc2 := conv_own (cap := c5) (l := S.data.toList.set i v8) (by rw [hlen]; exact hc6)
        rw [hlen] at kc2
        have hi' : i < S.data.toList.length := by rw [bsize]; exact hi
        have HN1 := hid (no_other HIE.out i v8 hi' (by intro e; apply hv8; rw [e, List.getD_eq_getElem?_getD, List.getElem?_eq_getElem hi']; rfl))
        clear hc6 hv8 q0 f0
        have hzT : (⟨(S.data.toList.set i v8).toArray⟩ : ByteArray).size ≤ 140737488351232 := by
          rw [mk_size, hlen]; omega
        generalize S.data.toList.set i v8 = l6 at *
        go_wp2_with fail
        refine (wDecode_no hT _ _ hzT HN1.out).mono ?_
        rintro e w7 ⟨rfl, hb7⟩
        have HB7 := hid (HB6.out.trans (hb7.mono (by have := HB6.out.size; omega)))
        clear hb7 kc2
        have HN2 : Hid (∀ org' zs' t' k' nm' tx' am' o' s', ¬ IsEnc (S.extract 0 (S.size - 1)).data.toList org' zs' t' k' nm' tx' am' o' s') := by
          show ∀ org' zs' t' k' nm' tx' am' o' s', ¬ _
          rw [cut_list]; exact no_short HIE.out
        have hzT2 : (S.extract 0 (S.size - 1)).size ≤ 140737488351232 := by
          rw [list_size (cut_list S), List.length_take, bsize]; omega
        have HN3 : Hid (∀ org' zs' t' k' nm' tx' am' o' s', ¬ IsEnc (S ++ (⟨#[0]⟩ : ByteArray)).data.toList org' zs' t' k' nm' tx' am' o' s') := by
          show ∀ org' zs' t' k' nm' tx' am' o' s', ¬ _
          rw [more_list]; exact no_long HIE.out 0
        have hzT3 : (S ++ (⟨#[0]⟩ : ByteArray)).size ≤ 140737488351232 := by
          rw [list_size (more_list S), List.length_append, bsize, List.length_singleton]; omega
        have HZ2 := hid hzT2
        have HZ3 := hid hzT3
        clear hzT2 hzT3
        go_wp2_with fail
        refine (wDecode_no hT _ _ HZ2.out HN2.out).mono ?_
        rintro e w8 ⟨rfl, hb8⟩
        have HB8 := hid (HB7.out.trans (((Below.refl _ _).alloc (by have := HB7.out.size; omega) _).trans (hb8.mono (by have := HB7.out.size; simp; omega))))
        clear hb8
        go_wp2_with fail
        refine (wDecode_no hT _ _ HZ3.out HN3.out).mono ?_
        rintro e w9 ⟨rfl, hb9⟩
        have HB9 := hid (HB8.out.trans (((Below.refl _ _).alloc (by have := HB8.out.size; omega) _).trans (hb9.mono (by have := HB8.out.size; simp; omega))))
        clear hb9
        go_wp2_with fail
        go_ret
        exact ⟨by simp, HB9.out.alloc (by have := HB9.out.size; omega) _⟩
end Go.Proofs.Yteljbblbdiploaa
