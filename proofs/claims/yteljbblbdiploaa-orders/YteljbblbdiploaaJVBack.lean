/-
  WALKS: the law 'Encodes'.
-/
/-
  WALKS: the statement's own 'back', once more: it writes what was lent, and nothing else.
-/
import Derived.Test.YteljbblbdiploaaJBack
import Derived.Maps.AppendAt
namespace Go.Proofs.Yteljbblbdiploaa
open Go.RowKit

theorem back_any (org t k am o s : Int) (nm tx : ByteArray) (ao : Option Addr) (cap : Nat) (zs : List Int) (g c2 base : Nat) (w w0 : World) (hsrc : ClkAt w0 ao cap zs) (hb0 : Below w0.heap.size w0 w) (hbs : w0.heap.size ≤ base) (hl : zs.length * 8 ≤ 140737488351232)
    (hown : w.ownsRow base 3 1 (.slice (some ⟨g, 0, none⟩) (zs.length + 3) c2) (zs.length + 3) (ics (zs ++ [7000, 7000, 7000]))) (hbw : base ≤ w.heap.size) :
    Calls Try.prog 11 #[.agg #[.int .i64 org, .slice (some ⟨g, 0, none⟩) zs.length c2, .int .u8 t, .int .u8 k, .string nm, .string tx, .int .i64 am, .int .i64 o, .int .i64 s],
        .agg #[.int .i64 org, .slice ao zs.length cap, .int .u8 t, .int .u8 k, .string nm, .string tx, .int .i64 am, .int .i64 o, .int .i64 s]] w
      fun e w' => e = .returned (.bool true) ∧ Below base w w' := by
  by_cases h0 : zs.length < 1
  · exact back_empty org t k am o s nm tx ao cap zs g c2 base w h0 hl hown hbw
  · obtain ⟨b, off, rfl, hc⟩ := hsrc.plain (by omega)
    have hbl := lt_of_cell (hc 0 (by omega))
    exact back_plain org t k am o s nm tx b off cap zs g c2 base w (by omega) (fun j hj => (hb0.cell (p := ⟨b, off + j, none⟩) hbl).trans (hc j hj)) hl hown hbw

theorem own_clk {w : World} {base g c2 : Nat} {zs : List Int} (hown : w.ownsRow base 3 1 (.slice (some ⟨g, 0, none⟩) (zs.length + 3) c2) (zs.length + 3) (ics (zs ++ [7000, 7000, 7000]))) : ClkAt w (some ⟨g, 0, none⟩) c2 zs := by
  obtain ⟨_, _, _, _, hc, _⟩ := row_parts hown
  refine .inr ⟨_, rfl, fun j hj => ?_⟩
  rw [Addr.add_lit, Nat.zero_add, hc j (by omega)]
  simp [List.getElem?_append, hj]

set_option maxHeartbeats 4000000 in
theorem encodes_any (org t k am o s : Int) (nm tx : ByteArray) (ao : Option Addr) (cap : Nat) (zs : List Int) (w : World) (hsrc : ClkAt w ao cap zs) (hl : zs.length * 8 ≤ 140737488351232) (hn : nm.size ≤ maxLen) (hx : tx.size ≤ maxLen)
    (ht0 : 0 ≤ t) (ht1 : t < 256) (hk0 : 0 ≤ k) (hk1 : k < 256) :
    Calls Try.prog 3 #[.agg #[.int .i64 org, .slice ao zs.length cap, .int .u8 t, .int .u8 k, .string nm, .string tx, .int .i64 am, .int .i64 o, .int .i64 s]] w
      fun e w' => e = .returned (.bool true) ∧ Below w.heap.size w w' := by
  have HSRC := hid hsrc
  clear hsrc
  have hml : zs.length ≤ maxLen := by unfold maxLen; omega
  go_enter Try.func3, Try.ntmps3
  go_wp2_with fail
  have hbA : Below w.heap.size w (w.alloc (.cells #[.int .i64 org, .slice ao zs.length cap, .int .u8 t, .int .u8 k, .string nm, .string tx, .int .i64 am, .int .i64 o, .int .i64 s] 28)) := (Below.refl _ _).alloc (Nat.le_refl _) _
  refine (lent_any _ _ _ _ _ _ _ _ _ _ _ _ (HSRC.out.later hbA) hl).mono ?_
  rintro e w1 ⟨g, c2, rfl, hown, hb1⟩
  have HO := hid hown
  have HB1 := hid hb1
  obtain ⟨hc1, hf1⟩ := bcell hb1
  have hz1 : w.heap.size + 1 ≤ w1.heap.size := by have := hb1.size; simp at this; omega
  clear hown hb1
  have hbB : Below w.heap.size w w1 := hbA.trans (HB1.out.mono (by simp))
  have HA1 : Hid (Below w1.heap.size w1 (w1.alloc (.cells #[.int .i64 org, .slice (some ⟨g, 0, none⟩) zs.length c2, .int .u8 t, .int .u8 k, .string nm, .string tx, .int .i64 am, .int .i64 o, .int .i64 s] 28))) := (Below.refl _ _).alloc (Nat.le_refl _) _
  have HBW1 := hid hbB
  clear hbA hbB
  go_wp2_with fail
  refine (wEncode_any _ _ _ _ _ _ _ _ _ _ _ _ ((own_clk HO.out).later HA1.out) hml hn hx ht0 ht1 hk0 hk1).mono ?_
  rintro e w2 ⟨rfl, hb2⟩
  have h12 : Below w1.heap.size w1 w2 := HA1.out.trans (hb2.mono (by simp))
  have HO2 := hid (ownsRow_later HO.out h12)
  have hbW2 : Below w.heap.size w w2 := HBW1.out.trans (h12.mono (by omega))
  have HBW2 := hid hbW2
  have hz2 : w1.heap.size + 1 ≤ w2.heap.size := by have := hb2.size; simp at this; omega
  have hU2 : Below (w.heap.size + 1) (w.alloc (.cells #[.int .i64 org, .slice ao zs.length cap, .int .u8 t, .int .u8 k, .string nm, .string tx, .int .i64 am, .int .i64 o, .int .i64 s] 28)) w2 := (HB1.out.mono (by simp)).trans (h12.mono (by omega))
  have hA2 : Below (w1.heap.size + 1) (w1.alloc (.cells #[.int .i64 org, .slice (some ⟨g, 0, none⟩) zs.length c2, .int .u8 t, .int .u8 k, .string nm, .string tx, .int .i64 am, .int .i64 o, .int .i64 s] 28)) w2 := hb2.mono (by simp)
  have HU2 := hid hU2
  have HA2 := hid hA2
  obtain ⟨p0, p1, p2, p3, p4, p5, p6, p7, p8⟩ := box_cells hU2
  clear hb2 h12 hbW2 hU2 hA2 hc1 hf1
  go_wp2_with fail
  refine (rEncode_any _ _ _ _ _ _ _ _ _ _ _ _ (HSRC.out.later HBW2.out) hml hn hx ht0 ht1 hk0 hk1).mono ?_
  rintro e w3 ⟨rfl, hb3⟩
  have HO3 := hid (ownsRow_later HO2.out hb3)
  have hbW3 : Below w.heap.size w w3 := HBW2.out.trans (hb3.mono (by omega))
  have HBW3 := hid hbW3
  have hz3 : w2.heap.size ≤ w3.heap.size := hb3.size
  have hU3 := HU2.out.trans (hb3.mono (by omega))
  have hA3 := HA2.out.trans (hb3.mono (by omega))
  clear p0 p1 p2 p3 p4 p5 p6 p7 p8
  obtain ⟨p0, p1, p2, p3, p4, p5, p6, p7, p8⟩ := box_cells hU3
  obtain ⟨q0, q1, q2, q3, q4, q5, q6, q7, q8⟩ := box_cells hA3
  clear hb3 hbW3 hU3 hA3
  go_wp2_with fail
  refine (back_any _ _ _ _ _ _ _ _ _ _ zs g c2 _ _ w HSRC.out HBW3.out (by simp) hl HO3.out (by simp; omega)).mono ?_
  rintro e w4 ⟨rfl, hb4⟩
  go_wp2_with fail
  go_ret
  exact ⟨by simp, HBW3.out.trans (hb4.mono (by simp))⟩
end Go.Proofs.Yteljbblbdiploaa

namespace Go.Proofs.Yteljbblbdiploaa
open Go.RowKit

set_option maxHeartbeats 4000000 in
theorem backG_plain (org t k am o s : Int) (nm tx : ByteArray) (b off : Nat) (cap : Nat) (zs : List Int) (g c2 base : Nat) (w : World) (hbb : b < base) (hc : ∀ k, k < zs.length → w.cell? ⟨b, off + k, none⟩ = some (.int .i64 (zs.getD k 0))) (hl : zs.length * 8 ≤ 140737488351232)
    (hown : w.ownsRow base 3 1 (.slice (some ⟨g, 0, none⟩) (zs.length + 3) c2) (zs.length + 3) (ics (zs ++ [7000, 7000, 7000]))) :
    Calls Try.prog 11 #[.agg #[.int .i64 org, .slice (some ⟨g, 0, none⟩) zs.length c2, .int .u8 t, .int .u8 k, .string nm, .string tx, .int .i64 am, .int .i64 o, .int .i64 s], .agg #[.int .i64 org, .slice (some ⟨b, off, none⟩) zs.length cap, .int .u8 t, .int .u8 k, .string nm, .string tx, .int .i64 am, .int .i64 o, .int .i64 s]] w
      fun e w' => e = .returned (.bool true) ∧ w.grownBy w' (some g) := by
  obtain ⟨hgb, hgw, hnc, hcm, hcell, hfr⟩ := row_parts hown
  have HI0 : Hid (BackInv w g zs 0) := ⟨fun q _ hq => hcell q hq, hfr⟩
  clear hcell hfr hown
  have hbw' : b < w.heap.size := by omega
  have HC := hid hc
  clear hc
  go_enter Try.func11, Try.ntmps11
  go_wp2_with fail
  go_loopw [7, 8] (fun ok i wr => ∃ j : Nat, j ≤ zs.length + 3 ∧ i = .int .i64 j ∧ ok = .bool true ∧ BackInv wr g zs j ∧ ((w.alloc (.cells #[.int .i64 org, .slice (some ⟨g, 0, none⟩) zs.length c2, .int .u8 t, .int .u8 k, .string nm, .string tx, .int .i64 am, .int .i64 o, .int .i64 s] 28)).alloc (.cells #[.int .i64 org, .slice (some ⟨b, off, none⟩) zs.length cap, .int .u8 t, .int .u8 k, .string nm, .string tx, .int .i64 am, .int .i64 o, .int .i64 s] 28)).grownBy wr (some g)) (fun _ i _ => zs.length + 3 - (intOf i).toNat)
  case atStart => exact ⟨0, by omega, rfl, rfl, HI0.out.alloc2 hgw _ _, ⟨rfl, rfl, rfl, Nat.le_refl _, fun _ _ _ => rfl⟩⟩
  case round =>
    obtain ⟨j, hj, rfl, rfl, hinv, hgr⟩ := hrel
    have HINV := hid hinv
    have HGR := hid hgr
    have q1 : wr.cell? ⟨w.heap.size + 1, 1, none⟩ = some (.slice (some ⟨b, off, none⟩) zs.length cap) := by
      rw [hgr.cell_far ⟨w.heap.size + 1, 1, none⟩ (by simp) (by simp; omega)]; simp [go_sem]
    clear hinv hgr
    by_cases hlt : j < zs.length + 3
    · have c0 := HINV.out.1 j (Nat.le_refl _) hlt
      have f0 := HINV.out.2 j hlt
      have HNX : Hid (BackInv (wr.setCell ⟨g, j, none⟩ (.int .i64 7001)) g zs (j + 1)) := HINV.out.step _ _
      have HGX : Hid (((w.alloc (.cells #[.int .i64 org, .slice (some ⟨g, 0, none⟩) zs.length c2, .int .u8 t, .int .u8 k, .string nm, .string tx, .int .i64 am, .int .i64 o, .int .i64 s] 28)).alloc (.cells #[.int .i64 org, .slice (some ⟨b, off, none⟩) zs.length cap, .int .u8 t, .int .u8 k, .string nm, .string tx, .int .i64 am, .int .i64 o, .int .i64 s] 28)).grownBy (wr.setCell ⟨g, j, none⟩ (.int .i64 7001)) (some g)) := grown_set HGR.out _
      by_cases hjn : j < zs.length
      · have e0 : (zs ++ [7000, 7000, 7000]).getD j 0 = zs.getD j 0 := by simp [List.getElem?_append, hjn]
        rw [e0] at c0
        clear e0
        have d0 : wr.cell? ⟨b, off + j, none⟩ = some (.int .i64 (zs.getD j 0)) := by
          rw [HGR.out.cell_far ⟨b, off + j, none⟩ (by simp; omega) (by simp; omega)]; simp [go_sem, hbw', show b < w.heap.size + 1 by omega]; exact (HC.out j hjn)
        generalize zs.getD j 0 = z at *
        go_wp2_with fail
        go_roundw
        case rel => exact ⟨j + 1, by omega, by go_num, by first | rfl | simp, HNX.out, HGX.out⟩
        case measure => simp [intOf]; omega
      · have e0 : (zs ++ [7000, 7000, 7000]).getD j 0 = 7000 := back_mark zs j (by omega) hlt
        rw [e0] at c0
        clear e0
        go_wp2_with fail
        go_roundw
        case rel => exact ⟨j + 1, by omega, by go_num, by first | rfl | simp, HNX.out, HGX.out⟩
        case measure => simp [intOf]; omega
    · go_wp2_with fail
      go_ret
      exact ⟨rfl, ((World.grownBy_alloc w _ _).trans (World.grownBy_alloc _ _ _)).trans HGR.out⟩

set_option maxHeartbeats 4000000 in
theorem backG_empty (org t k am o s : Int) (nm tx : ByteArray) (ao : Option Addr) (cap : Nat) (zs : List Int) (g c2 base : Nat) (w : World) (h0 : zs.length < 1) (_hl : zs.length * 8 ≤ 140737488351232)
    (hown : w.ownsRow base 3 1 (.slice (some ⟨g, 0, none⟩) (zs.length + 3) c2) (zs.length + 3) (ics (zs ++ [7000, 7000, 7000]))) :
    Calls Try.prog 11 #[.agg #[.int .i64 org, .slice (some ⟨g, 0, none⟩) zs.length c2, .int .u8 t, .int .u8 k, .string nm, .string tx, .int .i64 am, .int .i64 o, .int .i64 s], .agg #[.int .i64 org, .slice ao zs.length cap, .int .u8 t, .int .u8 k, .string nm, .string tx, .int .i64 am, .int .i64 o, .int .i64 s]] w
      fun e w' => e = .returned (.bool true) ∧ w.grownBy w' (some g) := by
  obtain ⟨hgb, hgw, hnc, hcm, hcell, hfr⟩ := row_parts hown
  have HI0 : Hid (BackInv w g zs 0) := ⟨fun q _ hq => hcell q hq, hfr⟩
  clear hcell hfr hown
  go_enter Try.func11, Try.ntmps11
  go_wp2_with fail
  go_loopw [7, 8] (fun ok i wr => ∃ j : Nat, j ≤ zs.length + 3 ∧ i = .int .i64 j ∧ ok = .bool true ∧ BackInv wr g zs j ∧ ((w.alloc (.cells #[.int .i64 org, .slice (some ⟨g, 0, none⟩) zs.length c2, .int .u8 t, .int .u8 k, .string nm, .string tx, .int .i64 am, .int .i64 o, .int .i64 s] 28)).alloc (.cells #[.int .i64 org, .slice ao zs.length cap, .int .u8 t, .int .u8 k, .string nm, .string tx, .int .i64 am, .int .i64 o, .int .i64 s] 28)).grownBy wr (some g)) (fun _ i _ => zs.length + 3 - (intOf i).toNat)
  case atStart => exact ⟨0, by omega, rfl, rfl, HI0.out.alloc2 hgw _ _, ⟨rfl, rfl, rfl, Nat.le_refl _, fun _ _ _ => rfl⟩⟩
  case round =>
    obtain ⟨j, hj, rfl, rfl, hinv, hgr⟩ := hrel
    have HINV := hid hinv
    have HGR := hid hgr
    have q1 : wr.cell? ⟨w.heap.size + 1, 1, none⟩ = some (.slice ao zs.length cap) := by
      rw [hgr.cell_far ⟨w.heap.size + 1, 1, none⟩ (by simp) (by simp; omega)]; simp [go_sem]
    clear hinv hgr
    by_cases hlt : j < zs.length + 3
    · have c0 := HINV.out.1 j (Nat.le_refl _) hlt
      have f0 := HINV.out.2 j hlt
      have HNX : Hid (BackInv (wr.setCell ⟨g, j, none⟩ (.int .i64 7001)) g zs (j + 1)) := HINV.out.step _ _
      have HGX : Hid (((w.alloc (.cells #[.int .i64 org, .slice (some ⟨g, 0, none⟩) zs.length c2, .int .u8 t, .int .u8 k, .string nm, .string tx, .int .i64 am, .int .i64 o, .int .i64 s] 28)).alloc (.cells #[.int .i64 org, .slice ao zs.length cap, .int .u8 t, .int .u8 k, .string nm, .string tx, .int .i64 am, .int .i64 o, .int .i64 s] 28)).grownBy (wr.setCell ⟨g, j, none⟩ (.int .i64 7001)) (some g)) := grown_set HGR.out _
      by_cases hjn : j < zs.length
      · omega
      · have e0 : (zs ++ [7000, 7000, 7000]).getD j 0 = 7000 := back_mark zs j (by omega) hlt
        rw [e0] at c0
        clear e0
        go_wp2_with fail
        go_roundw
        case rel => exact ⟨j + 1, by omega, by go_num, by first | rfl | simp, HNX.out, HGX.out⟩
        case measure => simp [intOf]; omega
    · go_wp2_with fail
      go_ret
      exact ⟨rfl, ((World.grownBy_alloc w _ _).trans (World.grownBy_alloc _ _ _)).trans HGR.out⟩

theorem backG_any (org t k am o s : Int) (nm tx : ByteArray) (ao : Option Addr) (cap : Nat) (zs : List Int) (g c2 base : Nat) (w : World) (hsrc : ClkAt w ao cap zs) (hlow : ∀ a, ao = some a → 0 < zs.length → a.block < base) (hl : zs.length * 8 ≤ 140737488351232)
    (hown : w.ownsRow base 3 1 (.slice (some ⟨g, 0, none⟩) (zs.length + 3) c2) (zs.length + 3) (ics (zs ++ [7000, 7000, 7000]))) :
    Calls Try.prog 11 #[.agg #[.int .i64 org, .slice (some ⟨g, 0, none⟩) zs.length c2, .int .u8 t, .int .u8 k, .string nm, .string tx, .int .i64 am, .int .i64 o, .int .i64 s],
        .agg #[.int .i64 org, .slice ao zs.length cap, .int .u8 t, .int .u8 k, .string nm, .string tx, .int .i64 am, .int .i64 o, .int .i64 s]] w
      fun e w' => e = .returned (.bool true) ∧ w.grownBy w' (some g) := by
  by_cases h0 : zs.length < 1
  · exact backG_empty org t k am o s nm tx ao cap zs g c2 base w h0 hl hown
  · obtain ⟨b, off, rfl, hc⟩ := hsrc.plain (by omega)
    exact backG_plain org t k am o s nm tx b off cap zs g c2 base w (hlow _ rfl (by omega)) hc hl hown
end Go.Proofs.Yteljbblbdiploaa
