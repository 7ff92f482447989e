/-
  WALKS: an update as bytes: package wire's layUpdate.
-/
import Derived.Test.YteljbblbdiploaaApp2
import Derived.Test.YteljbblbdiploaaUpd
namespace Go.Proofs.Yteljbblbdiploaa
open Go.RowKit

theorem hid {p : Prop} (h : p) : Hid p := h

theorem heap_new_at (w : World) (o : Obj) (n : Nat) (h : n = w.heap.size) : (w.alloc o).heap[n]? = some o := by rw [h]; exact heap_alloc_new w o

def three (a b c : Nat) : List UInt8 := lastB a 1 ++ lastB b 1 ++ lastB c 1
theorem bcs_three (a b c : Nat) (ha : a < 256) (hb : b < 256) (hc : c < 256) : bcs (three a b c) = [.int .u8 (a : Int), .int .u8 (b : Int), .int .u8 (c : Int)] := by
  rw [three, bcs_app, bcs_app, bcs_byte a ha, bcs_byte b hb, bcs_byte c hc]; rfl

theorem clkBytes_take (zs : List Int) (k : Nat) (h : k < zs.length) : clkBytes (zs.take (k + 1)) = clkBytes (zs.take k) ++ lastB (zs.getD k 0).toNat 2 := by
  rw [List.take_succ_eq_append_getElem h, clkBytes_app]; simp [clkBytes, h]

theorem appendPair_int (v : Value) (l : List UInt8) (x : Int) (base : Nat) (w : World) (h0 : 0 ≤ x) (h1 : x < 65536) (hl : l.length ≤ 100000) (hown : Own w base v l) (hbase : base ≤ w.heap.size) :
    Calls Try.prog 54 #[v, .int .i64 x] w fun e w' => ∃ v', e = .returned v' ∧ Own w' base v' (l ++ lastB x.toNat 2) ∧ Below base w w' := by
  obtain ⟨n, rfl⟩ := Int.eq_ofNat_of_zero_le h0
  exact appendPair_any v l n base w (by omega) hl hown hbase

theorem Own.mono {w : World} {base base' : Nat} {v : Value} {l : List UInt8} (h : Own w base v l) (hb : base' ≤ base) : Own w base' v l := by
  refine ⟨h.1, ?_⟩
  rcases h.2 with q | ⟨g, cap, cur, hv, hg, r⟩
  · exact .inl q
  · exact .inr ⟨g, cap, cur, hv, Nat.le_trans hb hg, r⟩

set_option maxRecDepth 16000 in
set_option maxHeartbeats 4000000 in
theorem layUpdate_any (org t k o s : Nat) (am : Int) (nm tx : ByteArray) (b off : Nat) (zs : List Int) (cap : Nat) (w : World) (h2 : 2 ≤ zs.length) (h8 : zs.length ≤ 8)
    (hc : ∀ k, k < zs.length → w.cell? ⟨b, off + k, none⟩ = some (.int .i64 (zs.getD k 0))) (hz : ∀ k, k < zs.length → 0 ≤ zs.getD k 0 ∧ zs.getD k 0 ≤ 1000)
    (hg : org < 256) (ht : t < 256) (hk : k < 256) (hn : nm.size ≤ 8) (hx : tx.size ≤ 20) (ha0 : -1000 ≤ am) (ha1 : am ≤ 1000) (ho : o < 256) (hs : s ≤ 1000) :
    Calls Try.prog 27 #[.agg #[.int .i64 org, .slice (some ⟨b, off, none⟩) zs.length cap, .int .u8 t, .int .u8 k, .string nm, .string tx, .int .i64 am, .int .i64 o, .int .i64 s]] w
      fun e w' => ∃ v, e = .returned v ∧ Own w' w.heap.size v (encBody org zs t k nm.data.toList tx.data.toList am o s) ∧ Below w.heap.size w w' := by
  have hbl : b < w.heap.size := lt_of_cell (hc 0 (by omega))
  have HC : Hid (∀ k, k < zs.length → w.cell? ⟨b, off + k, none⟩ = some (.int .i64 (zs.getD k 0))) := hc
  have HZ : Hid (∀ k, k < zs.length → 0 ≤ zs.getD k 0 ∧ zs.getD k 0 ≤ 1000) := hz
  clear hc hz
  have HP : Hid (bcs (lastB zs.length 1) = [.int .u8 (zs.length : Int)]) := bcs_byte _ (by omega)
  have HL : Hid (∀ j, (lastB zs.length 1 ++ clkBytes (zs.take j)).length ≤ 50) := fun j => by
    have := List.length_take_le j zs
    simp only [List.length_append, lastB_len, clkBytes_len, List.length_take]; omega
  go_enter Try.func27, Try.ntmps27
  go_wp2_with fail
  have hown1 : Own ((w.alloc (.cells #[.int .i64 org, .slice (some ⟨b, off, none⟩) zs.length cap, .int .u8 t, .int .u8 k, .string nm, .string tx, .int .i64 am, .int .i64 o, .int .i64 s] 28)).alloc (.cells #[.int .u8 zs.length] 5)) (w.heap.size + 1) (.slice (some ⟨w.heap.size + 1, 0, none⟩) 1 1) (lastB zs.length 1) := by
    refine ⟨by rw [HP.out, lastB_len]; rfl, .inr ⟨w.heap.size + 1, 1, #[.int .u8 zs.length], by rw [lastB_len], Nat.le_refl _, heap_new_at (w.alloc _) _ _ (by simp), by rw [lastB_len]; exact Nat.le_refl _, by unfold maxLen; omega, rfl, by rw [HP.out, lastB_len]; rfl⟩⟩
  have hi1 : Below (w.heap.size + 1) (w.alloc (.cells #[.int .i64 org, .slice (some ⟨b, off, none⟩) zs.length cap, .int .u8 t, .int .u8 k, .string nm, .string tx, .int .i64 am, .int .i64 o, .int .i64 s] 28)) ((w.alloc (.cells #[.int .i64 org, .slice (some ⟨b, off, none⟩) zs.length cap, .int .u8 t, .int .u8 k, .string nm, .string tx, .int .i64 am, .int .i64 o, .int .i64 s] 28)).alloc (.cells #[.int .u8 zs.length] 5)) :=
    (Below.refl _ _).alloc (by simp) _
  have HO1 := hid hown1
  have HI1 := hid hi1
  clear hown1 hi1
  go_loopw [3, 14] (fun v i wr => ∃ j : Nat, j ≤ zs.length ∧ i = .int .i64 j ∧ Own wr (w.heap.size + 1) v (lastB zs.length 1 ++ clkBytes (zs.take j)) ∧
      Below (w.heap.size + 1) (w.alloc (.cells #[.int .i64 org, .slice (some ⟨b, off, none⟩) zs.length cap, .int .u8 t, .int .u8 k, .string nm, .string tx, .int .i64 am, .int .i64 o, .int .i64 s] 28)) wr) (fun _ i _ => zs.length - (intOf i).toNat)
  case atStart => exact ⟨0, by omega, rfl, by simpa [clkBytes] using HO1.out, HI1.out⟩
  case round =>
    obtain ⟨j, hj, rfl, hown, hi⟩ := hrel
    have hsz := hi.size
    simp at hsz
    by_cases hlt : j < zs.length
    · have hcell : wr.cell? ⟨b, off + j, none⟩ = some (.int .i64 (zs.getD j 0)) := by
        rw [hi.cell (p := ⟨b, off + j, none⟩) (by simp; omega), World.cell?_alloc_past _ b (off + j) hbl]; exact HC.out j hlt
      obtain ⟨hz0, hz1⟩ := HZ.out j hlt
      have HT : Hid (clkBytes (zs.take (j + 1)) = clkBytes (zs.take j) ++ lastB (zs.getD j 0).toNat 2) := clkBytes_take zs j hlt
      generalize hn0 : zs.getD j 0 = z at *
      clear hn0
      go_wp2_with fail
      refine (appendPair_int _ _ _ _ _ hz0 (by omega) (by have := HL.out j; omega) hown (by omega)).mono ?_
      rintro e w2 ⟨v2, rfl, hown2, hb2⟩
      go_wp2
      go_roundw
      case rel => exact ⟨j + 1, by omega, by go_num, by rw [HT.out, ← List.append_assoc]; exact hown2, hi.trans hb2⟩
      case measure => simp [intOf]; omega
    · have hall : zs.take j = zs := List.take_of_length_le (by omega)
      rw [hall] at hown
      have HO : Hid (Own wr (w.heap.size + 1) u3 (encHead zs)) := hown
      have hlh : (encHead zs).length ≤ 17 := by simp only [encHead, List.length_append, lastB_len, clkBytes_len]; omega
      clear hown hall
      obtain ⟨hc1, hf1⟩ := bcell hi
      have HI : Hid (Below (w.heap.size + 1) (w.alloc (.cells #[.int .i64 org, .slice (some ⟨b, off, none⟩) zs.length cap, .int .u8 t, .int .u8 k, .string nm, .string tx, .int .i64 am, .int .i64 o, .int .i64 s] 28)) wr) := hi
      clear hi
      have HP3 : Hid (bcs (three org t k) = [.int .u8 (org : Int), .int .u8 (t : Int), .int .u8 (k : Int)]) := bcs_three org t k hg ht hk
      have hl3 : (three org t k).length = 3 := by simp only [three, List.length_append, lastB_len]
      have hnl : nm.data.toList.length = nm.size := Array.length_toList
      have htl : tx.data.toList.length = tx.size := Array.length_toList
      have HNL : Hid (nm.data.toList.length = nm.size) := hnl
      have HTL : Hid (tx.data.toList.length = tx.size) := htl
      clear hnl htl
      go_wp2_with (at_builtin; refine app_bytes _ rfl (.tmp 22) (.tmp 32) rfl (w.heap.size + 1) _ (encHead zs) rfl (HO.out.alloc _) wr.heap.size 3 3 _ (three org t k) rfl (heap_alloc_new wr _) ?d1 ?d2 (by decide) ?d3 ?d4 ?_)
      case d1 => rw [HP3.out]
      case d2 => exact hl3.symm
      case d3 => omega
      case d4 => simp; omega
      intro g2 cap2 w2 hown2 hb2 hs2
      have hi2 : Below (w.heap.size + 1) (w.alloc (.cells #[.int .i64 org, .slice (some ⟨b, off, none⟩) zs.length cap, .int .u8 t, .int .u8 k, .string nm, .string tx, .int .i64 am, .int .i64 o, .int .i64 s] 28)) w2 := (HI.out.alloc (by omega) _).trans hb2
      clear hc1 hf1 HI hb2
      obtain ⟨hc1, hf1⟩ := bcell hi2
      have HI : Hid (Below (w.heap.size + 1) (w.alloc (.cells #[.int .i64 org, .slice (some ⟨b, off, none⟩) zs.length cap, .int .u8 t, .int .u8 k, .string nm, .string tx, .int .i64 am, .int .i64 o, .int .i64 s] 28)) w2) := hi2
      have hz2 : w.heap.size + 1 ≤ w2.heap.size := by have := hi2.size; simp at this; omega
      clear hi2
      generalize hE2 : encHead zs ++ three org t k = l2 at hown2
      have hll2 : l2.length ≤ 20 := by rw [← hE2]; simp only [List.length_append, hl3]; omega
      have HE2 : Hid (encHead zs ++ three org t k = l2) := hE2
      have HO2 := hid hown2
      clear hown2 hE2
      go_wp2_with fail
      refine (appendText_any _ _ _ (w.heap.size + 1) _ (by omega) (by omega) HO2.out hz2).mono ?_
      rintro e w3 ⟨v3, rfl, hown3, hb3⟩
      have hi3 : Below (w.heap.size + 1) (w.alloc (.cells #[.int .i64 org, .slice (some ⟨b, off, none⟩) zs.length cap, .int .u8 t, .int .u8 k, .string nm, .string tx, .int .i64 am, .int .i64 o, .int .i64 s] 28)) w3 := HI.out.trans hb3
      clear hc1 hf1 HI hb3
      obtain ⟨hc1, hf1⟩ := bcell hi3
      have HI : Hid (Below (w.heap.size + 1) (w.alloc (.cells #[.int .i64 org, .slice (some ⟨b, off, none⟩) zs.length cap, .int .u8 t, .int .u8 k, .string nm, .string tx, .int .i64 am, .int .i64 o, .int .i64 s] 28)) w3) := hi3
      have hz3 : w.heap.size + 1 ≤ w3.heap.size := by have := hi3.size; simp at this; omega
      clear hi3
      generalize hE3 : l2 ++ lastB nm.size 1 ++ nm.data.toList = l3 at hown3
      have hll3 : l3.length ≤ 100 := by rw [← hE3]; simp only [List.length_append, lastB_len, HNL.out]; omega
      have HE3 : Hid (l2 ++ lastB nm.size 1 ++ nm.data.toList = l3) := hE3
      have HO3 := hid hown3
      clear hown3 hE3
      go_wp2_with fail
      refine (appendText_any _ _ _ (w.heap.size + 1) _ (by omega) (by omega) HO3.out hz3).mono ?_
      rintro e w4 ⟨v4, rfl, hown4, hb4⟩
      have hi4 : Below (w.heap.size + 1) (w.alloc (.cells #[.int .i64 org, .slice (some ⟨b, off, none⟩) zs.length cap, .int .u8 t, .int .u8 k, .string nm, .string tx, .int .i64 am, .int .i64 o, .int .i64 s] 28)) w4 := HI.out.trans hb4
      clear hc1 hf1 HI hb4
      obtain ⟨hc1, hf1⟩ := bcell hi4
      have HI : Hid (Below (w.heap.size + 1) (w.alloc (.cells #[.int .i64 org, .slice (some ⟨b, off, none⟩) zs.length cap, .int .u8 t, .int .u8 k, .string nm, .string tx, .int .i64 am, .int .i64 o, .int .i64 s] 28)) w4) := hi4
      have hz4 : w.heap.size + 1 ≤ w4.heap.size := by have := hi4.size; simp at this; omega
      clear hi4
      generalize hE4 : l3 ++ lastB tx.size 1 ++ tx.data.toList = l4 at hown4
      have hll4 : l4.length ≤ 200 := by rw [← hE4]; simp only [List.length_append, lastB_len, HTL.out]; omega
      have HE4 : Hid (l3 ++ lastB tx.size 1 ++ tx.data.toList = l4) := hE4
      have HO4 := hid hown4
      clear hown4 hE4
      go_wp2_with fail
      refine (appendPair_int _ _ _ (w.heap.size + 1) _ (by omega) (by omega) (by omega) HO4.out hz4).mono ?_
      rintro e w5 ⟨v5, rfl, hown5, hb5⟩
      have hi5 : Below (w.heap.size + 1) (w.alloc (.cells #[.int .i64 org, .slice (some ⟨b, off, none⟩) zs.length cap, .int .u8 t, .int .u8 k, .string nm, .string tx, .int .i64 am, .int .i64 o, .int .i64 s] 28)) w5 := HI.out.trans hb5
      clear hc1 hf1 HI hb5
      obtain ⟨hc1, hf1⟩ := bcell hi5
      have HI : Hid (Below (w.heap.size + 1) (w.alloc (.cells #[.int .i64 org, .slice (some ⟨b, off, none⟩) zs.length cap, .int .u8 t, .int .u8 k, .string nm, .string tx, .int .i64 am, .int .i64 o, .int .i64 s] 28)) w5) := hi5
      have hz5 : w.heap.size + 1 ≤ w5.heap.size := by have := hi5.size; simp at this; omega
      clear hi5
      generalize hE5 : l4 ++ lastB (am + 1000).toNat 2 = l5 at hown5
      have hll5 : l5.length ≤ 202 := by rw [← hE5]; simp only [List.length_append, lastB_len]; omega
      have HE5 : Hid (l4 ++ lastB (am + 1000).toNat 2 = l5) := hE5
      have HO5 := hid hown5
      clear hown5 hE5
      have HP1 : Hid (bcs (lastB o 1) = [.int .u8 (o : Int)]) := bcs_byte o ho
      go_wp2_with (at_builtin; refine app_bytes _ rfl (.tmp 50) (.tmp 56) rfl (w.heap.size + 1) _ l5 rfl (HO5.out.alloc _) w5.heap.size 1 1 _ (lastB o 1) rfl (heap_alloc_new w5 _) ?e1 ?e2 (by decide) ?e3 ?e4 ?_)
      case e1 => rw [HP1.out]
      case e2 => rw [lastB_len]
      case e3 => omega
      case e4 => simp; omega
      intro g6 cap6 w6 hown6 hb6 hs6
      have hi6 : Below (w.heap.size + 1) (w.alloc (.cells #[.int .i64 org, .slice (some ⟨b, off, none⟩) zs.length cap, .int .u8 t, .int .u8 k, .string nm, .string tx, .int .i64 am, .int .i64 o, .int .i64 s] 28)) w6 := (HI.out.alloc (by omega) _).trans hb6
      clear hc1 hf1 HI hb6
      obtain ⟨hc1, hf1⟩ := bcell hi6
      have HI : Hid (Below (w.heap.size + 1) (w.alloc (.cells #[.int .i64 org, .slice (some ⟨b, off, none⟩) zs.length cap, .int .u8 t, .int .u8 k, .string nm, .string tx, .int .i64 am, .int .i64 o, .int .i64 s] 28)) w6) := hi6
      have hz6 : w.heap.size + 1 ≤ w6.heap.size := by have := hi6.size; simp at this; omega
      clear hi6
      generalize hE6 : l5 ++ lastB o 1 = l6 at hown6
      have hll6 : l6.length ≤ 203 := by rw [← hE6]; simp only [List.length_append, lastB_len]; omega
      have HE6 : Hid (l5 ++ lastB o 1 = l6) := hE6
      have HO6 := hid hown6
      clear hown6 hE6
      go_wp2_with fail
      refine (appendPair_int _ _ _ (w.heap.size + 1) _ (by omega) (by omega) (by omega) HO6.out hz6).mono ?_
      rintro e w7 ⟨v7, rfl, hown7, hb7⟩
      have hi7 : Below (w.heap.size + 1) (w.alloc (.cells #[.int .i64 org, .slice (some ⟨b, off, none⟩) zs.length cap, .int .u8 t, .int .u8 k, .string nm, .string tx, .int .i64 am, .int .i64 o, .int .i64 s] 28)) w7 := HI.out.trans hb7
      go_wp2
      go_ret
      refine ⟨_, rfl, ?_, ((Below.refl _ _).alloc (Nat.le_refl _) _).trans (hi7.mono (by simp))⟩
      have hfin : encBody org zs t k nm.data.toList tx.data.toList am o s = l6 ++ lastB (s : Int).toNat 2 := by
        rw [← HE6.out, ← HE5.out, ← HE4.out, ← HE3.out, ← HE2.out]
        simp only [encBody, encTail, three, Int.toNat_natCast, HNL.out, HTL.out, List.append_assoc]
      rw [hfin]
      exact Own.mono hown7 (by simp)
end Go.Proofs.Yteljbblbdiploaa
