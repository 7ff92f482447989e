/-
  WALKS: package wire's Encode.
-/
import Derived.Test.YteljbblbdiploaaAppUpd
namespace Go.Proofs.Yteljbblbdiploaa
open Go.RowKit

theorem upd_parts {org : Int} {zs : List Int} {t k n x am o s : Int} (h : updB org zs t k n x am o s = true) :
    (0 ≤ org ∧ org < zs.length) ∧ (∀ j, j < zs.length → 0 ≤ zs.getD j 0 ∧ zs.getD j 0 ≤ 1000) ∧ (1 ≤ n ∧ n ≤ 8) ∧ x ≤ 20 ∧ (-1000 ≤ am ∧ am ≤ 1000) ∧ (0 ≤ o ∧ o ≤ 7) ∧ (0 ≤ s ∧ s ≤ 1000) ∧ 0 < zs.getD org.toNat 0 := by
  simp only [updB, opB, Bool.and_eq_true, decide_eq_true_eq, clkB, wthn, inbB, ancB] at h
  obtain ⟨⟨⟨h1, h2⟩, h3⟩, ⟨h4, h5⟩, h6⟩ := h
  refine ⟨by omega, ?_, by omega, by omega, by omega, by omega, by omega, h3⟩
  intro j hj
  exact h1 _ (by simp [hj])

theorem bsize (b : ByteArray) : b.data.toList.length = b.size := Array.length_toList

theorem conv_own {w : World} {g cap : Nat} {l : List UInt8} (hc : ∀ j, j < l.length → w.cell? ⟨g, 0 + j, none⟩ = some (.int .u8 ((l.getD j 0).toNat : Nat))) :
    (convert 58 9 (.slice (some ⟨g, 0, none⟩) l.length cap)).run Try.prog w = .ok (.string ⟨l.toArray⟩) w :=
  run_convert_bytes_back (P := Try.prog) w 58 9 5 ⟨g, 0, none⟩ cap l Try.underlying58 Try.underlying5 Try.underlying9 (fun j hj => by
    have hadd : (⟨g, 0, none⟩ : Addr).add j = ⟨g, 0 + j, none⟩ := by unfold Addr.add; split <;> simp_all
    rw [hadd, hc j hj]; simp [hj])

set_option maxHeartbeats 400000 in
theorem wEncode_short (org t k am o s : Int) (nm tx : ByteArray) (ao : Option Addr) (len cap : Nat) (w : World) (hl : len < 2 ∨ 8 < len) (hm : len ≤ maxLen) :
    Calls Try.prog 9 #[.agg #[.int .i64 org, .slice ao len cap, .int .u8 t, .int .u8 k, .string nm, .string tx, .int .i64 am, .int .i64 o, .int .i64 s]] w
      fun e w' => e = .returned (.tuple #[.string ⟨#[]⟩, .int .i64 2]) ∧ Below w.heap.size w w' := by
  go_enter Try.func9, Try.ntmps9
  go_wp2_with fail
  refine (update_short _ _ _ _ _ _ _ _ _ _ _ _ hl hm).mono ?_
  rintro e w1 ⟨rfl, hb⟩
  go_wp2_with fail
  go_ret2
  exact ⟨rfl, ((Below.refl _ _).alloc (Nat.le_refl _) _).trans (hb.mono (by simp))⟩

set_option maxHeartbeats 400000 in
theorem wEncode_no (org t k am o s : Int) (nm tx : ByteArray) (b off : Nat) (zs : List Int) (cap : Nat) (w : World) (h2 : 2 ≤ zs.length) (h8 : zs.length ≤ 8)
    (hc : ∀ k, k < zs.length → w.cell? ⟨b, off + k, none⟩ = some (.int .i64 (zs.getD k 0))) (hn : nm.size ≤ maxLen) (hx : tx.size ≤ maxLen) (hu : updB org zs t k nm.size tx.size am o s = false) :
    Calls Try.prog 9 #[.agg #[.int .i64 org, .slice (some ⟨b, off, none⟩) zs.length cap, .int .u8 t, .int .u8 k, .string nm, .string tx, .int .i64 am, .int .i64 o, .int .i64 s]] w
      fun e w' => e = .returned (.tuple #[.string ⟨#[]⟩, .int .i64 2]) ∧ Below w.heap.size w w' := by
  have hbl : b < w.heap.size := lt_of_cell (hc 0 (by omega))
  have HK : Hid (∀ O, ∀ k, k < zs.length → (w.alloc O).cell? ⟨b, off + k, none⟩ = some (.int .i64 (zs.getD k 0))) := fun O k hk => by
    rw [World.cell?_alloc_past O b (off + k) hbl]; exact hc k hk
  clear hc
  go_enter Try.func9, Try.ntmps9
  go_wp2_with fail
  refine (update_long _ _ _ _ _ _ _ _ _ _ _ _ _ h2 h8 (HK.out _) hn hx).mono ?_
  rintro e w1 ⟨rfl, hb⟩
  go_wp2_with fail
  go_ret2
  exact ⟨rfl, ((Below.refl _ _).alloc (Nat.le_refl _) _).trans (hb.mono (by simp))⟩

set_option maxHeartbeats 2000000 in
theorem wEncode_yes (org t k am o s : Int) (nm tx : ByteArray) (b off : Nat) (zs : List Int) (cap : Nat) (w : World) (h2 : 2 ≤ zs.length) (h8 : zs.length ≤ 8)
    (hc : ∀ k, k < zs.length → w.cell? ⟨b, off + k, none⟩ = some (.int .i64 (zs.getD k 0))) (ht0 : 0 ≤ t) (ht1 : t < 256) (hk0 : 0 ≤ k) (hk1 : k < 256) (hu : updB org zs t k nm.size tx.size am o s = true) :
    Calls Try.prog 9 #[.agg #[.int .i64 org, .slice (some ⟨b, off, none⟩) zs.length cap, .int .u8 t, .int .u8 k, .string nm, .string tx, .int .i64 am, .int .i64 o, .int .i64 s]] w
      fun e w' => e = .returned (.tuple #[.string ⟨(withSum (encBody org zs t k nm.data.toList tx.data.toList am o s)).toArray⟩, .int .i64 0]) ∧ Below w.heap.size w w' := by
  obtain ⟨⟨ho0, ho1⟩, hzz, ⟨hn1, hn8⟩, hx20, ⟨ha0, ha1⟩, ⟨hq0, hq7⟩, ⟨hs0, hs1⟩, _⟩ := upd_parts hu
  obtain ⟨org, rfl⟩ := Int.eq_ofNat_of_zero_le ho0
  obtain ⟨t, rfl⟩ := Int.eq_ofNat_of_zero_le ht0
  obtain ⟨k, rfl⟩ := Int.eq_ofNat_of_zero_le hk0
  obtain ⟨o, rfl⟩ := Int.eq_ofNat_of_zero_le hq0
  obtain ⟨s, rfl⟩ := Int.eq_ofNat_of_zero_le hs0
  have hbl : b < w.heap.size := lt_of_cell (hc 0 (by omega))
  have HZ : Hid (∀ j, j < zs.length → 0 ≤ zs.getD j 0 ∧ zs.getD j 0 ≤ 1000) := hzz
  have HK : Hid (∀ O, ∀ k, k < zs.length → (w.alloc O).cell? ⟨b, off + k, none⟩ = some (.int .i64 (zs.getD k 0))) := fun O k hk => by
    rw [World.cell?_alloc_past O b (off + k) hbl]; exact hc k hk
  have hbody : (encBody org zs t k nm.data.toList tx.data.toList am o s).length ≤ 100 := by
    rw [encBody_len, bsize nm, bsize tx]; omega
  have hbody0 : 0 < (encBody org zs t k nm.data.toList tx.data.toList am o s).length := by rw [encBody_len]; omega
  clear hc hzz
  go_enter Try.func9, Try.ntmps9
  go_wp2_with fail
  refine (update_long _ _ _ _ _ _ _ _ _ _ _ _ _ h2 h8 (HK.out _) (by unfold maxLen; omega) (by unfold maxLen; omega)).mono ?_
  rintro e w1 ⟨rfl, hb⟩
  obtain ⟨hc1, hf1⟩ := bcell hb
  have HB := hid hb
  have HK1 : Hid (∀ k, k < zs.length → w1.cell? ⟨b, off + k, none⟩ = some (.int .i64 (zs.getD k 0))) := fun k hk => by
    rw [hb.cell (p := ⟨b, off + k, none⟩) (by simp; omega)]; exact HK.out _ k hk
  have hz1 : w.heap.size < w1.heap.size := by have := hb.size; simp at this; omega
  clear hb
  go_wp2_with fail
  refine (layUpdate_any org t k o s am nm tx b off zs cap w1 h2 h8 HK1.out HZ.out (by omega) (by omega) (by omega) (by omega) (by omega) ha0 ha1 (by omega) (by omega)).mono ?_
  rintro e w2 ⟨v, rfl, hown, hb2⟩
  obtain ⟨g, cap2, rfl, hg, hcell⟩ := hown.open hbody0
  have HO := hid hown
  have HC2 := hid hcell
  have HB2 := hid hb2
  have hz2 : w1.heap.size ≤ w2.heap.size := hb2.size
  clear hown hcell hb2
  generalize hbd : encBody org zs t k nm.data.toList tx.data.toList am o s = l at *
  have HBD := hid hbd
  clear hbd
  go_wp2_with fail
  refine (seal_any g cap2 l w1.heap.size _ (by omega) HO.out HC2.out hz2).mono ?_
  rintro e w3 ⟨v3, rfl, hown3, hb3⟩
  obtain ⟨g3, cap3, rfl, hg3, hcell3⟩ := hown3.open (by unfold withSum; rw [List.length_append]; omega)
  have HB3 := hid hb3
  have kc := conv_own (cap := cap3) hcell3
  clear hown3 hcell3 hb3
  generalize hws : withSum l = l3 at *
  have HWS := hid hws
  clear hws
  go_wp2_with fail
  go_ret2
  refine ⟨?_, ((((Below.refl _ _).alloc (Nat.le_refl _) _).trans (HB.out.mono (by simp))).trans (HB2.out.mono (by omega))).trans (HB3.out.mono (by omega))⟩
  rw [HBD.out, HWS.out]
  rfl
end Go.Proofs.Yteljbblbdiploaa
