/-
  WALKS: package wire's Decode.
-/
import Derived.Test.YteljbblbdiploaaReadU
import Derived.Test.YteljbblbdiploaaBoth
namespace Go.Proofs.Yteljbblbdiploaa
open Go.RowKit

/-- the bytes are those of this update -/
def IsEnc (l : List UInt8) (org : Int) (zs : List Int) (t k : Int) (nm tx : List UInt8) (am o s : Int) : Prop :=
  goodU org zs t k nm.length tx.length am o s = true ∧ (0 ≤ t ∧ t < 256) ∧ (0 ≤ k ∧ k < 256) ∧ l = withSum (encBody org zs t k nm tx am o s)

/-- what is read out of bytes that are an update's -/
theorem isEnc_read {l : List UInt8} {org : Int} {zs : List Int} {t k : Int} {nm tx : List UInt8} {am o s : Int} (h : IsEnc l org zs t k nm tx am o s) (x : List UInt8) (m : List UInt8) (hm : m = encBody org zs t k nm tx am o s ++ x) :
    byteAt m 0 = zs.length ∧ clkAt m (byteAt m 0) = zs ∧ ((byteAt m (pO m) : Nat) : Int) = org ∧ ((byteAt m (pO m + 1) : Nat) : Int) = t ∧ ((byteAt m (pO m + 2) : Nat) : Int) = k ∧ kN m = nm.length ∧ cutAt m (pO m + 4) (kN m) = nm ∧
      kX m = tx.length ∧ cutAt m (pX m + 1) (kX m) = tx ∧ ((pairAt m (pA m) : Nat) : Int) - 1000 = am ∧ ((byteAt m (pA m + 2) : Nat) : Int) = o ∧ ((pairAt m (pA m + 3) : Nat) : Int) = s ∧ pA m + 5 ≤ m.length := by
  obtain ⟨hg, ht, hk, _⟩ := h
  simp only [goodU, Bool.and_eq_true, decide_eq_true_eq] at hg
  obtain ⟨⟨h2, h8⟩, hu⟩ := hg
  obtain ⟨h1, hz, hn, hx, ha, ho, hs, _⟩ := upd_parts hu
  refine read_back org zs t k nm tx am o s x (by omega) ?_ (by omega) ht hk (by omega) (by omega) ha (by omega) (by omega) m hm
  intro z hzm
  obtain ⟨j, hj, rfl⟩ := List.mem_iff_getElem.1 hzm
  have := hz j hj
  simpa [hj] using this

set_option maxHeartbeats 2000000 in
theorem wDecode_yes (hT : TextSaid) (s : ByteArray) (w : World) (hs : s.size ≤ 140737488351232) (org : Int) (zs : List Int) (t k : Int) (nm tx : List UInt8) (am o q : Int) (h : IsEnc s.data.toList org zs t k nm tx am o q) :
    Calls Try.prog 12 #[.string s] w fun e w' => ∃ ao cp, e = .returned (.tuple #[.agg #[.int .i64 org, .slice ao zs.length cp, .int .u8 t, .int .u8 k, .string ⟨nm.toArray⟩, .string ⟨tx.toArray⟩, .int .i64 am, .int .i64 o, .int .i64 q], .int .i64 0]) ∧
      w'.ownsRow w.heap.size 3 1 (.slice ao zs.length cp) zs.length (ics zs) ∧ Below w.heap.size w w' := by
  have hr := isEnc_read h (lastB (crcSum (encBody org zs t k nm tx am o q)) 4) s.data.toList h.2.2.2
  obtain ⟨r0, r1, r2, r3, r4, r5, r6, r7, r8, r9, r10, r11, _⟩ := hr
  have hru := readUpdate_any hT s
  have hml : zs.length ≤ maxLen := by
    have := h.1
    simp only [goodU, Bool.and_eq_true, decide_eq_true_eq] at this
    unfold maxLen; omega
  have hne : (⟨nm.toArray⟩ : ByteArray).size = nm.length := by simp [ByteArray.size]
  have hxe : (⟨tx.toArray⟩ : ByteArray).size = tx.length := by simp [ByteArray.size]
  have hgd := h.1
  simp only [goodU, Bool.and_eq_true, decide_eq_true_eq] at hgd
  have hpp := upd_parts hgd.2
  have HR : Hid (encR org zs t k ⟨nm.toArray⟩ ⟨tx.toArray⟩ am o q = s) := by
    show _ = _
    rw [encR, hne, hxe, if_pos h.1]
    show (⟨(withSum (encBody org zs t k nm tx am o q)).toArray⟩ : ByteArray) = s
    rw [← h.2.2.2]
  have HE : Hid (encE org zs t k ⟨nm.toArray⟩ ⟨tx.toArray⟩ am o q = 0) := by
    show _ = _
    rw [encE, hne, hxe, if_pos h.1]
  have hn8 : (⟨nm.toArray⟩ : ByteArray).size ≤ maxLen := by rw [hne]; unfold maxLen; omega
  have hx8 : (⟨tx.toArray⟩ : ByteArray).size ≤ maxLen := by rw [hxe]; unfold maxLen; omega
  obtain ⟨_, ⟨ht0, ht1⟩, ⟨hk0, hk1⟩, _⟩ := h
  rw [r1, r0, r2, r3, r4, r6, r8, r9, r10, r11] at hru
  have HRU := hid hru
  clear hru r0 r1 r2 r3 r4 r5 r6 r7 r8 r9 r10 r11 hne hxe hgd hpp
  go_enter Try.func12, Try.ntmps12
  go_wp2_with fail
  refine (HRU.out _ hs).mono ?_
  rintro e w1 ⟨sl, rfl, hown, hb1⟩
  obtain ⟨ao, cp, rfl⟩ := own_form hown
  have hz1 : w.heap.size + 1 ≤ w1.heap.size := by have := hb1.size; simp at this; omega
  have hU1 : Ub w1 w.heap.size (.int .i64 0) (.slice none 0 0) (.int .u8 0) (.int .u8 0) (.string ⟨#[]⟩) (.string ⟨#[]⟩) (.int .i64 0) (.int .i64 0) (.int .i64 0) := Ub.below (w := w.alloc (.cells #[.int .i64 0, .slice none 0 0, .int .u8 0, .int .u8 0, .string ⟨#[]⟩, .string ⟨#[]⟩, .int .i64 0, .int .i64 0, .int .i64 0] 28)) (heap_alloc_new w _) hb1 (by simp)
  have hbA : Below w1.heap.size w1 (w1.alloc (.cells #[.int .i64 org, .slice ao zs.length cp, .int .u8 t, .int .u8 k, .string ⟨nm.toArray⟩, .string ⟨tx.toArray⟩, .int .i64 am, .int .i64 o, .int .i64 q] 28)) := (Below.refl _ _).alloc (Nat.le_refl _) _
  have henc := wEncode_any org t k am o q ⟨nm.toArray⟩ ⟨tx.toArray⟩ ao cp zs _ ((own_clk2 hown).2.later hbA) hml hn8 hx8 ht0 ht1 hk0 hk1
  rw [HR.out, HE.out] at henc
  have HEN := hid henc
  have HO1 := hid hown
  have HU1 := hid hU1
  have HB1 := hid hb1
  have HBA := hid hbA
  clear henc hown hU1 hb1 hbA
  go_wp2_with fail
  refine HEN.out.mono ?_
  rintro e w2 ⟨rfl, hb2⟩
  have h12 : Below w1.heap.size w1 w2 := HBA.out.trans (hb2.mono (by simp))
  have hA2 : Below (w1.heap.size + 1) (w1.alloc (.cells #[.int .i64 org, .slice ao zs.length cp, .int .u8 t, .int .u8 k, .string ⟨nm.toArray⟩, .string ⟨tx.toArray⟩, .int .i64 am, .int .i64 o, .int .i64 q] 28)) w2 := hb2.mono (by simp)
  obtain ⟨p0, p1, p2, p3, p4, p5, p6, p7, p8⟩ := box_cells hA2
  have HU2 := hid (HU1.out.below h12 (by omega))
  have HO2 := hid (ownsRow_later HO1.out h12)
  obtain ⟨hr2, hf2⟩ := HU2.out.cells
  have HB2 : Hid (Below w.heap.size w w2) := (((Below.refl _ _).alloc (Nat.le_refl _) _).trans (HB1.out.mono (by simp))).trans (h12.mono (by omega))
  clear hb2 h12 hA2
  go_wp2_with fail
  refine bodyPost_ret (v := .tuple #[.agg #[.int .i64 org, .slice ao zs.length cp, .int .u8 t, .int .u8 k, .string ⟨nm.toArray⟩, .string ⟨tx.toArray⟩, .int .i64 am, .int .i64 o, .int .i64 q], .int .i64 0]) ?_ rfl ⟨ao, cp, rfl, ?_, ?_⟩
  · simp [results, Try.results12, go_sem, hr2]
  · refine ownsRow_mono ?_ (show w.heap.size ≤ w.heap.size + 1 by omega)
    iterate 9 (refine ownsRow_setCell_below ?_ (by simp) _)
    simpa using HO2.out
  · iterate 9 (refine Below.setCell ?_ (by simp) _)
    exact HB2.out
end Go.Proofs.Yteljbblbdiploaa
