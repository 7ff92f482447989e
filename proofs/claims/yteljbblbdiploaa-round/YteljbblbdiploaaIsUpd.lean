/-
  WALKS: what is an update: the document's answer.
-/
import Derived.Test.YteljbblbdiploaaUpd
import Derived.Test.YteljbblbdiploaaOps3
namespace Go.Proofs.Yteljbblbdiploaa
open Go.RowKit

set_option maxHeartbeats 400000 in
theorem isUpdate_short (org t k am o s : Int) (nm tx : ByteArray) (ao : Option Addr) (len cap : Nat) (w : World) (hl : len < 2 ∨ 8 < len) (hm : len ≤ maxLen) :
    Calls Try.prog 28 #[.agg #[.int .i64 org, .slice ao len cap, .int .u8 t, .int .u8 k, .string nm, .string tx, .int .i64 am, .int .i64 o, .int .i64 s]] w
      fun e w' => e = .returned (.bool false) ∧ Below w.heap.size w w' := by
  unfold maxLen at hm
  rcases hl with hl | hl
  · go_enter Try.func28, Try.ntmps28
    go_wp2_with fail
    go_ret
    exact ⟨rfl, (Below.refl _ _).alloc (Nat.le_refl _) _⟩
  · go_enter Try.func28, Try.ntmps28
    go_wp2_with fail
    go_ret
    exact ⟨rfl, (Below.refl _ _).alloc (Nat.le_refl _) _⟩

set_option maxHeartbeats 1000000 in
theorem isUpdate_out (org t k am o s : Int) (nm tx : ByteArray) (ao : Option Addr) (len cap : Nat) (w : World) (h2 : 2 ≤ len) (h8 : len ≤ 8) (hg : org < 0 ∨ (len : Int) ≤ org) :
    Calls Try.prog 28 #[.agg #[.int .i64 org, .slice ao len cap, .int .u8 t, .int .u8 k, .string nm, .string tx, .int .i64 am, .int .i64 o, .int .i64 s]] w
      fun e w' => e = .returned (.bool false) ∧ Below w.heap.size w w' := by
  rcases hg with hg | hg
  · go_enter Try.func28, Try.ntmps28
    go_wp2_with fail
    go_ret
    exact ⟨rfl, (Below.refl _ _).alloc (Nat.le_refl _) _⟩
  · go_enter Try.func28, Try.ntmps28
    go_wp2_with fail
    go_ret
    exact ⟨rfl, (Below.refl _ _).alloc (Nat.le_refl _) _⟩

set_option maxHeartbeats 1000000 in
theorem isUpdate_in (g : Nat) (t k am o s : Int) (nm tx : ByteArray) (b off : Nat) (zs : List Int) (cap : Nat) (w : World) (h2 : 2 ≤ zs.length) (h8 : zs.length ≤ 8) (hgl : g < zs.length)
    (hc : ∀ k, k < zs.length → w.cell? ⟨b, off + k, none⟩ = some (.int .i64 (zs.getD k 0))) (hn : nm.size ≤ maxLen) (hx : tx.size ≤ maxLen) :
    Calls Try.prog 28 #[.agg #[.int .i64 g, .slice (some ⟨b, off, none⟩) zs.length cap, .int .u8 t, .int .u8 k, .string nm, .string tx, .int .i64 am, .int .i64 o, .int .i64 s]] w
      fun e w' => e = .returned (.bool (clkB zs && refOpB t k nm.size tx.size am o s && decide (0 < zs.getD g 0))) ∧ Below w.heap.size w w' := by
  have hbl : b < w.heap.size := lt_of_cell (hc 0 (by omega))
  have HC : Hid (∀ k, k < zs.length → w.cell? ⟨b, off + k, none⟩ = some (.int .i64 (zs.getD k 0))) := hc
  clear hc
  go_enter Try.func28, Try.ntmps28
  go_wp2_with fail
  go_loop [3] (fun i => ∃ j : Nat, j ≤ zs.length ∧ i = .int .i64 j ∧ ∀ q, q < j → wthn (zs.getD q 0) 0 1000 = true) (fun i => zs.length - (intOf i).toNat)
  case atStart => exact ⟨0, by omega, rfl, fun q hq => by omega⟩
  case round =>
    obtain ⟨j, hj, rfl, hall⟩ := hrel
    have HA : Hid (∀ q, q < j → wthn (zs.getD q 0) 0 1000 = true) := hall
    clear hall
    by_cases hlt : j < zs.length
    · have hcell := HC.out j hlt
      by_cases hq : wthn (zs.getD j 0) 0 1000 = true
      · obtain ⟨hq0, hq1⟩ : 0 ≤ zs.getD j 0 ∧ zs.getD j 0 ≤ 1000 := by simpa only [wthn, decide_eq_true_eq] using hq
        have HQ : Hid (wthn (zs.getD j 0) 0 1000 = true) := hq
        clear hq
        generalize hn : zs.getD j 0 = n at *
        have HN : Hid (zs.getD j 0 = n) := hn
        clear hn
        go_wp2_with fail
        go_round
        case rel => exact ⟨j + 1, by omega, by go_num, fun q hq => by
          by_cases hjk : q < j
          · exact HA.out q hjk
          · have : q = j := by omega
            have hz' : zs[j]?.getD 0 = n := by rw [← List.getD_eq_getElem?_getD]; exact HN.out
            rw [this]; first | (rw [hz']; exact HQ.out) | (rw [HN.out]; exact HQ.out)⟩
        case measure => simp [intOf]; omega
      · have hq' : wthn (zs.getD j 0) 0 1000 = false := by simpa using hq
        have HF : Hid (clkB zs = false) := clkB_bad hlt hq'
        have hq2 : zs.getD j 0 < 0 ∨ 1000 < zs.getD j 0 := by simp only [wthn, decide_eq_false_iff_not] at hq'; omega
        clear hq hq'
        generalize zs.getD j 0 = n at *
        rcases hq2 with hq2 | hq2
        · go_wp2_with fail
          go_ret
          exact ⟨by rw [HF.out]; rfl, (Below.refl _ _).alloc (Nat.le_refl _) _⟩
        · go_wp2_with fail
          go_ret
          exact ⟨by rw [HF.out]; rfl, (Below.refl _ _).alloc (Nat.le_refl _) _⟩
    · have HT : Hid (clkB zs = true) := clkB_all (fun q hq => HA.out q (by omega))
      have hcell := HC.out g hgl
      generalize hz : zs.getD g 0 = z at *
      have HZ : Hid (zs.getD g 0 = z) := hz
      clear hz
      go_wp2_with fail
      refine (isOp_any _ _ _ _ _ _ _ _ hn hx).mono ?_
      rintro e w1 ⟨rfl, hb⟩
      have hcell1 : w1.cell? ⟨b, off + g, none⟩ = some (.int .i64 z) := by
        rw [hb.cell (p := ⟨b, off + g, none⟩) (by simp; omega), World.cell?_alloc_past _ b (off + g) hbl]; exact hcell
      obtain ⟨hc1, hf1⟩ := bcell hb
      have HB : Hid (Below w.heap.size w w1) := ((Below.refl _ _).alloc (Nat.le_refl _) _).trans (hb.mono (by simp))
      clear hb
      by_cases hop : refOpB t k nm.size tx.size am o s = true
      · go_wp2_with fail
        go_ret
        have hz' : zs[g]?.getD 0 = z := by rw [← List.getD_eq_getElem?_getD]; exact HZ.out
        exact ⟨ret_bool (by rw [HT.out, hop]; simp [hz']), HB.out⟩
      · go_wp2_with fail
        go_ret
        exact ⟨ret_bool (by simp [hop]), HB.out⟩

theorem isUpdate_long (org t k am o s : Int) (nm tx : ByteArray) (b off : Nat) (zs : List Int) (cap : Nat) (w : World) (h2 : 2 ≤ zs.length) (h8 : zs.length ≤ 8) (hk0 : 0 ≤ k)
    (hc : ∀ k, k < zs.length → w.cell? ⟨b, off + k, none⟩ = some (.int .i64 (zs.getD k 0))) (hn : nm.size ≤ maxLen) (hx : tx.size ≤ maxLen) :
    Calls Try.prog 28 #[.agg #[.int .i64 org, .slice (some ⟨b, off, none⟩) zs.length cap, .int .u8 t, .int .u8 k, .string nm, .string tx, .int .i64 am, .int .i64 o, .int .i64 s]] w
      fun e w' => e = .returned (.bool (updB org zs t k nm.size tx.size am o s)) ∧ Below w.heap.size w w' := by
  by_cases hg : wthn org 0 ((zs.length : Int) - 1) = true
  · obtain ⟨hg0, hg1⟩ : 0 ≤ org ∧ org ≤ (zs.length : Int) - 1 := by simpa [wthn] using hg
    obtain ⟨g, rfl⟩ := Int.eq_ofNat_of_zero_le hg0
    refine (isUpdate_in g t k am o s nm tx b off zs cap w h2 h8 (by omega) hc hn hx).mono ?_
    rintro e w' ⟨rfl, hb⟩
    refine ⟨ret_bool ?_, hb⟩
    rw [updB, hg, Int.toNat_natCast, opB_same _ _ _ _ _ _ _ hk0]
    cases clkB zs <;> cases refOpB t k nm.size tx.size am o s <;> simp
  · have hg' : org < 0 ∨ (zs.length : Int) ≤ org := by simp only [wthn, decide_eq_true_eq] at hg; omega
    refine (isUpdate_out org t k am o s nm tx _ zs.length cap w h2 h8 hg').mono ?_
    rintro e w' ⟨rfl, hb⟩
    exact ⟨ret_bool (by simp [updB, hg]), hb⟩
end Go.Proofs.Yteljbblbdiploaa
