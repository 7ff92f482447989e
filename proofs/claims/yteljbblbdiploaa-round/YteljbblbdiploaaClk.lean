/-
  WALKS: what is a clock, what is an update: package check's answer.
-/
import Derived.Test.YteljbblbdiploaaOps2
namespace Go.Proofs.Yteljbblbdiploaa
open Go.RowKit

/-- a clock's numbers that may be -/
def clkB (zs : List Int) : Bool := decide (∀ n ∈ zs, 0 ≤ n ∧ n ≤ 1000)

theorem clkB_bad {zs : List Int} {k : Nat} (hk : k < zs.length) (h : wthn (zs.getD k 0) 0 1000 = false) : clkB zs = false := by
  have : ¬ (0 ≤ zs.getD k 0 ∧ zs.getD k 0 ≤ 1000) := by simpa [wthn] using h
  simp only [clkB, decide_eq_false_iff_not]
  intro q
  exact this (q _ (by simp [hk]))
theorem clkB_all {zs : List Int} (h : ∀ j, j < zs.length → wthn (zs.getD j 0) 0 1000 = true) : clkB zs = true := by
  simp only [clkB, decide_eq_true_eq]
  intro n hn
  obtain ⟨j, hj, rfl⟩ := List.mem_iff_getElem.1 hn
  have := h j hj
  simp [wthn, hj] at this
  exact this

set_option maxHeartbeats 400000 in
theorem clock_short (ao : Option Addr) (len cap : Nat) (w : World) (hl : len < 2 ∨ 8 < len) (hm : len ≤ maxLen) :
    Calls Try.prog 50 #[.slice ao len cap] w fun e w' => e = .returned (.bool false) ∧ w' = w := by
  unfold maxLen at hm
  have hw : wthn (len : Int) 2 8 = false := by simp [wthn]; omega
  go_enter Try.func50, Try.ntmps50
  go_wp2_with (go_at_call 51; refine (within_any _ _ _ _).mono ?_; rintro e w' ⟨rfl, rfl⟩)
  go_ret
  exact ⟨rfl, rfl⟩

set_option maxHeartbeats 400000 in
theorem clock_long (b off : Nat) (zs : List Int) (cap : Nat) (w : World) (h2 : 2 ≤ zs.length) (h8 : zs.length ≤ 8) (hc : ∀ k, k < zs.length → w.cell? ⟨b, off + k, none⟩ = some (.int .i64 (zs.getD k 0))) :
    Calls Try.prog 50 #[.slice (some ⟨b, off, none⟩) zs.length cap] w fun e w' => e = .returned (.bool (clkB zs)) ∧ w' = w := by
  have HC : Hid (∀ k, k < zs.length → w.cell? ⟨b, off + k, none⟩ = some (.int .i64 (zs.getD k 0))) := hc
  clear hc
  have hw : wthn (zs.length : Int) 2 8 = true := by simp [wthn]; omega
  go_enter Try.func50, Try.ntmps50
  go_wp2_with (go_at_call 51; refine (within_any _ _ _ _).mono ?_; rintro e w' ⟨rfl, rfl⟩)
  go_loop [11] (fun i => ∃ k : Nat, k ≤ zs.length ∧ i = .int .i64 k ∧ ∀ j, j < k → wthn (zs.getD j 0) 0 1000 = true) (fun i => zs.length - (intOf i).toNat)
  case atStart => exact ⟨0, by omega, rfl, fun j hj => by omega⟩
  case round =>
    obtain ⟨k, hk, rfl, hall⟩ := hrel
    have HA : Hid (∀ j, j < k → wthn (zs.getD j 0) 0 1000 = true) := hall
    clear hall
    by_cases hlt : k < zs.length
    · have hcell := HC.out k hlt
      by_cases hq : wthn (zs.getD k 0) 0 1000 = true
      · have HQ : Hid (wthn (zs.getD k 0) 0 1000 = true) := hq
        generalize hn : zs.getD k 0 = n at *
        have HN : Hid (zs.getD k 0 = n) := hn
        clear hn
        go_wp2_with (go_at_call 51; refine (within_any _ _ _ _).mono ?_; rintro e w' ⟨rfl, rfl⟩)
        go_round
        case rel => exact ⟨k + 1, by omega, by go_num, fun j hj => by
          by_cases hjk : j < k
          · exact HA.out j hjk
          · have : j = k := by omega
            rw [this, HN.out]; exact HQ.out⟩
        case measure => simp [intOf]; omega
      · have hq' : wthn (zs.getD k 0) 0 1000 = false := by simpa using hq
        have HF : Hid (clkB zs = false) := clkB_bad hlt hq'
        clear hq
        generalize zs.getD k 0 = n at *
        go_wp2_with (go_at_call 51; refine (within_any _ _ _ _).mono ?_; rintro e w' ⟨rfl, rfl⟩)
        go_ret
        exact ⟨by rw [HF.out]; rfl, rfl⟩
    · have HT : Hid (clkB zs = true) := clkB_all (fun j hj => HA.out j (by omega))
      go_wp2
      go_ret
      exact ⟨by rw [HT.out]; rfl, rfl⟩
end Go.Proofs.Yteljbblbdiploaa
