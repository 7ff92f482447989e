/-
  WALKS: what is an update: package check's answer.
-/
import Derived.Test.YteljbblbdiploaaClk
namespace Go.Proofs.Yteljbblbdiploaa
open Go.RowKit

/-- an update that may be, its clock of 2 to 8 numbers -/
def updB (org : Int) (zs : List Int) (t k n x am o s : Int) : Bool :=
  clkB zs && wthn org 0 ((zs.length : Int) - 1) && decide (0 < zs.getD org.toNat 0) && opB t k n x am o s

set_option maxHeartbeats 400000 in
theorem update_short (org t k am o s : Int) (nm tx : ByteArray) (ao : Option Addr) (len cap : Nat) (w : World) (hl : len < 2 ∨ 8 < len) (hm : len ≤ maxLen) :
    Calls Try.prog 25 #[.agg #[.int .i64 org, .slice ao len cap, .int .u8 t, .int .u8 k, .string nm, .string tx, .int .i64 am, .int .i64 o, .int .i64 s]] w
      fun e w' => e = .returned (.bool false) ∧ Below w.heap.size w w' := by
  go_enter Try.func25, Try.ntmps25
  go_wp2_with fail
  refine (clock_short _ _ _ _ hl hm).mono ?_
  rintro e w' ⟨rfl, rfl⟩
  go_wp2_with fail
  go_ret
  exact ⟨rfl, (Below.refl _ _).alloc (Nat.le_refl _) _⟩

theorem lt_of_cell {w : World} {b o : Nat} {v : Value} (h : w.cell? ⟨b, o, none⟩ = some v) : b < w.heap.size := World.block_lt_of_cell? w ⟨b, o, none⟩ h

set_option maxHeartbeats 1000000 in
theorem update_long (org t k am o s : Int) (nm tx : ByteArray) (b off : Nat) (zs : List Int) (cap : Nat) (w : World) (h2 : 2 ≤ zs.length) (h8 : zs.length ≤ 8)
    (hc : ∀ k, k < zs.length → w.cell? ⟨b, off + k, none⟩ = some (.int .i64 (zs.getD k 0))) (hn : nm.size ≤ maxLen) (hx : tx.size ≤ maxLen) :
    Calls Try.prog 25 #[.agg #[.int .i64 org, .slice (some ⟨b, off, none⟩) zs.length cap, .int .u8 t, .int .u8 k, .string nm, .string tx, .int .i64 am, .int .i64 o, .int .i64 s]] w
      fun e w' => e = .returned (.bool (updB org zs t k nm.size tx.size am o s)) ∧ Below w.heap.size w w' := by
  have hbl : b < w.heap.size := lt_of_cell (hc 0 (by omega))
  have HC : Hid (∀ k, k < zs.length → w.cell? ⟨b, off + k, none⟩ = some (.int .i64 (zs.getD k 0))) := hc
  clear hc
  have HK : Hid (∀ O, ∀ k, k < zs.length → (w.alloc O).cell? ⟨b, off + k, none⟩ = some (.int .i64 (zs.getD k 0))) := fun O k hk => by
    rw [World.cell?_alloc_past O b (off + k) hbl]; exact HC.out k hk
  by_cases hk : clkB zs = true
  · by_cases hg : wthn org 0 ((zs.length : Int) - 1) = true
    · obtain ⟨hg0, hg1⟩ : 0 ≤ org ∧ org ≤ (zs.length : Int) - 1 := by simpa [wthn] using hg
      obtain ⟨g, rfl⟩ := Int.eq_ofNat_of_zero_le hg0
      have hgl : g < zs.length := by omega
      have hcell := HC.out g hgl
      generalize hz : zs.getD g 0 = z at *
      have HZ : Hid (zs.getD g 0 = z) := hz
      clear hz
      by_cases hz0 : 0 < z
      · go_enter Try.func25, Try.ntmps25
        go_wp2_with fail
        refine (clock_long _ _ _ _ _ h2 h8 (HK.out _)).mono ?_
        rintro e w' ⟨rfl, rfl⟩
        go_wp2_with fail
        refine (within_any _ _ _ _).mono ?_
        rintro e w' ⟨rfl, rfl⟩
        go_wp2_with fail
        refine (op_any _ _ _ _ _ _ _ _ hn hx).mono ?_
        rintro e w' ⟨rfl, hb⟩
        go_wp2_with fail
        go_ret
        exact ⟨ret_bool (by rw [updB, hk, hg, Int.toNat_natCast, HZ.out]; simp [hz0]), ((Below.refl _ _).alloc (Nat.le_refl _) _).trans (hb.mono (by simp))⟩
      · go_enter Try.func25, Try.ntmps25
        go_wp2_with fail
        refine (clock_long _ _ _ _ _ h2 h8 (HK.out _)).mono ?_
        rintro e w' ⟨rfl, rfl⟩
        go_wp2_with fail
        refine (within_any _ _ _ _).mono ?_
        rintro e w' ⟨rfl, rfl⟩
        go_wp2_with fail
        go_ret
        exact ⟨ret_bool (by rw [updB, hk, hg, Int.toNat_natCast, HZ.out, decide_eq_false (show ¬ 0 < z by omega)]; rfl), (Below.refl _ _).alloc (Nat.le_refl _) _⟩
    · go_enter Try.func25, Try.ntmps25
      go_wp2_with fail
      refine (clock_long _ _ _ _ _ h2 h8 (HK.out _)).mono ?_
      rintro e w' ⟨rfl, rfl⟩
      go_wp2_with fail
      refine (within_any _ _ _ _).mono ?_
      rintro e w' ⟨rfl, rfl⟩
      go_wp2_with fail
      go_ret
      exact ⟨ret_bool (by simp [updB, hg]), (Below.refl _ _).alloc (Nat.le_refl _) _⟩
  · go_enter Try.func25, Try.ntmps25
    go_wp2_with fail
    refine (clock_long _ _ _ _ _ h2 h8 (HK.out _)).mono ?_
    rintro e w' ⟨rfl, rfl⟩
    go_wp2_with fail
    go_ret
    exact ⟨ret_bool (by simp [updB, hk]), (Below.refl _ _).alloc (Nat.le_refl _) _⟩
end Go.Proofs.Yteljbblbdiploaa
