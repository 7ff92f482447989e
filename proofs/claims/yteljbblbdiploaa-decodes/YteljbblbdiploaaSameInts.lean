/-
  WALKS: the statements' own 'sameInts', of two lists that hold the same.
-/
import Derived.Test.YteljbblbdiploaaBk3
import Derived.BigQuiet
namespace Go.Proofs.Yteljbblbdiploaa
open Go.RowKit

theorem own_at_later {w w' : World} {ao : Option Addr} {zs : List Int} (h : ∀ j, j < zs.length → ∃ a, ao = some ⟨a, 0, none⟩ ∧ w.cell? ⟨a, j, none⟩ = some (.int .i64 (zs.getD j 0))) (hb : Below w.heap.size w w') : ∀ j, j < zs.length → ∃ a, ao = some ⟨a, 0, none⟩ ∧ w'.cell? ⟨a, j, none⟩ = some (.int .i64 (zs.getD j 0)) := by
  intro j hj
  obtain ⟨a, h1, h2⟩ := h j hj
  exact ⟨a, h1, (hb.cell (World.block_lt_of_cell? w _ h2)).trans h2⟩

theorem below_drewN {B : Nat} {a w : World} (h : Below B a w) (n : Nat) : Below B a (w.drewN n) := ⟨h.os, h.tape, h.output, h.size, h.block⟩

set_option maxRecDepth 16000 in
set_option maxHeartbeats 2000000 in
theorem sameInts_same (base : Nat) (va vb : Value) (zs : List Int) (w : World) (ha : w.ownsRow base 3 1 va zs.length (ics zs)) (hb : w.ownsRow base 3 1 vb zs.length (ics zs)) (hn : zs.length ≤ 1099511627776) :
    Calls Try.prog 14 #[va, vb] w fun e w' => e = .returned (.bool true) ∧ Below w.heap.size w w' := by
  obtain ⟨ao, ca, rfl, h1⟩ := own_at ha
  obtain ⟨bo, cb, rfl, h2⟩ := own_at hb
  have H1 := hid h1
  have H2 := hid h2
  clear h1 h2 ha hb
  go_enter Try.func14, Try.ntmps14
  go_wp2_with fail
  go_loopw [5] (fun i wr => ∃ j : Nat, j ≤ zs.length ∧ i = .int .i64 j ∧ Below w.heap.size w wr) (fun i _ => zs.length - (intOf i).toNat)
  case atStart => exact ⟨0, by omega, rfl, Below.refl _ _⟩
  case round =>
    obtain ⟨j, hj, rfl, hb⟩ := hrel
    have HB := hid hb
    by_cases hlt : j < zs.length
    · obtain ⟨a, rfl, q1⟩ := own_at_later H1.out hb j hlt
      obtain ⟨b, rfl, q2⟩ := own_at_later H2.out hb j hlt
      generalize zs.getD j 0 = z at *
      clear hb
      go_wp2_with fail
      go_quiet (fail)
      all_goals
        go_wp2_with fail
        go_roundw
        case rel => exact ⟨j + 1, by omega, by go_num, below_drewN HB.out _⟩
        case measure => simp [intOf]; omega
    · clear hb
      go_wp2_with fail
      go_ret
      exact ⟨rfl, HB.out⟩
end Go.Proofs.Yteljbblbdiploaa
