/-
  WALKS: the statement Round's helpers; the document's example, byte by byte.
-/
import Derived.Test.YteljbblbdiploaaRoundPlain
namespace Go.Proofs.Yteljbblbdiploaa
open Go.RowKit

set_option maxHeartbeats 400000 in
theorem pick_any (c : Int) (n : Nat) (w : World) (h0 : -9223372036854775808 ≤ c) (h1 : c ≤ 9223372036854775807) (hn : 0 < n) (hn1 : n ≤ 1000000) :
    Calls Try.prog 23 #[.int .i64 c, .int .i64 n] w fun e w' => ∃ r : Nat, e = .returned (.int .i64 r) ∧ r < n ∧ w' = w := by
  by_cases hc : c < 0
  · go_enter Try.func23, Try.ntmps23
    go_wp2
    go_ret
    refine ⟨((-(c + 1)) % (n : Int)).toNat, ret_int ?_, ?_, rfl⟩
    · have a1 := Int.emod_nonneg (-(c + 1)) (show (n : Int) ≠ 0 by omega)
      have a2 := Int.emod_lt_of_pos (-(c + 1)) (show (0 : Int) < n by omega)
      rw [← Int.neg_tmod, Int.tmod_eq_emod_of_nonneg (by omega)]
      omega
    · have a1 := Int.emod_nonneg (-(c + 1)) (show (n : Int) ≠ 0 by omega)
      have a2 := Int.emod_lt_of_pos (-(c + 1)) (show (0 : Int) < n by omega)
      omega
  · go_enter Try.func23, Try.ntmps23
    go_wp2
    go_ret
    have a1 := Int.emod_nonneg c (show (n : Int) ≠ 0 by omega)
    have a2 := Int.emod_lt_of_pos c (show (0 : Int) < n by omega)
    exact ⟨(c % (n : Int)).toNat, ret_int (by omega), by omega, rfl⟩

set_option maxHeartbeats 400000 in
theorem count_any (n : Int) (w : World) :
    Calls Try.prog 22 #[.int .i64 n] w fun e w' => e = .returned (.agg #[.int .u8 2, .int .u8 0, .string ⟨#[110]⟩, .string ⟨#[]⟩, .int .i64 n, .int .i64 0, .int .i64 0]) ∧ Below w.heap.size w w' := by
  go_enter Try.func22, Try.ntmps22
  go_wp2
  refine bodyPost_ret (v := .agg #[.int .u8 2, .int .u8 0, .string ⟨#[110]⟩, .string ⟨#[]⟩, .int .i64 n, .int .i64 0, .int .i64 0]) ?_ rfl ⟨rfl, ?_⟩
  · simp [results, Try.results22, go_sem]
  · exact (Below.refl _ _).alloc (Nat.le_refl _) _

theorem ex_good : goodU 0 [1, 0] 2 0 1 0 5 0 0 = true := by decide +kernel
theorem ex_body : withSum (encBody 0 [1, 0] 2 0 [110] [] 5 0 0) = [2, 0, 1, 0, 0, 0, 2, 0, 1, 110, 0, 3, 237, 0, 0, 0, 134, 119, 139, 110] := by decide +kernel
end Go.Proofs.Yteljbblbdiploaa
