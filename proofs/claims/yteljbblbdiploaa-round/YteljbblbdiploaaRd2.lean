/-
  WALKS: package wire's reader: pair; what its text is to do.
-/
import Derived.Test.YteljbblbdiploaaRd
namespace Go.Proofs.Yteljbblbdiploaa
open Go.RowKit

theorem or_pair (h b : Nat) (hh : h < 256) (hb : b < 256) : bits .or .i64 ((h : Int) * 256) (b : Int) = ((256 * h + b : Nat) : Int) := by
  have := bits_join .i64 16 (by decide) (fun n h0 h1 => by rw [IntKind.wrap_i64]; omega) 8 ((h : Int) * 256) (b : Int) (by omega) (by omega) (by omega) (by omega) (by omega) (by omega)
  rw [this]; omega

set_option maxHeartbeats 1000000 in
theorem pair_any (B : Nat) (l : List UInt8) (p : Nat) (w : World) (hr : AtR w B l p) (hl : l.length ≤ maxLen) :
    Calls Try.prog 58 #[.pointer (some ⟨B, 0, none⟩)] w fun e w' => e = .returned (.int .i64 (pairAt l p : Nat)) ∧ AtR w' B l (p + 2) ∧ w.grownBy w' (some B) := by
  have HR := hid hr
  clear hr
  have h1 := byteAt_lt l p
  have h2 := byteAt_lt l (p + 1)
  have HO := hid (or_pair _ _ h1 h2)
  have HP : Hid (pairAt l p = 256 * byteAt l p + byteAt l (p + 1)) := rfl
  go_enter Try.func58, Try.ntmps58
  go_wp2_with fail
  refine (single_any B l p _ HR.out hl).mono ?_
  rintro e w1 ⟨rfl, hr1, hg1⟩
  have HR1 := hid hr1
  have HG1 := hid hg1
  clear hr1 hg1
  generalize byteAt l p = a at *
  go_wp2_with fail
  refine (single_any B l (p + 1) _ HR1.out hl).mono ?_
  rintro e w2 ⟨rfl, hr2, hg2⟩
  have HR2 := hid hr2
  have HG2 := hid hg2
  clear hr2 hg2
  generalize byteAt l (p + 1) = b at *
  go_wp2
  go_ret
  refine ⟨?_, HR2.out, grown_trans HG1.out HG2.out⟩
  rw [HP.out]
  exact ret_int HO.out
end Go.Proofs.Yteljbblbdiploaa
