/-
  WALKS: the statements' marks as texts.
-/
import Derived.Test.YteljbblbdiploaaBk3
namespace Go.Proofs.Yteljbblbdiploaa
open Go.RowKit

/-- a mark as a text -/
def wordOf (q : Nat) : ByteArray := ⟨#[UInt8.ofNat ((q : Int) % 256).toNat, UInt8.ofNat ((q : Int) / 256 % 256).toNat, UInt8.ofNat ((q : Int) / 65536 % 256).toNat, UInt8.ofNat (109 : Int).toNat]⟩

theorem conv_four (W : World) (x y z u : Int) : (convert 58 9 (.slice (some ⟨W.heap.size, 0, none⟩) 4 4)).run Try.prog (W.alloc (.cells #[.int .u8 x, .int .u8 y, .int .u8 z, .int .u8 u] 5)) = .ok (.string ⟨#[UInt8.ofNat x.toNat, UInt8.ofNat y.toNat, UInt8.ofNat z.toNat, UInt8.ofNat u.toNat]⟩) (W.alloc (.cells #[.int .u8 x, .int .u8 y, .int .u8 z, .int .u8 u] 5)) :=
  run_convert_bytes_arg (P := Try.prog) _ 58 5 Try.underlying58 Try.underlying5 W.heap.size 0 4 4 [x, y, z, u] rfl (fun i hi => by
    have : i = 0 ∨ i = 1 ∨ i = 2 ∨ i = 3 := by omega
    rcases this with rfl | rfl | rfl | rfl <;> simp) 9 Try.underlying9

set_option maxRecDepth 16000 in
set_option maxHeartbeats 1000000 in
theorem word_any (q : Nat) (w : World) (_hq : q ≤ 1099511627780) :
    Calls Try.prog 35 #[.int .i64 q] w fun e w' => e = .returned (.string (wordOf q)) ∧ Below w.heap.size w w' := by
  have k1 := conv_four w ((q : Int) % 256) ((q : Int) / 256 % 256) ((q : Int) / 65536 % 256) 109
  go_enter Try.func35, Try.ntmps35
  go_wp2_with fail
  go_ret
  exact ⟨rfl, (Below.refl _ _).alloc (Nat.le_refl _) _⟩
end Go.Proofs.Yteljbblbdiploaa
