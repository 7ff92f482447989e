/-
  WALKS: the law Round.
-/
import Derived.Test.YteljbblbdiploaaRnd1
import Derived.Test.YteljbblbdiploaaOpenU
import Derived.BigQuiet
import Derived.Deep.QuietTactic
import Derived.Deep.RegionHeld3
namespace Go.Proofs.Yteljbblbdiploaa
open Go.RowKit

theorem ex_good' : goodU 0 [1, 0] 2 0 ((⟨#[110]⟩ : ByteArray).size : Nat) ((⟨#[]⟩ : ByteArray).size : Nat) 5 0 0 = true := ex_good
theorem ex_R : encR 0 [1, 0] 2 0 ⟨#[110]⟩ ⟨#[]⟩ 5 0 0 = ⟨#[2, 0, 1, 0, 0, 0, 2, 0, 1, 110, 0, 3, 237, 0, 0, 0, 134, 119, 139, 110]⟩ := by
  rw [encR, if_pos ex_good']
  exact congrArg (fun l : List UInt8 => (⟨l.toArray⟩ : ByteArray)) ex_body
theorem ex_E : encE 0 [1, 0] 2 0 ⟨#[110]⟩ ⟨#[]⟩ 5 0 0 = 0 := by rw [encE, if_pos ex_good']

/-- the document's example -/
theorem ex_enc (B : Nat) (w : World) (h0 : w.cell? ⟨B, 0, none⟩ = some (.int .i64 1)) (h1 : w.cell? ⟨B, 1, none⟩ = some (.int .i64 0)) :
    Calls Try.prog 9 #[.agg #[.int .i64 0, .slice (some ⟨B, 0, none⟩) 2 2, .int .u8 2, .int .u8 0, .string ⟨#[110]⟩, .string ⟨#[]⟩, .int .i64 5, .int .i64 0, .int .i64 0]] w
      fun e w' => ∃ K : ByteArray, e = .returned (.tuple #[.string K, .int .i64 0]) ∧ K.size = 20 ∧ ((K.extract 0 16).toList == [2, 0, 1, 0, 0, 0, 2, 0, 1, 110, 0, 3, 237, 0, 0, 0]) = true ∧ Below w.heap.size w w' := by
  have hc : ClkAt w (some ⟨B, 0, none⟩) 2 [1, 0] := .inr ⟨_, rfl, fun j hj => by
    have hj' : j < 2 := hj
    rw [Addr.add_lit, Nat.zero_add]
    match j, hj' with
    | 0, _ => exact h0
    | 1, _ => exact h1⟩
  have := wEncode_any 0 2 0 5 0 0 ⟨#[110]⟩ ⟨#[]⟩ (some ⟨B, 0, none⟩) 2 [1, 0] w hc (by decide) (by decide) (by decide) (by decide) (by decide) (by decide) (by decide)
  rw [ex_R, ex_E] at this
  exact this.mono fun e w' h => ⟨_, h.1, rfl, by rw [Lib.extract_toList]; decide, h.2⟩

set_option maxHeartbeats 4000000 in
theorem round_no (org t k am o s a b : Int) (nm tx : ByteArray) (ao : Option Addr) (cap : Nat) (zs : List Int) (w : World) (hsrc : ClkAt w ao cap zs) (hl : zs.length * 8 ≤ 140737488351232) (hn : nm.size ≤ maxLen) (hx : tx.size ≤ maxLen)
    (ht0 : 0 ≤ t) (ht1 : t < 256) (hk0 : 0 ≤ k) (hk1 : k < 256) (hg : goodU org zs t k nm.size tx.size am o s = false) :
    Calls Try.prog 6 #[.agg #[.int .i64 org, .slice ao zs.length cap, .int .u8 t, .int .u8 k, .string nm, .string tx, .int .i64 am, .int .i64 o, .int .i64 s], .int .i64 a, .int .i64 b] w
      fun e w' => e = .returned (.bool true) ∧ Below w.heap.size w w' := by
  have HSRC := hid hsrc
  have HG := hid hg
  clear hsrc hg
  go_enter Try.func6, Try.ntmps6
  go_wp2_with fail
  refine (count_any 5 _).mono ?_
  rintro e w1 ⟨rfl, hb1⟩
  have hz1 : w.heap.size + 2 ≤ w1.heap.size := by have := hb1.size; simp at this; omega
  have e0 : w1.cell? ⟨w.heap.size + 1, 0, none⟩ = some (.int .i64 1) := by rw [hb1.cell (p := ⟨w.heap.size + 1, 0, none⟩) (by simp), World.cell?_alloc_at _ _ _ _ (by simp)]; rfl
  have e1 : w1.cell? ⟨w.heap.size + 1, 1, none⟩ = some (.int .i64 0) := by rw [hb1.cell (p := ⟨w.heap.size + 1, 1, none⟩) (by simp), World.cell?_alloc_at _ _ _ _ (by simp)]; rfl
  have HEX := hid (ex_enc _ _ e0 e1)
  have HU1 : Hid (Below (w.heap.size + 1) (w.alloc (.cells #[.int .i64 org, .slice ao zs.length cap, .int .u8 t, .int .u8 k, .string nm, .string tx, .int .i64 am, .int .i64 o, .int .i64 s] 28)) w1) := ((Below.refl _ _).alloc (by simp) _).trans (hb1.mono (by simp))
  clear e0 e1 hb1
  go_wp2_with fail
  refine HEX.out.mono ?_
  rintro e w2 ⟨K, rfl, hK0, hK1, hb2⟩
  have hU2 := HU1.out.trans (hb2.mono (by omega))
  have HU2 := hid hU2
  have hz2 : w1.heap.size ≤ w2.heap.size := hb2.size
  obtain ⟨p0, p1, p2, p3, p4, p5, p6, p7, p8⟩ := box_cells hU2
  have HB2 : Hid (Below w.heap.size w w2) := ((Below.refl _ _).alloc (Nat.le_refl _) _).trans (hU2.mono (by omega))
  clear hb2 hU2 HEX
  go_wp2_with fail
  have henc := wEncode_any org t k am o s nm tx ao cap zs w2 (HSRC.out.later HB2.out) (by unfold maxLen; omega) hn hx ht0 ht1 hk0 hk1
  rw [encR, encE, HG.out] at henc
  refine henc.mono ?_
  rintro e w3 ⟨rfl, hb3⟩
  clear henc
  go_wp2_with fail
  go_ret
  exact ⟨by simp, HB2.out.trans (hb3.mono (by omega))⟩
end Go.Proofs.Yteljbblbdiploaa
