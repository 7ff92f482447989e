/-
  CONTRACTS: both Encodes, of every update, right or not: one answer.
-/
import Derived.Test.YteljbblbdiploaaRefEnc
import Derived.Test.YteljbblbdiploaaLent
namespace Go.Proofs.Yteljbblbdiploaa
open Go.RowKit

/-- is it an update? -/
def goodU (org : Int) (zs : List Int) (t k n x am o s : Int) : Bool := decide (2 ≤ zs.length ∧ zs.length ≤ 8) && updB org zs t k n x am o s
/-- its bytes, or none -/
def encR (org : Int) (zs : List Int) (t k : Int) (nm tx : ByteArray) (am o s : Int) : ByteArray :=
  if goodU org zs t k nm.size tx.size am o s then ⟨(withSum (encBody org zs t k nm.data.toList tx.data.toList am o s)).toArray⟩ else ⟨#[]⟩
/-- the error's number -/
def encE (org : Int) (zs : List Int) (t k : Int) (nm tx : ByteArray) (am o s : Int) : Int := if goodU org zs t k nm.size tx.size am o s then 0 else 2

theorem ClkAt.plain {w : World} {ao : Option Addr} {cap : Nat} {zs : List Int} (h : ClkAt w ao cap zs) (h0 : 0 < zs.length) :
    ∃ b off, ao = some ⟨b, off, none⟩ ∧ ∀ j, j < zs.length → w.cell? ⟨b, off + j, none⟩ = some (.int .i64 (zs.getD j 0)) := by
  rcases h with ⟨_, hz, _⟩ | ⟨a, rfl, hc⟩
  · rw [hz] at h0; simp at h0
  · obtain ⟨b, off, spot⟩ := a
    have hs : spot = none := by simpa [Addr.add] using World.cell?_spot (hc 0 h0)
    subst hs
    exact ⟨b, off, rfl, fun j hj => by have := hc j hj; rwa [Addr.add_lit] at this⟩

theorem own_clk2 {w : World} {base : Nat} {ao : Option Addr} {n cp : Nat} {zs : List Int} (h : w.ownsRow base 3 1 (.slice ao n cp) n (ics zs)) : n = zs.length ∧ ClkAt w ao cp zs := by
  have hn : n = zs.length := by have := h.1; rw [ics_len, Nat.mul_one] at this; exact this.symm
  refine ⟨hn, ?_⟩
  rcases h.2 with ⟨hv, h0⟩ | ⟨g, cap, cur, hv, _⟩
  · cases hv
    exact .inl ⟨rfl, List.eq_nil_of_length_eq_zero hn.symm, rfl⟩
  · cases hv
    refine .inr ⟨_, rfl, fun j hj => World.ownsRow.cells h (g := g) rfl j _ ?_⟩
    simp [ics, hj]

theorem wEncode_any (org t k am o s : Int) (nm tx : ByteArray) (ao : Option Addr) (cap : Nat) (zs : List Int) (w : World) (hsrc : ClkAt w ao cap zs) (hm : zs.length ≤ maxLen) (hn : nm.size ≤ maxLen) (hx : tx.size ≤ maxLen)
    (ht0 : 0 ≤ t) (ht1 : t < 256) (hk0 : 0 ≤ k) (hk1 : k < 256) :
    Calls Try.prog 9 #[.agg #[.int .i64 org, .slice ao zs.length cap, .int .u8 t, .int .u8 k, .string nm, .string tx, .int .i64 am, .int .i64 o, .int .i64 s]] w
      fun e w' => e = .returned (.tuple #[.string (encR org zs t k nm tx am o s), .int .i64 (encE org zs t k nm tx am o s)]) ∧ Below w.heap.size w w' := by
  by_cases hl : 2 ≤ zs.length ∧ zs.length ≤ 8
  · obtain ⟨b, off, rfl, hc⟩ := hsrc.plain (by omega)
    by_cases hu : updB org zs t k nm.size tx.size am o s = true
    · have hg : goodU org zs t k nm.size tx.size am o s = true := by simp [goodU, hl, hu]
      rw [encR, encE, if_pos hg, if_pos hg]
      exact wEncode_yes org t k am o s nm tx b off zs cap w hl.1 hl.2 hc ht0 ht1 hk0 hk1 hu
    · have hu' : updB org zs t k nm.size tx.size am o s = false := by simpa using hu
      have hg : ¬ goodU org zs t k nm.size tx.size am o s = true := by simp [goodU, hu']
      rw [encR, encE, if_neg hg, if_neg hg]
      exact wEncode_no org t k am o s nm tx b off zs cap w hl.1 hl.2 hc hn hx hu'
  · have hg : ¬ goodU org zs t k nm.size tx.size am o s = true := by simp only [goodU, Bool.and_eq_true, decide_eq_true_eq]; exact fun h => hl h.1
    rw [encR, encE, if_neg hg, if_neg hg]
    exact wEncode_short org t k am o s nm tx ao zs.length cap w (by omega) hm

theorem rEncode_any (org t k am o s : Int) (nm tx : ByteArray) (ao : Option Addr) (cap : Nat) (zs : List Int) (w : World) (hsrc : ClkAt w ao cap zs) (hm : zs.length ≤ maxLen) (hn : nm.size ≤ maxLen) (hx : tx.size ≤ maxLen)
    (ht0 : 0 ≤ t) (ht1 : t < 256) (hk0 : 0 ≤ k) (hk1 : k < 256) :
    Calls Try.prog 10 #[.agg #[.int .i64 org, .slice ao zs.length cap, .int .u8 t, .int .u8 k, .string nm, .string tx, .int .i64 am, .int .i64 o, .int .i64 s]] w
      fun e w' => e = .returned (.tuple #[.string (encR org zs t k nm tx am o s), .int .i64 (encE org zs t k nm tx am o s)]) ∧ Below w.heap.size w w' := by
  by_cases hl : 2 ≤ zs.length ∧ zs.length ≤ 8
  · obtain ⟨b, off, rfl, hc⟩ := hsrc.plain (by omega)
    by_cases hu : updB org zs t k nm.size tx.size am o s = true
    · have hg : goodU org zs t k nm.size tx.size am o s = true := by simp [goodU, hl, hu]
      rw [encR, encE, if_pos hg, if_pos hg]
      exact rEncode_yes org t k am o s nm tx b off zs cap w hl.1 hl.2 hc ht0 ht1 hk0 hk1 hu
    · have hu' : updB org zs t k nm.size tx.size am o s = false := by simpa using hu
      have hg : ¬ goodU org zs t k nm.size tx.size am o s = true := by simp [goodU, hu']
      rw [encR, encE, if_neg hg, if_neg hg]
      exact rEncode_no org t k am o s nm tx b off zs cap w hl.1 hl.2 hk0 hc hn hx hu'
  · have hg : ¬ goodU org zs t k nm.size tx.size am o s = true := by simp only [goodU, Bool.and_eq_true, decide_eq_true_eq]; exact fun h => hl h.1
    rw [encR, encE, if_neg hg, if_neg hg]
    exact rEncode_short org t k am o s nm tx ao zs.length cap w (by omega) hm
end Go.Proofs.Yteljbblbdiploaa
