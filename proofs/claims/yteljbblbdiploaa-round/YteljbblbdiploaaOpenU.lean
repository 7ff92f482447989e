/-
  AN UPDATE THAT COMES IN, LOOKED AT: its fields as values, its clock as numbers.
-/
import Derived.Test.YteljbblbdiploaaLent
import Derived.ProofKit
import Derived.Lib.SmallJoins
import Derived.Deep.Strs
import Derived.SizedLaws
namespace Go.Proofs.Yteljbblbdiploaa
open Go.ChangeShapes Go.WideShapes Go.ChangeAt Go.RowKit Go.Deep Go.Joins
open Go.WideMaps Go.WideElems

theorem Try.cells3 : Try.prog.cellsOf 3 = 1 := by kernel_rfl
theorem Try.cells5 : Try.prog.cellsOf 5 = 1 := by kernel_rfl
theorem Try.cells9 : Try.prog.cellsOf 9 = 1 := by kernel_rfl
theorem Try.cells22 : Try.prog.cellsOf 22 = 1 := by kernel_rfl
theorem Try.cells24 : Try.prog.cellsOf 24 = 2 := by kernel_rfl
theorem Try.cells26 : Try.prog.cellsOf 26 = 7 := by kernel_rfl
theorem Try.cells28 : Try.prog.cellsOf 28 = 9 := by kernel_rfl
theorem Try.bytes3 : Try.prog.bytesOf 3 = 8 := by kernel_rfl

theorem array9 {α : Type} {cs : Array α} (h : cs.size = 9) : ∃ c0 c1 c2 c3 c4 c5 c6 c7 c8, cs = #[c0, c1, c2, c3, c4, c5, c6, c7, c8] := by
  obtain ⟨l⟩ := cs
  match l, h with
  | [c0, c1, c2, c3, c4, c5, c6, c7, c8], _ => exact ⟨c0, c1, c2, c3, c4, c5, c6, c7, c8, rfl⟩

theorem u8_of_wf {x : Int} (h : (Lit.int .u8 x).wf = true) : 0 ≤ x ∧ x < 256 := by
  simp [Lit.wf, IntKind.min, IntKind.max, IntKind.signed, IntKind.bits] at h
  exact ⟨by omega, by omega⟩

section
variable {H : Type} {enc : TypeId × Value → H}

theorem trod_struct6 {P : Program} {w : World} {base : Nat} {spare : Nat → Bool} {held : Bool} {t : TypeId} {f0 f1 f2 f3 f4 f5 : Field} {fuel : Nat} {cs : List Value} {x : DataW H × List MemPlace} (ht : P.underlying t = some (.struct #[f0, f1, f2, f3, f4, f5])) (h : DataW.trod enc P w base spare held fuel t cs = some x) :
    ∃ y0 y1 y2 y3 y4 y5 n, DataW.trod enc P w base spare held n f0.type ((cs.drop f0.offset).take (P.cellsOf f0.type)) = some y0 ∧
      DataW.trod enc P w base spare held n f1.type ((cs.drop f1.offset).take (P.cellsOf f1.type)) = some y1 ∧ DataW.trod enc P w base spare held n f2.type ((cs.drop f2.offset).take (P.cellsOf f2.type)) = some y2 ∧
      DataW.trod enc P w base spare held n f3.type ((cs.drop f3.offset).take (P.cellsOf f3.type)) = some y3 ∧ DataW.trod enc P w base spare held n f4.type ((cs.drop f4.offset).take (P.cellsOf f4.type)) = some y4 ∧
      DataW.trod enc P w base spare held n f5.type ((cs.drop f5.offset).take (P.cellsOf f5.type)) = some y5 := by
  obtain ⟨xs, n, _, rfl, hl, hlen, hf⟩ := DataW.trod_struct ht h
  match xs, hlen with
  | [y0, y1, y2, y3, y4, y5], _ => exact ⟨y0, y1, y2, y3, y4, y5, n, by simpa using hf 0 f0 rfl, by simpa using hf 1 f1 rfl, by simpa using hf 2 f2 rfl, by simpa using hf 3 f3 rfl, by simpa using hf 4 f4 rfl, by simpa using hf 5 f5 rfl⟩

set_option maxRecDepth 100000 in
/-- an update that was read: its fields; the clock's numbers lie where the slice says; the clock's reading takes so many bytes as its numbers -/
theorem open_upd {W : World} {r : Reach} {b0 : Nat} {v : Value} {d : DataW H} {p : List MemPlace} (hv : Value.okWide Try.prog W r b0 28 v) (h : DataW.Trod enc Try.prog W 0 (fun _ => true) true 28 v d p)
    (hw : ∀ n ∈ d.weights Try.prog 28, n ≤ reachBytes) :
    ∃ (org t k am o s : Int) (nm tx : ByteArray) (ao : Option Addr) (cap : Nat) (zs : List Int), v = .agg #[.int .i64 org, .slice ao zs.length cap, .int .u8 t, .int .u8 k, .string nm, .string tx, .int .i64 am, .int .i64 o, .int .i64 s] ∧
      ClkAt W ao cap zs ∧ zs.length * 8 ≤ 140737488351232 ∧ nm.size ≤ maxLen ∧ tx.size ≤ maxLen ∧ 0 ≤ t ∧ t < 256 ∧ 0 ≤ k ∧ k < 256 := by
  obtain ⟨cs, rfl, hsz⟩ := okWide_struct Try.underlying28 hv
  obtain ⟨c0, c1, c2, c3, c4, c5, c6, c7, c8, rfl⟩ := array9 (hsz.trans Try.cells28)
  obtain ⟨fuel, hf⟩ := h
  obtain ⟨y0, y1, y2, n, hx, _, h0, h1, h2⟩ := trod_struct3 Try.underlying28 hf
  simp only [Value.cells, Try.cells3, Try.cells22, Try.cells26, List.drop_zero, List.take_succ_cons, List.take_zero, List.drop_succ_cons] at h0 h1 h2
  obtain ⟨z0, z1, z2, z3, z4, z5, n2, g0, g1, g2, g3, g4, g5⟩ := trod_struct6 Try.underlying26 h2
  simp only [Try.cells3, Try.cells5, Try.cells9, Try.cells24, List.drop_zero, List.take_succ_cons, List.take_zero, List.drop_succ_cons] at g0 g1 g2 g3 g4 g5
  obtain ⟨a0, a1, n3, _, _, e0, e1⟩ := trod_struct2 Try.underlying24 g5
  simp only [Try.cells3, List.drop_zero, List.take_succ_cons, List.take_zero, List.drop_succ_cons] at e0 e1
  obtain ⟨org, k0, _, _⟩ := DataW.trod_int Try.underlying3 h0
  obtain ⟨t, k2, _, wt⟩ := DataW.trod_int Try.underlying5 g0
  obtain ⟨k, k3, _, wk⟩ := DataW.trod_int Try.underlying5 g1
  obtain ⟨nm, k4, _, hn⟩ := DataW.trod_string Try.underlying9 g2
  obtain ⟨tx, k5, _, ht⟩ := DataW.trod_string Try.underlying9 g3
  obtain ⟨am, k6, _, _⟩ := DataW.trod_int Try.underlying3 g4
  obtain ⟨o, k7, _, _⟩ := DataW.trod_int Try.underlying3 e0
  obtain ⟨s, k8, _, _⟩ := DataW.trod_int Try.underlying3 e1
  simp only [List.cons.injEq, and_true] at k0 k2 k3 k4 k5 k6 k7 k8
  subst k0; subst k2; subst k3; subst k4; subst k5; subst k6; subst k7; subst k8
  have w1 := u8_of_wf wt
  have w2 := u8_of_wf wk
  simp only [Prod.mk.injEq] at hx
  rcases open_ints Try.underlying22 Try.underlying3 Try.cells3 h1 with ⟨hcs, _⟩ | ⟨a, len, cap, zs, hcs, _, hl, hm, hz, hy, hcell, _⟩
  · simp only [List.cons.injEq, and_true] at hcs
    subst hcs
    exact ⟨org, t, k, am, o, s, nm, tx, none, 0, [], rfl, .inl ⟨rfl, rfl, rfl⟩, by simp, hn, ht, w1.1, w1.2, w2.1, w2.2⟩
  · simp only [List.cons.injEq, and_true] at hcs
    subst hcs
    simp only [if_true] at hz
    have hb : cap * 8 ≤ 140737488351232 := by
      have := hw (cap * 8) (by
        rw [hx.1, hy]
        simp only [DataW.weights, Try.underlying28, Try.underlying22, DataW.weightsEach, List.map_cons, lits, List.length_map, List.length_take, List.length_drop, hz, Try.bytes3]
        have : min len cap + (cap - len) = cap := by omega
        simp [this])
      simpa [reachBytes] using this
    have hzl : (zs.take len).length = len := by rw [List.length_take]; omega
    refine ⟨org, t, k, am, o, s, nm, tx, some a, cap, zs.take len, by rw [hzl], .inr ⟨a, rfl, fun j hj => ?_⟩, by rw [hzl]; omega, hn, ht, w1.1, w1.2, w2.1, w2.2⟩
    rw [hzl] at hj
    rw [hcell j (by omega)]
    simp [hj]
end
end Go.Proofs.Yteljbblbdiploaa
