/-
  AN UPDATE THAT COMES IN, LOOKED AT: its fields as values, its clock as numbers.
-/
/-
  UPDATES THAT COME IN, LOOKED AT: a list of them.
-/
/-
  SMALL LAWS: four arguments, looked at together.
-/
import Derived.Test.YteljbblbdiploaaJBack
import Derived.ProofKit
import Derived.Lib.SmallJoins
import Derived.Deep.Strs
import Derived.SizedLaws
import Derived.Test.YteljbblbdiploaaJVMem
import Derived.Deep.Slices
import Derived.ChangeMaps5
namespace Go.Proofs.Yteljbblbdiploaa
open Go.ChangeShapes Go.WideShapes Go.ChangeAt Go.RowKit Go.Deep Go.Joins
open Go.WideMaps Go.WideElems

theorem Try.cells3 : Try.prog.cellsOf 3 = 1 := by kernel_rfl
theorem Try.cells5 : Try.prog.cellsOf 5 = 1 := by kernel_rfl
theorem Try.cells9 : Try.prog.cellsOf 9 = 1 := by kernel_rfl
theorem Try.cells22 : Try.prog.cellsOf 22 = 1 := by kernel_rfl
theorem Try.cells24 : Try.prog.cellsOf 24 = 2 := by kernel_rfl
theorem Try.cells26 : Try.prog.cellsOf 26 = 7 := by kernel_rfl
theorem Try.cells28 : Try.prog.cellsOf 28 = 9 := by kernel_rfl
theorem Try.bytes3 : Try.prog.bytesOf 3 = 8 := by kernel_rfl

theorem array9 {α : Type} {cs : Array α} (h : cs.size = 9) : ∃ c0 c1 c2 c3 c4 c5 c6 c7 c8, cs = #[c0, c1, c2, c3, c4, c5, c6, c7, c8] := by
  obtain ⟨l⟩ := cs
  match l, h with
  | [c0, c1, c2, c3, c4, c5, c6, c7, c8], _ => exact ⟨c0, c1, c2, c3, c4, c5, c6, c7, c8, rfl⟩

theorem u8_of_wf {x : Int} (h : (Lit.int .u8 x).wf = true) : 0 ≤ x ∧ x < 256 := by
  simp [Lit.wf, IntKind.min, IntKind.max, IntKind.signed, IntKind.bits] at h
  exact ⟨by omega, by omega⟩

section
variable {H : Type} {enc : TypeId × Value → H}

theorem trod_struct6 {P : Program} {w : World} {base : Nat} {spare : Nat → Bool} {held : Bool} {t : TypeId} {f0 f1 f2 f3 f4 f5 : Field} {fuel : Nat} {cs : List Value} {x : DataW H × List MemPlace} (ht : P.underlying t = some (.struct #[f0, f1, f2, f3, f4, f5])) (h : DataW.trod enc P w base spare held fuel t cs = some x) :
    ∃ y0 y1 y2 y3 y4 y5 n, DataW.trod enc P w base spare held n f0.type ((cs.drop f0.offset).take (P.cellsOf f0.type)) = some y0 ∧
      DataW.trod enc P w base spare held n f1.type ((cs.drop f1.offset).take (P.cellsOf f1.type)) = some y1 ∧ DataW.trod enc P w base spare held n f2.type ((cs.drop f2.offset).take (P.cellsOf f2.type)) = some y2 ∧
      DataW.trod enc P w base spare held n f3.type ((cs.drop f3.offset).take (P.cellsOf f3.type)) = some y3 ∧ DataW.trod enc P w base spare held n f4.type ((cs.drop f4.offset).take (P.cellsOf f4.type)) = some y4 ∧
      DataW.trod enc P w base spare held n f5.type ((cs.drop f5.offset).take (P.cellsOf f5.type)) = some y5 := by
  obtain ⟨xs, n, _, rfl, hl, hlen, hf⟩ := DataW.trod_struct ht h
  match xs, hlen with
  | [y0, y1, y2, y3, y4, y5], _ => exact ⟨y0, y1, y2, y3, y4, y5, n, by simpa using hf 0 f0 rfl, by simpa using hf 1 f1 rfl, by simpa using hf 2 f2 rfl, by simpa using hf 3 f3 rfl, by simpa using hf 4 f4 rfl, by simpa using hf 5 f5 rfl⟩

set_option maxRecDepth 100000 in
/-- an update that was read: its fields; the clock's numbers lie where the slice says; the clock's reading takes so many bytes as its numbers -/
theorem open_upd {W : World} {r : Reach} {b0 : Nat} {v : Value} {d : DataW H} {p : List MemPlace} (hv : Value.okWide Try.prog W r b0 28 v) (h : DataW.Trod enc Try.prog W 0 (fun _ => true) true 28 v d p)
    (hw : ∀ n ∈ d.weights Try.prog 28, n ≤ reachBytes) :
    ∃ (org t k am o s : Int) (nm tx : ByteArray) (ao : Option Addr) (cap : Nat) (zs : List Int), v = .agg #[.int .i64 org, .slice ao zs.length cap, .int .u8 t, .int .u8 k, .string nm, .string tx, .int .i64 am, .int .i64 o, .int .i64 s] ∧
      ClkAt W ao cap zs ∧ zs.length * 8 ≤ 140737488351232 ∧ nm.size ≤ maxLen ∧ tx.size ≤ maxLen ∧ 0 ≤ t ∧ t < 256 ∧ 0 ≤ k ∧ k < 256 := by
  obtain ⟨cs, rfl, hsz⟩ := okWide_struct Try.underlying28 hv
  obtain ⟨c0, c1, c2, c3, c4, c5, c6, c7, c8, rfl⟩ := array9 (hsz.trans Try.cells28)
  obtain ⟨fuel, hf⟩ := h
  obtain ⟨y0, y1, y2, n, hx, _, h0, h1, h2⟩ := trod_struct3 Try.underlying28 hf
  simp only [Value.cells, Try.cells3, Try.cells22, Try.cells26, List.drop_zero, List.take_succ_cons, List.take_zero, List.drop_succ_cons] at h0 h1 h2
  obtain ⟨z0, z1, z2, z3, z4, z5, n2, g0, g1, g2, g3, g4, g5⟩ := trod_struct6 Try.underlying26 h2
  simp only [Try.cells3, Try.cells5, Try.cells9, Try.cells24, List.drop_zero, List.take_succ_cons, List.take_zero, List.drop_succ_cons] at g0 g1 g2 g3 g4 g5
  obtain ⟨a0, a1, n3, _, _, e0, e1⟩ := trod_struct2 Try.underlying24 g5
  simp only [Try.cells3, List.drop_zero, List.take_succ_cons, List.take_zero, List.drop_succ_cons] at e0 e1
  obtain ⟨org, k0, _, _⟩ := DataW.trod_int Try.underlying3 h0
  obtain ⟨t, k2, _, wt⟩ := DataW.trod_int Try.underlying5 g0
  obtain ⟨k, k3, _, wk⟩ := DataW.trod_int Try.underlying5 g1
  obtain ⟨nm, k4, _, hn⟩ := DataW.trod_string Try.underlying9 g2
  obtain ⟨tx, k5, _, ht⟩ := DataW.trod_string Try.underlying9 g3
  obtain ⟨am, k6, _, _⟩ := DataW.trod_int Try.underlying3 g4
  obtain ⟨o, k7, _, _⟩ := DataW.trod_int Try.underlying3 e0
  obtain ⟨s, k8, _, _⟩ := DataW.trod_int Try.underlying3 e1
  simp only [List.cons.injEq, and_true] at k0 k2 k3 k4 k5 k6 k7 k8
  subst k0; subst k2; subst k3; subst k4; subst k5; subst k6; subst k7; subst k8
  have w1 := u8_of_wf wt
  have w2 := u8_of_wf wk
  simp only [Prod.mk.injEq] at hx
  rcases open_ints Try.underlying22 Try.underlying3 Try.cells3 h1 with ⟨hcs, _⟩ | ⟨a, len, cap, zs, hcs, _, hl, hm, hz, hy, hcell, _⟩
  · simp only [List.cons.injEq, and_true] at hcs
    subst hcs
    exact ⟨org, t, k, am, o, s, nm, tx, none, 0, [], rfl, .inl ⟨rfl, rfl, rfl⟩, by simp, hn, ht, w1.1, w1.2, w2.1, w2.2⟩
  · simp only [List.cons.injEq, and_true] at hcs
    subst hcs
    simp only [if_true] at hz
    have hb : cap * 8 ≤ 140737488351232 := by
      have := hw (cap * 8) (by
        rw [hx.1, hy]
        simp only [DataW.weights, Try.underlying28, Try.underlying22, DataW.weightsEach, List.map_cons, lits, List.length_map, List.length_take, List.length_drop, hz, Try.bytes3]
        have : min len cap + (cap - len) = cap := by omega
        simp [this])
      simpa [reachBytes] using this
    have hzl : (zs.take len).length = len := by rw [List.length_take]; omega
    refine ⟨org, t, k, am, o, s, nm, tx, some a, cap, zs.take len, by rw [hzl], .inr ⟨a, rfl, fun j hj => ?_⟩, by rw [hzl]; omega, hn, ht, w1.1, w1.2, w2.1, w2.2⟩
    rw [hzl] at hj
    rw [hcell j (by omega)]
    simp [hj]
end
end Go.Proofs.Yteljbblbdiploaa

namespace Go.Proofs.Yteljbblbdiploaa
open Go.ChangeShapes Go.WideShapes Go.ChangeAt Go.RowKit Go.Deep Go.Joins
open Go.WideMaps Go.WideElems

theorem Try.bytes28 : Try.prog.bytesOf 28 = 96 := by kernel_rfl

theorem list9 {α : Type} {cs : List α} (h : cs.length = 9) : ∃ c0 c1 c2 c3 c4 c5 c6 c7 c8, cs = [c0, c1, c2, c3, c4, c5, c6, c7, c8] := by
  match cs, h with
  | [c0, c1, c2, c3, c4, c5, c6, c7, c8], _ => exact ⟨c0, c1, c2, c3, c4, c5, c6, c7, c8, rfl⟩

theorem bs_of (s : ByteArray) : bs s.data.toList = s := by
  cases s
  show ByteArray.mk _ = _
  rw [Array.toArray_toList]

theorem weights_all_mem {H : Type} {P : Program} {e : TypeId} : ∀ {l : List (DataW H)} {d : DataW H}, d ∈ l → ∀ n ∈ d.weights P e, n ∈ DataW.weightsAll P e l
  | [], d, h, _, _ => by simp at h
  | x :: l, d, h, n, hn => by
    rw [DataW.weightsAll, List.mem_append]
    rcases List.mem_cons.1 h with rfl | h
    · exact .inl hn
    · exact .inr (weights_all_mem h n hn)

section
variable {H : Type} {enc : TypeId × Value → H}

set_option maxRecDepth 100000 in
theorem open_updc {W : World} {fuel : Nat} {cs : List Value} {d : DataW H} {p : List MemPlace} (hl9 : cs.length = 9) (hf : DataW.trod enc Try.prog W 0 (fun _ => true) true fuel 28 cs = some (d, p))
    (hw : ∀ n ∈ d.weights Try.prog 28, n ≤ reachBytes) :
    ∃ (u : Up) (ao : Option Addr) (cap : Nat), cs = upCells u ao cap ∧ ClkAt W ao cap u.c ∧ UpFit u := by
  obtain ⟨c0, c1, c2, c3, c4, c5, c6, c7, c8, rfl⟩ := list9 hl9
  obtain ⟨y0, y1, y2, n, hx, _, h0, h1, h2⟩ := trod_struct3 Try.underlying28 hf
  simp only [Try.cells3, Try.cells22, Try.cells26, List.drop_zero, List.take_succ_cons, List.take_zero, List.drop_succ_cons] at h0 h1 h2
  obtain ⟨z0, z1, z2, z3, z4, z5, n2, g0, g1, g2, g3, g4, g5⟩ := trod_struct6 Try.underlying26 h2
  simp only [Try.cells3, Try.cells5, Try.cells9, Try.cells24, List.drop_zero, List.take_succ_cons, List.take_zero, List.drop_succ_cons] at g0 g1 g2 g3 g4 g5
  obtain ⟨a0, a1, n3, _, _, e0, e1⟩ := trod_struct2 Try.underlying24 g5
  simp only [Try.cells3, List.drop_zero, List.take_succ_cons, List.take_zero, List.drop_succ_cons] at e0 e1
  obtain ⟨org, k0, _, _⟩ := DataW.trod_int Try.underlying3 h0
  obtain ⟨t, k2, _, wt⟩ := DataW.trod_int Try.underlying5 g0
  obtain ⟨k, k3, _, wk⟩ := DataW.trod_int Try.underlying5 g1
  obtain ⟨nm, k4, _, hn⟩ := DataW.trod_string Try.underlying9 g2
  obtain ⟨tx, k5, _, ht⟩ := DataW.trod_string Try.underlying9 g3
  obtain ⟨am, k6, _, _⟩ := DataW.trod_int Try.underlying3 g4
  obtain ⟨o, k7, _, _⟩ := DataW.trod_int Try.underlying3 e0
  obtain ⟨s, k8, _, _⟩ := DataW.trod_int Try.underlying3 e1
  simp only [List.cons.injEq, and_true] at k0 k2 k3 k4 k5 k6 k7 k8
  subst k0; subst k2; subst k3; subst k4; subst k5; subst k6; subst k7; subst k8
  have w1 := u8_of_wf wt
  have w2 := u8_of_wf wk
  have hbn : nm = bs nm.data.toList := (bs_of nm).symm
  have hbt : tx = bs tx.data.toList := (bs_of tx).symm
  have hnl : nm.data.toList.length ≤ maxLen := hn
  have htl : tx.data.toList.length ≤ maxLen := ht
  simp only [Prod.mk.injEq] at hx
  rcases open_ints Try.underlying22 Try.underlying3 Try.cells3 h1 with ⟨hcs, _⟩ | ⟨a, len, cap, zs, hcs, _, hl, hm, hz, hy, hcell, _⟩
  · simp only [List.cons.injEq, and_true] at hcs
    subst hcs
    refine ⟨⟨org, [], t, k, nm.data.toList, tx.data.toList, am, o, s⟩, none, 0, ?_, .inl ⟨rfl, rfl, rfl⟩, ⟨by simp, hnl, htl, w1, w2⟩⟩
    unfold upCells
    rw [← hbn, ← hbt]
    rfl
  · simp only [List.cons.injEq, and_true] at hcs
    subst hcs
    simp only [if_true] at hz
    have hb : cap * 8 ≤ 140737488351232 := by
      have := hw (cap * 8) (by
        rw [hx.1, hy]
        simp only [DataW.weights, Try.underlying28, Try.underlying22, DataW.weightsEach, List.map_cons, lits, List.length_map, List.length_take, List.length_drop, hz, Try.bytes3]
        have : min len cap + (cap - len) = cap := by omega
        simp [this])
      simpa [reachBytes] using this
    have hzl : (zs.take len).length = len := by rw [List.length_take]; omega
    refine ⟨⟨org, zs.take len, t, k, nm.data.toList, tx.data.toList, am, o, s⟩, some a, cap, ?_, .inr ⟨a, rfl, fun j hj => ?_⟩, ⟨by show (zs.take len).length * 8 ≤ _; rw [hzl]; omega, hnl, htl, w1, w2⟩⟩
    · unfold upCells
      rw [← hbn, ← hbt]
      show _ = [_, Value.slice (some a) (zs.take len).length cap, _, _, _, _, _, _, _]
      rw [hzl]
    · change j < (zs.take len).length at hj
      rw [hzl] at hj
      rw [hcell j (by omega)]
      simp [hj]

set_option maxRecDepth 100000 in
/-- a list of updates that was read -/
theorem open_upds {W : World} {r : Reach} {b0 : Nat} {v : Value} {d : DataW H} {p : List MemPlace} (hv : Value.okWide Try.prog W r b0 49 v) (h : DataW.Trod enc Try.prog W 0 (fun _ => true) true 49 v d p)
    (hw : ∀ n ∈ d.weights Try.prog 49, n ≤ reachBytes) :
    ∃ (vo : Option Addr) (cap : Nat) (l : List Up), v = .slice vo l.length cap ∧ UpsO W vo l ∧ l.length * 96 ≤ 140737488351232 ∧ ∀ u ∈ l, UpFit u := by
  obtain ⟨va, vl, vc, rfl⟩ := okWide_slice Try.underlying49 hv
  obtain ⟨fuel, hf⟩ := h
  rcases open_slice Try.underlying49 hf with ⟨hcs, _⟩ | ⟨a, len, cap, m, n, D, Pl, hcs, _, hl, hm, hmm, hx, hel⟩
  · simp only [Value.cells, List.cons.injEq, and_true] at hcs
    cases hcs
    exact ⟨none, 0, [], rfl, UpsO.nil _ _, by simp, by simp⟩
  · simp only [Value.cells, List.cons.injEq, and_true] at hcs
    cases hcs
    simp only [if_true] at hmm
    subst hmm
    simp only [Prod.mk.injEq] at hx
    have hw' := hw
    rw [hx.1] at hw'
    simp only [DataW.weights, Try.underlying49] at hw'
    have hb : m * 96 ≤ 140737488351232 := by
      have := hw' ((((List.range vl).map D).length + ((List.range (m - vl)).map fun j => D (vl + j)).length) * Try.prog.bytesOf 28) (by simp)
      rw [Try.bytes28] at this
      simp [reachBytes] at this
      omega
    have each : ∀ i, i < vl → ∃ q : Up × Option Addr × Nat, (∀ j, j < 9 → W.cell? (a.add (i * 9 + j)) = (upCells q.1 q.2.1 q.2.2)[j]?) ∧ ClkAt W q.2.1 q.2.2 q.1.c ∧ UpFit q.1 := by
      intro i hi
      obtain ⟨cs', h1, h2⟩ := hel i (by omega)
      rw [Try.cells28] at h1
      obtain ⟨_, hlen, hcell⟩ := World.cells?_some h1
      obtain ⟨u, ao, cp, rfl, hc, hfit⟩ := open_updc hlen h2 (fun n hn => hw' n (by
        rw [List.mem_cons, List.mem_append]
        exact .inr (.inl (weights_all_mem (List.mem_map.2 ⟨i, by simpa using hi, rfl⟩) n hn))))
      refine ⟨(u, ao, cp), fun j hj => ?_, hc, hfit⟩
      rw [← add_add]
      exact hcell j hj
    haveI : Inhabited (Up × Option Addr × Nat) := ⟨⟨⟨0, [], 0, 0, [], [], 0, 0, 0⟩, none, 0⟩⟩
    obtain ⟨f, hf'⟩ := choose_lt each
    refine ⟨some a, m, (List.range vl).map fun i => (f i).1, by simp, fun h0 => ?_, by simp; omega, fun u hu => ?_⟩
    · have h0' : 0 < vl := by simpa using h0
      obtain ⟨b, off, spot⟩ := a
      have hsp : spot = none := by
        have := (hf' 0 h0').1 0 (by omega)
        simpa [Addr.add] using World.cell?_spot this
      subst hsp
      refine ⟨b, off, rfl, fun j u hj => ?_⟩
      have hj' : j < vl := by have := (List.getElem?_eq_some_iff.1 hj).1; simpa using this
      have hu : u = (f j).1 := by rw [List.getElem?_map, List.getElem?_range hj'] at hj; simpa using hj.symm
      subst hu
      obtain ⟨h1, h2, h3⟩ := hf' j hj'
      refine ⟨(f j).2.1, (f j).2.2, fun i hi => ?_, h2, h3⟩
      have := h1 i hi
      rwa [Addr.add_lit, ← Nat.add_assoc] at this
    · obtain ⟨i, hi, rfl⟩ := List.mem_map.1 hu
      exact (hf' i (by simpa using hi)).2.2
end
end Go.Proofs.Yteljbblbdiploaa

namespace Go.Proofs.Yteljbblbdiploaa
open Go.ChangeShapes Go.WideShapes Go.ChangeAt Go.ChangeMaps Go.RowKit

theorem Try.ownV : ownKnob Try.prog.godebug = none := by kernel_rfl
theorem Try.laidOutV : laidOutB Try.prog = true := by kernel_rfl

section
variable {H : Type} {enc : TypeId × Value → H} {P : Program} {w : World} {base : Nat} {spare : Nat → Bool} {held : Bool}
theorem trodAll_4 {t0 t1 t2 t3 : TypeId} {args : Array Value} {ds : List (DataW H)} {ps : List MemPlace} (h : DataW.TrodAll enc P w base spare held [t0, t1, t2, t3] args.toList ds ps) :
    ∃ v0 v1 v2 v3 d0 d1 d2 d3 p0 p1 p2 p3, args = #[v0, v1, v2, v3] ∧ ds = [d0, d1, d2, d3] ∧ ps = p0 ++ (p1 ++ (p2 ++ p3)) ∧ DataW.Trod enc P w base spare held t0 v0 d0 p0 ∧ DataW.Trod enc P w base spare held t1 v1 d1 p1 ∧ DataW.Trod enc P w base spare held t2 v2 d2 p2 ∧ DataW.Trod enc P w base spare held t3 v3 d3 p3 := by
  obtain ⟨v0, vs0, d0, ds0, p0, q0, hargs, rfl, rfl, h0, hr0⟩ := trodAll_cons h
  obtain ⟨v1, vs1, d1, ds1, p1, q1, rfl, rfl, rfl, h1, hr1⟩ := trodAll_cons hr0
  obtain ⟨v2, vs2, d2, ds2, p2, q2, rfl, rfl, rfl, h2, hr2⟩ := trodAll_cons hr1
  obtain ⟨v3, vs3, d3, ds3, p3, q3, rfl, rfl, rfl, h3, hr3⟩ := trodAll_cons hr2
  obtain ⟨rfl, rfl, rfl⟩ := trodAll_nil hr3
  exact ⟨v0, v1, v2, v3, d0, d1, d2, d3, p0, p1, p2, p3, by cases args; simp_all, rfl, by simp, h0, h1, h2, h3⟩
theorem trodAll_mk4 {t0 t1 t2 t3 : TypeId} {v0 v1 v2 v3 : Value} {d0 d1 d2 d3 : DataW H} {p0 p1 p2 p3 : List MemPlace} (h0 : DataW.Trod enc P w base spare held t0 v0 d0 p0) (h1 : DataW.Trod enc P w base spare held t1 v1 d1 p1)
    (h2 : DataW.Trod enc P w base spare held t2 v2 d2 p2) (h3 : DataW.Trod enc P w base spare held t3 v3 d3 p3) : DataW.TrodAll enc P w base spare held [t0, t1, t2, t3] [v0, v1, v2, v3] [d0, d1, d2, d3] (p0 ++ (p1 ++ (p2 ++ p3))) := ⟨p0, p1 ++ (p2 ++ p3), h0, trodAll_mk3 h1 h2 h3, rfl⟩
end
end Go.Proofs.Yteljbblbdiploaa
