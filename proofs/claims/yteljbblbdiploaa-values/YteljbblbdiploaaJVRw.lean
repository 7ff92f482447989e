/-
  CONTRACTS: strings.Clone: the same bytes.
-/
/-
  WALKS: package crdt: the value of a sequence.
-/
import Derived.Test.YteljbblbdiploaaRows
import Derived.Shelf.Pu.Clone
import Derived.WalkKit
import Derived.WalkSpells
import Derived.Test.YteljbblbdiploaaJVChain
import Derived.Deep.LoopGhost
namespace Go.Proofs.Yteljbblbdiploaa
open Go.RowKit Go.Shelf

/-- the numbers of the library's text in this program -/
def cloneRen : Ren := ⟨fun _ => 86, fun n => if n = 0 then 0 else if n = 3 then 3 else if n = 4 then 4 else if n = 5 then 5 else if n = 9 then 9 else if n = 37 then 58 else 134, fun n => n⟩
theorem Try.laysClone : LaysPu.n25 Try.prog cloneRen := by
  constructor <;> first | (intro w; kernel_rfl) | kernel_rfl

theorem lite_any (s : ByteArray) (w : World) (hl : s.size ≤ 281474976710656) :
    Calls Try.prog 86 #[.string s] w fun e w' => e = .returned (.string s) ∧ Below w.heap.size w w' := AnyPu.stringslite_Clone Try.laysClone s w hl

set_option maxHeartbeats 400000 in
theorem clone_any (s : ByteArray) (w : World) (hl : s.size ≤ 281474976710656) :
    Calls Try.prog 73 #[.string s] w fun e w' => e = .returned (.string s) ∧ Below w.heap.size w w' := by
  go_enter Try.func73, Try.ntmps73
  go_wp2_with fail
  refine (lite_any s _ hl).mono ?_
  rintro e w' ⟨rfl, hb⟩
  go_wp2
  go_ret
  exact ⟨rfl, hb⟩
end Go.Proofs.Yteljbblbdiploaa

namespace Go.Proofs.Yteljbblbdiploaa
open Go.RowKit

theorem Up.text_in {u : Up} (h : u.good = true) : u.x.length ≤ 20 := by
  have := (u.good_iff.1 h).2.2.2.2
  simp only [opB, inbB, Bool.and_eq_true, decide_eq_true_eq] at this
  omega

/-- an id in a block of its own -/
def IdB (w : World) (B : Nat) (i : Int × Int) : Prop := w.heap[B]? = some (.cells #[.int .i64 i.1, .int .i64 i.2] 24 (0, 0))
theorem IdB.cells {w : World} {B : Nat} {i : Int × Int} (h : IdB w B i) : w.cell? ⟨B, 0, none⟩ = some (.int .i64 i.1) ∧ w.cell? ⟨B, 1, none⟩ = some (.int .i64 i.2) ∧ w.frozen? ⟨B, 0, none⟩ = false ∧ w.frozen? ⟨B, 1, none⟩ = false := by
  have hc := fun i => cell_of_row w B i _ _ (0, 0) h
  exact ⟨hc 0, hc 1, frozen_of_row w B 0 _ _ h, frozen_of_row w B 1 _ _ h⟩
theorem IdB.later {w w' : World} {B : Nat} {i : Int × Int} (h : IdB w B i) (hb : Below w.heap.size w w') : IdB w' B i := (hb.block B (lt_of_block h)).trans h
theorem IdB.kept {w w' : World} {B : Nat} {i : Int × Int} {row : Option Nat} (h : IdB w B i) (hg : w.grownBy w' row) (hne : some B ≠ row) : IdB w' B i := (hg.block B (lt_of_block h) hne).trans h

/-- how things stand while the row is passed through -/
structure RowSt (w4 wr : World) (V P : Nat) (t ix : Value) (i : Int × Int) (xs : List Tx) (js : List (Int × Int)) : Prop where
  val : ValB wr V t ix
  idb : IdB wr P i
  ge : w4.heap.size ≤ P
  txt : wr.ownsRow w4.heap.size 9 1 t xs.length (tcs xs)
  ids : wr.ownsRow w4.heap.size 24 2 ix js.length (idcs js)
  grw : w4.grownBy wr (some V)
theorem below_grown {w w' : World} (h : Below w.heap.size w w') (row : Option Nat) : w.grownBy w' row := ⟨h.os, h.tape, h.output, h.size, fun k hk _ => h.block k hk⟩
theorem RowSt.later {w4 wr w' : World} {V P : Nat} {t ix : Value} {i : Int × Int} {xs : List Tx} {js : List (Int × Int)} (h : RowSt w4 wr V P t ix i xs js) (hb : Below wr.heap.size wr w') : RowSt w4 w' V P t ix i xs js :=
  ⟨h.val.below hb (lt_of_block h.val), h.idb.later hb, h.ge, ownsRow_later h.txt hb, ownsRow_later h.ids hb, h.grw.trans (below_grown hb _)⟩
theorem grown_own {w4 wr w' : World} {V : Nat} {row : Option Nat} (h : w4.grownBy wr (some V)) (hg : wr.grownBy w' row) (hrow : ∀ k, row = some k → w4.heap.size ≤ k) : w4.grownBy w' (some V) :=
  ⟨hg.os.trans h.os, hg.tape.trans h.tape, hg.output.trans h.output, Nat.le_trans h.size hg.size, fun k hk hne => (hg.block k (Nat.lt_of_lt_of_le hk h.size) (fun e => by have := hrow k e.symm; omega)).trans (h.block k hk hne)⟩
/-- one text more -/
theorem RowSt.text {w4 wr w10 : World} {V P : Nat} {t ix t' : Value} {i : Int × Int} {xs : List Tx} {js : List (Int × Int)} {x : Tx} (h : RowSt w4 wr V P t ix i xs js) (hV : V < w4.heap.size) (hT : some P ≠ t.ownBlock)
    (hg' : wr.grownBy w10 t.ownBlock) (ho : w10.ownsRow w4.heap.size 9 1 t' (xs.length + 1) (tcs xs ++ [.string (bs x)])) : RowSt w4 (w10.setCell ⟨V, 0, none⟩ t') V P t' ix i (xs ++ [x]) js := by
  have hgs := grown_setB w10 V 0 t'
  have hv10 := h.val.grown hg' (own_ge h.txt hV)
  have hi10 := h.ids.kept hg' (own_ne h.ids h.txt (by decide))
  have hge := h.ge
  refine ⟨hv10.set0 t', (h.idb.kept hg' hT).kept hgs (by simp; omega), h.ge, ?_, hi10.kept hgs (.inr (own_ge hi10 hV).symm), ?_⟩
  · rw [tcs_app, List.length_append]
    exact ho.kept hgs (.inr (own_ge ho hV).symm)
  · have h1 := grown_own h.grw hg' (fun k hk => own_base h.txt k hk)
    exact ⟨hgs.os.trans h1.os, hgs.tape.trans h1.tape, hgs.output.trans h1.output, Nat.le_trans h1.size hgs.size, fun k hk hne => (hgs.block k (Nat.lt_of_lt_of_le hk h1.size) hne).trans (h1.block k hk hne)⟩
/-- one id more -/
theorem RowSt.id {w4 wr w10 : World} {V P : Nat} {t ix ix' : Value} {i j : Int × Int} {xs : List Tx} {js : List (Int × Int)} (h : RowSt w4 wr V P t ix i xs js) (hV : V < w4.heap.size) (hI : some P ≠ ix.ownBlock)
    (hg' : wr.grownBy w10 ix.ownBlock) (ho : w10.ownsRow w4.heap.size 24 2 ix' (js.length + 1) (idcs js ++ [.int .i64 j.1, .int .i64 j.2])) : RowSt w4 (w10.setCell ⟨V, 1, none⟩ ix') V P t ix' i xs (js ++ [j]) := by
  have hgs := grown_setB w10 V 1 ix'
  have hv10 := h.val.grown hg' (own_ge h.ids hV)
  have ht10 := h.txt.kept hg' (own_ne h.txt h.ids (by decide))
  have hge := h.ge
  refine ⟨hv10.set1 ix', (h.idb.kept hg' hI).kept hgs (by simp; omega), h.ge, ht10.kept hgs (.inr (own_ge ht10 hV).symm), ?_, ?_⟩
  · rw [idcs_app, List.length_append]
    exact ho.kept hgs (.inr (own_ge ho hV).symm)
  · have h1 := grown_own h.grw hg' (fun k hk => own_base h.ids k hk)
    exact ⟨hgs.os.trans h1.os, hgs.tape.trans h1.tape, hgs.output.trans h1.output, Nat.le_trans h1.size hgs.size, fun k hk hne => (hgs.block k (Nat.lt_of_lt_of_le hk h1.size) hne).trans (h1.block k hk hne)⟩
/-- a block for the next id -/
theorem RowSt.fresh {w4 wr : World} {V P : Nat} {t ix : Value} {i : Int × Int} {xs : List Tx} {js : List (Int × Int)} (h : RowSt w4 wr V P t ix i xs js) (j : Int × Int) :
    RowSt w4 (wr.alloc (.cells #[.int .i64 j.1, .int .i64 j.2] 24)) V wr.heap.size t ix j xs js ∧ some wr.heap.size ≠ t.ownBlock ∧ some wr.heap.size ≠ ix.ownBlock := by
  have hb : Below wr.heap.size wr (wr.alloc (.cells #[.int .i64 j.1, .int .i64 j.2] 24)) := (Below.refl _ _).alloc (Nat.le_refl _) _
  have h' := h.later hb
  refine ⟨⟨h'.val, heap_alloc_new wr _, h.grw.size, h'.txt, h'.ids, h'.grw⟩, fun e => ?_, fun e => ?_⟩
  · have := (h.txt.lt _ e.symm).2; omega
  · have := (h.ids.lt _ e.symm).2; omega
/-- the next id, written -/
theorem RowSt.next {w4 wr : World} {V P : Nat} {t ix : Value} {i : Int × Int} {xs : List Tx} {js : List (Int × Int)} (h : RowSt w4 wr V P t ix i xs js) (hV : V < w4.heap.size) (hT : some P ≠ t.ownBlock) (hI : some P ≠ ix.ownBlock) (j : Int × Int) :
    RowSt w4 ((wr.setCell ⟨P, 0, none⟩ (.int .i64 j.1)).setCell ⟨P, 1, none⟩ (.int .i64 j.2)) V P t ix j xs js := by
  have g1 := grown_setB wr P 0 (.int .i64 j.1)
  have g2 := grown_setB (wr.setCell ⟨P, 0, none⟩ (.int .i64 j.1)) P 1 (.int .i64 j.2)
  have hg := g1.trans g2
  have hge := h.ge
  have hb : IdB ((wr.setCell ⟨P, 0, none⟩ (.int .i64 j.1)).setCell ⟨P, 1, none⟩ (.int .i64 j.2)) P j := by
    exact val_setBlk (i := 1) (val_setBlk (i := 0) h.idb (.int .i64 j.1)) (.int .i64 j.2)
  refine ⟨h.val.grown hg (by simp; omega), hb, h.ge, h.txt.kept hg (.inr fun e => hT e.symm), h.ids.kept hg (.inr fun e => hI e.symm), grown_own h.grw hg (fun k hk => by cases hk; exact h.ge)⟩

theorem ring_at {kv : List ((Int × Int) × Value)} : ∀ {L : List (Int × Int)}, RingL kv L → ∀ j, j < L.length → nxt kv (L.getD j (0, 0)) = idV (L.getD (j + 1) (0, 0))
  | [], _, j, h => by simp at h
  | a :: l, hr, 0, _ => by
    have := hr.1
    cases l <;> simpa using this
  | a :: l, hr, j + 1, h => by
    have := ring_at hr.2 j (by simpa using h)
    simpa using this
theorem delKV_val (l : List Up) (i : Int × Int) : (getI (delKV l) i).getD (.agg #[]) = .agg #[] := by
  suffices ∀ j, (getI (delKV (l.take j)) i).getD (.agg #[]) = .agg #[] by
    have := this l.length
    rwa [List.take_length] at this
  intro j
  induction j with
  | zero => rfl
  | succ j ih =>
    cases hu : l[j]? with
    | none => rw [List.take_add_one, hu]; simpa using ih
    | some u =>
      rw [delKV_step hu]
      split
      · rw [getI_put]; split
        · rfl
        · exact ih
      · exact ih
theorem gone_look {w : World} {D : Nat} {l : List Up} (hm : MapI w D (delKV l)) (u : Up) :
    (Instr.lookup 92 (.map (some D)) (.agg #[.int .i64 u.id.1, .int .i64 u.id.2]) true).run Try.prog w = .ok (.tuple #[.agg #[], .bool (goneQ l u)]) w := by
  have := (lookup_id hm Try.underlying92 (z := .agg #[]) (by simp [go_sem]) u.id).1
  rw [delKV_val, delKV_gone] at this
  exact this
theorem ins_look {w : World} {B : Nat} {ins : List Up} (hm : MapI w B (ins.map pairI)) (hs : Ups ins) {u : Up} (hu : u ∈ ins) :
    (Instr.lookup 114 (.map (some B)) (.agg #[.int .i64 u.id.1, .int .i64 u.id.2]) false).run Try.prog w = .ok (.agg #[.int .i64 u.age, .int .i64 u.id.1, .int .i64 u.id.2, .int .i64 u.ao, .int .i64 u.az, .string (bs u.x)]) w := by
  have := (lookup_id hm Try.underlying114 (z := .agg #[.int .i64 0, .int .i64 0, .int .i64 0, .int .i64 0, .int .i64 0, .string (bs [])]) (by simp [go_sem, bs]) u.id).2
  have hg : getI (ins.map pairI) u.id = (ins.find? fun y => decide (y.id = u.id)).map insV := getI_pairs ins _
  rw [hg, find_id_of hs hu] at this
  exact this

/-- what the row answers -/
def RowAns (w : World) (l : List Up) (e : Ending) (w' : World) : Prop := ∃ t i n m, e = .returned (.agg #[t, i, .int .i64 0]) ∧ w'.ownsRow w.heap.size 9 1 t n (tcs ((seqD l).map Up.x)) ∧ w'.ownsRow w.heap.size 24 2 i m (idcs ((seqD l).map Up.id)) ∧ Below w.heap.size w w'
theorem RowAns.of {w : World} {l : List Up} {w' : World} (t i : Value) (n m : Nat) (h1 : w'.ownsRow w.heap.size 9 1 t n (tcs ((seqD l).map Up.x))) (h2 : w'.ownsRow w.heap.size 24 2 i m (idcs ((seqD l).map Up.id))) (h3 : Below w.heap.size w w') : RowAns w l (.returned (.agg #[t, i, .int .i64 0])) w' := ⟨t, i, n, m, rfl, h1, h2, h3⟩

set_option maxRecDepth 16000 in
set_option maxHeartbeats 1000000 in
theorem row_any (vo : Option Addr) (cap : Nat) (l : List Up) (w : World) (hu : UpsO w vo l) (hs : Ups l) (hk : ∀ u ∈ l, u.k = 0 ∨ u.k = 1) (hl : l.length ≤ 8000) :
    Calls Try.prog 65 #[.slice vo l.length cap] w (RowAns w l) := by
  have HU := hid hu
  have HS := hid hs
  have HK := hid hk
  clear hu hs hk
  go_enter Try.func65, Try.ntmps65
  go_wp2_with fail
  have hv1 : ValB (w.alloc (.cells #[.slice none 0 0, .slice none 0 0, .int .i64 0] 51)) w.heap.size (.slice none 0 0) (.slice none 0 0) := heap_alloc_new w _
  have hb1 : Below w.heap.size w (w.alloc (.cells #[.slice none 0 0, .slice none 0 0, .int .i64 0] 51)) := (Below.refl _ _).alloc (Nat.le_refl _) _
  generalize w.alloc (.cells #[.slice none 0 0, .slice none 0 0, .int .i64 0] 51) = w1 at *
  have hz1 := lt_of_block hv1
  refine (insDel_any vo cap l w1 (HU.out.later hb1) HS.out.good hl).mono ?_
  rintro e w2 ⟨B, D, rfl, hB, hD, hB1, hD1, hBD, hb2⟩
  have hins := insKV_eq HS.out HK.out
  rw [hins] at hB
  have hsi : Ups (insD l) := HS.out.filter _
  have hli : (insD l).length ≤ 8000 := Nat.le_trans (insD_len l) hl
  have HB := hid hB
  have HD := hid hD
  have hv2 : ValB w2 w.heap.size (.slice none 0 0) (.slice none 0 0) := hv1.below hb2 hz1
  have hbw2 : Below w.heap.size w w2 := hb1.trans (hb2.mono hb1.size)
  have hBw := hB.lt
  have hDw := hD.lt
  clear hB hD hv1 hb1 hb2 hins
  go_wp2_with fail
  refine (chain_any B (insD l) w2 HB.out hsi hli).mono ?_
  rintro e w3 ⟨N, kv, rfl, hN, hring, hNw, hb3⟩
  have hrow : rowIds (insD l) (agedU (insD l)) = (atPlaces (insD l) (treeRow (insD l) (-1))).map Up.id := (rowIds_tree hsi).symm
  rw [hrow] at hring
  have HSI := hid hsi
  have hum : ∀ u ∈ atPlaces (insD l) (treeRow (insD l) (-1)), u ∈ insD l := fun u h => by
    obtain ⟨i, _, h2⟩ := mem_atPlaces.1 h
    exact List.mem_of_getElem? h2
  have hul : (atPlaces (insD l) (treeRow (insD l) (-1))).length ≤ 8000 := Nat.le_trans (List.length_filterMap_le _ _) (Nat.le_trans (treeRow_len _) hli)
  have HSEQ : Hid (seqD l = (atPlaces (insD l) (treeRow (insD l) (-1))).filter fun u => !goneQ l u) := rfl
  generalize atPlaces (insD l) (treeRow (insD l) (-1)) = U at *
  have HUM := hid hum
  have HRING := hid hring
  have HN := hid hN
  have HB3 := hid (HB.out.later hb3)
  have HD3 := hid (HD.out.later hb3)
  have HV3 := hid (hv2.below hb3 (by have := hbw2.size; have := lt_of_block hv2; omega))
  have HBW3 : Hid (Below w.heap.size w w3) := hbw2.trans (hb3.mono hbw2.size)
  have hz3 : w2.heap.size ≤ w3.heap.size := hb3.size
  have hNl := hN.lt
  have hzw2 := lt_of_block hv2
  clear hN hring hb3 hv2 hbw2 hrow hsi hum
  have hv4 : ValB (w3.alloc (.cells #[.slice none 0 0, .slice none 0 0, .int .i64 0] 51)) w3.heap.size (.slice none 0 0) (.slice none 0 0) := heap_alloc_new w3 _
  have hb4 : Below w3.heap.size w3 (w3.alloc (.cells #[.slice none 0 0, .slice none 0 0, .int .i64 0] 51)) := (Below.refl _ _).alloc (Nat.le_refl _) _
  have hz4 : (w3.alloc (.cells #[.slice none 0 0, .slice none 0 0, .int .i64 0] 51)).heap.size = w3.heap.size + 1 := by simp
  have hlk := next_look (HN.out.later hb4) (0, 0)
  have hrg := ring_at HRING.out 0 (by simp)
  rw [show (((0, 0) : Int × Int) :: U.map Up.id).getD 0 (0, 0) = (0, 0) from rfl, show (((0, 0) : Int × Int) :: U.map Up.id).getD (0 + 1) (0, 0) = (U.map Up.id).getD 0 (0, 0) by simp] at hrg
  rw [hrg] at hlk
  clear hrg
  generalize hi0 : (U.map Up.id).getD 0 (0, 0) = i0 at *
  have HI0 := hid hi0
  clear hi0
  simp only [idV] at hlk
  have HV4 := hid hv4
  have HB4 := hid hb4
  have HZ4 := hid hz4
  clear hv4 hb4 hz4
  go_wp2_with fail
  clear hlk
  have hv4 := HV4.out
  have hb4 := HB4.out
  have hz4 := HZ4.out
  clear HV4 HB4 HZ4
  generalize w3.alloc (.cells #[.slice none 0 0, .slice none 0 0, .int .i64 0] 51) = w4 at *
  have hst0 : RowSt w4 (w4.alloc (.cells #[.int .i64 i0.1, .int .i64 i0.2] 24)) w3.heap.size (w3.heap.size + 1) (.slice none 0 0) (.slice none 0 0) i0 [] [] := by
    have hb : Below w4.heap.size w4 (w4.alloc (.cells #[.int .i64 i0.1, .int .i64 i0.2] 24)) := (Below.refl _ _).alloc (Nat.le_refl _) _
    have hi := heap_alloc_new w4 (.cells #[.int .i64 i0.1, .int .i64 i0.2] 24)
    rw [hz4] at hi
    exact ⟨hv4.below hb (lt_of_block hv4), hi, by omega, World.ownsRow_nil _ _ _ _, World.ownsRow_nil _ _ _ _, below_grown hb _⟩
  have HST0 := hid hst0
  have HB4 := hid (HB3.out.later hb4)
  have HD4 := hid (HD3.out.later hb4)
  have HN4 := hid (HN.out.later hb4)
  have HV4 := hid (HV3.out.below hb4 (by have := lt_of_block HV3.out; omega))
  have HBW4 : Hid (Below w.heap.size w w4) := HBW3.out.trans (hb4.mono HBW3.out.size)
  have hV : w3.heap.size < w4.heap.size := by omega
  clear hst0 hv4 hb4 hz4 HB3 HD3 HN HV3 HBW3
  generalize w4.alloc (.cells #[.int .i64 i0.1, .int .i64 i0.2] 24) = w5 at *
  go_loopg [7] U.length (fun k p wr => ∃ j P t ix, k = U.length - j ∧ j ≤ U.length ∧ p = .pointer (some ⟨P, 0, none⟩) ∧ some P ≠ t.ownBlock ∧ some P ≠ ix.ownBlock ∧ RowSt w4 wr w3.heap.size P t ix ((U.map Up.id).getD j (0, 0)) (((U.take j).filter fun u => !goneQ l u).map Up.x) (((U.take j).filter fun u => !goneQ l u).map Up.id))
  case atStart => exact ⟨0, _, .slice none 0 0, .slice none 0 0, by omega, by omega, rfl, by simp [Value.ownBlock], by simp [Value.ownBlock], by rw [HI0.out]; exact HST0.out⟩
  case round =>
    obtain ⟨j, P, t, ix, hgk, hj, rfl, hT, hI, hst⟩ := hrel
    have HGK := hid hgk
    have HT := hid hT
    have HI := hid hI
    have HST := hid hst
    clear hgk hT hI
    by_cases hlt : j < U.length
    · obtain ⟨u, hu⟩ : ∃ u, U[j]? = some u := ⟨U[j], List.getElem?_eq_getElem hlt⟩
      have hidj : (U.map Up.id).getD j (0, 0) = u.id := by rw [List.getD_eq_getElem?_getD, List.getElem?_map, hu]; rfl
      rw [hidj] at hst
      have HST1 := hid hst
      obtain ⟨p0, p1, fp0, fp1⟩ := hst.idb.cells
      have hum := HUM.out u (List.mem_of_getElem? hu)
      have hgu := HSI.out.good u hum
      have hsq : u.id.2 ≠ 0 := by have := (u.good_iff.1 hgu).2.2.2.1; show u.seq ≠ 0; omega
      have hdl := gone_look (HD4.out.kept hst.grw (by simp; omega)) u
      have hPl : P < wr.heap.size := lt_of_block hst.idb
      have hrn := ring_at HRING.out (j + 1) (by simp; omega)
      rw [show (((0, 0) : Int × Int) :: U.map Up.id).getD (j + 1) (0, 0) = (U.map Up.id).getD j (0, 0) by simp, show (((0, 0) : Int × Int) :: U.map Up.id).getD (j + 1 + 1) (0, 0) = (U.map Up.id).getD (j + 1) (0, 0) by simp, hidj] at hrn
      have hstep : (U.take (j + 1)).filter (fun u => !goneQ l u) = if goneQ l u then (U.take j).filter (fun u => !goneQ l u) else (U.take j).filter (fun u => !goneQ l u) ++ [u] := by
        rw [List.take_add_one, hu, List.filter_append]
        cases hg : goneQ l u <;> simp [hg]
      have HSTEP := hid hstep
      have hfl : ((U.take j).filter fun u => !goneQ l u).length ≤ 8000 := Nat.le_trans (List.length_filter_le _ _) (by rw [List.length_take]; omega)
      generalize (U.take j).filter (fun u => !goneQ l u) = F at *
      have hxl : (F.map Up.x).length ≤ 8000 := by rw [List.length_map]; exact hfl
      have hjl : (F.map Up.id).length ≤ 8000 := by rw [List.length_map]; exact hfl
      generalize hxs : F.map Up.x = xs at *
      generalize hjs : F.map Up.id = js at *
      have HXS := hid hxs
      have HJS := hid hjs
      have hb6 : Below wr.heap.size wr (wr.alloc (.cells #[] 93)) := (Below.refl _ _).alloc (Nat.le_refl _) _
      have HST6 := hid (hst.later hb6)
      have hz6 : (wr.alloc (.cells #[] 93)).heap.size = wr.heap.size + 1 := by simp
      clear hst hstep hu hxs hjs hfl
      generalize hi' : (U.map Up.id).getD (j + 1) (0, 0) = i' at *
      have HI' := hid hi'
      have HRN := hid hrn
      clear hi' hrn
      generalize goneQ l u = gn at *
      cases gn
      · have hx20 : (bs u.x).size ≤ 281474976710656 := by
          have := Up.text_in hgu
          show u.x.toArray.size ≤ _
          simp; omega
        have HZ6 := hid hz6
        have HGU := hid hgu
        have HUM' := hid hum
        obtain ⟨i9, hi9, iz0, iz1, iz2⟩ := info_parts el_string.info
        clear hz6 hb6 hgu hum
        go_wp2_with fail
        clear hdl p0 p1 fp0 fp1
        generalize wr.alloc (.cells #[] 93) = w6 at *
        obtain ⟨p0, p1, fp0, fp1⟩ := HST6.out.idb.cells
        obtain ⟨v0, v1, v2, f0, f1⟩ := HST6.out.val.cells
        have hil := ins_look (w := w6.drew) ((HB4.out.kept HST6.out.grw (by simp; omega)).later ((Below.refl _ _).drew)) HSI.out HUM'.out
        have hfd : ∀ w : World, (Instr.field 122 (.agg #[.int .i64 u.age, .int .i64 u.id.1, .int .i64 u.id.2, .int .i64 u.ao, .int .i64 u.az, .string (bs u.x)]) 2).run Try.prog w = .ok (.string (bs u.x)) w := fun _ => by kernel_rfl
        have hn63 : xs.length + 1 ≤ maxLen := by unfold maxLen; omega
        have hn47 : (xs.length + 1) * 16 ≤ 140737488355328 := by omega
        have hz46 : w4.heap.size ≤ w6.heap.size := HST6.out.grw.size
        go_region_law (first
          | (refine step_append_lies _ (by rfl) (.tmp 35) (.tmp 41) 39 (by rfl) w4.heap.size 9 i9 (.string ⟨#[]⟩) 1 16 Try.underlying39 hi9 iz0 iz1 iz2 rfl (by decide) t xs.length (tcs xs) (by rfl) (World.ownsRow.alloc HST9.out.txt _) ⟨w9.heap.size, 0, none⟩ 1 1 [.string (bs u.x)] (by rfl) rfl (World.news_of_block (heap_alloc_new w9 _)) (one_str _) (by decide) hn63 hn47 hbase9 (w9.heap.size + 1) (by simp) ?_; intro g10 c10 w10 ho10 hg10 hat10 hlt10; have hv10 := val_app HST9.out.val hg10 (own_ge HST9.out.txt hV); obtain ⟨m0, m1, m2, n0, n1⟩ := hv10.cells; have HO10 := hid ho10; have HG10 := hid hg10; clear ho10 hg10 hat10 hlt10 hv10)
          | (go_simp; go_at_call 73; refine (clone_any (bs u.x) _ hx20).mono ?_; rintro e w9 ⟨rfl, hb9q⟩; have hb9 : Below w6.heap.size w6 w9 := ⟨hb9q.os, hb9q.tape, hb9q.output, hb9q.size, hb9q.block⟩; have hst9 := HST6.out.later hb9; obtain ⟨j0, j1, j2, k0, k1⟩ := hst9.val.cells; have HST9 := hid hst9; have hbase9 : w4.heap.size ≤ (w9.alloc (.cells #[.string (bs u.x)] 9)).heap.size := (by have := hb9.size; simp at this ⊢; omega); have z9 : w3.heap.size < w9.heap.size := (by have := hb9.size; omega); clear hb9 hb9q hst9))
        all_goals
          have hst11 := HST9.out.text (x := u.x) hV HT.out ((World.grownBy_alloc w9 _ _).trans HG10.out) HO10.out
          clear m0 m1 m2 n0 n1 j0 j1 j2 k0 k1 p0 p1 fp0 fp1 v0 v1 v2 f0 f1 hil hfd
          generalize w10.setCell ⟨w3.heap.size, 0, none⟩ (.slice (some ⟨g10, 0, none⟩) (xs.length + 1) c10) = w11 at *
          have HST11 := hid hst11
          have hPV : ¬ P = w3.heap.size := by have := hst11.ge; omega
          obtain ⟨p0, p1, fp0, fp1⟩ := hst11.idb.cells
          obtain ⟨v0, v1, v2, f0, f1⟩ := hst11.val.cells
          clear hst11
          go_wp2_with (at_builtin; refine app_one el_id _ rfl (.tmp 45) (.tmp 47) rfl w4.heap.size _ _ _ rfl HST11.out.ids [.int .i64 u.id.1, .int .i64 u.id.2] rfl (one_two _ _) rfl ?c2 ?c3 ?c4 ?_)
          case c2 => omega
          case c3 => unfold maxLen; omega
          case c4 => exact HST11.out.grw.size
          intro g12 c12 w12 ho12 hg12 hb12
          have hst13 := HST11.out.id (j := u.id) hV HI.out hg12 ho12
          have hv12 := HST11.out.val.grown hg12 (own_ge HST11.out.ids hV)
          have hp12 := HST11.out.idb.kept hg12 HI.out
          have hPl12 := lt_of_block hp12
          have hVl12 := lt_of_block hv12
          have hz13 : (w12.setCell ⟨w3.heap.size, 1, none⟩ (.slice (some ⟨g12, 0, none⟩) (js.length + 1) c12)).heap.size = w12.heap.size := by simp [World.setCell]
          obtain ⟨hf0, _, _⟩ := hst13.fresh u.id
          obtain ⟨hf, hT2, hI2⟩ := hst13.fresh i'
          rw [hz13] at hf hT2 hI2
          have hlk := next_look (HN4.out.kept hf0.grw (by simp; omega)) u.id
          rw [HRN.out] at hlk
          simp only [idV] at hlk
          have HF := hid hf
          have HT2 := hid hT2
          have HI2 := hid hI2
          clear hz13 p0 p1 fp0 fp1 v0 v1 v2 f0 f1 hf hf0 hT2 hI2 hst13 ho12 hg12 hb12
          obtain ⟨p0, p1, fp0, fp1⟩ := hp12.cells
          obtain ⟨v0, v1, v2, f0, f1⟩ := hv12.cells
          clear hp12 hv12
          go_wp2_with fail
          go_roundg (U.length - (j + 1))
          case measure => rw [HGK.out]; omega
          case rel =>
            have hst : (U.take (j + 1)).filter (fun u => !goneQ l u) = F ++ [u] := by rw [HSTEP.out]; simp
            exact ⟨j + 1, _, _, _, rfl, by omega, rfl, HT2.out, HI2.out, by rw [HI'.out, hst, List.map_append, List.map_append, HXS.out, HJS.out]; exact HF.out⟩
      · obtain ⟨hf0, _, _⟩ := HST6.out.fresh u.id
        obtain ⟨hf, hT2, hI2⟩ := HST6.out.fresh i'
        rw [hz6] at hf hT2 hI2
        have hlk := next_look (HN4.out.kept hf0.grw (by simp; omega)) u.id
        rw [HRN.out] at hlk
        simp only [idV] at hlk
        have HF := hid hf
        have HT2 := hid hT2
        have HI2 := hid hI2
        clear hf hf0 hT2 hI2 hz6 hb6
        go_wp2_with fail
        go_roundg (U.length - (j + 1))
        case measure => rw [HGK.out]; omega
        case rel => exact ⟨j + 1, _, t, ix, rfl, by omega, rfl, HT2.out, HI2.out, by rw [HI'.out, HSTEP.out, if_pos True.intro, HXS.out, HJS.out]; exact HF.out⟩
    · have hidj : (U.map Up.id).getD j (0, 0) = (0, 0) := by rw [List.getD_eq_getElem?_getD, List.getElem?_eq_none (by simp; omega)]; rfl
      have hall : U.take j = U := List.take_of_length_le (by omega)
      rw [hidj, hall, ← HSEQ.out] at hst
      have HST2 := hid hst
      obtain ⟨p0, p1, fp0, fp1⟩ := hst.idb.cells
      obtain ⟨v0, v1, v2, f0, f1⟩ := hst.val.cells
      have hres : ValB wr w.heap.size (.slice none 0 0) (.slice none 0 0) := HV4.out.grown hst.grw (by simp; omega)
      obtain ⟨x0, x1, x2, _, _⟩ := hres.cells
      obtain ⟨y0, y1, y2⟩ := hres.free
      have HBR : Hid (Below w.heap.size w wr) := HBW4.out.grown hst.grw HBW4.out.size (fun k hk => by cases hk; omega)
      obtain ⟨ta, tc, rfl⟩ := own_slice hst.txt
      obtain ⟨xa, xc, rfl⟩ := own_slice hst.ids
      have hzz : w.heap.size < w4.heap.size := by omega
      generalize hnl : ((seqD l).map Up.x).length = n1 at *
      generalize hnl2 : ((seqD l).map Up.id).length = n2 at *
      have HN1 := hid hnl
      have HN2 := hid hnl2
      clear hst hidj hall hres hnl hnl2
      go_wp2_with fail
      refine bodyPost_ret (v := .agg #[.slice ta n1 tc, .slice xa n2 xc, .int .i64 0]) ?_ rfl (RowAns.of _ _ n1 n2 ?_ ?_ ?_)
      · simp [results, Try.results65, go_sem, x0, x1, x2]
      · refine ownsRow_mono ?_ (Nat.le_of_lt hzz)
        iterate 3 (refine ownsRow_setCell_below ?_ hzz _)
        have := HST2.out.txt
        rw [HN1.out] at this
        exact this
      · refine ownsRow_mono ?_ (Nat.le_of_lt hzz)
        iterate 3 (refine ownsRow_setCell_below ?_ hzz _)
        have := HST2.out.ids
        rw [HN2.out] at this
        exact this
      · have q1 : Below w.heap.size w (wr.setCell ⟨w.heap.size, 0, none⟩ (.slice ta n1 tc)) := Below.setCell HBR.out (Nat.le_refl _) _
        have q2 := Below.setCell q1 (p := ⟨w.heap.size, 1, none⟩) (Nat.le_refl _) (.slice xa n2 xc)
        exact Below.setCell q2 (p := ⟨w.heap.size, 2, none⟩) (Nat.le_refl _) _
end Go.Proofs.Yteljbblbdiploaa
