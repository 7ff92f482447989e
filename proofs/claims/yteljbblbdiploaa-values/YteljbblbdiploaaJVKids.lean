/-
  WALKS: the document's answer: which insert stands ahead.
-/
/-
  WALKS: the document's answer: on which insert one hangs.
-/
/-
  PLAIN: laid into their places by an order, one by one; those that hang on one, by their places in a list; no Go text in sight.
-/
import Derived.Test.YteljbblbdiploaaJVTexts
import Derived.Test.YteljbblbdiploaaJVSeq
namespace Go.Proofs.Yteljbblbdiploaa
open Go.RowKit

/-- an update's cells in a block of its own -/
def upArr (u : Up) (ao : Option Addr) (cap : Nat) : Array Value := #[.int .i64 u.o, .slice ao u.c.length cap, .int .u8 u.t, .int .u8 u.k, .string (bs u.n), .string (bs u.x), .int .i64 u.a, .int .i64 u.ao, .int .i64 u.az]
/-- an update in a block of its own -/
def BoxU (w : World) (B : Nat) (u : Up) (ao : Option Addr) (cap : Nat) : Prop := w.heap[B]? = some (.cells (upArr u ao cap) 28 (0, 0))
theorem BoxU.lt {w : World} {B : Nat} {u : Up} {ao : Option Addr} {cap : Nat} (h : BoxU w B u ao cap) : B < w.heap.size := lt_of_block h
theorem BoxU.below {w w' : World} {B C : Nat} {u : Up} {ao : Option Addr} {cap : Nat} (h : BoxU w B u ao cap) (hb : Below C w w') (hC : B < C) : BoxU w' B u ao cap := (hb.block B hC).trans h
theorem BoxU.later {w w' : World} {B : Nat} {u : Up} {ao : Option Addr} {cap : Nat} (h : BoxU w B u ao cap) (hb : Below w.heap.size w w') : BoxU w' B u ao cap := h.below hb h.lt
theorem BoxU.nine {w : World} {B : Nat} {u : Up} {ao : Option Addr} {cap : Nat} (h : BoxU w B u ao cap) : w.cell? ⟨B, 0, none⟩ = some (.int .i64 u.o) ∧ w.cell? ⟨B, 1, none⟩ = some (.slice ao u.c.length cap) ∧ w.cell? ⟨B, 2, none⟩ = some (.int .u8 u.t) ∧ w.cell? ⟨B, 3, none⟩ = some (.int .u8 u.k) ∧ w.cell? ⟨B, 4, none⟩ = some (.string (bs u.n)) ∧
    w.cell? ⟨B, 5, none⟩ = some (.string (bs u.x)) ∧ w.cell? ⟨B, 6, none⟩ = some (.int .i64 u.a) ∧ w.cell? ⟨B, 7, none⟩ = some (.int .i64 u.ao) ∧ w.cell? ⟨B, 8, none⟩ = some (.int .i64 u.az) := by
  have hc := fun i => cell_of_row w B i _ _ (0, 0) h
  exact ⟨hc 0, hc 1, hc 2, hc 3, hc 4, hc 5, hc 6, hc 7, hc 8⟩
theorem BoxU.re9 {w : World} {B : Nat} {u : Up} {ao : Option Addr} {cap : Nat} (h : BoxU w B u ao cap) :
    (∀ d os, (Sort.grow (redrawn w d) os).cell? ⟨B, 0, none⟩ = some (.int .i64 u.o)) ∧ (∀ d os, (Sort.grow (redrawn w d) os).cell? ⟨B, 1, none⟩ = some (.slice ao u.c.length cap)) ∧ (∀ d os, (Sort.grow (redrawn w d) os).cell? ⟨B, 2, none⟩ = some (.int .u8 u.t)) ∧
    (∀ d os, (Sort.grow (redrawn w d) os).cell? ⟨B, 3, none⟩ = some (.int .u8 u.k)) ∧ (∀ d os, (Sort.grow (redrawn w d) os).cell? ⟨B, 4, none⟩ = some (.string (bs u.n))) ∧ (∀ d os, (Sort.grow (redrawn w d) os).cell? ⟨B, 5, none⟩ = some (.string (bs u.x))) ∧
    (∀ d os, (Sort.grow (redrawn w d) os).cell? ⟨B, 6, none⟩ = some (.int .i64 u.a)) ∧ (∀ d os, (Sort.grow (redrawn w d) os).cell? ⟨B, 7, none⟩ = some (.int .i64 u.ao)) ∧ (∀ d os, (Sort.grow (redrawn w d) os).cell? ⟨B, 8, none⟩ = some (.int .i64 u.az)) := by
  obtain ⟨c0, c1, c2, c3, c4, c5, c6, c7, c8⟩ := h.nine
  exact ⟨cell_regrown c0, cell_regrown c1, cell_regrown c2, cell_regrown c3, cell_regrown c4, cell_regrown c5, cell_regrown c6, cell_regrown c7, cell_regrown c8⟩
theorem boxU_new (w : World) (u : Up) (ao : Option Addr) (cap : Nat) : BoxU (w.alloc (.cells (upArr u ao cap) 28)) w.heap.size u ao cap ∧ Below w.heap.size w (w.alloc (.cells (upArr u ao cap) 28)) :=
  ⟨heap_alloc_new w _, (Below.refl _ _).alloc (Nat.le_refl _) _⟩

/-- does a stand ahead of b, where both hang on one? -/
def aheadB (a b : Up) : Bool := if a.age = b.age then (if a.o = b.o then decide (b.seq < a.seq) else decide (b.o < a.o)) else decide (b.age < a.age)

set_option maxRecDepth 16000 in
set_option maxHeartbeats 1000000 in
theorem ahead_any (u v : Up) (ao bo : Option Addr) (cap cbp : Nat) (w : World) (hu : u.good = true) (hv : v.good = true) (hc : ClkAt w ao cap u.c) (hd : ClkAt w bo cbp v.c) :
    Calls Try.prog 94 #[upV u ao cap, upV v bo cbp] w fun e w' => e = .returned (.bool (aheadB u v)) ∧ Below w.heap.size w w' := by
  obtain ⟨b1, o1, g1, rfl, hg1, hgl1, hcell, -, hbl1⟩ := Up.parts hu hc
  obtain ⟨b2, o2, g2, rfl, hg2, hgl2, hcell2, -, hbl2⟩ := Up.parts hv hd
  have hat : w.cell? ⟨b1, o1 + u.o.toNat, none⟩ = some (.int .i64 u.seq) := hcell u.o.toNat (by omega)
  have hseq : w.cell? ⟨b2, o2 + v.o.toNat, none⟩ = some (.int .i64 v.seq) := hcell2 v.o.toNat (by omega)
  have HAT := hid hat
  have HSEQ := hid hseq
  have hu0 : 0 ≤ u.o := by omega
  have hu1 : u.o < u.c.length := by omega
  have hv0 : 0 ≤ v.o := by omega
  have hv1 : v.o < v.c.length := by omega
  have hlu := (u.good_iff.1 hu).1
  have hlv := (v.good_iff.1 hv).1
  have HR : Hid (aheadB u v = (if u.age = v.age then (if u.o = v.o then decide (v.seq < u.seq) else decide (v.o < u.o)) else decide (v.age < u.age))) := rfl
  have HU := hid hu
  have HV := hid hv
  have HC := hid hc
  have HD := hid hd
  clear hcell hcell2 hc hd hu hv hg1 hg2 hgl1 hgl2 hat hseq
  unfold upV
  go_enter Try.func94, Try.ntmps94
  go_wp2_with fail
  obtain ⟨k1, l1⟩ := boxU_new w u (some ⟨b1, o1, none⟩) cap
  obtain ⟨k2, l2⟩ := boxU_new (w.alloc (.cells (upArr u (some ⟨b1, o1, none⟩) cap) 28)) v (some ⟨b2, o2, none⟩) cbp
  have k1 := k1.later l2
  have l2 := l1.trans (l2.mono l1.size)
  simp only [upArr] at k1 k2 l2
  clear l1
  generalize (w.alloc (.cells #[.int .i64 u.o, .slice (some ⟨b1, o1, none⟩) u.c.length cap, .int .u8 u.t, .int .u8 u.k, .string (bs u.n), .string (bs u.x), .int .i64 u.a, .int .i64 u.ao, .int .i64 u.az] 28)).alloc (.cells #[.int .i64 v.o, .slice (some ⟨b2, o2, none⟩) v.c.length cbp, .int .u8 v.t, .int .u8 v.k, .string (bs v.n), .string (bs v.x), .int .i64 v.a, .int .i64 v.ao, .int .i64 v.az] 28) = wq at *
  have k2' : BoxU wq (w.heap.size + 1) v (some ⟨b2, o2, none⟩) cbp := by simpa using k2
  have K1 := hid k1
  have K2 := hid k2'
  have L2 := hid l2
  clear k1 k2 k2' l2
  refine (refAge_any u _ _ wq HU.out (HC.out.later L2.out)).mono ?_
  rintro e w1 ⟨rfl, hb1⟩
  obtain ⟨p0, p1, p2, p3, p4, p5, p6, p7, p8⟩ := (K2.out.later hb1).nine
  have HB1 := hid hb1
  clear hb1
  go_wp2_with fail
  have hb1 := HB1.out
  have hz1 : w.heap.size ≤ w1.heap.size := Nat.le_trans L2.out.size hb1.size
  have hb01 : Below w.heap.size w w1 := L2.out.trans (hb1.mono L2.out.size)
  refine (refAge_any v _ _ w1 HV.out (HD.out.later hb01)).mono ?_
  rintro e w2 ⟨rfl, hb2⟩
  have hb02 : Below w.heap.size w w2 := hb01.trans (hb2.mono hz1)
  obtain ⟨q0, q1, q2, q3, q4, q5, q6, q7, q8⟩ := ((K2.out.later hb1).later hb2).nine
  obtain ⟨r0, r1, r2, r3, r4, r5, r6, r7, r8⟩ := ((K1.out.later hb1).later hb2).nine
  have x1 : w2.cell? ⟨b1, o1 + u.o.toNat, none⟩ = some (.int .i64 u.seq) := (hb02.cell (p := ⟨b1, o1 + u.o.toNat, none⟩) hbl1).trans HAT.out
  have x2 : w2.cell? ⟨b2, o2 + v.o.toNat, none⟩ = some (.int .i64 v.seq) := (hb02.cell (p := ⟨b2, o2 + v.o.toNat, none⟩) hbl2).trans HSEQ.out
  have HB02 := hid hb02
  clear hb1 hb2 hb01 hb02 p0 p1 p2 p3 p4 p5 p6 p7 p8
  generalize u.age = ua at *
  generalize v.age = va at *
  by_cases h1 : ua = va
  · subst h1
    by_cases h2 : u.o = v.o
    · have h2' : (u.o == v.o) = true := by simp [h2]
      have HR2 : Hid (aheadB u v = decide (v.seq < u.seq)) := by rw [Hid, HR.out, if_pos rfl, if_pos h2]
      clear h2
      generalize u.seq = us at *
      generalize v.seq = vs at *
      go_wp2_with fail
      go_quiet (fail)
      go_wp2
      go_ret
      exact ⟨ret_bool HR2.out.symm, ⟨HB02.out.os, HB02.out.tape, HB02.out.output, HB02.out.size, HB02.out.block⟩⟩
    · have HR2 : Hid (aheadB u v = decide (v.o < u.o)) := by rw [Hid, HR.out, if_pos rfl, if_neg h2]
      go_wp2_with fail
      go_ret
      exact ⟨ret_bool HR2.out.symm, HB02.out⟩
  · have HR2 : Hid (aheadB u v = decide (va < ua)) := by rw [Hid, HR.out, if_neg h1]
    go_wp2_with fail
    go_ret
    exact ⟨ret_bool HR2.out.symm, HB02.out⟩
end Go.Proofs.Yteljbblbdiploaa

namespace Go.Proofs.Yteljbblbdiploaa
open Go.RowKit

/-- does u hang on y? -/
def hangB (y u : Up) : Bool := decide (y.id = u.anc) && decide (y.age < u.age)
/-- on which of l: its place, or -1 -/
def hangsAt (l : List Up) (u : Up) : Int := match l.findIdx? (fun y => hangB y u) with | some i => i | none => -1

theorem hang_next {l : List Up} {k : Nat} {y u : Up} (hy : l[k]? = some y) (h : ∀ z ∈ l.take k, hangB z u = false) (hh : hangB y u = false) : ∀ z ∈ l.take (k + 1), hangB z u = false := by
  intro z hz
  rw [List.take_add_one, hy] at hz
  rcases List.mem_append.1 hz with m | m
  · exact h z m
  · simp at m; subst m; exact hh

set_option maxRecDepth 16000 in
set_option maxHeartbeats 1000000 in
theorem hangs_any (b off cap : Nat) (l : List Up) (u : Up) (ao : Option Addr) (cp : Nat) (w : World) (hl : UpsAt w b off l) (hs : ∀ u ∈ l, u.good = true) (hu : u.good = true) (hc : ClkAt w ao cp u.c) (h8 : l.length ≤ 8000) :
    Calls Try.prog 83 #[.slice (some ⟨b, off, none⟩) l.length cap, upV u ao cp] w fun e w' => e = .returned (.int .i64 (hangsAt l u)) ∧ Below w.heap.size w w' := by
  have HL := hid hl
  have HS := hid hs
  have HU := hid hu
  have HC := hid hc
  clear hl hs hu hc
  unfold upV
  go_enter Try.func83, Try.ntmps83
  go_wp2_with fail
  obtain ⟨k1, l1⟩ := boxU_new w u ao cp
  simp only [upArr] at k1 l1
  generalize w.alloc (.cells #[.int .i64 u.o, .slice ao u.c.length cp, .int .u8 u.t, .int .u8 u.k, .string (bs u.n), .string (bs u.x), .int .i64 u.a, .int .i64 u.ao, .int .i64 u.az] 28) = wq at *
  have K1 := hid k1
  have L1 := hid l1
  clear k1 l1
  go_loopw [5] (fun i wr => ∃ k : Nat, k ≤ l.length ∧ i = .int .i64 k ∧ (∀ y ∈ l.take k, hangB y u = false) ∧ Below wq.heap.size wq wr) (fun i _ => l.length - (intOf i).toNat)
  case atStart => exact ⟨0, by omega, rfl, by simp, Below.refl _ _⟩
  case round =>
    obtain ⟨k, hk, rfl, hall, hb⟩ := hrel
    have HA := hid hall
    have HB := hid hb
    clear hall hb
    have hbw : Below w.heap.size w wr := L1.out.trans (HB.out.mono L1.out.size)
    have HBW := hid hbw
    by_cases hlt : k < l.length
    · obtain ⟨y, hy⟩ : ∃ y, l[k]? = some y := ⟨l[k], List.getElem?_eq_getElem hlt⟩
      obtain ⟨ya, yc, hyt⟩ := (HL.out.later hbw) k y hy
      have HYT := hid hyt
      have HY := hid hy
      have HYM := hid (List.mem_of_getElem? hy)
      obtain ⟨d0, d1, d2, d3, d4, d5, d6, d7, d8⟩ := hyt.re9
      obtain ⟨c0, c1, c2, c3, c4, c5, c6, c7, c8⟩ := (K1.out.later HB.out).re9
      clear hy hyt hbw
      go_wp2_with fail
      have hcase : (y.id.fst = u.ao ∧ y.id.snd = u.az ∧ Hid (y.id = u.anc)) ∨ (y.id.fst = u.ao ∧ y.id.snd ≠ u.az ∧ Hid (y.id ≠ u.anc)) ∨ (y.id.fst ≠ u.ao ∧ True ∧ Hid (y.id ≠ u.anc)) := by
        by_cases h1 : y.id.fst = u.ao
        · by_cases h2 : y.id.snd = u.az
          · exact .inl ⟨h1, h2, Prod.ext h1 h2⟩
          · exact .inr (.inl ⟨h1, h2, fun e => h2 (by rw [e]; rfl)⟩)
        · exact .inr (.inr ⟨h1, trivial, fun e => h1 (by rw [e]; rfl)⟩)
      rcases hcase with ⟨h1, h2, h3⟩ | ⟨h1, h2, h3⟩ | ⟨h1, h2, h3⟩
      all_goals
        refine wp_region_quiet_below (by kernel_rfl) (by kernel_rfl) ?_
        repeat (go_big_quiet_step (first | (go_at_call 43; exact Calls.regrown_of (refId_any y _ _ _ (HS.out y HYM.out) (HYT.out.clk.later (below_regrown wr _ _)))) | (go_at_call_of 93 (y.o); exact Calls.regrown_of (refAge_any y _ _ _ (HS.out y HYM.out) (HYT.out.clk.later (below_regrown wr _ _)))) | (go_at_call_of 93 (u.o); exact Calls.regrown_of (refAge_any u _ _ _ HU.out ((HC.out.later HBW.out).later (below_regrown wr _ _))))))
        refine wpQuiet_nil ?_
        intro _ hw'
        obtain ⟨⟨nq, osq⟩, hw''⟩ := hw'
        subst hw''
        clear c0 c1 c2 c3 c4 c5 c6 c7 c8 d0 d1 d2 d3 d4 d5 d6 d7 d8
        have HBN : Hid (Below wq.heap.size wq (Sort.grow (redrawn wr nq) osq)) := HB.out.trans ((below_regrown wr nq osq).mono HB.out.size)
        clear h1 h2
      · by_cases hag : y.age < u.age
        · have HH : Hid (hangB y u = true) := by simp [Hid, hangB, h3.out, hag]
          go_wp2_with fail
          go_ret
          refine ⟨ret_int ?_, L1.out.trans (HBN.out.mono L1.out.size)⟩
          have : l.findIdx? (fun y => hangB y u) = some k := by
            rw [List.findIdx?_eq_some_iff_getElem]
            refine ⟨hlt, ?_, fun j hj => ?_⟩
            · have := HY.out; rw [List.getElem?_eq_getElem hlt] at this; cases this; exact HH.out
            · have := HA.out l[j] (List.mem_take_iff_getElem.2 ⟨j, by omega, rfl⟩); simp [this]
          simp [hangsAt, this]
        · have HH : Hid (hangB y u = false) := by simp [Hid, hangB, hag]
          go_wp2_with fail
          go_roundw
          case rel => exact ⟨k + 1, by omega, by go_num, hang_next HY.out HA.out HH.out, HBN.out⟩
          case measure => simp [intOf]; omega
      all_goals
        have HH : Hid (hangB y u = false) := by simp [Hid, hangB, h3.out]
        go_wp2_with fail
        go_roundw
        case rel => exact ⟨k + 1, by omega, by go_num, hang_next HY.out HA.out HH.out, HBN.out⟩
        case measure => simp [intOf]; omega
    · go_wp2_with fail
      go_ret
      refine ⟨ret_int ?_, HBW.out⟩
      have hk' : l.take k = l := List.take_of_length_le (by omega)
      have : l.findIdx? (fun y => hangB y u) = none := by
        rw [List.findIdx?_eq_none_iff]
        intro y hy
        exact HA.out y (by rw [hk']; exact hy)
      simp [hangsAt, this]
end Go.Proofs.Yteljbblbdiploaa

namespace Go.Proofs.Yteljbblbdiploaa

section
variable {α : Type}
/-- laid ahead of the first one that it goes ahead of -/
def insG (lt : α → α → Bool) (s : α) : List α → List α
  | [] => [s]
  | x :: l => if lt s x then s :: x :: l else x :: insG lt s l
/-- how that goes while the list is passed through -/
def wG (lt : α → α → Bool) (s : α) (l : List α) : List α := if l.any (fun x => lt s x) then insG lt s l else l

theorem mem_insG (lt : α → α → Bool) (s z : α) : ∀ l, z ∈ insG lt s l ↔ z = s ∨ z ∈ l
  | [] => by simp [insG]
  | x :: l => by
    unfold insG; split
    · simp
    · simp only [List.mem_cons, mem_insG lt s z l]
      constructor <;> (intro h; rcases h with h | h | h <;> simp [h])
theorem insG_len (lt : α → α → Bool) (s : α) : ∀ l, (insG lt s l).length = l.length + 1
  | [] => rfl
  | x :: l => by unfold insG; split <;> simp [insG_len lt s l]
theorem insG_app (lt : α → α → Bool) (s x : α) : ∀ l, insG lt s (l ++ [x]) = if l.any (fun y => lt s y) then insG lt s l ++ [x] else if lt s x then l ++ [s, x] else l ++ [x, s]
  | [] => by simp [insG]
  | y :: l => by
    simp only [List.cons_append, insG, insG_app lt s x l, List.any_cons]
    by_cases h : lt s y = true
    · simp [h]
    · simp only [h, Bool.false_eq_true, if_false, Bool.false_or]
      split
      · rfl
      · split <;> rfl
theorem insG_none (lt : α → α → Bool) (s : α) : ∀ l : List α, l.any (fun y => lt s y) = false → insG lt s l = l ++ [s]
  | [], _ => rfl
  | y :: l, h => by
    simp only [List.any_cons, Bool.or_eq_false_iff] at h
    simp [insG, h.1, insG_none lt s l h.2]
theorem wG_app (lt : α → α → Bool) (s x : α) (l : List α) : wG lt s (l ++ [x]) = if l.any (fun y => lt s y) then wG lt s l ++ [x] else if lt s x then wG lt s l ++ [s] ++ [x] else wG lt s l ++ [x] := by
  unfold wG
  simp only [List.any_append, List.any_cons, List.any_nil, Bool.or_false, insG_app]
  by_cases h : l.any (fun y => lt s y) = true
  · simp [h]
  · by_cases k : lt s x = true
    · simp [h, k]
    · simp [h, k]
theorem wG_len (lt : α → α → Bool) (s : α) (l : List α) : (wG lt s l).length ≤ l.length + 1 := by
  have := insG_len lt s l
  unfold wG; split <;> omega
theorem wG_end (lt : α → α → Bool) (s : α) (l : List α) : insG lt s l = if l.any (fun y => lt s y) then wG lt s l else wG lt s l ++ [s] := by
  unfold wG
  cases h : l.any (fun y => lt s y)
  · simp [insG_none lt s l h]
  · simp
theorem insG_sorted (lt : α → α → Bool) (tr : ∀ x y z, lt x y = true → lt y z = true → lt x z = true) (s : α) : ∀ l : List α, (∀ z ∈ l, lt s z = true ∨ lt z s = true) → l.Pairwise (fun x y => lt x y = true) → (insG lt s l).Pairwise fun x y => lt x y = true
  | [], _, _ => by simp [insG]
  | x :: l, ht, h => by
    obtain ⟨h1, h2⟩ := List.pairwise_cons.1 h
    unfold insG; split
    · rename_i hs
      exact List.pairwise_cons.2 ⟨fun z hz => (List.mem_cons.1 hz).elim (fun e => e ▸ hs) (fun m => tr _ _ _ hs (h1 z m)), h⟩
    · rename_i hs
      refine List.pairwise_cons.2 ⟨fun z hz => ?_, insG_sorted lt tr s l (fun z m => ht z (by simp [m])) h2⟩
      rcases (mem_insG lt s z l).1 hz with rfl | hz
      · exact (ht x (by simp)).resolve_left hs
      · exact h1 z hz
end

/-- those of the first m places that hang on one, laid into their places -/
def kidsBy (ah : Nat → Nat → Bool) (es : List Int) (on : Int) (m : Nat) : List Nat := ((List.range m).filter fun i => decide (es.getD i (-2) = on)).foldl (fun ks i => insG ah i ks) []
theorem kidsBy_succ (ah : Nat → Nat → Bool) (es : List Int) (on : Int) (m : Nat) : kidsBy ah es on (m + 1) = if es.getD m (-2) = on then insG ah m (kidsBy ah es on m) else kidsBy ah es on m := by
  unfold kidsBy
  rw [List.range_succ, List.filter_append, List.foldl_append]
  by_cases h : es.getD m (-2) = on
  · rw [if_pos h, List.filter_cons_of_pos (by simpa using h)]; rfl
  · rw [if_neg h, List.filter_cons_of_neg (by simpa using h)]; rfl
theorem kidsBy_len (ah : Nat → Nat → Bool) (es : List Int) (on : Int) : ∀ m, (kidsBy ah es on m).length ≤ m
  | 0 => by simp [kidsBy]
  | m + 1 => by
    have := kidsBy_len ah es on m
    rw [kidsBy_succ]; split
    · rw [insG_len]; omega
    · omega
theorem mem_kidsBy (ah : Nat → Nat → Bool) (es : List Int) (on : Int) (z : Nat) : ∀ m, z ∈ kidsBy ah es on m ↔ z < m ∧ es.getD z (-2) = on
  | 0 => by simp [kidsBy]
  | m + 1 => by
    rw [kidsBy_succ]; split
    · rename_i h
      rw [mem_insG, mem_kidsBy ah es on z m]
      constructor
      · rintro (rfl | ⟨h1, h2⟩)
        · exact ⟨by omega, h⟩
        · exact ⟨by omega, h2⟩
      · rintro ⟨h1, h2⟩
        by_cases e : z = m
        · exact .inl e
        · exact .inr ⟨by omega, h2⟩
    · rename_i h
      rw [mem_kidsBy ah es on z m]
      constructor
      · rintro ⟨h1, h2⟩; exact ⟨by omega, h2⟩
      · rintro ⟨h1, h2⟩
        refine ⟨?_, h2⟩
        have : z ≠ m := fun e => h (e ▸ h2)
        omega
end Go.Proofs.Yteljbblbdiploaa
