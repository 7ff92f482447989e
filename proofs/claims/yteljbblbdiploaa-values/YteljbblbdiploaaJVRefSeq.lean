/-
  WALKS: the document's answer: a sequence.
-/
import Derived.Test.YteljbblbdiploaaJVRow
import Derived.Deep.RegionLaw
namespace Go.Proofs.Yteljbblbdiploaa
open Go.RowKit

set_option maxRecDepth 16000 in
set_option maxHeartbeats 1000000 in
theorem below_nil (on : Int) (w : World) : Calls Try.prog 84 #[.slice none 0 0, .slice none 0 0, .int .i64 on] w fun e w' => e = .returned (.slice none 0 0) ∧ w' = w := by
  go_enter Try.func84, Try.ntmps84
  go_wp2_with fail
  go_loopw [7, 8] (fun kids i wr => kids = .slice none 0 0 ∧ i = .int .i64 0 ∧ wr = w) (fun _ _ _ => 0)
  case atStart => exact ⟨rfl, rfl, rfl⟩
  case round =>
    obtain ⟨rfl, rfl, rfl⟩ := hrel
    go_wp2_with fail
    go_loopw [13, 14] (fun out k wx => out = .slice none 0 0 ∧ k = .int .i64 0 ∧ wx = wr) (fun _ _ _ => 0)
    case atStart => exact ⟨rfl, rfl, rfl⟩
    case round =>
      obtain ⟨rfl, rfl, rfl⟩ := hrel
      go_wp2_with fail
      go_ret
      exact ⟨rfl, rfl⟩

/-- the inserts -/
def insD (l : List Up) : List Up := l.filter fun u => decide (u.k = 0)
theorem insD_step {l : List Up} {i : Nat} {u : Up} (h : l[i]? = some u) : insD (l.take (i + 1)) = if u.k = 0 then insD (l.take i) ++ [u] else insD (l.take i) := by
  rw [insD, List.take_add_one, h, List.filter_append]
  by_cases hk : u.k = 0
  · rw [if_pos hk]; simp [insD, hk]
  · rw [if_neg hk]; simp [insD, hk]
theorem insD_len (l : List Up) : (insD l).length ≤ l.length := List.length_filter_le _ _
/-- one of the deletes has its id -/
def goneQ (l : List Up) (u : Up) : Bool := l.any fun d => decide (d.k = 1) && decide (d.anc = u.id)
/-- the updates of a row of places -/
def atPlaces (ins : List Up) (r : List Nat) : List Up := r.filterMap fun i => ins[i]?
/-- a sequence, as the document says it -/
def seqD (l : List Up) : List Up := (atPlaces (insD l) (treeRow (insD l) (-1))).filter fun u => !goneQ l u

/-- ids as a row's cells -/
def idcs : List (Int × Int) → List Value
  | [] => []
  | i :: l => .int .i64 i.1 :: .int .i64 i.2 :: idcs l

/-- a value's three cells in a block of its own -/
def ValB (w : World) (B : Nat) (t i : Value) : Prop := w.heap[B]? = some (.cells #[t, i, .int .i64 0] 51 (0, 0))

/-- does a delete have this id? -/
def delB (d u : Up) : Bool := decide (d.k = 1) && decide (d.anc = u.id)
theorem goneQ_eq (l : List Up) (u : Up) : goneQ l u = l.any fun d => delB d u := rfl
theorem del_cases (d u : Up) : ((d.k == 1) = false ∧ True ∧ True ∧ Hid (delB d u = false)) ∨ ((d.k == 1) = true ∧ d.ao = u.id.fst ∧ d.az = u.id.snd ∧ Hid (delB d u = true)) ∨ ((d.k == 1) = true ∧ d.ao = u.id.fst ∧ ¬ d.az = u.id.snd ∧ Hid (delB d u = false)) ∨ ((d.k == 1) = true ∧ ¬ d.ao = u.id.fst ∧ True ∧ Hid (delB d u = false)) := by
  by_cases hk : d.k = 1
  · by_cases h1 : d.ao = u.id.fst
    · by_cases h2 : d.az = u.id.snd
      · exact .inr (.inl ⟨by simp [hk], h1, h2, by simp [Hid, delB, hk, Up.anc, h1, h2]⟩)
      · exact .inr (.inr (.inl ⟨by simp [hk], h1, h2, by simp [Hid, delB, Up.anc, Prod.ext_iff, h2]⟩))
    · exact .inr (.inr (.inr ⟨by simp [hk], h1, trivial, by simp [Hid, delB, Up.anc, Prod.ext_iff, h1]⟩))
  · exact .inl ⟨by simp [hk], trivial, trivial, by simp [Hid, delB, hk]⟩

/-- rows of elements of two types lie in two blocks -/
theorem own_ne {w : World} {b1 b2 : Nat} {E1 E2 : TypeId} {s1 s2 : Nat} {v1 v2 : Value} {n1 n2 : Nat} {x1 x2 : List Value} (h1 : w.ownsRow b1 E1 s1 v1 n1 x1) (h2 : w.ownsRow b2 E2 s2 v2 n2 x2) (hE : E1 ≠ E2) : v1.ownBlock = none ∨ v1.ownBlock ≠ v2.ownBlock := by
  rcases h1.2 with ⟨rfl, _⟩ | ⟨g1, c1, r1, rfl, _, k1, _⟩
  · exact .inl rfl
  · rcases h2.2 with ⟨rfl, _⟩ | ⟨g2, c2, r2, rfl, _, k2, _⟩
    · exact .inr (by simp [Value.ownBlock])
    · refine .inr fun e => ?_
      simp only [Value.ownBlock, Option.some.injEq] at e
      subst e
      rw [k1] at k2
      simp only [Option.some.injEq, Obj.cells.injEq] at k2
      exact hE k2.2.1
theorem own_ge {w : World} {base : Nat} {E : TypeId} {size : Nat} {v : Value} {n : Nat} {xs : List Value} {B : Nat} (h : w.ownsRow base E size v n xs) (hB : B < base) : some B ≠ v.ownBlock := fun e => by have := own_base h B e.symm; omega
theorem one_two (a b : Int) : ∀ u ∈ [Value.int .i64 a, Value.int .i64 b], u.oneCell' = true := by
  intro u hu
  simp only [List.mem_cons, List.not_mem_nil, or_false] at hu
  rcases hu with rfl | rfl <;> rfl
theorem idcs_app : ∀ (l : List (Int × Int)) (i : Int × Int), idcs (l ++ [i]) = idcs l ++ [.int .i64 i.1, .int .i64 i.2]
  | [], _ => rfl
  | x :: l, i => by rw [List.cons_append, idcs, idcs, idcs_app l i]; rfl
theorem ValB.cells {w : World} {B : Nat} {t i : Value} (h : ValB w B t i) : w.cell? ⟨B, 0, none⟩ = some t ∧ w.cell? ⟨B, 1, none⟩ = some i ∧ w.cell? ⟨B, 2, none⟩ = some (.int .i64 0) ∧ w.frozen? ⟨B, 0, none⟩ = false ∧ w.frozen? ⟨B, 1, none⟩ = false := by
  have hc := fun i => cell_of_row w B i _ _ (0, 0) h
  exact ⟨hc 0, hc 1, hc 2, frozen_of_row w B 0 _ _ h, frozen_of_row w B 1 _ _ h⟩
theorem ValB.grown {w w' : World} {B : Nat} {t i : Value} {row : Option Nat} (h : ValB w B t i) (hg : w.grownBy w' row) (hne : some B ≠ row) : ValB w' B t i := (hg.block B (lt_of_block h) hne).trans h
theorem ValB.below {w w' : World} {B C : Nat} {t i : Value} (h : ValB w B t i) (hb : Below C w w') (hC : B < C) : ValB w' B t i := (hb.block B hC).trans h
theorem val_setBlk {w : World} {B i : Nat} {cs : Array Value} {T : TypeId} (h : w.heap[B]? = some (.cells cs T (0, 0))) (v : Value) : (w.setCell ⟨B, i, none⟩ v).heap[B]? = some (.cells (cs.setIfInBounds i v) T (0, 0)) := by
  have hlt := lt_of_block h
  have h' : w.heap[B] = .cells cs T (0, 0) := by simpa [Array.getElem?_eq_getElem hlt] using h
  show (w.heap.modify B _)[B]? = _
  rw [Array.getElem?_eq_getElem (by simpa using hlt), Array.getElem_modify_self, h']
  rfl
theorem val_app {w w' : World} {B : Nat} {t i : Value} {o : Obj} {row : Option Nat} (h : ValB w B t i) (hg : (w.alloc o).grownBy w' row) (hne : some B ≠ row) : ValB w' B t i :=
  (hg.block B (by have := lt_of_block h; simp; omega) hne).trans ((Below.heap_alloc w o B (lt_of_block h)).trans h)
theorem ValB.set0 {w : World} {B : Nat} {t i : Value} (h : ValB w B t i) (v : Value) : ValB (w.setCell ⟨B, 0, none⟩ v) B v i := val_setBlk h v
theorem ValB.set1 {w : World} {B : Nat} {t i : Value} (h : ValB w B t i) (v : Value) : ValB (w.setCell ⟨B, 1, none⟩ v) B t v := val_setBlk h v
theorem grown_setB (w : World) (B i : Nat) (v : Value) : w.grownBy (w.setCell ⟨B, i, none⟩ v) (some B) :=
  ⟨rfl, rfl, rfl, by simp [World.setCell], fun k _ hne => Below.heap_setCell w ⟨B, i, none⟩ v k (fun e => hne (by rw [e]))⟩

theorem own_slice {w : World} {base : Nat} {E : TypeId} {size : Nat} {v : Value} {n : Nat} {xs : List Value} (h : w.ownsRow base E size v n xs) : ∃ ao cp, v = .slice ao n cp := by
  rcases h.2 with ⟨rfl, rfl⟩ | ⟨g, cap, cur, rfl, _⟩
  · exact ⟨none, 0, rfl⟩
  · exact ⟨_, cap, rfl⟩
theorem ValB.free {w : World} {B : Nat} {t i : Value} (h : ValB w B t i) : w.frozen? ⟨B, 0, none⟩ = false ∧ w.frozen? ⟨B, 1, none⟩ = false ∧ w.frozen? ⟨B, 2, none⟩ = false :=
  ⟨frozen_of_row w B 0 _ _ h, frozen_of_row w B 1 _ _ h, frozen_of_row w B 2 _ _ h⟩

/-- those that are shown, of the first places -/
def shownD (l ins : List Up) (r : List Nat) : List Up := (atPlaces ins r).filter fun u => !goneQ l u
theorem shownD_step {l ins : List Up} {r : List Nat} {j i : Nat} {u : Up} (h : r[j]? = some i) (hu : ins[i]? = some u) : shownD l ins (r.take (j + 1)) = if goneQ l u then shownD l ins (r.take j) else shownD l ins (r.take j) ++ [u] := by
  rw [shownD, atPlaces, List.take_add_one, h, List.filterMap_append, List.filter_append]
  cases hg : goneQ l u
  · simp [hu, hg, shownD, atPlaces]
  · simp [hu, hg, shownD, atPlaces]
theorem shownD_len (l ins : List Up) (r : List Nat) : (shownD l ins r).length ≤ r.length :=
  Nat.le_trans (List.length_filter_le _ _) (List.length_filterMap_le _ _)

set_option maxRecDepth 16000 in
set_option maxHeartbeats 2000000 in
theorem sequence_any (b off cap : Nat) (l : List Up) (w : World) (hu : UpsAt w b off l) (hs : Ups l) (hl : l.length ≤ 8000) :
    Calls Try.prog 67 #[.slice (some ⟨b, off, none⟩) l.length cap] w fun e w' => ∃ t i n m, e = .returned (.agg #[t, i, .int .i64 0]) ∧ w'.ownsRow w.heap.size 9 1 t n (tcs ((seqD l).map Up.x)) ∧ w'.ownsRow w.heap.size 24 2 i m (idcs ((seqD l).map Up.id)) ∧ Below w.heap.size w w' := by
  have HU := hid hu
  have HS := hid hs
  clear hu hs
  go_enter Try.func67, Try.ntmps67
  go_wp2_with fail
  have hv1 : ValB (w.alloc (.cells #[.slice none 0 0, .slice none 0 0, .int .i64 0] 51)) w.heap.size (.slice none 0 0) (.slice none 0 0) := heap_alloc_new w _
  have hb1 : Below w.heap.size w (w.alloc (.cells #[.slice none 0 0, .slice none 0 0, .int .i64 0] 51)) := (Below.refl _ _).alloc (Nat.le_refl _) _
  have hz1 : (w.alloc (.cells #[.slice none 0 0, .slice none 0 0, .int .i64 0] 51)).heap.size = w.heap.size + 1 := by simp
  generalize w.alloc (.cells #[.slice none 0 0, .slice none 0 0, .int .i64 0] 51) = w1 at *
  have HV1 := hid hv1
  have HB1 := hid hb1
  have HZ1 := hid hz1
  clear hv1 hb1 hz1
  go_loopw [3, 4] (fun v i wr => ∃ k : Nat, k ≤ l.length ∧ i = .int .i64 k ∧ UpRow w wr w1.heap.size v (insD (l.take k)) ∧ (insD (l.take k) = [] → v = .slice none 0 0) ∧ Below w1.heap.size w1 wr) (fun _ i _ => l.length - (intOf i).toNat)
  case atStart => exact ⟨0, by omega, rfl, UpRow.nil _ _ _, fun _ => rfl, Below.refl _ _⟩
  case round =>
    obtain ⟨k, hk, rfl, hrow, hnil, hb⟩ := hrel
    have HNIL := hid hnil
    clear hnil
    have HR := hid hrow
    have HB := hid hb
    have hbw : Below w.heap.size w wr := HB1.out.trans (hb.mono HB1.out.size)
    have HBW := hid hbw
    clear hrow hb
    have hil := insD_len (l.take k)
    rw [List.length_take] at hil
    by_cases hlt : k < l.length
    · obtain ⟨u, hu⟩ : ∃ u, l[k]? = some u := ⟨l[k], List.getElem?_eq_getElem hlt⟩
      obtain ⟨ua, uc, hut⟩ := (HU.out.later hbw) k u hu
      obtain ⟨ua', uc', hut'⟩ := HU.out k u hu
      have hst := insD_step hu
      obtain ⟨c0, c1, c2, c3, c4, c5, c6, c7, c8⟩ := hut.nine
      have hsame : ua = ua' ∧ uc = uc' := by
        have h1 := hut'.nine.2.1
        have h2 := (hbw.cell (p := ⟨b, off + k * 9 + 1, none⟩) hut'.lt).trans h1
        have h3 := h2.symm.trans c1
        cases h3; exact ⟨rfl, rfl⟩
      obtain ⟨rfl, rfl⟩ := hsame
      have HUT := hid hut'
      have HST := hid hst
      clear hu hut hut' hst hbw
      by_cases hk0 : u.k = 0
      · have hk0' : (u.k == 0) = true := by simp [hk0]
        have HK0 := hid hk0
        clear hk0
        go_wp2_with (at_builtin; refine app_up w _ rfl (.tmp 27) (.tmp 32) rfl w1.heap.size _ _ rfl HR.out u ua uc HUT.out.clk HUT.out.fit rfl ?c2 ?c4 ?_)
        case c2 => omega
        case c4 => exact HB.out.size
        intro g2 cap2 w2 ho2 hg2 hb2
        have HO2 := hid ho2
        have HB2 : Hid (Below w1.heap.size w1 w2) := HB.out.trans hb2
        clear ho2 hg2 hb2
        go_wp2_with fail
        go_roundw
        case rel => exact ⟨k + 1, by omega, by go_num, by rw [HST.out, if_pos HK0.out]; exact HO2.out, by rw [HST.out, if_pos HK0.out]; simp, HB2.out⟩
        case measure => simp [intOf]; omega
      · have hk0' : (u.k == 0) = false := by simp [hk0]
        have HK0 := hid hk0
        clear hk0
        go_wp2_with fail
        go_roundw
        case rel => exact ⟨k + 1, by omega, by go_num, by rw [HST.out, if_neg HK0.out]; exact HR.out, by rw [HST.out, if_neg HK0.out]; exact HNIL.out, HB.out⟩
        case measure => simp [intOf]; omega
    · have htk : l.take k = l := List.take_of_length_le (by omega)
      have hrow := HR.out
      have hnil := HNIL.out
      rw [htk] at hrow hnil
      clear HR HNIL htk hil
      have hsi : Ups (insD l) := HS.out.filter _
      have hli : (insD l).length ≤ 8000 := Nat.le_trans (insD_len l) hl
      generalize hins : insD l = ins at *
      have HINS := hid hins
      have HSI := hid hsi
      clear hins hsi
      rcases hrow.slice hbw with ⟨rfl, rfl⟩ | ⟨ib, io, ic, rfl, hib, hiw, hia⟩
      · have HSEQ : Hid (seqD l = []) := by rw [Hid, seqD, HINS.out]; rfl
        clear hrow hbw hnil
        obtain ⟨w0, hw0⟩ : ∃ w0, w0 = wr := ⟨_, rfl⟩
        subst hw0
        have hz1' := HZ1.out
        have hres : ValB w0 w.heap.size (.slice none 0 0) (.slice none 0 0) := HV1.out.below HB.out (by omega)
        have HRES := hid hres
        clear hres
        go_wp2_with fail
        go_loopw [5, 6] (fun e i wx => e = .slice none 0 0 ∧ i = .int .i64 0 ∧ wx = w0) (fun _ _ _ => 0)
        case atStart => exact ⟨rfl, rfl, rfl⟩
        case round =>
          obtain ⟨rfl, rfl, rfl⟩ := hrel
          go_wp2_with fail
          refine (below_nil (-1) _).mono ?_
          rintro e w4 ⟨rfl, rfl⟩
          go_wp2_with fail
          have hsz := lt_of_block HRES.out
          go_loopw [10] (fun i wx => i = .int .i64 0 ∧ wx = wr.alloc (.cells #[.slice none 0 0, .slice none 0 0, .int .i64 0] 51)) (fun _ _ => 0)
          case atStart => exact ⟨rfl, rfl⟩
          case round =>
            obtain ⟨rfl, rfl⟩ := hrel
            obtain ⟨x0, x1, x2, _, _⟩ := HRES.out.cells
            obtain ⟨y0, y1, y2⟩ := HRES.out.free
            go_wp2_with fail
            refine bodyPost_ret (v := .agg #[.slice none 0 0, .slice none 0 0, .int .i64 0]) ?_ rfl ⟨_, _, 0, 0, rfl, ?_, ?_, ?_⟩
            · simp [results, Try.results67, go_sem, x0, x1, x2, hsz]
            · rw [HSEQ.out]; exact World.ownsRow_nil _ _ _ _
            · rw [HSEQ.out]; exact World.ownsRow_nil _ _ _ _
            · have q0 := Below.setCell HBW.out (p := ⟨w.heap.size, 0, none⟩) (Nat.le_refl _) (.slice none 0 0)
              have q1 := Below.setCell q0 (p := ⟨w.heap.size, 1, none⟩) (Nat.le_refl _) (.slice none 0 0)
              have q2 := Below.setCell q1 (p := ⟨w.heap.size, 2, none⟩) (Nat.le_refl _) (.int .i64 0)
              exact q2.alloc q2.size _
      · have hpos : 0 < ins.length := by
          cases ins with
          | nil => have := hnil rfl; cases this
          | cons => simp
        have HR := hid hrow
        have HIA := hid hia
        clear hrow hia hbw hnil
        obtain ⟨w0, hw0⟩ : ∃ w0, w0 = wr := ⟨_, rfl⟩
        subst hw0
        have hz0 := HB.out.size
        go_wp2_with fail
        go_loopw [5, 6] (fun e i wr => ∃ j : Nat, j ≤ ins.length ∧ i = .int .i64 j ∧ (∃ n, wr.ownsRow w0.heap.size 3 1 e n (ics ((esOf ins).take j))) ∧ Below w0.heap.size w0 wr) (fun _ i _ => ins.length - (intOf i).toNat)
        case atStart => exact ⟨0, by omega, rfl, ⟨0, World.ownsRow_nil _ _ _ _⟩, Below.refl _ _⟩
        case round =>
          obtain ⟨j, hj, rfl, ⟨n, hown⟩, hbx⟩ := hrel
          have HO := hid hown
          have HX := hid hbx
          have hn : n = j := by
            have := hown.1
            rw [ics_len, List.length_take, esOf_len, Nat.mul_one] at this; omega
          subst hn
          have hia := HIA.out.later hbx
          have HI2 := hid hia
          clear hown hbx
          by_cases hjl : n < ins.length
          · obtain ⟨u, hu⟩ : ∃ u, ins[n]? = some u := ⟨ins[n], List.getElem?_eq_getElem hjl⟩
            obtain ⟨ua, uc, hut⟩ := hia n u hu
            have HUT := hid hut
            have HUM := hid (List.mem_of_getElem? hu)
            obtain ⟨c0, c1, c2, c3, c4, c5, c6, c7, c8⟩ := hut.nine
            have hes : (esOf ins).take (n + 1) = (esOf ins).take n ++ [hangsAt ins u] := by
              rw [List.take_add_one, esOf, List.getElem?_map, hu]; rfl
            have HES := hid hes
            clear hu hut hes hia
            go_wp2_with fail
            refine (hangs_any ib io ic ins u ua uc wr HI2.out HSI.out.good (HSI.out.good u HUM.out) HUT.out.clk hli).mono ?_
            rintro e w2 ⟨rfl, hb2⟩
            have HO2 := hid (ownsRow_later HO.out hb2)
            have HX2 : Hid (Below w0.heap.size w0 w2) := HX.out.trans (hb2.mono HX.out.size)
            clear hb2
            generalize hangsAt ins u = hg at *
            go_wp2_with (at_builtin; refine app_one el_int _ rfl (.tmp 46) (.tmp 48) rfl w0.heap.size _ _ _ rfl HO2.out [.int .i64 hg] rfl (one_int _) rfl ?c2 ?c3 ?c4 ?_)
            case c2 => omega
            case c3 => unfold maxLen; omega
            case c4 => exact HX2.out.size
            intro g3 cap3 w3 ho3 hg3 hb3
            have HO3 := hid ho3
            have HX3 : Hid (Below w0.heap.size w0 w3) := HX2.out.trans hb3
            clear ho3 hg3 hb3
            go_wp2_with fail
            go_roundw
            case rel =>
              refine ⟨n + 1, by omega, by go_num, ⟨n + 1, ?_⟩, HX3.out⟩
              rw [HES.out]
              have h3 := HO3.out
              rw [show ics ((esOf ins).take n ++ [hg]) = ics ((esOf ins).take n) ++ [.int .i64 hg] by simp [ics]]
              exact h3
            case measure => simp [intOf]; omega
          · have hnl : n = ins.length := by omega
            subst hnl
            have hown := HO.out
            rw [List.take_of_length_le (by rw [esOf_len]; exact Nat.le_refl _)] at hown
            clear HO
            obtain ⟨eg, ec, rfl, heg, hew, hec⟩ : ∃ eg ec, u5 = .slice (some ⟨eg, 0, none⟩) ins.length ec ∧ w0.heap.size ≤ eg ∧ eg < wr.heap.size ∧ ∀ j, j < (esOf ins).length → wr.cell? ⟨eg, 0 + j, none⟩ = some (.int .i64 ((esOf ins).getD j (-2))) := by
              have hcells := @World.ownsRow.cells wr w0.heap.size _ 1 u5 ins.length _ hown
              rcases hown.2 with ⟨_, h0⟩ | ⟨g, cp, cur, hv, hg, hh, _⟩
              · omega
              · refine ⟨g, cp, hv, hg, (Array.getElem?_eq_some_iff.1 hh).1, fun j hj => ?_⟩
                have := hcells (g := g) (by rw [hv]; rfl) j (.int .i64 ((esOf ins).getD j (-2))) (by simp [ics, hj])
                rwa [Addr.add_lit] at this
            have HEC := hid hec
            clear hown hec hia
            obtain ⟨w2, hw2⟩ : ∃ w2, w2 = wr := ⟨_, rfl⟩
            subst hw2
            go_wp2_with fail
            have hvb : ValB (w2.alloc (.cells #[.slice none 0 0, .slice none 0 0, .int .i64 0] 51)) w2.heap.size (.slice none 0 0) (.slice none 0 0) := heap_alloc_new w2 _
            have hb3 : Below w2.heap.size w2 (w2.alloc (.cells #[.slice none 0 0, .slice none 0 0, .int .i64 0] 51)) := (Below.refl _ _).alloc (Nat.le_refl _) _
            generalize w2.alloc (.cells #[.slice none 0 0, .slice none 0 0, .int .i64 0] 51) = w3 at *
            refine (below_any ib io ic eg 0 ec ins (esOf ins) (treeRow ins) (rankOf ins) HSI.out.good hli esOf_len (treeRow_eq HSI.out) (fun on => Nat.le_trans (treeRow_len on) hli) (fun k hk => rank_falls HSI.out hk) (rankOf ins (-1)) (-1) (Nat.le_refl _) w3 (HI2.out.later hb3) (fun j hj => (hb3.cell (p := ⟨eg, 0 + j, none⟩) hew).trans (HEC.out j hj))).mono ?_
            rintro e w4 ⟨ov, on, rfl, hown4, hb4⟩
            have hb24 : Below w2.heap.size w2 w4 := hb3.trans (hb4.mono hb3.size)
            have hb04 : Below w0.heap.size w0 w4 := HX.out.trans (hb24.mono HX.out.size)
            have hbw4 : Below w.heap.size w w4 := HBW.out.trans (hb04.mono HBW.out.size)
            have HVB : Hid (ValB w4 w2.heap.size (.slice none 0 0) (.slice none 0 0)) := (hb4.block _ (lt_of_block hvb)).trans hvb
            have HRW := hid (HR.out.later hb04)
            have hz1' := HZ1.out
            have HV4 := hid ((HV1.out.below HB.out (by omega)).below hb04 (by omega))
            have hw2 : w.heap.size < w2.heap.size := by have := HX.out.size; omega
            have HBW4 := hid hbw4
            have hz24 := hb24.size
            have hlt24 : w2.heap.size < w4.heap.size := Nat.lt_of_lt_of_le (lt_of_block hvb) hb4.size
            have hzw2 : w.heap.size ≤ w2.heap.size := Nat.le_trans HBW.out.size HX.out.size
            have hrm : ∀ i ∈ treeRow ins (-1), i < ins.length := fun i hi => treeRow_mem HSI.out hi
            have hrl := treeRow_len (ins := ins) (-1)
            generalize hrp : treeRow ins (-1) = rp at *
            have HRP := hid hrp
            have HRM := hid hrm
            obtain ⟨hon, oa, oc, rfl, hoc⟩ := own_places' hown4
            have HOC := hid hoc
            have h34 : w2.heap.size < w3.heap.size := lt_of_block hvb
            clear hrp hrm hoc hown4 hb4 hb3 hvb hb24 hb04 hbw4 hon
            go_wp2_with fail
            go_loopw [10] (fun i wr => ∃ j : Nat, j ≤ rp.length ∧ i = .int .i64 j ∧ ∃ t ix, ValB wr w2.heap.size t ix ∧ wr.ownsRow w4.heap.size 9 1 t (shownD l ins (rp.take j)).length (tcs ((shownD l ins (rp.take j)).map Up.x)) ∧ wr.ownsRow w4.heap.size 24 2 ix (shownD l ins (rp.take j)).length (idcs ((shownD l ins (rp.take j)).map Up.id)) ∧ w4.grownBy wr (some w2.heap.size)) (fun i _ => rp.length - (intOf i).toNat)
            case atStart => exact ⟨0, by omega, rfl, _, _, HVB.out, World.ownsRow_nil _ _ _ _, World.ownsRow_nil _ _ _ _, ⟨rfl, rfl, rfl, Nat.le_refl _, fun _ _ _ => rfl⟩⟩
            case round =>
              obtain ⟨j, hj, rfl, t, ix, hvb, ht, hix, hg4⟩ := hrel
              have HVX := hid hvb
              have HTX := hid ht
              have HIX := hid hix
              have HG4 := hid hg4
              have hbwr : Below w.heap.size w wr := HBW4.out.grown hg4 HBW4.out.size (fun k hk => by cases hk; exact hzw2)
              have HBR := hid hbwr
              have hz4 := hg4.size
              have hsl := shownD_len l ins (rp.take j)
              rw [List.length_take] at hsl
              clear hvb ht hix hg4
              by_cases hjl : j < rp.length
              · obtain ⟨og, rfl, hog, how, hoc⟩ := HOC.out j hjl
                have hoc2 : wr.cell? ⟨og, j, none⟩ = some (.int .i64 (rp.getD j 0 : Nat)) := HG4.out.cell hoc (by simp; omega)
                have hrj : rp[j]? = some (rp.getD j 0) := by rw [List.getD_eq_getElem?_getD, List.getElem?_eq_getElem hjl]; rfl
                have hri := HRM.out _ (List.mem_of_getElem? hrj)
                have HRJ := hid hrj
                clear hoc hrj
                generalize rp.getD j 0 = ri at *
                obtain ⟨u, hu⟩ : ∃ u, ins[ri]? = some u := ⟨ins[ri], List.getElem?_eq_getElem hri⟩
                have hrow := HRW.out.kept HG4.out (.inr (by simp [Value.ownBlock]; omega))
                rcases hrow.slice' hbwr with ⟨hbad, _⟩ | ⟨ib', io', ic', hv', _, _, hia'⟩
                · cases hbad
                · cases hv'
                  obtain ⟨ua, uc, hut, hclw⟩ := hia' ri u hu
                  have HCLW := hid hclw
                  have HUT := hid hut
                  have HUM := hid (List.mem_of_getElem? hu)
                  have HSTEP := hid (shownD_step (l := l) HRJ.out hu)
                  obtain ⟨c0, c1, c2, c3, c4, c5, c6, c7, c8⟩ := hut.nine
                  clear hut hia' hrow hu hbwr hclw
                  obtain ⟨w5, hw5⟩ : ∃ w5, w5 = wr := ⟨_, rfl⟩
                  subst hw5
                  go_wp2_with fail
                  obtain ⟨k1, l1⟩ := boxU_new w5 u ua uc
                  simp only [upArr] at k1 l1
                  have hz6 : (w5.alloc (.cells #[.int .i64 u.o, .slice ua u.c.length uc, .int .u8 u.t, .int .u8 u.k, .string (bs u.n), .string (bs u.x), .int .i64 u.a, .int .i64 u.ao, .int .i64 u.az] 28)).heap.size = w5.heap.size + 1 := by simp
                  generalize w5.alloc (.cells #[.int .i64 u.o, .slice ua u.c.length uc, .int .u8 u.t, .int .u8 u.k, .string (bs u.n), .string (bs u.x), .int .i64 u.a, .int .i64 u.ao, .int .i64 u.az] 28) = w6 at *
                  have K1 := hid k1
                  have L1 := hid l1
                  have HZ6 := hid hz6
                  clear k1 l1 hz6 c0 c1 c2 c3 c4 c5 c6 c7 c8
                  go_loopw [12, 13] (fun gn k wr => ∃ q : Nat, q ≤ l.length ∧ k = .int .i64 q ∧ gn = .bool ((l.take q).any fun d => delB d u) ∧ Below w6.heap.size w6 wr) (fun _ k _ => l.length - (intOf k).toNat)
                  case atStart => exact ⟨0, by omega, rfl, rfl, Below.refl _ _⟩
                  case round =>
                    obtain ⟨q, hq, rfl, rfl, hbx⟩ := hrel
                    have HX6 := hid hbx
                    have hbw6 : Below w.heap.size w wr := (HBR.out.trans (L1.out.mono HBR.out.size)).trans (hbx.mono (Nat.le_trans HBR.out.size L1.out.size))
                    by_cases hql : q < l.length
                    · obtain ⟨d, hd⟩ : ∃ d, l[q]? = some d := ⟨l[q], List.getElem?_eq_getElem hql⟩
                      obtain ⟨da, dc, hdt⟩ := (HU.out.later hbw6) q d hd
                      have hany : (l.take (q + 1)).any (fun d => delB d u) = ((l.take q).any (fun d => delB d u) || delB d u) := by rw [List.take_add_one, hd, List.any_append]; simp
                      obtain ⟨d0, d1, d2, d3, d4, d5, d6, d7, d8⟩ := hdt.re9
                      obtain ⟨c0, c1, c2, c3, c4, c5, c6, c7, c8⟩ := (K1.out.later hbx).re9
                      have HCU : Hid (ClkAt wr ua uc u.c) := (HUT.out.clk.later L1.out).later hbx
                      clear hdt hbx hd hbw6
                      go_wp2_with fail
                      rcases del_cases d u with ⟨t1, t2, t3, t4⟩ | ⟨t1, t2, t3, t4⟩ | ⟨t1, t2, t3, t4⟩ | ⟨t1, t2, t3, t4⟩
                      all_goals
                        rw [t4.out] at hany
                        have HANY := hid hany
                        clear hany
                        generalize (l.take q).any (fun d => delB d u) = gn at *
                        cases gn
                        all_goals
                          refine wp_region_quiet_below (by kernel_rfl) (by kernel_rfl) ?_
                          repeat (go_big_quiet_step (first | (go_at_call 43; exact Calls.regrown_of (refId_any u _ _ _ (HSI.out.good u HUM.out) (HCU.out.later (below_regrown wr _ _))))))
                          refine wpQuiet_nil ?_
                          intro _ hw'
                          obtain ⟨⟨nq, osq⟩, hw''⟩ := hw'
                          subst hw''
                          clear c0 c1 c2 c3 c4 c5 c6 c7 c8 d0 d1 d2 d3 d4 d5 d6 d7 d8 t1 t2 t3
                          go_wp2_with fail
                          go_roundw
                          case rel => exact ⟨q + 1, by omega, by go_num, by rw [HANY.out]; simp, HX6.out.trans ((below_regrown wr nq osq).mono HX6.out.size)⟩
                          case measure => simp [intOf]; omega
                    · have hqall : l.take q = l := List.take_of_length_le (by omega)
                      have HGN : Hid (goneQ l u = (l.take q).any fun d => delB d u) := by rw [hqall]; exact goneQ_eq l u
                      obtain ⟨a0, a1, a2, a3, a4, a5, a6, a7, a8⟩ := (K1.out.later hbx).nine
                      have hz5 : w5.heap.size < w6.heap.size := by have := HZ6.out; omega
                      have hvx := (HVX.out.below L1.out (by omega)).below hbx (by omega)
                      have HVA := hid hvx
                      obtain ⟨v0, v1, v2, f0, f1⟩ := hvx.cells
                      have HTA := hid (ownsRow_later (ownsRow_later HTX.out L1.out) hbx)
                      have HIA2 := hid (ownsRow_later (ownsRow_later HIX.out L1.out) hbx)
                      have HGA : Hid (w4.grownBy wr (some w2.heap.size)) := ⟨hbx.os.trans (L1.out.os.trans HG4.out.os), hbx.tape.trans (L1.out.tape.trans HG4.out.tape), hbx.output.trans (L1.out.output.trans HG4.out.output), Nat.le_trans HG4.out.size (Nat.le_trans L1.out.size hbx.size), fun k hk hne => (hbx.block k (by omega)).trans ((L1.out.block k (by omega)).trans (HG4.out.block k hk hne))⟩
                      have hcla : ClkAt wr ua uc u.c := (HUT.out.clk.later L1.out).later hbx
                      have HCLA := hid hcla
                      have HBXS := hid hbx
                      have hzr : w5.heap.size < wr.heap.size := Nat.lt_of_lt_of_le hz5 hbx.size
                      clear hqall hbx hvx hbw6 hcla
                      generalize (l.take q).any (fun d => delB d u) = gn at *
                      rw [HGN.out] at HSTEP
                      cases gn
                      · obtain ⟨i0, hi0, iz0, iz1, iz2⟩ := info_parts el_id.info
                        go_wp2_with (at_builtin; refine app_one el_string _ rfl (.tmp 96) (.tmp 100) rfl w4.heap.size _ _ _ rfl HTA.out [.string (bs u.x)] rfl (one_str _) rfl ?c2 ?c3 ?c4 ?_)
                        case c2 => omega
                        case c3 => unfold maxLen; omega
                        case c4 => exact HGA.out.size
                        intro g7 cap7 w7 ho7 hg7 hb7
                        have h7 : w7.heap.size ≥ wr.heap.size := hg7.size
                        have hB : w2.heap.size < w4.heap.size := hlt24
                        have hv7 := HVA.out.grown hg7 (own_ge HTA.out hB)
                        obtain ⟨p0, p1, p2, e0, e1⟩ := hv7.cells
                        have HI7 := hid (HIA2.out.kept hg7 (own_ne HIA2.out HTA.out (by decide)))
                        have HG7 := hid hg7
                        have HO7 := hid ho7
                        have HV7 := hid hv7
                        clear ho7 hg7 hb7 hv7
                        go_wp2_with fail
                        have hv8 := HV7.out.set0 (.slice (some ⟨g7, 0, none⟩) ((shownD l ins (rp.take j)).length + 1) cap7)
                        have hg8 := grown_setB w7 w2.heap.size 0 (.slice (some ⟨g7, 0, none⟩) ((shownD l ins (rp.take j)).length + 1) cap7)
                        generalize w7.setCell ⟨w2.heap.size, 0, none⟩ (.slice (some ⟨g7, 0, none⟩) ((shownD l ins (rp.take j)).length + 1) cap7) = w8 at *
                        have HT8 := hid (HO7.out.kept hg8 (.inr (own_ge HO7.out hB).symm))
                        have HI8 := hid (HI7.out.kept hg8 (.inr (own_ge HI7.out hB).symm))
                        have HG8 : Hid (w4.grownBy w8 (some w2.heap.size)) := by
                          refine ⟨hg8.os.trans (HG7.out.os.trans HGA.out.os), hg8.tape.trans (HG7.out.tape.trans HGA.out.tape), hg8.output.trans (HG7.out.output.trans HGA.out.output), Nat.le_trans HGA.out.size (Nat.le_trans HG7.out.size hg8.size), fun k hk hne => ?_⟩
                          have hz4' := HGA.out.size
                          exact (hg8.block k (by omega) hne).trans ((HG7.out.block k (by omega) (own_ge HTA.out (by omega))).trans (HGA.out.block k hk hne))
                        have hz8 : wr.heap.size ≤ w8.heap.size := Nat.le_trans h7 hg8.size
                        have hbx8 : BoxU w8 w5.heap.size u ua uc := by
                          have k0 := K1.out.later HBXS.out
                          have k1 : BoxU w7 w5.heap.size u ua uc := (HG7.out.block _ hzr (fun e => by
                            rcases HTA.out.2 with ⟨hq, _⟩ | ⟨gq, cq, rq, hq, _, hh, _⟩
                            · rw [hq] at e; cases e
                            · rw [hq] at e; simp only [Value.ownBlock, Option.some.injEq] at e; subst e
                              have := k0.symm.trans hh
                              simp only [Option.some.injEq, Obj.cells.injEq] at this
                              exact absurd this.2.1 (by decide))).trans k0
                          exact (hg8.block _ (by omega) (by simp; omega)).trans k1
                        have hcl8 : ClkAt w8 ua uc u.c := HCLW.out.later (HBW4.out.grown HG8.out HBW4.out.size (fun k hk => by cases hk; exact hzw2))
                        obtain ⟨v0', v1', v2', f0', f1'⟩ := hv8.cells
                        obtain ⟨b0, b1, b2, b3, b4, b5, b6, b7, b8⟩ := hbx8.nine
                        have HV8 := hid hv8
                        have HBX8 := hid hbx8
                        have HCL8 := hid hcl8
                        clear hv8 hg8 hbx8 hcl8 p0 p1 p2 e0 e1 a0 a1 a2 a3 a4 a5 a6 a7 a8 v0 v1 v2 f0 f1
                        have hn63 : (shownD l ins (rp.take j)).length + 1 ≤ maxLen := by unfold maxLen; omega
                        have hn47 : ((shownD l ins (rp.take j)).length + 1) * 16 ≤ 140737488355328 := by omega
                        have hB8 : w2.heap.size < w8.heap.size := by omega
                        have hz48 : w4.heap.size ≤ w8.heap.size := HG8.out.size
                        go_region_law (first
                          | (refine step_append_lies _ (by rfl) (.tmp 104) (.tmp 107) 40 (by rfl) w4.heap.size 24 i0 (.agg #[.int .i64 0, .int .i64 0]) 2 16 Try.underlying40 hi0 iz0 iz1 iz2 rfl (by decide) ix (shownD l ins (rp.take j)).length (idcs ((shownD l ins (rp.take j)).map Up.id)) (by rfl) (World.ownsRow.alloc HI9.out _) ⟨w9.heap.size, 0, none⟩ 1 1 [.int .i64 u.id.1, .int .i64 u.id.2] (by rfl) rfl (World.news_of_block (heap_alloc_new w9 _)) (one_two _ _) (by decide) hn63 hn47 hbase9 (w9.heap.size + 1) (by simp) ?_; intro g10 c10 w10 ho10 hg10 hat10 hlt10; have hv10 := val_app HV9.out hg10 (own_ge HI9.out hB); have q10 := hv10.cells; obtain ⟨m0, m1, m2, n0, n1⟩ := q10; have HV10 := hid hv10; have HO10 := hid ho10; have HG10 := hid hg10; clear ho10 hg10 hat10 hlt10 hv10)
                          | (go_simp; go_at_call 43; refine (refId_any u ua uc _ (HSI.out.good u HUM.out) ?_).mono ?_; (exact HCL8.out); rintro e w9 ⟨rfl, hb9q⟩; have hb9 : Below w8.heap.size w8 w9 := ⟨hb9q.os, hb9q.tape, hb9q.output, hb9q.size, hb9q.block⟩; have hv9 := HV8.out.below hb9 hB8; obtain ⟨j0, j1, j2, k0, k1⟩ := hv9.cells; have HV9 := hid hv9; have HI9 := hid (ownsRow_later HI8.out hb9); have hbase9 : w4.heap.size ≤ (w9.alloc (.cells #[.int .i64 u.id.1, .int .i64 u.id.2] 24)).heap.size := (by have := hb9.size; simp at this ⊢; omega); have z9 : w2.heap.size < w9.heap.size := Nat.lt_of_lt_of_le hB8 hb9.size; have HB9 := hid hb9; obtain ⟨r0, r1, r2, r3, r4, r5, r6, r7, r8⟩ := (HBX8.out.later hb9).nine; clear hb9 hb9q hv9))
                        all_goals
                          have FIN : Hid (ValB (w10.setCell ⟨w2.heap.size, 1, none⟩ (.slice (some ⟨g10, 0, none⟩) ((shownD l ins (rp.take j)).length + 1) c10)) w2.heap.size (.slice (some ⟨g7, 0, none⟩) ((shownD l ins (rp.take j)).length + 1) cap7) (.slice (some ⟨g10, 0, none⟩) ((shownD l ins (rp.take j)).length + 1) c10) ∧
                              (w10.setCell ⟨w2.heap.size, 1, none⟩ (.slice (some ⟨g10, 0, none⟩) ((shownD l ins (rp.take j)).length + 1) c10)).ownsRow w4.heap.size 9 1 (.slice (some ⟨g7, 0, none⟩) ((shownD l ins (rp.take j)).length + 1) cap7) ((shownD l ins (rp.take j)).length + 1) (tcs ((shownD l ins (rp.take j)).map Up.x) ++ [.string (bs u.x)]) ∧
                              (w10.setCell ⟨w2.heap.size, 1, none⟩ (.slice (some ⟨g10, 0, none⟩) ((shownD l ins (rp.take j)).length + 1) c10)).ownsRow w4.heap.size 24 2 (.slice (some ⟨g10, 0, none⟩) ((shownD l ins (rp.take j)).length + 1) c10) ((shownD l ins (rp.take j)).length + 1) (idcs ((shownD l ins (rp.take j)).map Up.id) ++ [.int .i64 u.id.1, .int .i64 u.id.2]) ∧
                              w4.grownBy (w10.setCell ⟨w2.heap.size, 1, none⟩ (.slice (some ⟨g10, 0, none⟩) ((shownD l ins (rp.take j)).length + 1) c10)) (some w2.heap.size)) := by
                            have hgs := grown_setB w10 w2.heap.size 1 (.slice (some ⟨g10, 0, none⟩) ((shownD l ins (rp.take j)).length + 1) c10)
                            have ht9 := World.ownsRow.alloc (ownsRow_later HT8.out HB9.out) (.cells #[.int .i64 u.id.1, .int .i64 u.id.2] 24)
                            have hi9 := World.ownsRow.alloc HI9.out (.cells #[.int .i64 u.id.1, .int .i64 u.id.2] 24)
                            have ht10 := ht9.kept HG10.out (own_ne ht9 hi9 (by decide))
                            refine ⟨HV10.out.set1 _, ht10.kept hgs (.inr (own_ge ht10 hB).symm), HO10.out.kept hgs (.inr (own_ge HO10.out hB).symm), ?_⟩
                            have s1 := HB9.out.size
                            have s2 := HG10.out.size
                            simp at s2
                            refine ⟨hgs.os.trans (HG10.out.os.trans (HB9.out.os.trans HG8.out.os)), hgs.tape.trans (HG10.out.tape.trans (HB9.out.tape.trans HG8.out.tape)), hgs.output.trans (HG10.out.output.trans (HB9.out.output.trans HG8.out.output)), Nat.le_trans hz48 (Nat.le_trans s1 (Nat.le_trans (Nat.le_succ _) (Nat.le_trans s2 hgs.size))), fun k hk hne => ?_⟩
                            exact (hgs.block k (by omega) hne).trans ((HG10.out.block k (by simp; omega) (own_ge HI9.out (by omega))).trans ((Below.heap_alloc w9 _ k (by omega)).trans ((HB9.out.block k (by omega)).trans (HG8.out.block k hk hne))))
                          clear m0 m1 m2 n0 n1 j0 j1 j2 k0 k1 r0 r1 r2 r3 r4 r5 r6 r7 r8 b0 b1 b2 b3 b4 b5 b6 b7 b8 v0' v1' v2' f0' f1'
                          generalize w10.setCell ⟨w2.heap.size, 1, none⟩ (.slice (some ⟨g10, 0, none⟩) ((shownD l ins (rp.take j)).length + 1) c10) = wf at *
                          go_wp2
                          go_roundw
                          case rel =>
                            obtain ⟨q1, q2, q3, q4⟩ := FIN.out
                            have hst : shownD l ins (rp.take (j + 1)) = shownD l ins (rp.take j) ++ [u] := by rw [HSTEP.out]; simp
                            refine ⟨j + 1, by omega, by go_num, _, _, q1, ?_, ?_, q4⟩
                            · rw [hst, List.length_append, List.map_append, List.map_cons, List.map_nil, tcs_app]; exact q2
                            · rw [hst, List.length_append, List.map_append, List.map_cons, List.map_nil, idcs_app]; exact q3
                          case measure => simp [intOf]; omega
                      · go_wp2_with fail
                        go_roundw
                        case rel => exact ⟨j + 1, by omega, by go_num, t, ix, HVA.out, by rw [HSTEP.out, if_pos rfl]; exact HTA.out, by rw [HSTEP.out, if_pos rfl]; exact HIA2.out, HGA.out⟩
                        case measure => simp [intOf]; omega
              · have hvb := HVX.out
                obtain ⟨v0, v1, v2, f0, f1⟩ := hvb.cells
                have hres : ValB wr w.heap.size (.slice none 0 0) (.slice none 0 0) := HV4.out.grown HG4.out (by simp; omega)
                obtain ⟨x0, x1, x2, _, _⟩ := hres.cells
                obtain ⟨y0, y1, y2⟩ := hres.free
                have HRES := hid hres
                obtain ⟨ta, tc, rfl⟩ := own_slice HTX.out
                obtain ⟨xa, xc, rfl⟩ := own_slice HIX.out
                clear hvb hres
                go_wp2_with fail
                have hall : rp.take j = rp := List.take_of_length_le (by omega)
                have hseq : seqD l = shownD l ins (rp.take j) := by rw [hall, seqD, HINS.out, HRP.out]; rfl
                have hzz : w.heap.size < w4.heap.size := by omega
                refine bodyPost_ret (v := .agg #[.slice ta (shownD l ins (rp.take j)).length tc, .slice xa (shownD l ins (rp.take j)).length xc, .int .i64 0]) ?_ rfl ⟨_, _, (shownD l ins (rp.take j)).length, (shownD l ins (rp.take j)).length, rfl, ?_, ?_, ?_⟩
                · simp [results, Try.results67, go_sem, x0, x1, x2]
                · rw [hseq]
                  refine ownsRow_mono ?_ (Nat.le_of_lt hzz)
                  iterate 3 (refine ownsRow_setCell_below ?_ hzz _)
                  exact HTX.out
                · rw [hseq]
                  refine ownsRow_mono ?_ (Nat.le_of_lt hzz)
                  iterate 3 (refine ownsRow_setCell_below ?_ hzz _)
                  exact HIX.out
                · have q1 : Below w.heap.size w (wr.setCell ⟨w.heap.size, 0, none⟩ (.slice ta (shownD l ins (rp.take j)).length tc)) := Below.setCell HBR.out (Nat.le_refl _) _
                  have q2 := Below.setCell q1 (p := ⟨w.heap.size, 1, none⟩) (Nat.le_refl _) (.slice xa (shownD l ins (rp.take j)).length xc)
                  exact Below.setCell q2 (p := ⟨w.heap.size, 2, none⟩) (Nat.le_refl _) _

set_option maxRecDepth 16000 in
set_option maxHeartbeats 2000000 in
theorem sequence_nil (w : World) :
    Calls Try.prog 67 #[.slice none 0 0] w fun e w' => e = .returned (.agg #[.slice none 0 0, .slice none 0 0, .int .i64 0]) ∧ Below w.heap.size w w' := by
  go_enter Try.func67, Try.ntmps67
  go_wp2_with fail
  have hv1 : ValB (w.alloc (.cells #[.slice none 0 0, .slice none 0 0, .int .i64 0] 51)) w.heap.size (.slice none 0 0) (.slice none 0 0) := heap_alloc_new w _
  have hb1 : Below w.heap.size w (w.alloc (.cells #[.slice none 0 0, .slice none 0 0, .int .i64 0] 51)) := (Below.refl _ _).alloc (Nat.le_refl _) _
  generalize w.alloc (.cells #[.slice none 0 0, .slice none 0 0, .int .i64 0] 51) = w1 at *
  have HRES := hid hv1
  have HBW := hid hb1
  clear hv1 hb1
  go_loopw [3, 4] (fun v i wx => v = .slice none 0 0 ∧ i = .int .i64 0 ∧ wx = w1) (fun _ _ _ => 0)
  case atStart => exact ⟨rfl, rfl, rfl⟩
  case round =>
    obtain ⟨rfl, rfl, rfl⟩ := hrel
    go_wp2_with fail
    go_loopw [5, 6] (fun e i wx => e = .slice none 0 0 ∧ i = .int .i64 0 ∧ wx = wr) (fun _ _ _ => 0)
    case atStart => exact ⟨rfl, rfl, rfl⟩
    case round =>
      obtain ⟨rfl, rfl, rfl⟩ := hrel
      go_wp2_with fail
      refine (below_nil (-1) _).mono ?_
      rintro e w4 ⟨rfl, rfl⟩
      go_wp2_with fail
      have hsz := lt_of_block HRES.out
      go_loopw [10] (fun i wx => i = .int .i64 0 ∧ wx = wr.alloc (.cells #[.slice none 0 0, .slice none 0 0, .int .i64 0] 51)) (fun _ _ => 0)
      case atStart => exact ⟨rfl, rfl⟩
      case round =>
        obtain ⟨rfl, rfl⟩ := hrel
        obtain ⟨x0, x1, x2, _, _⟩ := HRES.out.cells
        obtain ⟨y0, y1, y2⟩ := HRES.out.free
        go_wp2_with fail
        refine bodyPost_ret (v := .agg #[.slice none 0 0, .slice none 0 0, .int .i64 0]) ?_ rfl ⟨rfl, ?_⟩
        · simp [results, Try.results67, go_sem, x0, x1, x2, hsz]
        · have q0 := Below.setCell HBW.out (p := ⟨w.heap.size, 0, none⟩) (Nat.le_refl _) (.slice none 0 0)
          have q1 := Below.setCell q0 (p := ⟨w.heap.size, 1, none⟩) (Nat.le_refl _) (.slice none 0 0)
          have q2 := Below.setCell q1 (p := ⟨w.heap.size, 2, none⟩) (Nat.le_refl _) (.int .i64 0)
          exact q2.alloc q2.size _
end Go.Proofs.Yteljbblbdiploaa
