/-
  WALKS: the statements' own 'sameInts', of two lists that hold the same.
-/
/-
  WALKS: the statements' book: how it stands; a list of numbers that came out is laid down.
-/
import Derived.Test.YteljbblbdiploaaJBk3
import Derived.BigQuiet
import Derived.Test.YteljbblbdiploaaJBk5
namespace Go.Proofs.Yteljbblbdiploaa
open Go.RowKit

theorem own_at_later {w w' : World} {ao : Option Addr} {zs : List Int} (h : ∀ j, j < zs.length → ∃ a, ao = some ⟨a, 0, none⟩ ∧ w.cell? ⟨a, j, none⟩ = some (.int .i64 (zs.getD j 0))) (hb : Below w.heap.size w w') : ∀ j, j < zs.length → ∃ a, ao = some ⟨a, 0, none⟩ ∧ w'.cell? ⟨a, j, none⟩ = some (.int .i64 (zs.getD j 0)) := by
  intro j hj
  obtain ⟨a, h1, h2⟩ := h j hj
  exact ⟨a, h1, (hb.cell (World.block_lt_of_cell? w _ h2)).trans h2⟩

theorem below_drewN {B : Nat} {a w : World} (h : Below B a w) (n : Nat) : Below B a (w.drewN n) := ⟨h.os, h.tape, h.output, h.size, h.block⟩

set_option maxRecDepth 16000 in
set_option maxHeartbeats 2000000 in
theorem sameInts_same (base : Nat) (va vb : Value) (zs : List Int) (w : World) (ha : w.ownsRow base 3 1 va zs.length (ics zs)) (hb : w.ownsRow base 3 1 vb zs.length (ics zs)) (hn : zs.length ≤ 1099511627776) :
    Calls Try.prog 14 #[va, vb] w fun e w' => e = .returned (.bool true) ∧ Below w.heap.size w w' := by
  obtain ⟨ao, ca, rfl, h1⟩ := own_at ha
  obtain ⟨bo, cb, rfl, h2⟩ := own_at hb
  have H1 := hid h1
  have H2 := hid h2
  clear h1 h2 ha hb
  go_enter Try.func14, Try.ntmps14
  go_wp2_with fail
  go_loopw [5] (fun i wr => ∃ j : Nat, j ≤ zs.length ∧ i = .int .i64 j ∧ Below w.heap.size w wr) (fun i _ => zs.length - (intOf i).toNat)
  case atStart => exact ⟨0, by omega, rfl, Below.refl _ _⟩
  case round =>
    obtain ⟨j, hj, rfl, hb⟩ := hrel
    have HB := hid hb
    by_cases hlt : j < zs.length
    · obtain ⟨a, rfl, q1⟩ := own_at_later H1.out hb j hlt
      obtain ⟨b, rfl, q2⟩ := own_at_later H2.out hb j hlt
      generalize zs.getD j 0 = z at *
      clear hb
      go_wp2_with fail
      go_quiet (fail)
      all_goals
        go_wp2_with fail
        go_roundw
        case rel => exact ⟨j + 1, by omega, by go_num, below_drewN HB.out _⟩
        case measure => simp [intOf]; omega
    · clear hb
      go_wp2_with fail
      go_ret
      exact ⟨rfl, HB.out⟩
end Go.Proofs.Yteljbblbdiploaa

namespace Go.Proofs.Yteljbblbdiploaa
open Go.RowKit

/-- one kind of the book's lists: the row of marked lists, the list that came last and what stood in it -/
structure Kind1 (w : World) (base : Nat) (eS e : TypeId) (size : Nat) (mk : Nat → List Value) (row came was : Value) (L : List Value) (n : Nat) (xs : List Value) : Prop where
  rw : w.ownsRow base eS 1 row L.length L
  views : Views w base e size mk 0 none L
  cm : w.ownsRow base e size came n xs
  ws : w.ownsRow base e size was n xs
  far : ∀ g, came.ownBlock = some g → ∀ s ∈ L, s.ownBlock ≠ some g
  four : L.length % 4 = 0

section
variable {w w' : World} {base : Nat} {eS e : TypeId} {size : Nat} {mk : Nat → List Value} {row came was : Value} {L : List Value} {n : Nat} {xs : List Value}
theorem Kind1.later (h : Kind1 w base eS e size mk row came was L n xs) (hb : Below w.heap.size w w') : Kind1 w' base eS e size mk row came was L n xs :=
  ⟨ownsRow_later h.rw hb, h.views.kept fun _ _ _ hs _ => ownsRow_later hs hb, ownsRow_later h.cm hb, ownsRow_later h.ws hb, h.far, h.four⟩
theorem Kind1.spared {S : Nat → Prop} (h : Kind1 w base eS e size mk row came was L n xs) (hs : Spared w w' S) (h1 : ∀ base' v n' ys, w.ownsRow base' eS 1 v n' ys → ∀ k, v.ownBlock = some k → ¬ S k) (h2 : ∀ base' v n' ys, w.ownsRow base' e size v n' ys → ∀ k, v.ownBlock = some k → ¬ S k) : Kind1 w' base eS e size mk row came was L n xs :=
  ⟨hs.owns h.rw (h1 _ _ _ _ h.rw), h.views.kept fun _ _ _ ho _ => hs.owns ho (h2 _ _ _ _ ho), hs.owns h.cm (h2 _ _ _ _ h.cm), hs.owns h.ws (h2 _ _ _ _ h.ws), h.far, h.four⟩
theorem Kind1.set (h : Kind1 w base eS e size mk row came was L n xs) {B i : Nat} {cs : Array Value} {T : TypeId} {fr : Nat × Nat} (hB : w.heap[B]? = some (.cells cs T fr)) (h1 : eS ≠ T) (h2 : e ≠ T) (u : Value) : Kind1 (w.setCell ⟨B, i, none⟩ u) base eS e size mk row came was L n xs :=
  ⟨ownsRow_setCell_other h.rw (type_ne h.rw hB h1) u, h.views.kept fun _ _ _ hs _ => ownsRow_setCell_other hs (type_ne hs hB h2) u, ownsRow_setCell_other h.cm (type_ne h.cm hB h2) u, ownsRow_setCell_other h.ws (type_ne h.ws hB h2) u, h.far, h.four⟩
theorem Spared.ofBelow (S : Nat → Prop) (h : Below w.heap.size w w') : Spared w w' S := ⟨h.os, h.tape, h.output, h.size, fun k hk _ => h.block k hk⟩
theorem Kind1.at_ (h : Kind1 w base eS e size mk row came was L n xs) : Views w base e size mk 0 came.ownBlock L := by
  intro i s hi
  obtain ⟨k, h1, h2⟩ := h.views i s hi
  refine ⟨k, h1, fun q => ?_⟩
  cases hc : came.ownBlock with
  | none => exact h2 (q.trans hc)
  | some g => exact absurd (q.trans hc) (h.far g hc s (List.mem_of_getElem? hi))
end

set_option maxRecDepth 16000 in
set_option maxHeartbeats 2000000 in
theorem bookInt_any (B base : Nat) (w : World) (ints came was c1 c2 c6 c7 c8 c9 l : Value) (L : List Value) (zs ys : List Int)
    (hB : Bb w B ints c1 c2 (.bool false) came was c6 c7 c8 c9) (hbB : base ≤ B)
    (hK : Kind1 w base 22 3 1 imk ints came was L zs.length (ics zs))
    (hl : w.ownsRow base 3 1 l ys.length (ics ys)) (hlf : ∀ g, l.ownBlock = some g → came.ownBlock ≠ some g ∧ ∀ s ∈ L, s.ownBlock ≠ some g)
    (hL : L.length ≤ 1099511627776) (hn : zs.length ≤ 1099511627776) (hy : ys.length ≤ 1099511627776) :
    Calls Try.prog 15 #[.pointer (some ⟨B, 0, none⟩), l] w fun e w' => e = .returned (.tuple #[]) ∧ ∃ ints' was' L', L'.length = L.length + 4 ∧ Bb w' B ints' c1 c2 (.bool false) l was' c6 c7 c8 c9 ∧
      Kind1 w' base 22 3 1 imk ints' l was' L' ys.length (ics ys) ∧ Spared w w' (fun k => k = B ∨ some k = came.ownBlock ∨ some k = ints.ownBlock) := by
  obtain ⟨lo, lc, hle, hlc⟩ := own_at hl
  have hclk : ClkAt w lo lc ys := by
    rcases hl.2 with ⟨q, h0⟩ | ⟨g, cap, cur, q, _⟩
    · rw [hle] at q
      injection q with q1 _ q3
      exact .inl ⟨q1, List.eq_nil_of_length_eq_zero h0, q3⟩
    · rw [hle] at q
      cases q
      refine .inr ⟨_, rfl, fun j hj => ?_⟩
      obtain ⟨a, h1, h2⟩ := hlc j hj
      cases h1
      rw [Addr.add_lit, Nat.zero_add]
      exact h2
  subst hle
  have HB := hid hB
  have HK := hid hK
  have HLO := hid hl
  have HLF := hid hlf
  have HCL := hid hclk
  have hbw : base ≤ w.heap.size := Nat.le_trans hbB (Nat.le_of_lt hB.lt)
  clear hB hK hl hlf hclk hlc
  go_enter Try.func15, Try.ntmps15
  go_wp2_with (at_builtin; refine app_clk _ rfl (.tmp 5) (.tmp 6) rfl w.heap.size rfl lo lc ys rfl HCL.out ?c1 (Nat.le_refl _) ?_)
  case c1 => omega
  intro was' w1 ho1 hg1
  have hb1 : Below w.heap.size w w1 := (Below.refl _ _).grown hg1 (Nat.le_refl _) (fun k hk => by cases hk)
  have HB1 := hid (HB.out.below hb1 HB.out.lt)
  have HK1 := hid (HK.out.later hb1)
  have HL1 := hid (ownsRow_later HLO.out hb1)
  have HO1 := hid ho1
  have HBW := hid hb1
  clear ho1 hg1 hb1
  have hG : ∀ g, (Value.slice lo ys.length lc).ownBlock = some g → g < w1.heap.size ∧ came.ownBlock ≠ some g ∧ ∀ s ∈ L, s.ownBlock ≠ some g := fun g hg => ⟨(HL1.out.lt g hg).2, HLF.out g hg⟩
  have HG := hid hG
  clear hG
  go_wp2_with fail
  refine (intMarked_any B base w1 ints came was c1 c2 c6 c7 c8 c9 L zs HB1.out hbB HK1.out.rw HK1.out.at_ HK1.out.cm HK1.out.ws (fun g => (Value.slice lo ys.length lc).ownBlock = some g) HG.out HK1.out.four hL hn).mono ?_
  rintro e w2 ⟨rfl, ints', L', hL', hB2, hr2, hv2, haw, hsp⟩
  obtain ⟨wo, wc, rfl⟩ := own_form HO1.out
  have hl2 : w2.ownsRow base 3 1 (.slice lo ys.length lc) ys.length (ics ys) := hsp.owns HL1.out (by
    intro k hk hS
    rcases hS with q | q | q
    · subst q
      exact type_ne HL1.out HB1.out (by decide) hk
    · exact (HLF.out k hk).1 q.symm
    · rcases rows_ne HL1.out HK1.out.rw (by decide) with z | z
      · rw [z] at hk; cases hk
      · exact z (hk.trans q))
  have hw2 : w2.ownsRow base 3 1 (.slice wo ys.length wc) ys.length (ics ys) := hsp.owns (ownsRow_mono HO1.out hbw) (by
    intro k hk hS
    have hk1 := (HO1.out.lt k hk).1
    rcases hS with q | q | q
    · subst q
      exact type_ne HO1.out HB1.out (by decide) hk
    · have := (HK.out.cm.lt k q.symm).2
      omega
    · have := (HK.out.rw.lt k q.symm).2
      omega)
  have hK2 : Kind1 w2 base 22 3 1 imk ints' (.slice lo ys.length lc) (.slice wo ys.length wc) L' ys.length (ics ys) := ⟨hr2, hv2, hl2, hw2, haw, by have := HK.out.four; omega⟩
  have HK3 := hid ((hK2.set (i := 4) hB2 (by decide) (by decide) (.slice lo ys.length lc)).set (i := 5) (hB2.set4 (.slice lo ys.length lc)) (by decide) (by decide) (.slice wo ys.length wc))
  have HB3 := hid ((hB2.set4 (.slice lo ys.length lc)).set5 (.slice wo ys.length wc))
  have HSP := hid (((((Spared.ofBelow (fun k => k = B ∨ some k = came.ownBlock ∨ some k = ints.ownBlock) HBW.out)).trans hsp).set (p := ⟨B, 4, none⟩) (fun _ => .inl rfl) (.slice lo ys.length lc)).set (p := ⟨B, 5, none⟩) (fun _ => .inl rfl) (.slice wo ys.length wc))
  obtain ⟨hcB, hfB⟩ := hB2.cells
  clear hB2 hr2 hv2 haw hsp hl2 hw2 hK2
  go_wp2_with fail
  refine bodyPost_end (v := .tuple #[]) ?_ rfl ?_
  · simp [results, Try.results15, go_sem]
  exact ⟨rfl, ints', _, L', hL', HB3.out, HK3.out, HSP.out⟩
end Go.Proofs.Yteljbblbdiploaa
