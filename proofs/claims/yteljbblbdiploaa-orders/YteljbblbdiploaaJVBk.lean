/-
  WALKS: the statements' book: texts and ids that came out are laid down; a value.
-/
import Derived.Test.YteljbblbdiploaaJBk8
import Derived.Test.YteljbblbdiploaaJVRefSeq
namespace Go.Proofs.Yteljbblbdiploaa
open Go.RowKit

theorem scs_one (ts : List ByteArray) : ∀ u ∈ scs ts, u.oneCell' = true := by
  intro u hu
  obtain ⟨x, _, rfl⟩ := List.mem_map.1 hu
  rfl
theorem dcs_one : ∀ ds : List (Int × Int), ∀ u ∈ dcs ds, u.oneCell' = true
  | [], u, h => by simp [dcs] at h
  | i :: ds, u, h => by
    simp only [dcs, List.mem_cons] at h
    rcases h with rfl | rfl | h
    · rfl
    · rfl
    · exact dcs_one ds u h

set_option maxRecDepth 16000 in
set_option maxHeartbeats 2000000 in
theorem bookText_any (B base : Nat) (w : World) (texts came was c0 c2 c4 c5 c8 c9 l : Value) (L : List Value) (zs ys : List ByteArray)
    (hB : Bb w B c0 texts c2 (.bool false) c4 c5 came was c8 c9) (hbB : base ≤ B)
    (hK : Kind1 w base 39 9 1 tmk texts came was L zs.length (scs zs))
    (hl : w.ownsRow base 9 1 l ys.length (scs ys)) (hlf : ∀ g, l.ownBlock = some g → came.ownBlock ≠ some g ∧ ∀ s ∈ L, s.ownBlock ≠ some g)
    (hL : L.length ≤ 1099511627776) (hn : zs.length ≤ 1099511627776) (hy : ys.length ≤ 1099511627776) :
    Calls Try.prog 47 #[.pointer (some ⟨B, 0, none⟩), l] w fun e w' => e = .returned (.tuple #[]) ∧ ∃ row' was' L', L'.length = L.length + 4 ∧ Bb w' B c0 row' c2 (.bool false) c4 c5 l was' c8 c9 ∧
      Kind1 w' base 39 9 1 tmk row' l was' L' ys.length (scs ys) ∧ Spared w w' (fun k => k = B ∨ some k = came.ownBlock ∨ some k = texts.ownBlock) := by
  obtain ⟨lo, lc, hle⟩ := own_slice hl
  subst hle
  have HB := hid hB
  have HK := hid hK
  have HLO := hid hl
  have HLF := hid hlf
  have hbw : base ≤ w.heap.size := Nat.le_trans hbB (Nat.le_of_lt hB.lt)
  clear hB hK hl hlf
  go_enter Try.func47, Try.ntmps47
  go_wp2_with (at_builtin; refine app_many el_string w rfl (.tmp 5) (.tmp 6) rfl w.heap.size (.slice none 0 0) 0 [] rfl (World.ownsRow_nil _ _ _ _) base (.slice lo ys.length lc) ys.length (scs ys) rfl HLO.out (scs_one ys) ?c1 ?c2 (Nat.le_refl _) ?_)
  case c1 => omega
  case c2 => unfold maxLen; omega
  intro was' w1 ho1 hg1 hb1
  have HB1 := hid (HB.out.below hb1 HB.out.lt)
  have HK1 := hid (HK.out.later hb1)
  have HL1 := hid (ownsRow_later HLO.out hb1)
  have HO1 := hid ho1
  have HBW := hid hb1
  clear ho1 hg1 hb1
  have hG : ∀ g, (Value.slice lo ys.length lc).ownBlock = some g → g < w1.heap.size ∧ came.ownBlock ≠ some g ∧ ∀ s ∈ L, s.ownBlock ≠ some g := fun g hg => ⟨(HL1.out.lt g hg).2, HLF.out g hg⟩
  have HG := hid hG
  clear hG
  go_wp2_with fail
  refine (textMarked_any B base w1 texts c0 c2 c4 c5 came was c8 c9 L zs HB1.out hbB HK1.out.rw HK1.out.at_ HK1.out.cm HK1.out.ws (fun g => (Value.slice lo ys.length lc).ownBlock = some g) HG.out HK1.out.four hL hn).mono ?_
  rintro e w2 ⟨rfl, row', L', hL', hB2, hr2, hv2, haw, hsp⟩
  obtain ⟨wo, wc, rfl⟩ := own_slice HO1.out
  have hl2 : w2.ownsRow base 9 1 (.slice lo ys.length lc) ys.length (scs ys) := hsp.owns HL1.out (by
    intro k hk hS
    rcases hS with q | q | q
    · subst q
      exact type_ne HL1.out HB1.out (by decide) hk
    · exact (HLF.out k hk).1 q.symm
    · rcases rows_ne HL1.out HK1.out.rw (by decide) with z | z
      · rw [z] at hk; cases hk
      · exact z (hk.trans q))
  have hw2 : w2.ownsRow base 9 1 (.slice wo ys.length wc) ys.length (scs ys) := hsp.owns (ownsRow_mono HO1.out hbw) (by
    intro k hk hS
    have hk1 := (HO1.out.lt k hk).1
    rcases hS with q | q | q
    · subst q
      exact type_ne HO1.out HB1.out (by decide) hk
    · have := (HK.out.cm.lt k q.symm).2
      omega
    · have := (HK.out.rw.lt k q.symm).2
      omega)
  have hK2 : Kind1 w2 base 39 9 1 tmk row' (.slice lo ys.length lc) (.slice wo ys.length wc) L' ys.length (scs ys) := ⟨hr2, hv2, hl2, hw2, haw, by have := HK.out.four; omega⟩
  have HK3 := hid ((hK2.set (i := 6) hB2 (by decide) (by decide) (.slice lo ys.length lc)).set (i := 7) (hB2.set6 (.slice lo ys.length lc)) (by decide) (by decide) (.slice wo ys.length wc))
  have HB3 := hid ((hB2.set6 (.slice lo ys.length lc)).set7 (.slice wo ys.length wc))
  have HSP := hid (((((Spared.ofBelow (fun k => k = B ∨ some k = came.ownBlock ∨ some k = texts.ownBlock) HBW.out)).trans hsp).set (p := ⟨B, 6, none⟩) (fun _ => .inl rfl) (.slice lo ys.length lc)).set (p := ⟨B, 7, none⟩) (fun _ => .inl rfl) (.slice wo ys.length wc))
  obtain ⟨hcB, hfB⟩ := hB2.cells
  clear hB2 hr2 hv2 haw hsp hl2 hw2 hK2
  go_wp2_with fail
  refine bodyPost_end (v := .tuple #[]) ?_ rfl ?_
  · simp [results, Try.results47, go_sem]
  exact ⟨rfl, row', _, L', hL', HB3.out, HK3.out, HSP.out⟩

set_option maxRecDepth 16000 in
set_option maxHeartbeats 2000000 in
theorem bookId_any (B base : Nat) (w : World) (ids came was c0 c1 c4 c5 c6 c7 l : Value) (L : List Value) (zs ys : List (Int × Int))
    (hB : Bb w B c0 c1 ids (.bool false) c4 c5 c6 c7 came was) (hbB : base ≤ B)
    (hK : Kind1 w base 40 24 2 dmk ids came was L zs.length (dcs zs))
    (hl : w.ownsRow base 24 2 l ys.length (dcs ys)) (hlf : ∀ g, l.ownBlock = some g → came.ownBlock ≠ some g ∧ ∀ s ∈ L, s.ownBlock ≠ some g)
    (hL : L.length ≤ 1099511627776) (hn : zs.length ≤ 1099511627776) (hy : ys.length ≤ 1099511627776) :
    Calls Try.prog 48 #[.pointer (some ⟨B, 0, none⟩), l] w fun e w' => e = .returned (.tuple #[]) ∧ ∃ row' was' L', L'.length = L.length + 4 ∧ Bb w' B c0 c1 row' (.bool false) c4 c5 c6 c7 l was' ∧
      Kind1 w' base 40 24 2 dmk row' l was' L' ys.length (dcs ys) ∧ Spared w w' (fun k => k = B ∨ some k = came.ownBlock ∨ some k = ids.ownBlock) := by
  obtain ⟨lo, lc, hle⟩ := own_slice hl
  subst hle
  have HB := hid hB
  have HK := hid hK
  have HLO := hid hl
  have HLF := hid hlf
  have hbw : base ≤ w.heap.size := Nat.le_trans hbB (Nat.le_of_lt hB.lt)
  clear hB hK hl hlf
  go_enter Try.func48, Try.ntmps48
  go_wp2_with (at_builtin; refine app_many el_id w rfl (.tmp 5) (.tmp 6) rfl w.heap.size (.slice none 0 0) 0 [] rfl (World.ownsRow_nil _ _ _ _) base (.slice lo ys.length lc) ys.length (dcs ys) rfl HLO.out (dcs_one ys) ?c1 ?c2 (Nat.le_refl _) ?_)
  case c1 => omega
  case c2 => unfold maxLen; omega
  intro was' w1 ho1 hg1 hb1
  have HB1 := hid (HB.out.below hb1 HB.out.lt)
  have HK1 := hid (HK.out.later hb1)
  have HL1 := hid (ownsRow_later HLO.out hb1)
  have HO1 := hid ho1
  have HBW := hid hb1
  clear ho1 hg1 hb1
  have hG : ∀ g, (Value.slice lo ys.length lc).ownBlock = some g → g < w1.heap.size ∧ came.ownBlock ≠ some g ∧ ∀ s ∈ L, s.ownBlock ≠ some g := fun g hg => ⟨(HL1.out.lt g hg).2, HLF.out g hg⟩
  have HG := hid hG
  clear hG
  go_wp2_with fail
  refine (idMarked_any B base w1 ids c0 c1 c4 c5 c6 c7 came was L zs HB1.out hbB HK1.out.rw HK1.out.at_ HK1.out.cm HK1.out.ws (fun g => (Value.slice lo ys.length lc).ownBlock = some g) HG.out HK1.out.four hL hn).mono ?_
  rintro e w2 ⟨rfl, row', L', hL', hB2, hr2, hv2, haw, hsp⟩
  obtain ⟨wo, wc, rfl⟩ := own_slice HO1.out
  have hl2 : w2.ownsRow base 24 2 (.slice lo ys.length lc) ys.length (dcs ys) := hsp.owns HL1.out (by
    intro k hk hS
    rcases hS with q | q | q
    · subst q
      exact type_ne HL1.out HB1.out (by decide) hk
    · exact (HLF.out k hk).1 q.symm
    · rcases rows_ne HL1.out HK1.out.rw (by decide) with z | z
      · rw [z] at hk; cases hk
      · exact z (hk.trans q))
  have hw2 : w2.ownsRow base 24 2 (.slice wo ys.length wc) ys.length (dcs ys) := hsp.owns (ownsRow_mono HO1.out hbw) (by
    intro k hk hS
    have hk1 := (HO1.out.lt k hk).1
    rcases hS with q | q | q
    · subst q
      exact type_ne HO1.out HB1.out (by decide) hk
    · have := (HK.out.cm.lt k q.symm).2
      omega
    · have := (HK.out.rw.lt k q.symm).2
      omega)
  have hK2 : Kind1 w2 base 40 24 2 dmk row' (.slice lo ys.length lc) (.slice wo ys.length wc) L' ys.length (dcs ys) := ⟨hr2, hv2, hl2, hw2, haw, by have := HK.out.four; omega⟩
  have HK3 := hid ((hK2.set (i := 8) hB2 (by decide) (by decide) (.slice lo ys.length lc)).set (i := 9) (hB2.set8 (.slice lo ys.length lc)) (by decide) (by decide) (.slice wo ys.length wc))
  have HB3 := hid ((hB2.set8 (.slice lo ys.length lc)).set9 (.slice wo ys.length wc))
  have HSP := hid (((((Spared.ofBelow (fun k => k = B ∨ some k = came.ownBlock ∨ some k = ids.ownBlock) HBW.out)).trans hsp).set (p := ⟨B, 8, none⟩) (fun _ => .inl rfl) (.slice lo ys.length lc)).set (p := ⟨B, 9, none⟩) (fun _ => .inl rfl) (.slice wo ys.length wc))
  obtain ⟨hcB, hfB⟩ := hB2.cells
  clear hB2 hr2 hv2 haw hsp hl2 hw2 hK2
  go_wp2_with fail
  refine bodyPost_end (v := .tuple #[]) ?_ rfl ?_
  · simp [results, Try.results48, go_sem]
  exact ⟨rfl, row', _, L', hL', HB3.out, HK3.out, HSP.out⟩
end Go.Proofs.Yteljbblbdiploaa
