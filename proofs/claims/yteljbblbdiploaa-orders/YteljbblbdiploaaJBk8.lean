/-
  WALKS: the statements' book at its end.
-/
import Derived.Test.YteljbblbdiploaaJBk7
namespace Go.Proofs.Yteljbblbdiploaa
open Go.RowKit

theorem not_in {w : World} {B : Nat} {base base1 base2 : Nat} {e e1 e2 : TypeId} {size size1 size2 n n1 n2 : Nat} {v v1 v2 : Value} {xs xs1 xs2 : List Value} {cs : Array Value} {T : TypeId} {fr : Nat × Nat} (h : w.ownsRow base e size v n xs) (hB : w.heap[B]? = some (.cells cs T fr)) (h1 : w.ownsRow base1 e1 size1 v1 n1 xs1) (h2 : w.ownsRow base2 e2 size2 v2 n2 xs2) (d : e ≠ T ∧ e ≠ e1 ∧ e ≠ e2) :
    ∀ k, v.ownBlock = some k → ¬ (k = B ∨ some k = v1.ownBlock ∨ some k = v2.ownBlock) := by
  intro k hk hS
  rcases hS with q | q | q
  · subst q; exact type_ne h hB d.1 hk
  · rcases rows_ne h h1 d.2.1 with z | z
    · rw [z] at hk; cases hk
    · exact z (hk.trans q)
  · rcases rows_ne h h2 d.2.2 with z | z
    · rw [z] at hk; cases hk
    · exact z (hk.trans q)

theorem Kind1.kept {w w' : World} {base base1 : Nat} {eS e eS1 e1 : TypeId} {size size1 : Nat} {mk mk1 : Nat → List Value} {row came was row1 came1 was1 : Value} {L L1 : List Value} {n n1 : Nat} {xs xs1 : List Value} {B : Nat} {cs : Array Value} {T : TypeId} {fr : Nat × Nat}
    (h : Kind1 w base eS e size mk row came was L n xs) (hk : Kind1 w base1 eS1 e1 size1 mk1 row1 came1 was1 L1 n1 xs1) (hB : w.heap[B]? = some (.cells cs T fr)) (hs : Spared w w' (fun k => k = B ∨ some k = came1.ownBlock ∨ some k = row1.ownBlock)) (d1 : eS ≠ T ∧ eS ≠ e1 ∧ eS ≠ eS1) (d2 : e ≠ T ∧ e ≠ e1 ∧ e ≠ eS1) : Kind1 w' base eS e size mk row came was L n xs :=
  h.spared hs (fun _ _ _ _ ho => not_in ho hB hk.cm hk.rw d1) (fun _ _ _ _ ho => not_in ho hB hk.cm hk.rw d2)

theorem inS_low {w : World} {base B : Nat} {eS e : TypeId} {size : Nat} {mk : Nat → List Value} {row came was : Value} {L : List Value} {n : Nat} {xs : List Value} (h : Kind1 w base eS e size mk row came was L n xs) (hB : base ≤ B) : ∀ k, (k = B ∨ some k = came.ownBlock ∨ some k = row.ownBlock) → base ≤ k := by
  intro k hk
  rcases hk with q | q | q
  · omega
  · exact (h.cm.lt k q.symm).1
  · exact (h.rw.lt k q.symm).1

theorem no_G (w : World) (came : Value) (L : List Value) : ∀ g, (fun _ : Nat => False) g → g < w.heap.size ∧ came.ownBlock ≠ some g ∧ ∀ s ∈ L, s.ownBlock ≠ some g := fun _ h => h.elim

set_option maxRecDepth 16000 in
set_option maxHeartbeats 2000000 in
theorem ends_any (B base : Nat) (w : World) (r0 r1 r2 c4 c5 c6 c7 c8 c9 : Value) (L0 L1 L2 : List Value) (zs : List Int) (ts : List ByteArray) (ds : List (Int × Int)) (hbk : BookAt w base B r0 r1 r2 c4 c5 c6 c7 c8 c9 L0 L1 L2 zs ts ds) (hbB : base ≤ B)
    (hn0 : zs.length ≤ 1099511627776) (hn1 : ts.length ≤ 1099511627776) (hn2 : ds.length ≤ 1099511627776) (hl0 : L0.length ≤ 1099511627000) (hl1 : L1.length ≤ 1099511627000) (hl2 : L2.length ≤ 1099511627000) :
    Calls Try.prog 17 #[.pointer (some ⟨B, 0, none⟩)] w fun e w' => e = .returned (.bool true) ∧ Below base w w' := by
  have HBK := hid hbk
  have hbw : base ≤ w.heap.size := Nat.le_trans hbB (Nat.le_of_lt hbk.bb.lt)
  clear hbk
  go_enter Try.func17, Try.ntmps17
  go_wp2_with fail
  refine (intMarked_any B base w r0 c4 c5 r1 r2 c6 c7 c8 c9 L0 zs HBK.out.bb hbB HBK.out.k0.rw HBK.out.k0.at_ HBK.out.k0.cm HBK.out.k0.ws _ (no_G _ _ _) HBK.out.k0.four (by omega) hn0).mono ?_
  rintro e w1 ⟨rfl, r0', L0', hL0, hB1, hr1, hv1, _, hsp1⟩
  have hb1 := hsp1.below hbw (inS_low HBK.out.k0 hbB)
  have hbk1 : BookAt w1 base B r0' r1 r2 (.slice none 0 0) (.slice none 0 0) c6 c7 c8 c9 L0' L1 L2 [] ts ds := ⟨hB1, ⟨hr1, hv1, World.ownsRow_nil _ _ _ _, World.ownsRow_nil _ _ _ _, fun g hg => by simp [Value.ownBlock] at hg, by have := HBK.out.k0.four; omega⟩,
    HBK.out.k1.kept HBK.out.k0 HBK.out.bb hsp1 (by decide) (by decide), HBK.out.k2.kept HBK.out.k0 HBK.out.bb hsp1 (by decide) (by decide)⟩
  have HBK1 := hid hbk1
  have HB1 := hid hb1
  have hbw1 : base ≤ w1.heap.size := Nat.le_trans hbw hb1.size
  clear hbk1 hb1 hsp1 hr1 hv1 hB1
  go_wp2_with fail
  refine (textMarked_any B base w1 r1 r0' r2 (.slice none 0 0) (.slice none 0 0) c6 c7 c8 c9 L1 ts HBK1.out.bb hbB HBK1.out.k1.rw HBK1.out.k1.at_ HBK1.out.k1.cm HBK1.out.k1.ws _ (no_G _ _ _) HBK1.out.k1.four (by omega) hn1).mono ?_
  rintro e w2 ⟨rfl, r1', L1', hL1, hB2, hr2, hv2, _, hsp2⟩
  have hb2 := hsp2.below hbw1 (inS_low HBK1.out.k1 hbB)
  have hbk2 : BookAt w2 base B r0' r1' r2 (.slice none 0 0) (.slice none 0 0) (.slice none 0 0) (.slice none 0 0) c8 c9 L0' L1' L2 [] [] ds := ⟨hB2, HBK1.out.k0.kept HBK1.out.k1 HBK1.out.bb hsp2 (by decide) (by decide), ⟨hr2, hv2, World.ownsRow_nil _ _ _ _, World.ownsRow_nil _ _ _ _, fun g hg => by simp [Value.ownBlock] at hg, by have := HBK1.out.k1.four; omega⟩,
    HBK1.out.k2.kept HBK1.out.k1 HBK1.out.bb hsp2 (by decide) (by decide)⟩
  have HBK2 := hid hbk2
  have HB2 := hid (HB1.out.trans hb2)
  have hbw2 : base ≤ w2.heap.size := Nat.le_trans hbw1 hb2.size
  clear hbk2 hb2 hsp2 hr2 hv2 hB2
  go_wp2_with fail
  refine (idMarked_any B base w2 r2 r0' r1' (.slice none 0 0) (.slice none 0 0) (.slice none 0 0) (.slice none 0 0) c8 c9 L2 ds HBK2.out.bb hbB HBK2.out.k2.rw HBK2.out.k2.at_ HBK2.out.k2.cm HBK2.out.k2.ws _ (no_G _ _ _) HBK2.out.k2.four (by omega) hn2).mono ?_
  rintro e w3 ⟨rfl, r2', L2', hL2, hB3, hr3, hv3, _, hsp3⟩
  have hb3 := hsp3.below hbw2 (inS_low HBK2.out.k2 hbB)
  have hbk3 : BookAt w3 base B r0' r1' r2' (.slice none 0 0) (.slice none 0 0) (.slice none 0 0) (.slice none 0 0) (.slice none 0 0) (.slice none 0 0) L0' L1' L2' [] [] [] := ⟨hB3, HBK2.out.k0.kept HBK2.out.k2 HBK2.out.bb hsp3 (by decide) (by decide), HBK2.out.k1.kept HBK2.out.k2 HBK2.out.bb hsp3 (by decide) (by decide),
    ⟨hr3, hv3, World.ownsRow_nil _ _ _ _, World.ownsRow_nil _ _ _ _, fun g hg => by simp [Value.ownBlock] at hg, by have := HBK2.out.k2.four; omega⟩⟩
  have HBK3 := hid hbk3
  have HB3 := hid (HB2.out.trans hb3)
  have hbw3 : base ≤ w3.heap.size := Nat.le_trans hbw2 hb3.size
  clear hbk3 hb3 hsp3 hr3 hv3 hB3
  go_wp2_with fail
  refine (still_any B base w3 _ _ _ _ _ _ _ _ _ _ _ _ _ _ _ HBK3.out (by simp) (by simp) (by simp) (by omega) (by omega) (by omega)).mono ?_
  rintro e w4 ⟨rfl, hb4⟩
  have HB4 := hid (HB3.out.trans (hb4.mono hbw3))
  clear hb4
  go_wp2_with fail
  go_ret
  exact ⟨rfl, HB4.out⟩
end Go.Proofs.Yteljbblbdiploaa
