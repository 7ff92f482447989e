/-
  SMALL LAWS: updates that were lent, in a row, each with a clock of its own; the document's Value of whatever list.
-/
/-
  SMALL LAWS: what updates come to is never longer than they are.
-/
import Derived.Test.YteljbblbdiploaaJVBack
import Derived.Test.YteljbblbdiploaaJVBkVal
import Derived.Test.YteljbblbdiploaaJVVal
import Derived.Test.YteljbblbdiploaaJVRefVal0
namespace Go.Proofs.Yteljbblbdiploaa
open Go.RowKit

theorem rValueO_any (kind : Int) (name : Tx) (vo : Option Addr) (cap : Nat) (l : List Up) (w : World) (hu : UpsO w vo l) (hk0 : 0 ≤ kind) (hlm : l.length ≤ 9223372036854775807) (hnm : name.length ≤ maxLen) :
    Calls Try.prog 19 #[.int .u8 kind, .string (bs name), .slice vo l.length cap] w (VAns w (valD kind name l)) := by
  by_cases h0 : 0 < l.length
  · obtain ⟨b, off, rfl, h⟩ := hu h0
    exact rValue_any kind name b off cap l w h hk0 h0 hlm hnm
  · have : l = [] := List.eq_nil_of_length_eq_zero (by omega)
    subst this
    refine (rValue_nil kind name vo cap w hk0 hnm).mono ?_
    rintro e w' ⟨rfl, hb⟩
    exact ⟨_, rfl, by rw [valD_nil]; exact ⟨_, _, 0, 0, rfl, World.ownsRow_nil _ _ _ _, World.ownsRow_nil _ _ _ _⟩, hb⟩

/-- the slices of clocks that were lent -/
def lentCs (gs : List (Nat × Nat)) : List (Option Addr × Nat) := gs.map fun p => (some ⟨p.1, 0, none⟩, p.2)
theorem lentCs_len (gs : List (Nat × Nat)) : (lentCs gs).length = gs.length := by simp [lentCs]

/-- updates that were lent -/
structure LentR (w : World) (base : Nat) (v : Value) (l : List Up) (gs : List (Nat × Nat)) : Prop where
  len : gs.length = l.length
  row : w.ownsRow base 28 9 v l.length (upFlat l (lentCs gs))
  clk : ∀ (j : Nat) (u : Up) (p : Nat × Nat), l[j]? = some u → gs[j]? = some p → w.ownsRow base 3 1 (.slice (some ⟨p.1, 0, none⟩) (u.c.length + 3) p.2) (u.c.length + 3) (ics (u.c ++ [7000, 7000, 7000]))
  ap : gs.Pairwise fun p q => p.1 < q.1
theorem LentR.nil (w : World) (base : Nat) : LentR w base (.slice none 0 0) [] [] := ⟨rfl, World.ownsRow_nil _ _ _ _, fun j u p h => by simp at h, List.Pairwise.nil⟩
theorem LentR.later {w w' : World} {base : Nat} {v : Value} {l : List Up} {gs : List (Nat × Nat)} (h : LentR w base v l gs) (hb : Below w.heap.size w w') : LentR w' base v l gs :=
  ⟨h.len, ownsRow_later h.row hb, fun j u p hu hp => ownsRow_later (h.clk j u p hu hp) hb, h.ap⟩
/-- one more -/
theorem LentR.snoc {w w1 w3 : World} {base : Nat} {v v' : Value} {l : List Up} {gs : List (Nat × Nat)} {u : Up} {g c2 : Nat} {o : Obj} (h : LentR w base v l gs) (hbase : base ≤ w.heap.size) (hb : Below w.heap.size w w1)
    (hown : w1.ownsRow w.heap.size 3 1 (.slice (some ⟨g, 0, none⟩) (u.c.length + 3) c2) (u.c.length + 3) (ics (u.c ++ [7000, 7000, 7000])))
    (hrow : w3.ownsRow base 28 9 v' (l.length + 1) (upFlat l (lentCs gs) ++ upCells u (some ⟨g, 0, none⟩) c2)) (hg : (w1.alloc o).grownBy w3 v.ownBlock) : LentR w3 base v' (l ++ [u]) (gs ++ [(g, c2)]) := by
  have h1 := h.later hb
  have hg' : w1.grownBy w3 v.ownBlock := (World.grownBy_alloc w1 o _).trans hg
  have hk : ∀ base' v0 n0 xs, w1.ownsRow base' 3 1 v0 n0 xs → w3.ownsRow base' 3 1 v0 n0 xs := fun base' v0 n0 xs ho => ho.kept hg' (own_ne ho h1.row (by decide))
  have hgl := (hown.lt g rfl).1
  refine ⟨by simp [h.len], ?_, fun j y p hy hp => ?_, ?_⟩
  · have e : lentCs (gs ++ [(g, c2)]) = lentCs gs ++ [(some ⟨g, 0, none⟩, c2)] := by simp [lentCs]
    rw [e, upFlat_app u (some ⟨g, 0, none⟩, c2) (by rw [lentCs_len]; exact h.len), List.length_append]
    exact hrow
  · by_cases hj : j < l.length
    · rw [List.getElem?_append_left hj] at hy
      rw [List.getElem?_append_left (by rw [h.len]; exact hj)] at hp
      exact hk _ _ _ _ (h1.clk j y p hy hp)
    · have hjl : j = l.length := by
        have := (List.getElem?_eq_some_iff.1 hy).1
        simp at this; omega
      subst hjl
      rw [List.getElem?_append_right (Nat.le_refl _), Nat.sub_self] at hy
      rw [List.getElem?_append_right (by rw [h.len]; exact Nat.le_refl _), h.len, Nat.sub_self] at hp
      cases hy; cases hp
      exact ownsRow_mono (hk _ _ _ _ hown) hbase
  · refine List.pairwise_append.2 ⟨h.ap, by simp, fun p hp q hq => ?_⟩
    rw [List.mem_singleton] at hq
    subst hq
    obtain ⟨j, hj⟩ := List.getElem?_of_mem hp
    have hjl : j < l.length := by have := (List.getElem?_eq_some_iff.1 hj).1; rw [h.len] at this; exact this
    have := ((h.clk j _ p (List.getElem?_eq_getElem hjl) hj).lt p.1 rfl).2
    show p.1 < g
    omega

/-- the update that stands behind the others -/
def endCells : List Value := [.int .i64 7000, .slice none 0 0, .int .u8 0, .int .u8 0, .string ⟨#[]⟩, .string ⟨#[]⟩, .int .i64 0, .int .i64 0, .int .i64 0]
theorem end_one : ∀ v ∈ endCells, v.oneCell' = true := by
  intro v hv
  simp only [endCells, List.mem_cons, List.not_mem_nil, or_false] at hv
  rcases hv with rfl | rfl | rfl | rfl | rfl | rfl | rfl | rfl | rfl <;> rfl

/-- all that was lent, and one behind -/
structure LentE (w : World) (base g c : Nat) (l : List Up) (gs : List (Nat × Nat)) : Prop where
  len : gs.length = l.length
  row : w.ownsRow base 28 9 (.slice (some ⟨g, 0, none⟩) (l.length + 1) c) (l.length + 1) (upFlat l (lentCs gs) ++ endCells)
  clk : ∀ (j : Nat) (u : Up) (p : Nat × Nat), l[j]? = some u → gs[j]? = some p → w.ownsRow base 3 1 (.slice (some ⟨p.1, 0, none⟩) (u.c.length + 3) p.2) (u.c.length + 3) (ics (u.c ++ [7000, 7000, 7000]))
  ap : gs.Pairwise fun p q => p.1 < q.1
theorem LentR.close {w w3 : World} {base g c : Nat} {v : Value} {l : List Up} {gs : List (Nat × Nat)} (h : LentR w base v l gs)
    (hrow : w3.ownsRow base 28 9 (.slice (some ⟨g, 0, none⟩) (l.length + 1) c) (l.length + 1) (upFlat l (lentCs gs) ++ endCells)) (hg : w.grownBy w3 v.ownBlock) : LentE w3 base g c l gs :=
  ⟨h.len, hrow, fun j u p hu hp => (h.clk j u p hu hp).kept hg (own_ne (h.clk j u p hu hp) h.row (by decide)), h.ap⟩
theorem LentE.later {w w' : World} {base g c : Nat} {l : List Up} {gs : List (Nat × Nat)} (h : LentE w base g c l gs) (hb : Below w.heap.size w w') : LentE w' base g c l gs :=
  ⟨h.len, ownsRow_later h.row hb, fun j u p hu hp => ownsRow_later (h.clk j u p hu hp) hb, h.ap⟩
theorem LentE.cells {w : World} {base g c : Nat} {l : List Up} {gs : List (Nat × Nat)} (h : LentE w base g c l gs) {j : Nat} {u : Up} {p : Nat × Nat} (hu : l[j]? = some u) (hp : gs[j]? = some p) : ∀ i, i < 9 → w.cell? ⟨g, j * 9 + i, none⟩ = (upCells u (some ⟨p.1, 0, none⟩) p.2)[i]? := by
  intro i hi
  have hj := (List.getElem?_eq_some_iff.1 hu).1
  have hl : (upFlat l (lentCs gs)).length = l.length * 9 := upFlat_len (by rw [lentCs_len]; exact h.len)
  have e := upFlat_get (l := l) (cs := lentCs gs) (by rw [lentCs_len]; exact h.len) hu (c := (some ⟨p.1, 0, none⟩, p.2)) (by simp [lentCs, hp]) i hi
  obtain ⟨x, hx⟩ : ∃ x, (upCells u (some ⟨p.1, 0, none⟩) p.2)[i]? = some x := ⟨(upCells u (some ⟨p.1, 0, none⟩) p.2)[i]'(by rw [upCells_len]; exact hi), List.getElem?_eq_getElem _⟩
  rw [hx]
  have := World.ownsRow.cells h.row (g := g) rfl (j * 9 + i) x (by rw [List.getElem?_append_left (by rw [hl]; omega), e]; exact hx)
  rwa [Addr.add_lit, Nat.zero_add] at this
theorem LentE.end_ {w : World} {base g c : Nat} {l : List Up} {gs : List (Nat × Nat)} (h : LentE w base g c l gs) : w.cell? ⟨g, l.length * 9, none⟩ = some (.int .i64 7000) ∧ w.cell? ⟨g, l.length * 9 + 1, none⟩ = some (.slice none 0 0) ∧ l.length + 1 ≤ c := by
  have hl : (upFlat l (lentCs gs)).length = l.length * 9 := upFlat_len (by rw [lentCs_len]; exact h.len)
  have e : ∀ i, (upFlat l (lentCs gs) ++ endCells)[l.length * 9 + i]? = endCells[i]? := fun i => by rw [List.getElem?_append_right (by omega), hl, Nat.add_sub_cancel_left]
  have h0 := World.ownsRow.cells h.row (g := g) rfl (l.length * 9) (.int .i64 7000) (by have := e 0; exact this)
  have h1 := World.ownsRow.cells h.row (g := g) rfl (l.length * 9 + 1) (.slice none 0 0) (by have := e 1; exact this)
  rw [Addr.add_lit, Nat.zero_add] at h0 h1
  exact ⟨h0, h1, (row_cap h.row).1⟩
theorem LentE.ups {w : World} {base g c : Nat} {l : List Up} {gs : List (Nat × Nat)} (h : LentE w base g c l gs) (hf : ∀ u ∈ l, UpFit u) : UpsAt w g 0 l := by
  intro j u hu
  have hj := (List.getElem?_eq_some_iff.1 hu).1
  have hp : gs[j]? = some (gs[j]'(by rw [h.len]; exact hj)) := List.getElem?_eq_getElem _
  refine ⟨_, _, fun i hi => ?_, own_clk (h.clk j u _ hu hp), hf u (List.mem_of_getElem? hu)⟩
  rw [Nat.zero_add]
  exact h.cells hu hp i hi

/-- blocks of numbers, from base on -/
def IntBlk (w : World) (base k : Nat) : Prop := base ≤ k ∧ ∃ cur fr, w.heap[k]? = some (.cells cur 3 fr)
theorem int_free {w : World} {base base' : Nat} {e : TypeId} {size n : Nat} {v : Value} {xs : List Value} (h : w.ownsRow base' e size v n xs) (he : e ≠ 3) : ∀ k, v.ownBlock = some k → ¬ IntBlk w base k := fun _ hk ⟨_, _, _, hb⟩ => type_ne h hb he hk
theorem LentE.spared {w w' : World} {base b' g c : Nat} {l : List Up} {gs : List (Nat × Nat)} (h : LentE w base g c l gs) (hs : Spared w w' (IntBlk w b')) : w'.ownsRow base 28 9 (.slice (some ⟨g, 0, none⟩) (l.length + 1) c) (l.length + 1) (upFlat l (lentCs gs) ++ endCells) := hs.owns h.row (int_free h.row (by decide))
theorem IsVal.spared {w w' : World} {base b' : Nat} {v : Value} {r : List Tx × List (Int × Int) × Int} (h : IsVal w base v r) (hs : Spared w w' (IntBlk w b')) : IsVal w' base v r := by
  obtain ⟨t, i, n, m, h1, h2, h3⟩ := h
  exact ⟨t, i, n, m, h1, hs.owns h2 (int_free h2 (by decide)), hs.owns h3 (int_free h3 (by decide))⟩
theorem book_spared {w w' : World} {base b' B : Nat} {r1 r2 c6 c7 c8 c9 : Value} {L1 L2 : List Value} {ts : List ByteArray} {ds : List (Int × Int)} (h : BookAt w base B (.slice none 0 0) r1 r2 (.slice none 0 0) (.slice none 0 0) c6 c7 c8 c9 [] L1 L2 [] ts ds) (hs : Spared w w' (IntBlk w b')) :
    BookAt w' base B (.slice none 0 0) r1 r2 (.slice none 0 0) (.slice none 0 0) c6 c7 c8 c9 [] L1 L2 [] ts ds := by
  refine ⟨(hs.block B h.bb.lt (fun ⟨_, _, _, hb⟩ => ?_)).trans h.bb, ⟨World.ownsRow_nil _ _ _ _, Views.nil _ _ _ _ _ _ _, World.ownsRow_nil _ _ _ _, World.ownsRow_nil _ _ _ _, fun g hg => by simp [Value.ownBlock] at hg, rfl⟩,
    h.k1.spared hs (fun _ _ _ _ ho => int_free ho (by decide)) (fun _ _ _ _ ho => int_free ho (by decide)), h.k2.spared hs (fun _ _ _ _ ho => int_free ho (by decide)) (fun _ _ _ _ ho => int_free ho (by decide))⟩
  have := h.bb.symm.trans hb
  simp only [Option.some.injEq, Obj.cells.injEq] at this
  exact absurd this.2.1 (by decide)
end Go.Proofs.Yteljbblbdiploaa

namespace Go.Proofs.Yteljbblbdiploaa
open Go.RowKit

theorem seqD_len (l : List Up) : (seqD l).length ≤ l.length := by
  unfold seqD
  refine Nat.le_trans (List.length_filter_le _ _) ?_
  unfold atPlaces
  exact Nat.le_trans (List.length_filterMap_le _ _) (Nat.le_trans (treeRow_len _) (insD_len l))
theorem valD_len (kind : Int) (name : Tx) (l : List Up) : (valD kind name l).1.1.length ≤ 8000 ∧ (valD kind name l).1.2.1.length ≤ 8000 := by
  by_cases ha : kind ≤ 3 ∧ 1 ≤ name.length ∧ name.length ≤ 8
  · by_cases hu : Ups l
    · rw [valD_yes ha hu]
      have h8 := hu.len
      have ho : (ofD kind name l).length ≤ 8000 := Nat.le_trans (List.length_filter_le _ _) h8
      show (worthD kind name l).1.length ≤ 8000 ∧ (worthD kind name l).2.1.length ≤ 8000
      unfold worthD
      split
      · exact ⟨Nat.le_trans (layT_len _) (Nat.le_trans texts_len ho), by simp⟩
      · split
        · exact ⟨Nat.le_trans (layT_len _) (Nat.le_trans texts_len ho), by simp⟩
        · split
          · simp
          · simp only [List.length_map]
            exact ⟨Nat.le_trans (seqD_len _) ho, Nat.le_trans (seqD_len _) ho⟩
    · rw [valD_bad ha hu]; simp
  · rw [valD_arg ha]; simp
end Go.Proofs.Yteljbblbdiploaa
