/-
  WALKS: the statements' book: the ids that came last are marked.
-/
import Derived.Test.YteljbblbdiploaaJBk4
namespace Go.Proofs.Yteljbblbdiploaa
open Go.RowKit

theorem Try.infoId : (Try.prog.info? 24).map (fun i => (i.zero, i.size, i.bytes)) = some (some (.agg #[.int .i64 0, .int .i64 0]), 2, 16) := by kernel_rfl
theorem Try.infoIds : (Try.prog.info? 40).map (fun i => (i.zero, i.size, i.bytes)) = some (some (.slice none 0 0), 1, 24) := by kernel_rfl

/-- ids as a row's cells -/
def dcs : List (Int × Int) → List Value
  | [] => []
  | p :: r => .int .i64 p.1 :: .int .i64 p.2 :: dcs r
theorem dcs_len : ∀ ds : List (Int × Int), (dcs ds).length = 2 * ds.length
  | [] => rfl
  | p :: r => by simp [dcs, dcs_len r]; omega
theorem dcs_at : ∀ (ds : List (Int × Int)) (j : Nat), j < ds.length → (dcs ds)[j * 2]? = some (.int .i64 (ds.getD j (0, 0)).1) ∧ (dcs ds)[j * 2 + 1]? = some (.int .i64 (ds.getD j (0, 0)).2)
  | [], j, h => by simp at h
  | p :: r, 0, _ => by simp [dcs]
  | p :: r, j + 1, h => by
    have := dcs_at r j (by simpa using h)
    rw [show (j + 1) * 2 = j * 2 + 1 + 1 by omega, dcs]
    simpa using this

/-- a mark, as a row's cells -/
def dmk (q : Nat) : List Value := [.int .i64 (7000 + (q : Int)), .int .i64 0]
theorem dreps_len (j q : Nat) : (reps j (dmk q)).length = j * 2 := by
  induction j with
  | zero => rfl
  | succ j ih => rw [reps_succ, List.length_append, ih]; simp [dmk]; omega

theorem row_cell2 {w : World} {base g n cap : Nat} {e : TypeId} {size : Nat} {xs : List Value} (h : w.ownsRow base e size (.slice (some ⟨g, 0, none⟩) n cap) n xs) (j : Nat) (u : Value) (hu : xs[j]? = some u) : w.cell? ⟨g, j, none⟩ = some u := by
  have := h.cells (g := g) rfl j u hu
  rwa [show (⟨g, 0, none⟩ : Addr).add j = ⟨g, j, none⟩ by rw [Addr.add_lit, Nat.zero_add]] at this

theorem own_at_d {w : World} {base : Nat} {v : Value} {ds : List (Int × Int)} (h : w.ownsRow base 24 2 v ds.length (dcs ds)) : ∃ ao ca, v = .slice ao ds.length ca ∧ ∀ j, j < ds.length → ∃ a, ao = some ⟨a, 0, none⟩ ∧ w.cell? ⟨a, j * 2, none⟩ = some (.int .i64 (ds.getD j (0, 0)).1) ∧ w.cell? ⟨a, j * 2 + 1, none⟩ = some (.int .i64 (ds.getD j (0, 0)).2) := by
  rcases h.2 with ⟨rfl, h0⟩ | ⟨g, cap, cur, rfl, _⟩
  · exact ⟨none, 0, by rw [h0], fun j hj => by omega⟩
  · exact ⟨_, cap, rfl, fun j hj => ⟨g, rfl, row_cell2 h _ _ (dcs_at ds j hj).1, row_cell2 h _ _ (dcs_at ds j hj).2⟩⟩

theorem own_form2 {w : World} {base : Nat} {e : TypeId} {size : Nat} {sl : Value} {j : Nat} {xs : List Value} (h : w.ownsRow base e size sl j xs) : ∃ ao cp, sl = .slice ao j cp := by
  rcases h.2 with ⟨rfl, rfl⟩ | ⟨g, cap, cur, rfl, _⟩
  · exact ⟨_, _, rfl⟩
  · exact ⟨_, _, rfl⟩

theorem dmarks_set (q : Nat) (ys : List Value) (j : Nat) (h : j * 2 + 1 < ys.length) : ((reps j (dmk q) ++ ys.drop (j * 2)).set (j * 2) (.int .i64 (7000 + (q : Int)))).set (j * 2 + 1) (.int .i64 0) = reps (j + 1) (dmk q) ++ ys.drop ((j + 1) * 2) := by
  have hl := dreps_len j q
  rw [List.set_append_right _ _ (by omega), hl, Nat.sub_self, List.drop_eq_getElem_cons (by omega), List.set_cons_zero, List.set_append_right _ _ (by omega), hl, show j * 2 + 1 - j * 2 = 1 by omega, List.set_cons_succ, List.drop_eq_getElem_cons (i := j * 2 + 1) h, List.set_cons_zero, reps_succ, dmk, show (j + 1) * 2 = j * 2 + 1 + 1 by omega]
  simp

theorem dmarks_at (q : Nat) (ys : List Value) (j k : Nat) (u : Value) (hk : j * 2 ≤ k) (h : ys[k]? = some u) : (reps j (dmk q) ++ ys.drop (j * 2))[k]? = some u := by
  have hl := dreps_len j q
  rw [List.getElem?_append_right (by omega), hl, List.getElem?_drop, show j * 2 + (k - j * 2) = k by omega, h]

/-- a mark that lies in a block of its own -/
def Mx (w : World) (X q : Nat) (l : Value) : Prop := w.heap[X]? = some (.cells #[.int .i64 (7000 + (q : Int)), .int .i64 0] 24 (0, 0)) ∧ l.ownBlock ≠ some X

section
variable {w w' : World} {X q : Nat} {l : Value}
theorem Mx.cells (h : Mx w X q l) : w.cell? ⟨X, 0, none⟩ = some (.int .i64 (7000 + (q : Int))) ∧ w.cell? ⟨X, 1, none⟩ = some (.int .i64 0) :=
  ⟨cell_of_row w X 0 _ _ (0, 0) h.1, cell_of_row w X 1 _ _ (0, 0) h.1⟩
theorem Mx.far (h : Mx w X q l) {A i : Nat} (v : Value) (hne : X ≠ A) : Mx (w.setCell ⟨A, i, none⟩ v) X q l := ⟨(blk_far v hne).trans h.1, h.2⟩
theorem Mx.alloc (h : Mx w X q l) (o : Obj) : Mx (w.alloc o) X q l := ⟨(Below.heap_alloc w o X (lt_of_block h.1)).trans h.1, h.2⟩
theorem Mx.laid (h : Mx w X q l) {row : Option Nat} (hg : w.grownBy w' row) (hr : row ≠ some X) : Mx w' X q l := ⟨(hg.block X (lt_of_block h.1) (fun e => hr e.symm)).trans h.1, h.2⟩
theorem Mx.grew (h : Mx w X q l) {l' : Value} (hg : w.grownBy w' l.ownBlock) (hat : l'.ownBlock = l.ownBlock ∨ l'.ownBlock = some w.heap.size) : Mx w' X q l' := by
  refine ⟨(hg.block X (lt_of_block h.1) (fun e => h.2 e.symm)).trans h.1, ?_⟩
  rcases hat with e | e
  · rw [e]; exact h.2
  · rw [e]
    intro k
    have := lt_of_block h.1
    cases k
    omega
end

set_option maxRecDepth 16000 in
set_option maxHeartbeats 4000000 in
theorem idMarked_any (B base : Nat) (w : World) (ids c0 c1 c4 c5 c6 c7 came was : Value) (L : List Value) (ds : List (Int × Int))
    (hB : Bb w B c0 c1 ids (.bool false) c4 c5 c6 c7 came was) (hbB : base ≤ B)
    (hrow : w.ownsRow base 40 1 ids L.length L) (hv : Views w base 24 2 dmk 0 came.ownBlock L)
    (hc : w.ownsRow base 24 2 came ds.length (dcs ds)) (hw : w.ownsRow base 24 2 was ds.length (dcs ds))
    (G : Nat → Prop) (hG : ∀ g, G g → g < w.heap.size ∧ came.ownBlock ≠ some g ∧ ∀ s ∈ L, s.ownBlock ≠ some g) (h4 : L.length % 4 = 0) (hL : L.length ≤ 1099511627776) (hn : ds.length ≤ 1099511627776) :
    Calls Try.prog 37 #[.pointer (some ⟨B, 0, none⟩)] w fun e w' => e = .returned (.tuple #[]) ∧ ∃ ids' L', L'.length = L.length + 4 ∧ Bb w' B c0 c1 ids' (.bool false) c4 c5 c6 c7 (.slice none 0 0) (.slice none 0 0) ∧
      w'.ownsRow base 40 1 ids' L'.length L' ∧ Views w' base 24 2 dmk 0 none L' ∧ (∀ g, G g → ∀ s ∈ L', s.ownBlock ≠ some g) ∧ Spared w w' (fun k => k = B ∨ some k = came.ownBlock ∨ some k = ids.ownBlock) := by
  obtain ⟨i0, hi, hz0, hz1, hz2⟩ := info_parts Try.infoId
  obtain ⟨i1, hi1, hy0, hy1, hy2⟩ := info_parts Try.infoIds
  obtain ⟨ao, ca, rfl, -⟩ := own_at_d hc
  obtain ⟨bo, cb, rfl, -⟩ := own_at_d hw
  have HM0 : Hid (Mkg w w base 40 24 2 dmk (fun k => k = B ∨ some k = (Value.slice ao ds.length ca).ownBlock ∨ some k = ids.ownBlock) G L ids (.slice ao ds.length ca) ds.length (dcs ds) 0) :=
    ⟨hrow, hv, hc, Spared.refl _ _, fun k hk _ => by rcases hk with hk | hk; exact .inr (.inl hk.symm); exact .inr (.inr hk.symm), Nat.le_trans hbB (Nat.le_of_lt hB.lt), hG⟩
  have HB0 := hid hB
  have HW0 := hid hw
  obtain ⟨hcB, hfB⟩ := hB.cells
  clear hrow hv hc hw hB hG
  obtain ⟨S, hS⟩ : ∃ S : Nat → Prop, S = (fun k => k = B ∨ some k = (Value.slice ao ds.length ca).ownBlock ∨ some k = ids.ownBlock) := ⟨_, rfl⟩
  rw [← hS] at HM0 ⊢
  have HSB : Hid (S B) := by rw [hS]; exact .inl rfl
  clear hS
  go_enter Try.func37, Try.ntmps37
  go_wp2_with fail
  clear hcB hfB
  go_loopw [3] (fun i wr => ∃ j : Nat, j ≤ ds.length ∧ i = .int .i64 j ∧ Mkg w wr base 40 24 2 dmk S G L ids (.slice ao ds.length ca) ds.length (dcs ds) 0 ∧ Bb wr B c0 c1 ids (.bool false) c4 c5 c6 c7 (.slice ao ds.length ca) (.slice bo ds.length cb) ∧ wr.ownsRow base 24 2 (.slice bo ds.length cb) ds.length (dcs ds)) (fun i _ => ds.length - (intOf i).toNat)
  case atStart => exact ⟨0, by omega, rfl, HM0.out, HB0.out, HW0.out⟩
  case round =>
    obtain ⟨j, hj, rfl, hM, hB, hW⟩ := hrel
    have HM := hid hM
    have HB := hid hB
    have HW := hid hW
    obtain ⟨hcB, hfB⟩ := hB.cells
    clear hM hB hW HM0 HB0 HW0
    by_cases hlt : j < ds.length
    · obtain ⟨_, _, e1, h1⟩ := own_at_d HM.out.own
      obtain ⟨_, _, e2, h2⟩ := own_at_d HW.out
      cases e1
      cases e2
      obtain ⟨a, rfl, q1, q1'⟩ := h1 j hlt
      obtain ⟨b, rfl, q2, q2'⟩ := h2 j hlt
      clear h1 h2
      have HS : Hid (wr.setCell ⟨B, 3, none⟩ (.bool false) = wr) := set_same HB.out rfl
      generalize (ds.getD j (0, 0)).1 = z at *
      generalize (ds.getD j (0, 0)).2 = z' at *
      go_wp2_with fail
      go_region
      all_goals
        go_wp2_with fail
        go_roundw
        case rel => rw [HS.out]; exact ⟨j + 1, by omega, by go_num, HM.out.drew, HB.out, HW.out⟩
        case measure => simp [intOf]; omega
    · have hjn : j = ds.length := by omega
      subst hjn
      obtain ⟨ai, cpi, hids⟩ := own_form2 HM.out.rw
      subst hids
      clear HW
      go_wp2_with fail
      obtain ⟨X, hX⟩ : ∃ X, wr.heap.size = X := ⟨_, rfl⟩
      have HX1 : Hid (Mx (wr.alloc (.cells #[.int .i64 (7000 + (L.length : Int)), .int .i64 0] 24)) X L.length (.slice ao ds.length ca)) := by
        refine ⟨by rw [← hX]; exact heap_alloc_new wr _, fun q => ?_⟩
        have := (HM.out.own.lt _ q).2
        omega
      have HL2 : Hid (dcs ds = reps 0 (dmk L.length) ++ (dcs ds).drop (0 * 2)) := hid (by simp [reps])
      have hm1 := HM.out.alloc (.cells #[.int .i64 (7000 + (L.length : Int)), .int .i64 0] 24)
      have HB1 := hid (HB.out.alloc (.cells #[.int .i64 (7000 + (L.length : Int)), .int .i64 0] 24))
      rw [HL2.out] at hm1
      have HM1 := hid hm1
      clear hm1 HL2 HM HB hcB hfB
      rw [hX]
      go_loopw [5] (fun i wr => ∃ j : Nat, j ≤ ds.length ∧ i = .int .i64 j ∧ Mkg w wr base 40 24 2 dmk S G L (.slice ai L.length cpi) (.slice ao ds.length ca) ds.length (reps j (dmk L.length) ++ (dcs ds).drop (j * 2)) 0 ∧ Mx wr X L.length (.slice ao ds.length ca) ∧ Bb wr B c0 c1 (.slice ai L.length cpi) (.bool false) c4 c5 c6 c7 (.slice ao ds.length ca) (.slice bo ds.length cb)) (fun i _ => ds.length - (intOf i).toNat)
      case atStart => exact ⟨0, by omega, rfl, HM1.out, HX1.out, HB1.out⟩
      case round =>
        obtain ⟨j, hj, rfl, hM, hXx, hB⟩ := hrel
        have HM2 := hid hM
        have HB2 := hid hB
        have HX2 := hid hXx
        obtain ⟨x0, x1⟩ := hXx.cells
        clear hM hB hXx HM1 HB1 HX1
        by_cases hlt2 : j < ds.length
        · obtain ⟨a, rfl⟩ : ∃ a, ao = some ⟨a, 0, none⟩ := by
            rcases HM2.out.own.2 with ⟨q, h0⟩ | ⟨g, cap, cur, q, _⟩
            · omega
            · cases q; exact ⟨g, rfl⟩
          have f1 := row_free HM2.out.own (j * 2)
          have f2 := row_free HM2.out.own (j * 2 + 1)
          have q1 := row_cell2 HM2.out.own (j * 2) _ (dmarks_at L.length (dcs ds) j _ _ (Nat.le_refl _) (dcs_at ds j hlt2).1)
          have q2 := row_cell2 HM2.out.own (j * 2 + 1) _ (dmarks_at L.length (dcs ds) j _ _ (by omega) (dcs_at ds j hlt2).2)
          generalize (ds.getD j (0, 0)).1 = z at *
          generalize (ds.getD j (0, 0)).2 = z' at *
          have hst := (HM2.out.store (by decide) rfl (j * 2) (.int .i64 (7000 + (L.length : Int)))).store (by decide) rfl (j * 2 + 1) (.int .i64 0)
          rw [dmarks_set _ _ _ (by rw [dcs_len]; omega)] at hst
          have HST := hid hst
          have hBa : B ≠ a := fun q => type_ne HM2.out.own HB2.out (by decide) (by rw [q]; rfl)
          have hXa : X ≠ a := fun q => HX2.out.2 (by rw [q]; rfl)
          have HBS := hid ((HB2.out.far (A := a) (i := j * 2) (.int .i64 (7000 + (L.length : Int))) hBa).far (A := a) (i := j * 2 + 1) (.int .i64 0) hBa)
          have HXS := hid ((HX2.out.far (A := a) (i := j * 2) (.int .i64 (7000 + (L.length : Int))) hXa).far (A := a) (i := j * 2 + 1) (.int .i64 0) hXa)
          clear hst hBa hXa
          go_wp2_with fail
          go_roundw
          case rel => exact ⟨j + 1, by omega, by go_num, HST.out, HXS.out, HBS.out⟩
          case measure => simp [intOf]; omega
        · have hjn : j = ds.length := by omega
          subst hjn
          go_wp2_with fail
          have hfull := HM2.out.full
          rw [show reps ds.length (dmk L.length) ++ (dcs ds).drop (ds.length * 2) = reps ds.length (dmk L.length) by rw [List.drop_of_length_le (by rw [dcs_len]; omega), List.append_nil]] at hfull
          have HF := hid hfull
          clear hfull HM2 x0 x1
          go_loopw [2, 6] (fun l i wr => ∃ (c : Nat) (Li : List Value) (row : Value) (m : Nat), c ≤ 4 ∧ i = .int .i64 c ∧ Li.length = L.length + c ∧ m ≤ ds.length + 61 * c ∧ Mkg w wr base 40 24 2 dmk S G Li row l m (reps m (dmk L.length)) m ∧ Mx wr X L.length l ∧ Bb wr B c0 c1 row (.bool false) c4 c5 c6 c7 (.slice ao ds.length ca) (.slice bo ds.length cb)) (fun _ i _ => 4 - (intOf i).toNat)
          case atStart => exact ⟨0, L, _, ds.length, by omega, rfl, rfl, by omega, HF.out, HX2.out, HB2.out⟩
          case round =>
            obtain ⟨c, Li, row, m, hc4, rfl, hLi, hm, hM, hXx, hB⟩ := hrel
            obtain ⟨lo, lc, rfl⟩ := own_form2 hM.own
            have HM := hid hM
            have HB := hid hB
            have HX := hid hXx
            obtain ⟨hcB, hfB⟩ := hB.cells
            clear hM hB HF HB2 HX2 hXx
            by_cases hlt3 : c < 4
            · have HQ4 : Hid (Li.length / 4 * 4 = L.length) := hid (by omega)
              have hLs : Li.length ≤ L.length + 3 := by omega
              have HLI := hid hLi
              clear hLi
              have hba : base ≤ wr.heap.size := HM.out.low'
              go_wp2_with (at_builtin; refine wpList_append_keep _ rfl (.tmp 64) (.tmp 66) 38 rfl base 40 i1 (.slice none 0 0) 1 24 Try.underlying38 hi1 hy0 hy1 hy2 rfl (by decide) row Li.length Li rfl (HM.out.alloc _).rw ⟨wr.heap.size, 0, none⟩ 1 1 [.slice lo m lc] rfl rfl (cell_one_new _ _ _) ?d1 ?d2 ?d3 ?d4 ?_)
              case d1 => intro u hu; simp at hu; subst hu; rfl
              case d2 => unfold maxLen; omega
              case d3 => omega
              case d4 => simp; omega
              intro row' w2 ho hk hg hat
              obtain ⟨ri, rc, rfl⟩ := own_form2 ho
              have hB2 := (HB.out.alloc (.cells #[.slice lo m lc] 40)).grown hg (fun q => type_ne HM.out.rw HB.out (by decide) q.symm)
              have hM2 := (HM.out.alloc (.cells #[.slice lo m lc] 40)).laid (by decide) ho hg (by simpa using hat) (by rw [HQ4.out])
              have hM3 := hM2.far (i := 2) hB2 (by decide) (by decide) (fun _ => HSB.out) (.slice ri (Li.length + 1) rc)
              have hB3 := hB2.set2 (.slice ri (Li.length + 1) rc)
              obtain ⟨hcB2, hfB2⟩ := hB2.cells
              have hx2 := (HX.out.alloc (.cells #[.slice lo m lc] 40)).laid hg (type_ne HM.out.rw HX.out.1 (by decide))
              have hBX : X ≠ B := fun q => by
                have h1 := HX.out.1
                have h2 := HB.out
                rw [q] at h1
                rw [Bb, h1] at h2
                cases h2
              have HX3 := hid (hx2.far (i := 2) (.slice ri (Li.length + 1) rc) hBX)
              obtain ⟨x0, x1⟩ := hx2.cells
              clear hx2 HX
              have HM3 := hid hM3
              have HB3 := hid hB3
              clear hcB hfB hM2 hM3 hB3 hB2 ho hk hg hat HM HB
              have HNW : Hid (∀ j u, (dmk L.length)[j]? = some u → ((w2.setCell ⟨B, 2, none⟩ (.slice ri (Li.length + 1) rc)).alloc (.cells #[.int .i64 (7000 + (L.length : Int)), .int .i64 0] 24)).cell? ((⟨w2.heap.size, 0, none⟩ : Addr).add j) = some u) := by
                have hsz : (w2.setCell ⟨B, 2, none⟩ (.slice ri (Li.length + 1) rc)).heap.size = w2.heap.size := by simp [World.setCell]
                rw [← hsz]
                exact World.news_of_block (heap_alloc_new _ _)
              have hba3 : base ≤ w2.heap.size := by have := HM3.out.low'; simpa [World.setCell] using this
              go_wp2_with (at_builtin; refine wpList_append_keep _ rfl (.tmp 70) (.tmp 72) 40 rfl base 24 i0 (.agg #[.int .i64 0, .int .i64 0]) 2 16 Try.underlying40 hi hz0 hz1 hz2 rfl (by decide) (.slice lo m lc) m (reps m (dmk L.length)) rfl (HM3.out.alloc _).own ⟨w2.heap.size, 0, none⟩ 1 1 (dmk L.length) rfl rfl HNW.out ?e1 ?e2 ?e3 ?e4 ?_)
              case e1 => intro u hu; simp [dmk] at hu; rcases hu with rfl | rfl <;> rfl
              case e2 => unfold maxLen; omega
              case e3 => omega
              case e4 => simp [World.setCell]; omega
              intro l4 w4 ho4 hk4 hg4 hat4
              have hM4 := (HM3.out.alloc _).grew (by decide) ho4 hk4 hg4 (by simpa [World.setCell] using hat4)
              rw [← reps_succ] at hM4
              have hB4 := (HB3.out.alloc _).grown hg4 (fun q => type_ne HM3.out.own HB3.out (by decide) q.symm)
              have HM4 := hid hM4
              have HB4 := hid hB4
              have HX4 := hid ((HX3.out.alloc _).grew hg4 (by simpa [World.setCell] using hat4))
              clear ho4 hk4 hg4 hat4 hM4 hB4 HM3 HB3 HX3 HNW hcB2 hfB2 hba3 hba x0 x1
              go_wp2_with fail
              go_loopw [2, 7] (fun l k wr => ∃ (kk m4 : Nat), kk ≤ 60 ∧ k = .int .i64 kk ∧ m4 ≤ m + 1 + kk ∧ Mkg w wr base 40 24 2 dmk S G (Li ++ [.slice lo m lc]) (.slice ri (Li.length + 1) rc) l m4 (reps m4 (dmk L.length)) m4 ∧ Mx wr X L.length l ∧ Bb wr B c0 c1 (.slice ri (Li.length + 1) rc) (.bool false) c4 c5 c6 c7 (.slice ao ds.length ca) (.slice bo ds.length cb)) (fun _ k _ => 60 - (intOf k).toNat)
              case atStart => exact ⟨0, m + 1, by omega, rfl, by omega, HM4.out, HX4.out, HB4.out⟩
              case round =>
                obtain ⟨kk, m4, hk60, rfl, hm4, hM, hXx, hB⟩ := hrel
                obtain ⟨lo4, lc4, rfl⟩ := own_form2 hM.own
                have HM5 := hid hM
                have HB5 := hid hB
                have HX5 := hid hXx
                obtain ⟨x0, x1⟩ := hXx.cells
                have hba := hM.low'
                clear hM hB HM4 HB4 HX4 hXx
                by_cases hk1 : kk < 60
                · by_cases hc2 : c = 2
                  · have h2a : 2 ≤ c := by omega
                    have h2b : c ≤ 2 := by omega
                    clear hc2 hlt3 hc4
                    go_wp2_with (at_builtin; refine wpList_append_keep _ rfl (.tmp 82) (.tmp 84) 40 rfl base 24 i0 (.agg #[.int .i64 0, .int .i64 0]) 2 16 Try.underlying40 hi hz0 hz1 hz2 rfl (by decide) (.slice lo4 m4 lc4) m4 (reps m4 (dmk L.length)) rfl (HM5.out.alloc _).own ⟨_, 0, none⟩ 1 1 (dmk L.length) rfl rfl (World.news_of_block (heap_alloc_new _ _)) ?f1 ?f2 ?f3 ?f4 ?_)
                    case f1 => intro u hu; simp [dmk] at hu; rcases hu with rfl | rfl <;> rfl
                    case f2 => unfold maxLen; omega
                    case f3 => omega
                    case f4 => simp; omega
                    intro l6 w6 ho6 hk6 hg6 hat6
                    have hM6 := (HM5.out.alloc _).grew (by decide) ho6 hk6 hg6 (by simpa using hat6)
                    rw [← reps_succ] at hM6
                    have hB6 := (HB5.out.alloc _).grown hg6 (fun q => type_ne HM5.out.own HB5.out (by decide) q.symm)
                    have HX6 := hid ((HX5.out.alloc _).grew hg6 (by simpa using hat6))
                    have HM6 := hid hM6
                    have HB6 := hid hB6
                    clear ho6 hk6 hg6 hat6 hM6 hB6
                    go_wp2_with fail
                    go_roundw
                    case rel => exact ⟨kk + 1, m4 + 1, by omega, by go_num, by omega, HM6.out, HX6.out, HB6.out⟩
                    case measure => simp [intOf]; omega
                  · go_wp2_with fail
                    go_roundw
                    case rel => exact ⟨c + 1, _, _, m4, by omega, by go_num, by simp [HLI.out]; omega, by omega, HM5.out, HX5.out, HB5.out⟩
                    case measure => simp [intOf]; omega
                · go_wp2_with fail
                  go_roundw
                  case rel => exact ⟨c + 1, _, _, m4, by omega, by go_num, by simp [HLI.out]; omega, by omega, HM5.out, HX5.out, HB5.out⟩
                  case measure => simp [intOf]; omega
            · have hc44 : c = 4 := by omega
              subst hc44
              go_wp2_with fail
              refine bodyPost_end (v := .tuple #[]) ?_ rfl ?_
              · simp [results, Try.results37, go_sem]
              refine ⟨rfl, row, Li, hLi, (HB.out.set8 _).set9 _, ?_⟩
              · have hm4 := (HM.out.far (i := 8) HB.out (by decide) (by decide) (fun _ => HSB.out) (.slice none 0 0))
                have hm5 := (hm4.far (i := 9) (HB.out.set8 _) (by decide) (by decide) (fun _ => HSB.out) (.slice none 0 0))
                exact ⟨hm5.rw, hm5.views.free, fun g hg => (hm5.away g hg).2.2, hm5.sp⟩
end Go.Proofs.Yteljbblbdiploaa
