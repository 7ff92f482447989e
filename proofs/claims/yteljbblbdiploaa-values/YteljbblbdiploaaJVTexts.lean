/-
  WALKS: the document's answer: the texts of a set or a register.
-/
import Derived.Test.YteljbblbdiploaaJVWith
import Derived.Test.YteljbblbdiploaaJVBeh
namespace Go.Proofs.Yteljbblbdiploaa
open Go.RowKit

/-- an update's nine cells, in whatever world of a quiet walk -/
theorem UpAt.re9 {w : World} {b p : Nat} {u : Up} {ao : Option Addr} {cap : Nat} (h : UpAt w b p u ao cap) :
    (∀ d os, (Sort.grow (redrawn w d) os).cell? ⟨b, p, none⟩ = some (.int .i64 u.o)) ∧ (∀ d os, (Sort.grow (redrawn w d) os).cell? ⟨b, p + 1, none⟩ = some (.slice ao u.c.length cap)) ∧ (∀ d os, (Sort.grow (redrawn w d) os).cell? ⟨b, p + 2, none⟩ = some (.int .u8 u.t)) ∧
    (∀ d os, (Sort.grow (redrawn w d) os).cell? ⟨b, p + 3, none⟩ = some (.int .u8 u.k)) ∧ (∀ d os, (Sort.grow (redrawn w d) os).cell? ⟨b, p + 4, none⟩ = some (.string (bs u.n))) ∧ (∀ d os, (Sort.grow (redrawn w d) os).cell? ⟨b, p + 5, none⟩ = some (.string (bs u.x))) ∧
    (∀ d os, (Sort.grow (redrawn w d) os).cell? ⟨b, p + 6, none⟩ = some (.int .i64 u.a)) ∧ (∀ d os, (Sort.grow (redrawn w d) os).cell? ⟨b, p + 7, none⟩ = some (.int .i64 u.ao)) ∧ (∀ d os, (Sort.grow (redrawn w d) os).cell? ⟨b, p + 8, none⟩ = some (.int .i64 u.az)) := by
  obtain ⟨c0, c1, c2, c3, c4, c5, c6, c7, c8⟩ := h.nine
  exact ⟨cell_regrown c0, cell_regrown c1, cell_regrown c2, cell_regrown c3, cell_regrown c4, cell_regrown c5, cell_regrown c6, cell_regrown c7, cell_regrown c8⟩

/-- does b take away a? -/
def takesB (reg : Bool) (a b : Up) : Bool := reg || (decide (b.k = 2) || (decide (b.k = 1) && decide (b.x = a.x)))
theorem goneD_eq (reg : Bool) (l : List Up) (a : Up) : goneD reg l a = l.any fun b => takesB reg a b && behindB b a := rfl

theorem takes_cases (reg : Bool) (a b : Up) (h : a.t = if reg then 1 else 0) : ((a.t == 1) = true ∧ True ∧ True ∧ Hid (takesB reg a b = true)) ∨ ((a.t == 1) = false ∧ (b.k == 2) = true ∧ True ∧ Hid (takesB reg a b = true)) ∨ ((a.t == 1) = false ∧ ((b.k == 2) = false ∧ (b.k == 1) = true) ∧ (b.x == a.x) = true ∧ Hid (takesB reg a b = true)) ∨ ((a.t == 1) = false ∧ ((b.k == 2) = false ∧ (b.k == 1) = true) ∧ (b.x == a.x) = false ∧ Hid (takesB reg a b = false)) ∨ ((a.t == 1) = false ∧ ((b.k == 2) = false ∧ (b.k == 1) = false) ∧ True ∧ Hid (takesB reg a b = false)) := by
  cases reg
  · simp only [Bool.false_eq_true, if_false] at h
    by_cases h2 : b.k = 2
    · exact .inr (.inl ⟨by simp [h], by simp [h2], trivial, by simp [Hid, takesB, h2]⟩)
    · by_cases h1 : b.k = 1
      · by_cases hx : b.x = a.x
        · exact .inr (.inr (.inl ⟨by simp [h], by simp [h1], by simp [hx], by simp [Hid, takesB, h1, hx]⟩))
        · exact .inr (.inr (.inr (.inl ⟨by simp [h], by simp [h1], by simp [hx], by simp [Hid, takesB, h1, hx]⟩)))
      · exact .inr (.inr (.inr (.inr ⟨by simp [h], by simp [h1, h2], trivial, by simp [Hid, takesB, h1, h2]⟩)))
  · simp only [if_true] at h
    exact .inl ⟨by simp [h], trivial, trivial, by simp [Hid, takesB]⟩

/-- the texts of those of l that stay, of the first ones -/
def stayT (reg : Bool) (l m : List Up) : List Tx := (m.filter fun u => (reg || decide (u.k = 0)) && !goneD reg l u).map Up.x

theorem stayT_step {reg : Bool} {l : List Up} {i : Nat} {a : Up} (ha : l[i]? = some a) (h : (reg || decide (a.k = 0)) = true) : stayT reg l (l.take (i + 1)) = stayT reg l (l.take i) ++ (if goneD reg l a then [] else [a.x]) := by
  rw [stayT, List.take_add_one, ha, List.filter_append, List.map_append]
  congr 1
  cases hg : goneD reg l a
  · simp [hg, h]
  · simp [hg]
theorem layT_len (ss : List Tx) : (layT ss).length ≤ ss.length := by
  suffices ∀ (ss acc : List Tx), (ss.foldl withT acc).length ≤ acc.length + ss.length by
    have := this ss []; simpa [layT] using this
  intro ss
  induction ss with
  | nil => intro acc; simp
  | cons s ss ih =>
    intro acc
    have h1 := ih (withT acc s)
    have h2 : (withT acc s).length ≤ acc.length + 1 := by
      have : ∀ l : List Tx, (insT s l).length = l.length + 1 := by
        intro l
        induction l with
        | nil => rfl
        | cons x l ih => unfold insT; split <;> simp [ih]
      unfold withT; split
      · omega
      · rw [this]; omega
    rw [List.foldl_cons, List.length_cons]; omega
theorem stayT_len (reg : Bool) (l m : List Up) : (stayT reg l m).length ≤ m.length := by
  rw [stayT, List.length_map]; exact List.length_filter_le _ _

set_option maxRecDepth 16000 in
set_option maxHeartbeats 2000000 in
theorem texts_any (reg : Bool) (b off cap : Nat) (l : List Up) (w : World) (hu : UpsAt w b off l) (hs : Ups l) (ht : ∀ u ∈ l, u.t = if reg then 1 else 0) (hl : l.length ≤ 8000) :
    Calls Try.prog 66 #[.slice (some ⟨b, off, none⟩) l.length cap] w fun e w' => ∃ v n, e = .returned v ∧ w'.ownsRow w.heap.size 9 1 v n (tcs (layT (textsD reg l))) ∧ Below w.heap.size w w' := by
  have HU := hid hu
  have HS := hid hs
  have HT := hid ht
  clear hu hs ht
  go_enter Try.func66, Try.ntmps66
  go_wp2_with fail
  go_loopw [3, 4] (fun out i wr => ∃ k : Nat, k ≤ l.length ∧ i = .int .i64 k ∧ (∃ n, wr.ownsRow w.heap.size 9 1 out n (tcs (layT (stayT reg l (l.take k))))) ∧ Below w.heap.size w wr) (fun _ i _ => l.length - (intOf i).toNat)
  case atStart => exact ⟨0, by omega, rfl, ⟨0, World.ownsRow_nil _ _ _ _⟩, Below.refl _ _⟩
  case round =>
    obtain ⟨i, hi, rfl, ⟨n, hown⟩, hb⟩ := hrel
    have HO := hid hown
    have HB := hid hb
    clear hown hb
    by_cases hlt : i < l.length
    · obtain ⟨a, ha⟩ : ∃ a, l[i]? = some a := ⟨l[i], List.getElem?_eq_getElem hlt⟩
      have ham := List.mem_of_getElem? ha
      obtain ⟨aa, ac, hat⟩ := (HU.out.later HB.out) i a ha
      have HAT := hid hat
      have HA := hid ha
      have HAM := hid ham
      have hta := HT.out a ham
      have HTA := hid hta
      obtain ⟨c0, c1, c2, c3, c4, c5, c6, c7, c8⟩ := hat.nine
      clear ha hat ham hta
      have hcs : ((a.t == 0) = true ∧ (a.k == 0) = false ∧ Hid ((reg || decide (a.k = 0)) = false)) ∨ ((a.t == 0) = true ∧ (a.k == 0) = true ∧ Hid ((reg || decide (a.k = 0)) = true)) ∨ ((a.t == 0) = false ∧ True ∧ Hid ((reg || decide (a.k = 0)) = true)) := by
        have := HTA.out
        cases reg
        · simp only [Bool.false_eq_true, if_false] at this
          by_cases hk : a.k = 0
          · exact .inr (.inl ⟨by simp [this], by simp [hk], by simp [Hid, hk]⟩)
          · exact .inl ⟨by simp [this], by simp [hk], by simp [Hid, hk]⟩
        · simp only [if_true] at this
          exact .inr (.inr ⟨by simp [this], trivial, by simp [Hid]⟩)
      rcases hcs with ⟨h1, h2, h3⟩ | ⟨h1, h2, h3⟩ | ⟨h1, h2, h3⟩
      · go_wp2_with fail
        go_roundw
        case rel =>
          refine ⟨i + 1, by omega, by go_num, ⟨n, ?_⟩, HB.out.alloc HB.out.size _⟩
          have e : stayT reg l (l.take (i + 1)) = stayT reg l (l.take i) := by
            have := h3.out
            rw [stayT, List.take_add_one, HA.out]; simp [stayT, this]
          rw [e]
          exact World.ownsRow.alloc HO.out _
        case measure => simp [intOf]; omega
      all_goals
        go_wp2_with fail
        clear h1 h2 c0 c1 c2 c3 c4 c5 c6 c7 c8
        obtain ⟨w0, hw0⟩ : ∃ w0, w0 = wr := ⟨_, rfl⟩
        subst hw0
        go_loopw [6, 7] (fun gn k wr => ∃ j : Nat, j ≤ l.length ∧ k = .int .i64 j ∧ gn = .bool ((l.take j).any fun b => takesB reg a b && behindB b a) ∧ Below (w0.heap.size + 1) (w0.alloc (.cells #[.int .u8 a.t, .int .u8 a.k, .string (bs a.n), .string (bs a.x), .int .i64 a.a, .int .i64 a.ao, .int .i64 a.az] 26)) wr) (fun _ k _ => l.length - (intOf k).toNat)
        case atStart => exact ⟨0, by omega, rfl, rfl, Below.refl _ _⟩
        case round =>
          obtain ⟨j, hj, rfl, rfl, hbx⟩ := hrel
          have HX := hid hbx
          have hbw : Below w0.heap.size w0 wr := ((Below.refl _ _).alloc (Nat.le_refl _) _).trans (hbx.mono (by omega))
          have HXW := hid hbw
          have hsz : w0.heap.size < wr.heap.size := by have := hbx.size; simp at this; omega
          obtain ⟨a0, a1, a2, a3, a4, a5, a6⟩ : wr.cell? ⟨w0.heap.size, 0, none⟩ = some (.int .u8 a.t) ∧ wr.cell? ⟨w0.heap.size, 1, none⟩ = some (.int .u8 a.k) ∧ wr.cell? ⟨w0.heap.size, 2, none⟩ = some (.string (bs a.n)) ∧ wr.cell? ⟨w0.heap.size, 3, none⟩ = some (.string (bs a.x)) ∧ wr.cell? ⟨w0.heap.size, 4, none⟩ = some (.int .i64 a.a) ∧ wr.cell? ⟨w0.heap.size, 5, none⟩ = some (.int .i64 a.ao) ∧ wr.cell? ⟨w0.heap.size, 6, none⟩ = some (.int .i64 a.az) := by
            have hn := heap_alloc_new w0 (.cells #[.int .u8 a.t, .int .u8 a.k, .string (bs a.n), .string (bs a.x), .int .i64 a.a, .int .i64 a.ao, .int .i64 a.az] 26)
            have hc : ∀ i, wr.cell? ⟨w0.heap.size, i, none⟩ = (#[.int .u8 a.t, .int .u8 a.k, .string (bs a.n), .string (bs a.x), .int .i64 a.a, .int .i64 a.ao, .int .i64 a.az] : Array Value)[i]? := fun i => (hbx.cell (p := ⟨w0.heap.size, i, none⟩) (by simp)).trans (cell_of_row _ _ i _ _ (0, 0) hn)
            exact ⟨hc 0, hc 1, hc 2, hc 3, hc 4, hc 5, hc 6⟩
          by_cases hjl : j < l.length
          · obtain ⟨y, hy⟩ : ∃ y, l[j]? = some y := ⟨l[j], List.getElem?_eq_getElem hjl⟩
            obtain ⟨ya, yc, hyt⟩ := (HU.out.later (HB.out.trans (hbw.mono HB.out.size))) j y hy
            have HYT := hid hyt
            have HAX := hid (HAT.out.later hbw)
            have HY := hid hy
            have HYM := hid (List.mem_of_getElem? hy)
            obtain ⟨d0, d1, d2, d3, d4, d5, d6, d7, d8⟩ := hyt.nine
            clear hy hyt hbw hbx
            rcases takes_cases reg a y HTA.out with ⟨t1, t2, t3, t4⟩ | ⟨t1, t2, t3, t4⟩ | ⟨t1, t2, t3, t4⟩ | ⟨t1, t2, t3, t4⟩ | ⟨t1, t2, t3, t4⟩
            all_goals
              go_wp2_with fail
              clear t1 t2 t3 a0 a1 a2 a3 a4 a5 a6 d0 d1 d2 d3 d4 d5 d6 d7 d8
              have hbq : Below wr.heap.size wr (wr.alloc (.cells #[.int .u8 y.t, .int .u8 y.k, .string (bs y.n), .string (bs y.x), .int .i64 y.a, .int .i64 y.ao, .int .i64 y.az] 26)) := (Below.refl _ _).alloc (Nat.le_refl _) _
              generalize wr.alloc (.cells #[.int .u8 y.t, .int .u8 y.k, .string (bs y.n), .string (bs y.x), .int .i64 y.a, .int .i64 y.ao, .int .i64 y.az] 26) = wq at *
              have HYQ := hid (HYT.out.later hbq)
              have HAQ := hid (HAX.out.later hbq)
              obtain ⟨d0, d1, d2, d3, d4, d5, d6, d7, d8⟩ := HYQ.out.re9
              obtain ⟨c0, c1, c2, c3, c4, c5, c6, c7, c8⟩ := HAQ.out.re9
              have HBQ : Hid (Below (w0.heap.size + 1) (w0.alloc (.cells #[.int .u8 a.t, .int .u8 a.k, .string (bs a.n), .string (bs a.x), .int .i64 a.a, .int .i64 a.ao, .int .i64 a.az] 26)) wq) := HX.out.trans (hbq.mono (by omega))
              clear hbq
              refine wp_region_quiet_below (by kernel_rfl) (by kernel_rfl) ?_
              repeat (go_big_quiet_step (first | (go_at_call 81; exact Calls.regrown_of (behind_any y a _ _ _ _ _ (HS.out.good y HYM.out) (HS.out.good a HAM.out) (HS.out.one y HYM.out a HAM.out) (HYQ.out.clk.later (below_regrown wq _ _)) (HAQ.out.clk.later (below_regrown wq _ _))))))
              refine wpQuiet_nil ?_
              intro _ hw'
              obtain ⟨⟨nq, osq⟩, hw''⟩ := hw'
              subst hw''
              clear d0 d1 d2 d3 d4 d5 d6 d7 d8 c0 c1 c2 c3 c4 c5 c6 c7 c8
              have hany : (l.take (j + 1)).any (fun b => takesB reg a b && behindB b a) = ((l.take j).any (fun b => takesB reg a b && behindB b a) || (takesB reg a y && behindB y a)) := by
                rw [List.take_add_one, HY.out, List.any_append]; simp
              rw [t4.out] at hany
              have HANY := hid hany
              clear hany
              generalize (l.take j).any (fun b => takesB reg a b && behindB b a) = gn at *
              generalize behindB y a = bh at *
              cases gn
              all_goals
                go_wp2_with fail
                go_roundw
                case rel => exact ⟨j + 1, by omega, by go_num, by rw [HANY.out]; simp, HBQ.out.trans ((below_regrown wq nq osq).mono (by have := HBQ.out.size; simp at this; omega))⟩
                case measure => simp [intOf]; omega
          · clear hbw hbx
            have hjall : l.take j = l := List.take_of_length_le (by omega)
            have HG : Hid (goneD reg l a = (l.take j).any fun b => takesB reg a b && behindB b a) := by rw [hjall]; exact goneD_eq reg l a
            clear hjall
            generalize (l.take j).any (fun b => takesB reg a b && behindB b a) = gn at *
            have hst := stayT_step HA.out h3.out
            rw [HG.out] at hst
            have HST := hid hst
            clear hst
            cases gn
            · go_wp2_with fail
              have how := ownsRow_later HO.out HXW.out
              have hnn : n ≤ 8000 := by
                have h1 := (own_texts how).1
                have h2 := layT_len (stayT reg l (l.take i))
                have h4 := stayT_len reg l (l.take i)
                rw [List.length_take] at h4
                omega
              refine (with_any w.heap.size u3 n (layT (stayT reg l (l.take i))) a.x wr (Nat.le_trans HB.out.size HXW.out.size) how (by omega)).mono ?_
              rintro e w1 ⟨v1, n1, rfl, hown1, hb1⟩
              have HO1 := hid hown1
              have HB1 : Hid (Below w.heap.size w w1) := (HB.out.trans (HXW.out.mono HB.out.size)).trans (hb1.mono (Nat.le_trans HB.out.size HXW.out.size))
              clear hown1 hb1 how
              go_wp2_with fail
              go_roundw
              case rel => exact ⟨i + 1, by omega, by go_num, ⟨n1, by rw [HST.out]; simp only [Bool.false_eq_true, if_false]; rw [layT_app]; exact HO1.out⟩, HB1.out⟩
              case measure => simp [intOf]; omega
            · go_wp2_with fail
              go_roundw
              case rel => exact ⟨i + 1, by omega, by go_num, ⟨n, by rw [HST.out]; simpa using ownsRow_later HO.out HXW.out⟩, HB.out.trans (HXW.out.mono HB.out.size)⟩
              case measure => simp [intOf]; omega
    · go_wp2_with fail
      go_ret
      refine ⟨_, n, rfl, ?_, HB.out⟩
      have e : l.take i = l := List.take_of_length_le (by omega)
      have h := HO.out
      rw [e] at h
      exact h
end Go.Proofs.Yteljbblbdiploaa
