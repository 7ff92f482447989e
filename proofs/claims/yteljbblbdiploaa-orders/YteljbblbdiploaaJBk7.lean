/-
  WALKS: the statements' book: does every list read as its owner wrote it?
-/
import Derived.Test.YteljbblbdiploaaJBk6
import Derived.Deep.RegionHeld3
namespace Go.Proofs.Yteljbblbdiploaa
open Go.RowKit

/-- how the whole book stands -/
structure BookAt (w : World) (base B : Nat) (r0 r1 r2 c4 c5 c6 c7 c8 c9 : Value) (L0 L1 L2 : List Value) (zs : List Int) (ts : List ByteArray) (ds : List (Int × Int)) : Prop where
  bb : Bb w B r0 r1 r2 (.bool false) c4 c5 c6 c7 c8 c9
  k0 : Kind1 w base 22 3 1 imk r0 c4 c5 L0 zs.length (ics zs)
  k1 : Kind1 w base 39 9 1 tmk r1 c6 c7 L1 ts.length (scs ts)
  k2 : Kind1 w base 40 24 2 dmk r2 c8 c9 L2 ds.length (dcs ds)

theorem BookAt.later {w w' : World} {base B : Nat} {r0 r1 r2 c4 c5 c6 c7 c8 c9 : Value} {L0 L1 L2 : List Value} {zs : List Int} {ts : List ByteArray} {ds : List (Int × Int)} (h : BookAt w base B r0 r1 r2 c4 c5 c6 c7 c8 c9 L0 L1 L2 zs ts ds) (hb : Below w.heap.size w w') : BookAt w' base B r0 r1 r2 c4 c5 c6 c7 c8 c9 L0 L1 L2 zs ts ds :=
  ⟨h.bb.below hb h.bb.lt, h.k0.later hb, h.k1.later hb, h.k2.later hb⟩

theorem reps_at1 (c : Value) : ∀ (k j : Nat), j < k → (reps k [c])[j]? = some c
  | 0, j, h => by omega
  | k + 1, j, h => by
    rw [reps_succ]
    have hl : (reps k [c]).length = k := by simp [reps]
    by_cases hj : j < k
    · rw [List.getElem?_append_left (by omega)]; exact reps_at1 c k j hj
    · rw [List.getElem?_append_right (by omega), hl, show j - k = 0 by omega]; rfl
theorem reps_at2 (c d : Value) : ∀ (k j : Nat), j < k → (reps k [c, d])[j * 2]? = some c ∧ (reps k [c, d])[j * 2 + 1]? = some d
  | 0, j, h => by omega
  | k + 1, j, h => by
    rw [reps_succ]
    have hl : (reps k [c, d]).length = k * 2 := by
      clear h
      induction k with
      | zero => rfl
      | succ k ih => rw [reps_succ, List.length_append, ih]; simp; omega
    by_cases hj : j < k
    · rw [List.getElem?_append_left (by omega), List.getElem?_append_left (by omega)]; exact reps_at2 c d k j hj
    · have : j = k := by omega
      subst this
      rw [List.getElem?_append_right (by omega), List.getElem?_append_right (by omega), hl, Nat.sub_self, show j * 2 + 1 - j * 2 = 1 by omega]
      exact ⟨rfl, rfl⟩

/-- a list of the row: where the row lies, and the list -/
theorem Kind1.list {w : World} {base : Nat} {eS e : TypeId} {size : Nat} {mk : Nat → List Value} {ro : Option Addr} {rc : Nat} {came was : Value} {L : List Value} {n : Nat} {xs : List Value} (h : Kind1 w base eS e size mk (.slice ro L.length rc) came was L n xs) {j : Nat} (hj : j < L.length) :
    ∃ R so k sc, ro = some ⟨R, 0, none⟩ ∧ w.cell? ⟨R, j, none⟩ = some (.slice so k sc) ∧ w.ownsRow base e size (.slice so k sc) k (reps k (mk (j / 4 * 4))) := by
  obtain ⟨k, h1, _⟩ := h.views j L[j] (List.getElem?_eq_getElem hj)
  obtain ⟨so, sc, hs⟩ := own_form2 h1
  obtain ⟨R, hR⟩ : ∃ R, ro = some ⟨R, 0, none⟩ := by
    rcases h.rw.2 with ⟨q, h0⟩ | ⟨g, cap, cur, q, _⟩
    · omega
    · cases q; exact ⟨g, rfl⟩
  subst hR
  refine ⟨R, so, k, sc, rfl, ?_, by rw [← hs]; exact h1⟩
  rw [← hs]
  exact row_cell2 h.rw j _ (List.getElem?_eq_getElem hj)

theorem row_addr {w : World} {base : Nat} {e : TypeId} {size : Nat} {so : Option Addr} {k sc : Nat} {xs : List Value} (h : w.ownsRow base e size (.slice so k sc) k xs) (hk : 0 < k) : ∃ a, so = some ⟨a, 0, none⟩ := by
  rcases h.2 with ⟨_, h0⟩ | ⟨g, cap, cur, q, _⟩
  · omega
  · cases q; exact ⟨g, rfl⟩

theorem word_z (x : Int) (w : World) (h0 : 0 ≤ x) (h1 : x ≤ 1099511627780) :
    Calls Try.prog 35 #[.int .i64 x] w fun e w' => e = .returned (.string (wordOf x.toNat)) ∧ Below w.heap.size w w' := by
  have := word_any x.toNat w (by omega)
  rwa [Int.toNat_of_nonneg h0] at this

theorem held_next {wr w1 w2 : World} {p1 p2 p3 : Addr} {v1 v2 v3 : Value} (h : w1.cell? p1 = some v1 ∧ w1.cell? p2 = some v2 ∧ w1.cell? p3 = some v3 ∧ Below wr.heap.size wr w1) (hb : Below w1.heap.size w1 w2) (_ : 0 ≤ 0) :
    w2.cell? p1 = some v1 ∧ w2.cell? p2 = some v2 ∧ w2.cell? p3 = some v3 ∧ Below wr.heap.size wr w2 := by
  obtain ⟨a, b, c, d⟩ := h
  exact ⟨(hb.cell (World.block_lt_of_cell? w1 _ a)).trans a, (hb.cell (World.block_lt_of_cell? w1 _ b)).trans b, (hb.cell (World.block_lt_of_cell? w1 _ c)).trans c, d.trans (hb.mono d.size)⟩

theorem row_len {w : World} {base : Nat} {e : TypeId} {size : Nat} {so : Option Addr} {k sc : Nat} {xs : List Value} (h : w.ownsRow base e size (.slice so k sc) k xs) : k ≤ 9223372036854775807 := by
  rcases h.2 with ⟨_, h0⟩ | ⟨g, cap, cur, q, _, _, h1, h2, _⟩
  · omega
  · cases q; unfold maxLen at h2; omega

set_option maxRecDepth 16000 in
set_option maxHeartbeats 8000000 in
theorem still_any (B base : Nat) (w : World) (r0 r1 r2 c4 c5 c6 c7 c8 c9 : Value) (L0 L1 L2 : List Value) (zs : List Int) (ts : List ByteArray) (ds : List (Int × Int)) (hbk : BookAt w base B r0 r1 r2 c4 c5 c6 c7 c8 c9 L0 L1 L2 zs ts ds)
    (hn0 : zs.length ≤ 1099511627776) (hn1 : ts.length ≤ 1099511627776) (hn2 : ds.length ≤ 1099511627776) (hl0 : L0.length ≤ 1099511627776) (hl1 : L1.length ≤ 1099511627776) (hl2 : L2.length ≤ 1099511627776) :
    Calls Try.prog 16 #[.pointer (some ⟨B, 0, none⟩)] w fun e w' => e = .returned (.bool true) ∧ Below w.heap.size w w' := by
  obtain ⟨o0, q0, rfl⟩ := own_form2 hbk.k0.rw
  obtain ⟨o1, q1, rfl⟩ := own_form2 hbk.k1.rw
  obtain ⟨o2, q2, rfl⟩ := own_form2 hbk.k2.rw
  obtain ⟨o4, q4, rfl⟩ := own_form2 hbk.k0.cm
  obtain ⟨o5, q5, rfl⟩ := own_form2 hbk.k0.ws
  obtain ⟨o6, q6, rfl⟩ := own_form2 hbk.k1.cm
  obtain ⟨o7, q7, rfl⟩ := own_form2 hbk.k1.ws
  obtain ⟨o8, q8, rfl⟩ := own_form2 hbk.k2.cm
  obtain ⟨o9, q9, rfl⟩ := own_form2 hbk.k2.ws
  have HBK := hid hbk
  obtain ⟨hcB, hfB⟩ := hbk.bb.cells
  clear hbk
  go_enter Try.func16, Try.ntmps16
  go_wp2_with fail
  clear hcB hfB
  go_loopw [3] (fun i wr => ∃ j : Nat, j ≤ zs.length ∧ i = .int .i64 j ∧ Below w.heap.size w wr) (fun i _ => zs.length - (intOf i).toNat)
  case atStart => exact ⟨0, by omega, rfl, Below.refl _ _⟩
  case round =>
    obtain ⟨j, hj, rfl, hb⟩ := hrel
    have HB := hid hb
    have hbk := HBK.out.later hb
    obtain ⟨hcB, hfB⟩ := hbk.bb.cells
    by_cases hlt : j < zs.length
    · obtain ⟨_, _, e1, h1⟩ := own_at hbk.k0.cm
      obtain ⟨_, _, e2, h2⟩ := own_at hbk.k0.ws
      cases e1
      cases e2
      obtain ⟨a, rfl, g1⟩ := h1 j hlt
      obtain ⟨b, rfl, g2⟩ := h2 j hlt
      clear h1 h2 hb hbk
      generalize zs.getD j 0 = z at *
      go_wp2_with fail
      go_quiet (fail)
      all_goals
        go_wp2_with fail
        go_roundw
        case rel => exact ⟨j + 1, by omega, by go_num, below_drewN HB.out _⟩
        case measure => simp [intOf]; omega
    · clear hbk hb
      go_wp2_with fail
      clear hcB hfB
      go_loopw [4] (fun i wr => ∃ j : Nat, j ≤ ts.length ∧ i = .int .i64 j ∧ Below w.heap.size w wr) (fun i _ => ts.length - (intOf i).toNat)
      case atStart => exact ⟨0, by omega, rfl, HB.out⟩
      case round =>
        obtain ⟨j, hj, rfl, hb⟩ := hrel
        clear HB
        have HB := hid hb
        have hbk := HBK.out.later hb
        obtain ⟨hcB, hfB⟩ := hbk.bb.cells
        by_cases hlt : j < ts.length
        · obtain ⟨_, _, e1, h1⟩ := own_at_s hbk.k1.cm
          obtain ⟨_, _, e2, h2⟩ := own_at_s hbk.k1.ws
          cases e1
          cases e2
          obtain ⟨a, rfl, g1⟩ := h1 j hlt
          obtain ⟨b, rfl, g2⟩ := h2 j hlt
          clear h1 h2 hb hbk
          generalize ts.getD j ⟨#[]⟩ = z at *
          go_wp2_with fail
          go_quiet (fail)
          all_goals
            go_wp2_with fail
            go_roundw
            case rel => exact ⟨j + 1, by omega, by go_num, below_drewN HB.out _⟩
            case measure => simp [intOf]; omega
        · clear hbk hb
          go_wp2_with fail
          clear hcB hfB
          go_loopw [5] (fun i wr => ∃ j : Nat, j ≤ ds.length ∧ i = .int .i64 j ∧ Below w.heap.size w wr) (fun i _ => ds.length - (intOf i).toNat)
          case atStart => exact ⟨0, by omega, rfl, HB.out⟩
          case round =>
            obtain ⟨j, hj, rfl, hb⟩ := hrel
            clear HB
            have HB := hid hb
            have hbk := HBK.out.later hb
            obtain ⟨hcB, hfB⟩ := hbk.bb.cells
            by_cases hlt : j < ds.length
            · obtain ⟨_, _, e1, h1⟩ := own_at_d hbk.k2.cm
              obtain ⟨_, _, e2, h2⟩ := own_at_d hbk.k2.ws
              cases e1
              cases e2
              obtain ⟨a, rfl, g1, g1'⟩ := h1 j hlt
              obtain ⟨b, rfl, g2, g2'⟩ := h2 j hlt
              clear h1 h2 hb hbk
              generalize (ds.getD j (0, 0)).1 = z at *
              generalize (ds.getD j (0, 0)).2 = z' at *
              go_wp2_with fail
              go_quiet (fail)
              all_goals
                go_wp2_with fail
                go_roundw
                case rel => exact ⟨j + 1, by omega, by go_num, below_drewN HB.out _⟩
                case measure => simp [intOf]; omega
            · clear hbk hb
              go_wp2_with fail
              clear hcB hfB
              go_loopw [6] (fun i wr => ∃ j : Nat, j ≤ L0.length ∧ i = .int .i64 j ∧ Below w.heap.size w wr) (fun i _ => L0.length - (intOf i).toNat)
              case atStart => exact ⟨0, by omega, rfl, HB.out⟩
              case round =>
                obtain ⟨j, hj, rfl, hb⟩ := hrel
                clear HB
                have HB := hid hb
                have hbk := HBK.out.later hb
                obtain ⟨hcB, hfB⟩ := hbk.bb.cells
                by_cases hlt : j < L0.length
                · obtain ⟨R, so, k, sc, rfl, g1, hv⟩ := HBK.out.k0.list hlt
                  have hkm := row_len hv
                  have HG := hid g1
                  have HV := hid hv
                  clear hb hbk g1 hv
                  go_wp2_with fail
                  clear hcB hfB
                  go_loopw [7] (fun i wr => ∃ q : Nat, q ≤ k ∧ i = .int .i64 q ∧ Below w.heap.size w wr) (fun i _ => k - (intOf i).toNat)
                  case atStart => exact ⟨0, by omega, rfl, HB.out⟩
                  case round =>
                    obtain ⟨q, hq, rfl, hb⟩ := hrel
                    clear HB
                    have HB := hid hb
                    obtain ⟨hcB, hfB⟩ := (HBK.out.later hb).bb.cells
                    have g1 := (hb.cell (World.block_lt_of_cell? w _ HG.out)).trans HG.out
                    by_cases hqk : q < k
                    · obtain ⟨a, rfl⟩ := row_addr HV.out (by omega)
                      have g2 := row_cell2 (ownsRow_later HV.out hb) q _ (reps_at1 (.int .i64 (7000 + ((j / 4 * 4 : Nat) : Int))) k q hqk)
                      rw [show ((j / 4 * 4 : Nat) : Int) = (j : Int) / 4 * 4 by omega] at g2
                      clear hb
                      go_wp2_with fail
                      go_roundw
                      case rel => exact ⟨q + 1, by omega, by go_num, HB.out⟩
                      case measure => simp [intOf]; omega
                    · clear hb
                      go_wp2_with fail
                      go_roundw
                      case rel => exact ⟨j + 1, by omega, by go_num, HB.out⟩
                      case measure => simp [intOf]; omega
                · clear hbk hb
                  go_wp2_with fail
                  clear hcB hfB
                  go_loopw [8] (fun i wr => ∃ j : Nat, j ≤ L1.length ∧ i = .int .i64 j ∧ Below w.heap.size w wr) (fun i _ => L1.length - (intOf i).toNat)
                  case atStart => exact ⟨0, by omega, rfl, HB.out⟩
                  case round =>
                    obtain ⟨j, hj, rfl, hb⟩ := hrel
                    clear HB
                    have HB := hid hb
                    have hbk := HBK.out.later hb
                    obtain ⟨hcB, hfB⟩ := hbk.bb.cells
                    by_cases hlt : j < L1.length
                    · obtain ⟨R, so, k, sc, rfl, g1, hv⟩ := HBK.out.k1.list hlt
                      have hkm := row_len hv
                      have HG := hid g1
                      have HV := hid hv
                      clear hb hbk g1 hv
                      go_wp2_with fail
                      clear hcB hfB
                      go_loopw [9] (fun i wr => ∃ q : Nat, q ≤ k ∧ i = .int .i64 q ∧ Below w.heap.size w wr) (fun i _ => k - (intOf i).toNat)
                      case atStart => exact ⟨0, by omega, rfl, HB.out⟩
                      case round =>
                        obtain ⟨q, hq, rfl, hb⟩ := hrel
                        clear HB
                        have HB := hid hb
                        obtain ⟨hcB, hfB⟩ := (HBK.out.later hb).bb.cells
                        have g1 := (hb.cell (World.block_lt_of_cell? w _ HG.out)).trans HG.out
                        by_cases hqk : q < k
                        · obtain ⟨a, rfl⟩ := row_addr HV.out (by omega)
                          have g2 := row_cell2 (ownsRow_later HV.out hb) q _ (reps_at1 (.string (wordOf (j / 4 * 4))) k q hqk)
                          rw [show j / 4 * 4 = ((j : Int) / 4 * 4).toNat by omega] at g2
                          have wj1 : IntKind.i64.wrap ((j : Int) / 4) = (j : Int) / 4 := by rw [IntKind.wrap_i64]; omega
                          have wj2 : IntKind.i64.wrap ((j : Int) / 4 * 4) = (j : Int) / 4 * 4 := by rw [IntKind.wrap_i64]; omega
                          have g0 : wr.cell? ⟨B, 1, none⟩ = some (.slice (some ⟨R, 0, none⟩) L1.length q1) := hcB 1
                          clear hb hcB
                          go_wp2_with fail
                          go_region_held3 (fun w' => w'.cell? ⟨B, 1, none⟩ = some (.slice (some ⟨R, 0, none⟩) L1.length q1) ∧ w'.cell? ⟨R, j, none⟩ = some (.slice (some ⟨a, 0, none⟩) k sc) ∧ w'.cell? ⟨a, q, none⟩ = some (.string (wordOf ((j : Int) / 4 * 4).toNat)) ∧ Below wr.heap.size wr w')
                            (first | exact ⟨g0, g1, g2, (Below.refl _ _).drew⟩ | (refine held_next ?_ hb' ?_; (assumption); (omega)))
                            (first | (go_at_call 35; refine (word_z _ _ ?_ ?_).mono ?_; (omega); (omega); rintro e w' ⟨rfl, hb'⟩))
                          obtain ⟨_, _, _, hbw⟩ := ‹_ ∧ _ ∧ _ ∧ Below wr.heap.size wr w'›
                          have HBn := hid (HB.out.trans (hbw.mono HB.out.size))
                          clear hbw hb' g0 g1 g2 wj1 wj2 hfB
                          go_wp2_with fail
                          go_roundw
                          case rel => exact ⟨q + 1, by omega, by go_num, HBn.out⟩
                          case measure => simp [intOf]; omega
                        · clear hb
                          go_wp2_with fail
                          go_roundw
                          case rel => exact ⟨j + 1, by omega, by go_num, HB.out⟩
                          case measure => simp [intOf]; omega
                    · clear hbk hb
                      go_wp2_with fail
                      clear hcB hfB
                      go_loopw [10] (fun i wr => ∃ j : Nat, j ≤ L2.length ∧ i = .int .i64 j ∧ Below w.heap.size w wr) (fun i _ => L2.length - (intOf i).toNat)
                      case atStart => exact ⟨0, by omega, rfl, HB.out⟩
                      case round =>
                        obtain ⟨j, hj, rfl, hb⟩ := hrel
                        clear HB
                        have HB := hid hb
                        have hbk := HBK.out.later hb
                        obtain ⟨hcB, hfB⟩ := hbk.bb.cells
                        by_cases hlt : j < L2.length
                        · obtain ⟨R, so, k, sc, rfl, g1, hv⟩ := HBK.out.k2.list hlt
                          have hkm := row_len hv
                          have HG := hid g1
                          have HV := hid hv
                          clear hb hbk g1 hv
                          go_wp2_with fail
                          clear hcB hfB
                          go_loopw [11] (fun i wr => ∃ q : Nat, q ≤ k ∧ i = .int .i64 q ∧ Below w.heap.size w wr) (fun i _ => k - (intOf i).toNat)
                          case atStart => exact ⟨0, by omega, rfl, HB.out⟩
                          case round =>
                            obtain ⟨q, hq, rfl, hb⟩ := hrel
                            clear HB
                            have HB := hid hb
                            obtain ⟨hcB, hfB⟩ := (HBK.out.later hb).bb.cells
                            have g1 := (hb.cell (World.block_lt_of_cell? w _ HG.out)).trans HG.out
                            by_cases hqk : q < k
                            · obtain ⟨a, rfl⟩ := row_addr HV.out (by omega)
                              have g2 := row_cell2 (ownsRow_later HV.out hb) (q * 2) _ (reps_at2 (.int .i64 (7000 + ((j / 4 * 4 : Nat) : Int))) (.int .i64 0) k q hqk).1
                              have g3 := row_cell2 (ownsRow_later HV.out hb) (q * 2 + 1) _ (reps_at2 (.int .i64 (7000 + ((j / 4 * 4 : Nat) : Int))) (.int .i64 0) k q hqk).2
                              rw [show ((j / 4 * 4 : Nat) : Int) = (j : Int) / 4 * 4 by omega] at g2
                              clear hb
                              go_wp2_with fail
                              go_roundw
                              case rel => exact ⟨q + 1, by omega, by go_num, HB.out⟩
                              case measure => simp [intOf]; omega
                            · clear hb
                              go_wp2_with fail
                              go_roundw
                              case rel => exact ⟨j + 1, by omega, by go_num, HB.out⟩
                              case measure => simp [intOf]; omega
                        · clear hbk hb
                          go_wp2_with fail
                          go_ret
                          exact ⟨rfl, HB.out⟩
end Go.Proofs.Yteljbblbdiploaa
