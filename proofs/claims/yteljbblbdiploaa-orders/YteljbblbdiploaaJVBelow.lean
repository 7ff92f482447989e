/-
  WALKS: the document's answer: what hangs, near or far, on one.
-/
import Derived.Test.YteljbblbdiploaaJVKids
namespace Go.Proofs.Yteljbblbdiploaa
open Go.RowKit

/-- places as a row's cells -/
def ncs (l : List Nat) : List Value := l.map fun i => .int .i64 (i : Nat)
theorem ncs_len (l : List Nat) : (ncs l).length = l.length := by simp [ncs]
theorem ncs_app (l m : List Nat) : ncs (l ++ m) = ncs l ++ ncs m := by simp [ncs]
theorem one_int (x : Int) : ∀ u ∈ [Value.int .i64 x], u.oneCell' = true := by simp; rfl

/-- a list of places of the call's own: nil, or a row -/
theorem own_places {w : World} {base : Nat} {v : Value} {n : Nat} {l : List Nat} (h : w.ownsRow base 3 1 v n (ncs l)) :
    n = l.length ∧ ((v = .slice none 0 0 ∧ l = []) ∨ ∃ g cap, v = .slice (some ⟨g, 0, none⟩) l.length cap ∧ base ≤ g ∧ g < w.heap.size ∧ ∀ j, j < l.length → w.cell? ⟨g, j, none⟩ = some (.int .i64 (l.getD j 0 : Nat))) := by
  have hn : n = l.length := by have := h.1; rw [ncs_len, Nat.mul_one] at this; exact this.symm
  subst hn
  refine ⟨rfl, ?_⟩
  rcases h.2 with ⟨hv, h0⟩ | ⟨g, cap, cur, hv, hg, hh, _⟩
  · exact .inl ⟨hv, List.eq_nil_of_length_eq_zero h0⟩
  · refine .inr ⟨g, cap, hv, hg, (Array.getElem?_eq_some_iff.1 hh).1, fun j hj => ?_⟩
    have := World.ownsRow.cells h (g := g) (by rw [hv]; rfl) j (.int .i64 (l.getD j 0 : Nat)) (by simp [ncs, hj])
    rwa [show (⟨g, 0, none⟩ : Addr).add j = ⟨g, j, none⟩ by rw [Addr.add_lit, Nat.zero_add]] at this

theorem own_places' {w : World} {base : Nat} {v : Value} {n : Nat} {l : List Nat} (h : w.ownsRow base 3 1 v n (ncs l)) :
    n = l.length ∧ ∃ ao cap, v = .slice ao l.length cap ∧ ∀ j, j < l.length → ∃ g, ao = some ⟨g, 0, none⟩ ∧ base ≤ g ∧ g < w.heap.size ∧ w.cell? ⟨g, j, none⟩ = some (.int .i64 (l.getD j 0 : Nat)) := by
  obtain ⟨hn, h2⟩ := own_places h
  refine ⟨hn, ?_⟩
  rcases h2 with ⟨rfl, rfl⟩ | ⟨g, cap, rfl, hg, hw, hc⟩
  · exact ⟨none, 0, rfl, fun j hj => by simp at hj⟩
  · exact ⟨_, cap, rfl, fun j hj => ⟨g, rfl, hg, hw, hc j hj⟩⟩
theorem ncs_one (l : List Nat) : ∀ u ∈ ncs l, u.oneCell' = true := by
  intro u hu
  obtain ⟨b, _, rfl⟩ := List.mem_map.1 hu
  rfl

/-- which of two places stands ahead -/
def ahAt (l : List Up) (i k : Nat) : Bool := match l[i]?, l[k]? with | some a, some b => aheadB a b | _, _ => false

set_option maxRecDepth 16000 in
set_option maxHeartbeats 2000000 in
theorem below_step (b off cap eb eo ec : Nat) (l : List Up) (es : List Int) (on : Int) (R : Nat → List Nat) (w : World) (hl : UpsAt w b off l) (hg : ∀ u ∈ l, u.good = true) (h8 : l.length ≤ 8000) (hel : es.length = l.length) (he : ∀ j, j < es.length → w.cell? ⟨eb, eo + j, none⟩ = some (.int .i64 (es.getD j (-2))))
    (hT : ((kidsBy (ahAt l) es on l.length).flatMap fun k => k :: R k).length ≤ 8000)
    (hrec : ∀ k, k < l.length → es.getD k (-2) = on → ∀ W, UpsAt W b off l → (∀ j, j < es.length → W.cell? ⟨eb, eo + j, none⟩ = some (.int .i64 (es.getD j (-2)))) →
      Calls Try.prog 84 #[.slice (some ⟨b, off, none⟩) l.length cap, .slice (some ⟨eb, eo, none⟩) l.length ec, .int .i64 (k : Nat)] W fun e w' => ∃ v n, e = .returned v ∧ w'.ownsRow W.heap.size 3 1 v n (ncs (R k)) ∧ Below W.heap.size W w') :
    Calls Try.prog 84 #[.slice (some ⟨b, off, none⟩) l.length cap, .slice (some ⟨eb, eo, none⟩) l.length ec, .int .i64 on] w fun e w' => ∃ v n, e = .returned v ∧ w'.ownsRow w.heap.size 3 1 v n (ncs ((kidsBy (ahAt l) es on l.length).flatMap fun k => k :: R k)) ∧ Below w.heap.size w w' := by
  have HL := hid hl
  have HG := hid hg
  have HE := hid he
  have HT := hid hT
  have HREC := hid hrec
  have HEL := hid hel
  clear hl hg he hT hrec hel
  go_enter Try.func84, Try.ntmps84
  go_wp2_with fail
  go_loopw [7, 8] (fun kids i wr => ∃ k : Nat, k ≤ l.length ∧ i = .int .i64 k ∧ (∃ n, wr.ownsRow w.heap.size 3 1 kids n (ncs (kidsBy (ahAt l) es on k))) ∧ Below w.heap.size w wr) (fun _ i _ => l.length - (intOf i).toNat)
  case atStart => exact ⟨0, by omega, rfl, ⟨0, World.ownsRow_nil _ _ _ _⟩, Below.refl _ _⟩
  case round =>
    obtain ⟨i, hi, rfl, ⟨n, hown⟩, hb⟩ := hrel
    have HO := hid hown
    have HB := hid hb
    clear hown hb
    have hnk := (own_places HO.out).1
    have hkl := kidsBy_len (ahAt l) es on i
    by_cases hlt : i < l.length
    · have hel := HEL.out
      have hce : wr.cell? ⟨eb, eo + i, none⟩ = some (.int .i64 (es.getD i (-2))) := by
        have h0 := HE.out i (by omega)
        exact (HB.out.cell (p := ⟨eb, eo + i, none⟩) (lt_of_cell h0)).trans h0
      have HSU := hid (kidsBy_succ (ahAt l) es on i)
      clear hel
      generalize es.getD i (-2) = ei at *
      by_cases hon : ei = on
      · subst hon
        have hmem : ∀ q ∈ kidsBy (ahAt l) es ei i, q < i := fun q hq => ((mem_kidsBy (ahAt l) es ei q i).1 hq).1
        have HMEM := hid hmem
        clear hmem
        generalize kidsBy (ahAt l) es ei i = ks at *
        obtain ⟨hnk', ka, kcap, rfl, hkc⟩ := own_places' HO.out
        have HKC := hid hkc
        clear hkc
        subst hnk'
        obtain ⟨a, ha⟩ : ∃ a, l[i]? = some a := ⟨l[i], List.getElem?_eq_getElem hlt⟩
        have HA := hid ha
        have HGA := hid (HG.out a (List.mem_of_getElem? ha))
        clear ha
        obtain ⟨w0, hw0⟩ : ∃ w0, w0 = wr := ⟨_, rfl⟩
        subst hw0
        have hsz0 := HB.out.size
        go_wp2_with fail
        clear hce
        go_loopw [9, 10, 11] (fun nx dn k wr => ∃ j : Nat, j ≤ ks.length ∧ k = .int .i64 j ∧ dn = .bool ((ks.take j).any fun q => ahAt l i q) ∧ wr.ownsRow w0.heap.size 3 1 nx (wG (ahAt l) i (ks.take j)).length (ncs (wG (ahAt l) i (ks.take j))) ∧ Below w0.heap.size w0 wr) (fun _ _ k _ => ks.length - (intOf k).toNat)
        case atStart => exact ⟨0, by omega, rfl, rfl, World.ownsRow_nil _ _ _ _, Below.refl _ _⟩
        case round =>
          obtain ⟨j, hj, rfl, rfl, hox, hbx⟩ := hrel
          have HOX := hid hox
          have HBX := hid hbx
          have hlw := wG_len (ahAt l) i (ks.take j)
          rw [List.length_take] at hlw
          clear hox hbx
          by_cases hjl : j < ks.length
          · obtain ⟨gk, rfl, hgk, hgw, hck⟩ := HKC.out j hjl
            have hkl2 : ks.getD j 0 < i := HMEM.out _ (by rw [List.getD_eq_getElem?_getD, List.getElem?_eq_getElem hjl]; exact List.getElem_mem hjl)
            have htk : ks.take (j + 1) = ks.take j ++ [ks.getD j 0] := by
              rw [List.take_add_one, List.getD_eq_getElem?_getD, List.getElem?_eq_getElem hjl]; rfl
            have hwo := wG_app (ahAt l) i (ks.getD j 0) (ks.take j)
            rw [← htk] at hwo
            have hany : (ks.take (j + 1)).any (fun q => ahAt l i q) = ((ks.take j).any (fun q => ahAt l i q) || ahAt l i (ks.getD j 0)) := by rw [htk, List.any_append]; simp
            have HWO := hid hwo
            have HANY := hid hany
            clear hwo hany htk
            generalize ks.getD j 0 = kv at *
            have hck1 : wr.cell? ⟨gk, j, none⟩ = some (.int .i64 (kv : Nat)) := (HBX.out.cell (p := ⟨gk, j, none⟩) hgw).trans hck
            obtain ⟨y, hy⟩ : ∃ y, l[kv]? = some y := ⟨l[kv]'(by omega), List.getElem?_eq_getElem (by omega)⟩
            have hbw : Below w.heap.size w wr := HB.out.trans (HBX.out.mono hsz0)
            obtain ⟨aa, ac, hat⟩ := (HL.out.later hbw) i a HA.out
            obtain ⟨ya, yc, hyt⟩ := (HL.out.later hbw) kv y hy
            have HAH : Hid (ahAt l i kv = aheadB a y) := by rw [Hid, ahAt, HA.out, hy]
            have HGY := hid (HG.out y (List.mem_of_getElem? hy))
            have HAT := hid hat
            have HYT := hid hyt
            obtain ⟨c0, c1, c2, c3, c4, c5, c6, c7, c8⟩ := hat.re9
            obtain ⟨d0, d1, d2, d3, d4, d5, d6, d7, d8⟩ := hyt.re9
            have k0 : ∀ d os, (Sort.grow (redrawn wr d) os).cell? ⟨gk, j, none⟩ = some (.int .i64 (kv : Nat)) := cell_regrown hck1
            have HCK1 := hid hck1
            have hkvl : kv < l.length := by omega
            clear hat hyt hck hck1 hy hbw
            go_wp2_with fail
            refine wp_region_quiet_below (by kernel_rfl) (by kernel_rfl) ?_
            repeat (go_big_quiet_step (first | (go_at_call 94; exact Calls.regrown_of (ahead_any a y _ _ _ _ _ HGA.out HGY.out (HAT.out.clk.later (below_regrown wr _ _)) (HYT.out.clk.later (below_regrown wr _ _))))))
            refine wpQuiet_nil ?_
            intro _ hw'
            obtain ⟨⟨nq, osq⟩, hw''⟩ := hw'
            subst hw''
            clear c0 c1 c2 c3 c4 c5 c6 c7 c8 d0 d1 d2 d3 d4 d5 d6 d7 d8
            have hbq := below_regrown wr nq osq
            have HOQ := hid (ownsRow_later HOX.out hbq)
            have HBQ : Hid (Below w0.heap.size w0 (Sort.grow (redrawn wr nq) osq)) := HBX.out.trans (hbq.mono HBX.out.size)
            have kq : (Sort.grow (redrawn wr nq) osq).cell? ⟨gk, j, none⟩ = some (.int .i64 (kv : Nat)) := k0 nq osq
            clear k0 hbq
            generalize Sort.grow (redrawn wr nq) osq = wq at *
            rw [← HAH.out]
            generalize hd : (ks.take j).any (fun q => ahAt l i q) = dn at *
            generalize ahAt l i kv = ah at *
            clear hd
            cases dn
            · cases ah
              · go_wp2_with (at_builtin; refine app_one el_int _ rfl (.tmp 55) (.tmp 60) rfl w0.heap.size _ _ _ rfl HOQ.out [.int .i64 (kv : Nat)] rfl (one_int _) rfl ?c2 ?c3 ?c4 ?_)
                case c2 => omega
                case c3 => unfold maxLen; omega
                case c4 => exact HBQ.out.size
                intro g2 cap2 w2 ho2 hg2 hb2
                have HO2 := hid ho2
                have HB2 : Hid (Below w0.heap.size w0 w2) := HBQ.out.trans hb2
                clear ho2 hg2 hb2
                go_wp2_with fail
                go_roundw
                case rel =>
                  refine ⟨j + 1, by omega, by go_num, by rw [HANY.out]; simp, ?_, HB2.out⟩
                  have e : wG (ahAt l) i (ks.take (j + 1)) = wG (ahAt l) i (ks.take j) ++ [kv] := by rw [HWO.out]; simp
                  rw [e, ncs_app, List.length_append]
                  exact HO2.out
                case measure => simp [intOf]; omega
              · go_wp2_with (at_builtin; refine app_one el_int _ rfl (.tmp 51) (.tmp 53) rfl w0.heap.size _ _ _ rfl HOQ.out [.int .i64 (i : Nat)] rfl (one_int _) rfl ?c2 ?c3 ?c4 ?_)
                case c2 => omega
                case c3 => unfold maxLen; omega
                case c4 => exact HBQ.out.size
                intro g1 cap1 w1 ho1 hg1 hb1
                have HO1 := hid ho1
                have HB1 : Hid (Below w0.heap.size w0 w1) := HBQ.out.trans hb1
                have kq1 : w1.cell? ⟨gk, j, none⟩ = some (.int .i64 (kv : Nat)) := (hb1.cell (p := ⟨gk, j, none⟩) hgw).trans kq
                clear ho1 hg1 hb1 kq
                go_wp2_with (at_builtin; refine app_one el_int _ rfl (.tmp 55) (.tmp 60) rfl w0.heap.size _ _ _ rfl HO1.out [.int .i64 (kv : Nat)] rfl (one_int _) rfl ?c2 ?c3 ?c4 ?_)
                case c2 => omega
                case c3 => unfold maxLen; omega
                case c4 => exact HB1.out.size
                intro g2 cap2 w2 ho2 hg2 hb2
                have HO2 := hid ho2
                have HB2 : Hid (Below w0.heap.size w0 w2) := HB1.out.trans hb2
                clear ho2 hg2 hb2
                go_wp2_with fail
                go_roundw
                case rel =>
                  refine ⟨j + 1, by omega, by go_num, by rw [HANY.out]; simp, ?_, HB2.out⟩
                  have e : wG (ahAt l) i (ks.take (j + 1)) = wG (ahAt l) i (ks.take j) ++ [i] ++ [kv] := by rw [HWO.out]; simp
                  have e2 := HO2.out
                  rw [e, ncs_app, ncs_app, List.length_append, List.length_append, List.append_assoc]
                  exact e2
                case measure => simp [intOf]; omega
            · cases ah
              all_goals
                go_wp2_with (at_builtin; refine app_one el_int _ rfl (.tmp 55) (.tmp 60) rfl w0.heap.size _ _ _ rfl HOQ.out [.int .i64 (kv : Nat)] rfl (one_int _) rfl ?c2 ?c3 ?c4 ?_)
                case c2 => omega
                case c3 => unfold maxLen; omega
                case c4 => exact HBQ.out.size
                intro g2 cap2 w2 ho2 hg2 hb2
                have HO2 := hid ho2
                have HB2 : Hid (Below w0.heap.size w0 w2) := HBQ.out.trans hb2
                clear ho2 hg2 hb2
                go_wp2_with fail
                go_roundw
                case rel =>
                  refine ⟨j + 1, by omega, by go_num, by rw [HANY.out]; simp, ?_, HB2.out⟩
                  have e : wG (ahAt l) i (ks.take (j + 1)) = wG (ahAt l) i (ks.take j) ++ [kv] := by rw [HWO.out]; simp
                  rw [e, ncs_app, List.length_append]
                  exact HO2.out
                case measure => simp [intOf]; omega
          · have hjk : ks.take j = ks := List.take_of_length_le (by omega)
            have HJK := hid hjk
            clear hjk
            generalize hd : (ks.take j).any (fun q => ahAt l i q) = dn at *
            have HD := hid hd
            clear hd
            have hbw : Below w.heap.size w wr := HB.out.trans (HBX.out.mono hsz0)
            have HBW := hid hbw
            clear hbw
            cases dn
            · go_wp2_with (at_builtin; refine app_one el_int _ rfl (.tmp 64) (.tmp 66) rfl w0.heap.size _ _ _ rfl HOX.out [.int .i64 (i : Nat)] rfl (one_int _) rfl ?c2 ?c3 ?c4 ?_)
              case c2 => omega
              case c3 => unfold maxLen; omega
              case c4 => exact HBX.out.size
              intro g2 cap2 w2 ho2 hg2 hb2
              have HO2 := hid ho2
              have HB2 : Hid (Below w.heap.size w w2) := HBW.out.trans (hb2.mono hsz0)
              clear ho2 hg2 hb2
              go_wp2_with fail
              go_roundw
              case rel =>
                refine ⟨i + 1, by omega, by go_num, ⟨(wG (ahAt l) i (ks.take j)).length + 1, ?_⟩, HB2.out⟩
                rw [HSU.out, if_pos (by trivial), wG_end]
                have h1 := HD.out
                have h2 := HO2.out
                rw [HJK.out] at h1 h2 ⊢
                rw [if_neg (by rw [h1]; simp), ncs_app]
                exact ownsRow_mono h2 hsz0
              case measure => simp [intOf]; omega
            · go_wp2_with fail
              go_roundw
              case rel =>
                refine ⟨i + 1, by omega, by go_num, ⟨(wG (ahAt l) i (ks.take j)).length, ?_⟩, HBW.out⟩
                rw [HSU.out, if_pos (by trivial), wG_end]
                have h1 := HD.out
                have h2 := HOX.out
                rw [HJK.out] at h1 h2 ⊢
                rw [if_pos h1]
                exact ownsRow_mono h2 hsz0
              case measure => simp [intOf]; omega
      · have hon' : (ei == on) = false := by simp [hon]
        go_wp2_with fail
        go_roundw
        case rel => exact ⟨i + 1, by omega, by go_num, ⟨n, by rw [HSU.out, if_neg hon]; exact HO.out⟩, HB.out⟩
        case measure => simp [intOf]; omega
    · have hil : i = l.length := by omega
      subst hil
      have hmem : ∀ q ∈ kidsBy (ahAt l) es on l.length, q < l.length ∧ es.getD q (-2) = on := fun q hq => (mem_kidsBy (ahAt l) es on q _).1 hq
      have HMEM := hid hmem
      clear hmem
      generalize hks : kidsBy (ahAt l) es on l.length = ks at *
      have HKS := hid hks
      clear hks
      obtain ⟨hnk', ka, kcap, rfl, hkc⟩ := own_places' HO.out
      have HKC := hid hkc
      clear hkc
      subst hnk'
      obtain ⟨w0, hw0⟩ : ∃ w0, w0 = wr := ⟨_, rfl⟩
      subst hw0
      have hsz0 := HB.out.size
      go_wp2_with fail
      go_loopw [13, 14] (fun out k wr => ∃ j : Nat, j ≤ ks.length ∧ k = .int .i64 j ∧ (∃ n, wr.ownsRow w0.heap.size 3 1 out n (ncs ((ks.take j).flatMap fun k => k :: R k))) ∧ Below w0.heap.size w0 wr) (fun _ k _ => ks.length - (intOf k).toNat)
      case atStart => exact ⟨0, by omega, rfl, ⟨0, World.ownsRow_nil _ _ _ _⟩, Below.refl _ _⟩
      case round =>
        obtain ⟨j, hj, rfl, ⟨m, hox⟩, hbx⟩ := hrel
        have HOX := hid hox
        have HBX := hid hbx
        have hm := (own_places hox).1
        clear hox hbx
        by_cases hjl : j < ks.length
        · obtain ⟨gk, rfl, hgk, hgw, hck⟩ := HKC.out j hjl
          have hkm := HMEM.out (ks.getD j 0) (by rw [List.getD_eq_getElem?_getD, List.getElem?_eq_getElem hjl]; exact List.getElem_mem hjl)
          have htk : ks.take (j + 1) = ks.take j ++ [ks.getD j 0] := by
            rw [List.take_add_one, List.getD_eq_getElem?_getD, List.getElem?_eq_getElem hjl]; rfl
          have hfl : (ks.take (j + 1)).flatMap (fun k => k :: R k) = (ks.take j).flatMap (fun k => k :: R k) ++ (ks.getD j 0 :: R (ks.getD j 0)) := by rw [htk, List.flatMap_append]; simp
          have hbnd : ((ks.take (j + 1)).flatMap fun k => k :: R k).length ≤ 8000 := by
            refine Nat.le_trans ?_ HT.out
            conv => rhs; rw [← List.take_append_drop (j + 1) ks, List.flatMap_append]
            simp
          have hlen2 := congrArg List.length hfl
          rw [List.length_append, List.length_cons] at hlen2
          have hmb : m ≤ 8000 ∧ m + 1 + (R (ks.getD j 0)).length ≤ 8000 := by omega
          clear hbnd hlen2 hm
          have HFL := hid hfl
          clear hfl htk
          generalize ks.getD j 0 = kv at *
          obtain ⟨hk1, hk2⟩ := hkm
          have HK2 := hid hk2
          clear hk2
          have hck1 : wr.cell? ⟨gk, j, none⟩ = some (.int .i64 (kv : Nat)) := (HBX.out.cell (p := ⟨gk, j, none⟩) hgw).trans hck
          clear hck
          go_wp2_with (at_builtin; refine app_one el_int _ rfl (.tmp 75) (.tmp 80) rfl w0.heap.size _ _ _ rfl HOX.out [.int .i64 (kv : Nat)] rfl (one_int _) rfl ?c2 ?c3 ?c4 ?_)
          case c2 => omega
          case c3 => unfold maxLen; omega
          case c4 => exact HBX.out.size
          intro g1 cap1 w1 ho1 hg1 hb1
          have HO1 := hid ho1
          have HB1 : Hid (Below w0.heap.size w0 w1) := HBX.out.trans hb1
          have kq1 : w1.cell? ⟨gk, j, none⟩ = some (.int .i64 (kv : Nat)) := (hb1.cell (p := ⟨gk, j, none⟩) hgw).trans hck1
          clear ho1 hg1 hb1 hck1
          go_wp2_with fail
          have hbw1 : Below w.heap.size w w1 := HB.out.trans (HB1.out.mono hsz0)
          refine (HREC.out kv hk1 HK2.out w1 (HL.out.later hbw1) (fun q hq => (hbw1.cell (p := ⟨eb, eo + q, none⟩) (lt_of_cell (HE.out q hq))).trans (HE.out q hq))).mono ?_
          rintro e w2 ⟨v2, n2, rfl, hown2, hb2⟩
          have hn2 := (own_places hown2).1
          subst hn2
          have HO2 := hid hown2
          have HO1' := hid (ownsRow_later HO1.out hb2)
          have HB2 : Hid (Below w0.heap.size w0 w2) := HB1.out.trans (hb2.mono HB1.out.size)
          clear hown2 hb2 hbw1 kq1
          go_wp2_with (at_builtin; refine app_many el_int _ rfl (.tmp 89) (.tmp 90) rfl w0.heap.size _ _ _ rfl HO1'.out w1.heap.size _ _ _ rfl HO2.out (ncs_one _) ?c2 ?c3 ?c4 ?_)
          case c2 => omega
          case c3 => unfold maxLen; omega
          case c4 => exact HB2.out.size
          intro r3 w3 ho3 hg3 hb3
          have HO3 := hid ho3
          have HB3 : Hid (Below w0.heap.size w0 w3) := HB2.out.trans hb3
          clear ho3 hg3 hb3
          go_wp2_with fail
          go_roundw
          case rel =>
            refine ⟨j + 1, by omega, by go_num, ⟨m + 1 + (R kv).length, ?_⟩, HB3.out⟩
            have h3 := HO3.out
            rw [HFL.out, ncs_app]
            exact h3
          case measure => simp [intOf]; omega
        · go_wp2_with fail
          go_ret
          refine ⟨_, m, rfl, ?_, HB.out.trans (HBX.out.mono hsz0)⟩
          have h3 := HOX.out
          rw [List.take_of_length_le (by omega : ks.length ≤ j)] at h3
          rw [HKS.out]
          exact ownsRow_mono h3 hsz0

/-- what hangs, near or far, on one: given rows that fit one another, and ranks that fall -/
theorem below_any (b off cap eb eo ec : Nat) (l : List Up) (es : List Int) (R : Int → List Nat) (rank : Int → Nat) (hg : ∀ u ∈ l, u.good = true) (h8 : l.length ≤ 8000) (hel : es.length = l.length)
    (hR : ∀ on, R on = (kidsBy (ahAt l) es on l.length).flatMap fun k => k :: R k) (hlen : ∀ on, (R on).length ≤ 8000) (hrank : ∀ k, k < l.length → rank k < rank (es.getD k (-2))) :
    ∀ (m : Nat) (on : Int), rank on ≤ m → ∀ w, UpsAt w b off l → (∀ j, j < es.length → w.cell? ⟨eb, eo + j, none⟩ = some (.int .i64 (es.getD j (-2)))) →
      Calls Try.prog 84 #[.slice (some ⟨b, off, none⟩) l.length cap, .slice (some ⟨eb, eo, none⟩) l.length ec, .int .i64 on] w fun e w' => ∃ v n, e = .returned v ∧ w'.ownsRow w.heap.size 3 1 v n (ncs (R on)) ∧ Below w.heap.size w w' := by
  intro m
  induction m with
  | zero =>
    intro on hm w hl he
    rw [hR on]
    refine below_step b off cap eb eo ec l es on (fun k => R k) w hl hg h8 hel he (by rw [← hR on]; exact hlen on) ?_
    intro k hk hke W _ _
    have := hrank k hk
    rw [hke] at this
    omega
  | succ m ih =>
    intro on hm w hl he
    rw [hR on]
    refine below_step b off cap eb eo ec l es on (fun k => R k) w hl hg h8 hel he (by rw [← hR on]; exact hlen on) ?_
    intro k hk hke W hlW heW
    have := hrank k hk
    rw [hke] at this
    exact ih k (by omega) W hlW heW
end Go.Proofs.Yteljbblbdiploaa
