/-
  WALKS: package crdt: the writes that stay.
-/
import Derived.Test.YteljbblbdiploaaJVSecond
namespace Go.Proofs.Yteljbblbdiploaa
open Go.RowKit

/-- the texts of those of the first ones that are not had -/
def freeT (p : Up → Bool) (l : List Up) : List Tx := (l.filter p).map Up.x
theorem freeT_step {p : Up → Bool} {l : List Up} {i : Nat} {u : Up} (h : l[i]? = some u) : freeT p (l.take (i + 1)) = if p u = true then freeT p (l.take i) ++ [u.x] else freeT p (l.take i) := by
  rw [freeT, List.take_add_one, h, List.filter_append, List.map_append]
  by_cases hp : p u = true
  · rw [if_pos hp]; simp [freeT, hp]
  · rw [if_neg hp]; simp [freeT, hp]
theorem freeT_len (p : Up → Bool) (l : List Up) : (freeT p l).length ≤ l.length := by rw [freeT, List.length_map]; exact List.length_filter_le _ _

set_option maxRecDepth 16000 in
set_option maxHeartbeats 1000000 in
theorem written_any (vo : Option Addr) (cap : Nat) (l : List Up) (w : World) (hu : UpsO w vo l) (hs : ∀ u ∈ l, u.good = true) (hl : l.length ≤ 8000) :
    Calls Try.prog 63 #[.slice vo l.length cap] w fun e w' => ∃ v n, e = .returned v ∧ w'.ownsRow w.heap.size 9 1 v n (tcs (writesOf l)) ∧ (writesOf l = [] → v = .slice none 0 0) ∧ Below w.heap.size w w' := by
  have HU := hid hu
  have HS := hid hs
  clear hu hs
  go_enter Try.func63, Try.ntmps63
  go_wp2_with fail
  refine (secondBest_any vo cap l w HU.out HS.out hl).mono ?_
  rintro e w1 ⟨rfl, hb1⟩
  obtain ⟨r0, r1, r2, r3, r4, r5, r6, r7, hr⟩ := list8 (secondOf_len l)
  have e8 : rV (secondOf l) = .agg #[.int .i64 r0, .int .i64 r1, .int .i64 r2, .int .i64 r3, .int .i64 r4, .int .i64 r5, .int .i64 r6, .int .i64 r7] := by rw [hr]; rfl
  have HE := hid e8
  rw [e8]
  have HB1 := hid hb1
  clear hb1 hr e8
  go_wp2_with fail
  have hbx : BoxR (w1.alloc (.cells #[.int .i64 r0, .int .i64 r1, .int .i64 r2, .int .i64 r3, .int .i64 r4, .int .i64 r5, .int .i64 r6, .int .i64 r7] 110)) w1.heap.size [r0, r1, r2, r3, r4, r5, r6, r7] := heap_alloc_new w1 _
  have hb2 : Below w1.heap.size w1 (w1.alloc (.cells #[.int .i64 r0, .int .i64 r1, .int .i64 r2, .int .i64 r3, .int .i64 r4, .int .i64 r5, .int .i64 r6, .int .i64 r7] 110)) := (Below.refl _ _).alloc (Nat.le_refl _) _
  generalize w1.alloc (.cells #[.int .i64 r0, .int .i64 r1, .int .i64 r2, .int .i64 r3, .int .i64 r4, .int .i64 r5, .int .i64 r6, .int .i64 r7] 110) = w2 at *
  have HBX := hid hbx
  have HB2 : Hid (Below w.heap.size w w2) := HB1.out.trans (hb2.mono HB1.out.size)
  have hz2 := lt_of_block hbx
  have HW : Hid (writesOf l = freeT (fun u => !rHas (secondOf l) u) l) := rfl
  clear hbx hb2
  go_loopw [4, 11] (fun v i wr => ∃ k : Nat, k ≤ l.length ∧ i = .int .i64 k ∧ (∃ n, wr.ownsRow w2.heap.size 9 1 v n (tcs (freeT (fun u => !rHas (secondOf l) u) (l.take k)))) ∧ (freeT (fun u => !rHas (secondOf l) u) (l.take k) = [] → v = .slice none 0 0) ∧ Below w2.heap.size w2 wr) (fun _ i _ => l.length - (intOf i).toNat)
  case atStart => exact ⟨0, by omega, rfl, ⟨0, World.ownsRow_nil _ _ _ _⟩, fun _ => rfl, Below.refl _ _⟩
  case round =>
    obtain ⟨k, hk, rfl, ⟨n, hown⟩, hnil, hb⟩ := hrel
    have HO := hid hown
    have HN := hid hnil
    have HB := hid hb
    have hn : n ≤ 8000 := by
      have h1 := (own_texts hown).1
      have h2 := freeT_len (fun u => !rHas (secondOf l) u) (l.take k)
      rw [List.length_take] at h2
      omega
    have hbw : Below w.heap.size w wr := HB2.out.trans (hb.mono HB2.out.size)
    have HBW := hid hbw
    by_cases hlt : k < l.length
    · obtain ⟨u, hu⟩ : ∃ u, l[k]? = some u := ⟨l[k], List.getElem?_eq_getElem hlt⟩
      obtain ⟨b, off, rfl, hup⟩ := HU.out (by omega)
      obtain ⟨ua, uc, hut⟩ := (hup.later hbw) k u hu
      clear hup
      obtain ⟨c0, c1, c2, c3, c4, c5, c6, c7, c8⟩ := hut.nine
      obtain ⟨p0, p1, p2, p3, p4, p5, p6, p7⟩ := (HBX.out.later hb).eight rfl
      simp only [List.getD_cons_zero, List.getD_cons_succ] at p0 p1 p2 p3 p4 p5 p6 p7
      have hzr : w1.heap.size < wr.heap.size := Nat.lt_of_lt_of_le hz2 hb.size
      have HUT := hid hut
      have HST := hid (freeT_step (p := fun u => !rHas (secondOf l) u) hu)
      have HGU := hid (HS.out u (List.mem_of_getElem? hu))
      clear hown hnil hb hbw hut hu
      obtain ⟨w0, hw0⟩ : ∃ w0, w0 = wr := ⟨_, rfl⟩
      subst hw0
      go_wp2_with fail
      obtain ⟨kb, lb⟩ := boxU_new w0 u ua uc
      simp only [upArr] at kb lb
      generalize w0.alloc (.cells #[.int .i64 u.o, .slice ua u.c.length uc, .int .u8 u.t, .int .u8 u.k, .string (bs u.n), .string (bs u.x), .int .i64 u.a, .int .i64 u.ao, .int .i64 u.az] 28) = w5 at *
      have HH : Hid (∀ w', Calls Try.prog 77 #[.agg #[.int .i64 r0, .int .i64 r1, .int .i64 r2, .int .i64 r3, .int .i64 r4, .int .i64 r5, .int .i64 r6, .int .i64 r7], .agg #[.int .i64 u.id.1, .int .i64 u.id.2]] w' fun e w'' => e = .returned (.bool (rHas (secondOf l) u)) ∧ Below w'.heap.size w' w'') := fun w' => by
        rw [← HE.out]
        exact has_any (secondOf l) (secondOf_len l) u w' HGU.out
      clear c0 c1 c2 c3 c4 c5 c6 c7 c8 p0 p1 p2 p3 p4 p5 p6 p7
      obtain ⟨q0, q1, q2, q3, q4, q5, q6, q7, q8⟩ := kb.nine
      have HC5 := hid (HUT.out.clk.later lb)
      obtain ⟨p0, p1, p2, p3, p4, p5, p6, p7⟩ := ((HBX.out.later HB.out).later lb).eight rfl
      simp only [List.getD_cons_zero, List.getD_cons_succ] at p0 p1 p2 p3 p4 p5 p6 p7
      have q0 := cell_regrown q0
      have q1 := cell_regrown q1
      have q2 := cell_regrown q2
      have q3 := cell_regrown q3
      have q4 := cell_regrown q4
      have q5 := cell_regrown q5
      have q6 := cell_regrown q6
      have q7 := cell_regrown q7
      have q8 := cell_regrown q8
      have p0 := cell_regrown p0
      have p1 := cell_regrown p1
      have p2 := cell_regrown p2
      have p3 := cell_regrown p3
      have p4 := cell_regrown p4
      have p5 := cell_regrown p5
      have p6 := cell_regrown p6
      have p7 := cell_regrown p7
      refine wp_region_quiet_below (by kernel_rfl) (by kernel_rfl) ?_
      repeat (go_big_quiet_step (first | (go_at_call 60; exact Calls.regrown_of (idOf_any u _ _ _ HGU.out (HC5.out.later (below_regrown _ _ _)))) | (go_at_call 77; exact Calls.regrown_of (HH.out _))))
      refine wpQuiet_nil ?_
      intro _ hw'
      obtain ⟨⟨nq, osq⟩, hw''⟩ := hw'
      subst hw''
      have hb6 := below_regrown w5 nq osq
      clear q0 q1 q2 q3 q4 q5 q6 q7 q8 p0 p1 p2 p3 p4 p5 p6 p7
      generalize Sort.grow (redrawn w5 nq) osq = w6 at *
      obtain ⟨q0, q1, q2, q3, q4, q5, q6, q7, q8⟩ := (kb.later hb6).nine
      have hb06 : Below w0.heap.size w0 w6 := lb.trans (hb6.mono lb.size)
      have HO6 := hid (ownsRow_later HO.out hb06)
      have HB6 : Hid (Below w2.heap.size w2 w6) := HB.out.trans (hb06.mono HB.out.size)
      clear kb lb hb6 hb06
      generalize rHas (secondOf l) u = hs at *
      cases hs
      · go_wp2_with (at_builtin; refine app_one el_string _ rfl (.tmp 20) (.tmp 24) rfl w2.heap.size _ _ _ rfl HO6.out [.string (bs u.x)] rfl (one_str _) rfl ?c2 ?c3 ?c4 ?_)
        case c2 => omega
        case c3 => unfold maxLen; omega
        case c4 => exact HB6.out.size
        intro g7 cap7 w7 ho7 hg7 hb7
        have HO7 := hid ho7
        have HB7 : Hid (Below w2.heap.size w2 w7) := HB6.out.trans hb7
        clear ho7 hg7 hb7
        go_wp2_with fail
        go_roundw
        case rel =>
          have hst := HST.out
          simp only [Bool.not_false, if_true] at hst
          exact ⟨k + 1, by omega, by go_num, ⟨n + 1, by rw [hst, tcs_app]; exact HO7.out⟩, by rw [hst]; simp, HB7.out⟩
        case measure => simp [intOf]; omega
      · go_wp2_with fail
        go_roundw
        case rel =>
          have hst := HST.out
          simp only [Bool.not_true, Bool.false_eq_true, if_false] at hst
          exact ⟨k + 1, by omega, by go_num, ⟨n, by rw [hst]; exact HO6.out⟩, by rw [hst]; exact HN.out, HB6.out⟩
        case measure => simp [intOf]; omega
    · have htk : l.take k = l := List.take_of_length_le (by omega)
      rw [htk] at hown hnil
      have HO2 := hid hown
      have HN2 := hid hnil
      clear hown hnil htk hb hbw
      go_wp2_with fail
      go_ret
      exact ⟨_, n, rfl, by rw [HW.out]; exact ownsRow_mono HO2.out HB2.out.size, by rw [HW.out]; exact HN2.out, HBW.out⟩
end Go.Proofs.Yteljbblbdiploaa
