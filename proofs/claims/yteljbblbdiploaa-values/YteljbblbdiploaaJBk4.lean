/-
  WALKS: the statements' marks as texts.
-/
/-
  WALKS: the statements' book: the texts that came last are marked.
-/
import Derived.Test.YteljbblbdiploaaJBk3
namespace Go.Proofs.Yteljbblbdiploaa
open Go.RowKit

/-- a mark as a text -/
def wordOf (q : Nat) : ByteArray := ⟨#[UInt8.ofNat ((q : Int) % 256).toNat, UInt8.ofNat ((q : Int) / 256 % 256).toNat, UInt8.ofNat ((q : Int) / 65536 % 256).toNat, UInt8.ofNat (109 : Int).toNat]⟩

theorem conv_four (W : World) (x y z u : Int) : (convert 58 9 (.slice (some ⟨W.heap.size, 0, none⟩) 4 4)).run Try.prog (W.alloc (.cells #[.int .u8 x, .int .u8 y, .int .u8 z, .int .u8 u] 5)) = .ok (.string ⟨#[UInt8.ofNat x.toNat, UInt8.ofNat y.toNat, UInt8.ofNat z.toNat, UInt8.ofNat u.toNat]⟩) (W.alloc (.cells #[.int .u8 x, .int .u8 y, .int .u8 z, .int .u8 u] 5)) :=
  run_convert_bytes_arg (P := Try.prog) _ 58 5 Try.underlying58 Try.underlying5 W.heap.size 0 4 4 [x, y, z, u] rfl (fun i hi => by
    have : i = 0 ∨ i = 1 ∨ i = 2 ∨ i = 3 := by omega
    rcases this with rfl | rfl | rfl | rfl <;> simp) 9 Try.underlying9

set_option maxRecDepth 16000 in
set_option maxHeartbeats 1000000 in
theorem word_any (q : Nat) (w : World) (_hq : q ≤ 1099511627780) :
    Calls Try.prog 35 #[.int .i64 q] w fun e w' => e = .returned (.string (wordOf q)) ∧ Below w.heap.size w w' := by
  have k1 := conv_four w ((q : Int) % 256) ((q : Int) / 256 % 256) ((q : Int) / 65536 % 256) 109
  go_enter Try.func35, Try.ntmps35
  go_wp2_with fail
  go_ret
  exact ⟨rfl, (Below.refl _ _).alloc (Nat.le_refl _) _⟩
end Go.Proofs.Yteljbblbdiploaa

namespace Go.Proofs.Yteljbblbdiploaa
open Go.RowKit

theorem Try.infoStr : (Try.prog.info? 9).map (fun i => (i.zero, i.size, i.bytes)) = some (some (.string ⟨#[]⟩), 1, 16) := by kernel_rfl
theorem Try.infoStrs : (Try.prog.info? 39).map (fun i => (i.zero, i.size, i.bytes)) = some (some (.slice none 0 0), 1, 24) := by kernel_rfl

/-- texts as a row's cells -/
def scs (ts : List ByteArray) : List Value := ts.map Value.string
theorem scs_len (ts : List ByteArray) : (scs ts).length = ts.length := by simp [scs]
theorem scs_at (ts : List ByteArray) (j : Nat) (h : j < ts.length) : (scs ts)[j]? = some (.string (ts.getD j ⟨#[]⟩)) := by
  simp [scs, h]

/-- a mark, as a row's cells -/
def tmk (q : Nat) : List Value := [.string (wordOf q)]

theorem own_at_s {w : World} {base : Nat} {v : Value} {ts : List ByteArray} (h : w.ownsRow base 9 1 v ts.length (scs ts)) : ∃ ao ca, v = .slice ao ts.length ca ∧ ∀ j, j < ts.length → ∃ a, ao = some ⟨a, 0, none⟩ ∧ w.cell? ⟨a, j, none⟩ = some (.string (ts.getD j ⟨#[]⟩)) := by
  rcases h.2 with ⟨rfl, h0⟩ | ⟨g, cap, cur, rfl, _⟩
  · exact ⟨none, 0, by rw [h0], fun j hj => by omega⟩
  · exact ⟨_, cap, rfl, fun j hj => ⟨g, rfl, row_cell h j _ (scs_at ts j hj)⟩⟩

theorem tmarks_set (q : Nat) (ys : List Value) (j : Nat) (h : j < ys.length) : (reps j (tmk q) ++ ys.drop j).set j (.string (wordOf q)) = reps (j + 1) (tmk q) ++ ys.drop (j + 1) := by
  have hl : (reps j (tmk q)).length = j := by simp [reps, tmk]
  rw [List.set_append_right _ _ (by omega), hl, Nat.sub_self, List.drop_eq_getElem_cons h, List.set_cons_zero, reps_succ, tmk]
  simp

theorem tmarks_at (q : Nat) (ys : List Value) (j : Nat) (u : Value) (h : ys[j]? = some u) : (reps j (tmk q) ++ ys.drop j)[j]? = some u := by
  have hl : (reps j (tmk q)).length = j := by simp [reps, tmk]
  rw [List.getElem?_append_right (by omega), hl, Nat.sub_self, List.getElem?_drop, Nat.add_zero, h]

theorem Mkg.later {w0 wr w2 : World} {base : Nat} {eS e : TypeId} {size : Nat} {mk : Nat → List Value} {S G : Nat → Prop} {L : List Value} {row l : Value} {n : Nat} {xs : List Value} {m : Nat} (h : Mkg w0 wr base eS e size mk S G L row l n xs m) (hb : Below wr.heap.size wr w2) : Mkg w0 w2 base eS e size mk S G L row l n xs m :=
  ⟨ownsRow_later h.rw hb, h.views.kept fun _ _ _ hs _ => ownsRow_later hs hb, ownsRow_later h.own hb, ⟨hb.os.trans h.sp.os, hb.tape.trans h.sp.tape, hb.output.trans h.sp.output, Nat.le_trans h.sp.size hb.size, fun k hk hn => (hb.block k (Nat.lt_of_lt_of_le hk h.sp.size)).trans (h.sp.block k hk hn)⟩, h.inS, h.low, h.away⟩

set_option maxRecDepth 16000 in
set_option maxHeartbeats 4000000 in
theorem textMarked_any (B base : Nat) (w : World) (texts c0 c2 c4 c5 came was c8 c9 : Value) (L : List Value) (ts : List ByteArray)
    (hB : Bb w B c0 texts c2 (.bool false) c4 c5 came was c8 c9) (hbB : base ≤ B)
    (hrow : w.ownsRow base 39 1 texts L.length L) (hv : Views w base 9 1 tmk 0 came.ownBlock L)
    (hc : w.ownsRow base 9 1 came ts.length (scs ts)) (hw : w.ownsRow base 9 1 was ts.length (scs ts))
    (G : Nat → Prop) (hG : ∀ g, G g → g < w.heap.size ∧ came.ownBlock ≠ some g ∧ ∀ s ∈ L, s.ownBlock ≠ some g) (h4 : L.length % 4 = 0) (hL : L.length ≤ 1099511627776) (hn : ts.length ≤ 1099511627776) :
    Calls Try.prog 36 #[.pointer (some ⟨B, 0, none⟩)] w fun e w' => e = .returned (.tuple #[]) ∧ ∃ texts' L', L'.length = L.length + 4 ∧ Bb w' B c0 texts' c2 (.bool false) c4 c5 (.slice none 0 0) (.slice none 0 0) c8 c9 ∧
      w'.ownsRow base 39 1 texts' L'.length L' ∧ Views w' base 9 1 tmk 0 none L' ∧ (∀ g, G g → ∀ s ∈ L', s.ownBlock ≠ some g) ∧ Spared w w' (fun k => k = B ∨ some k = came.ownBlock ∨ some k = texts.ownBlock) := by
  obtain ⟨i0, hi, hz0, hz1, hz2⟩ := info_parts Try.infoStr
  obtain ⟨i1, hi1, hy0, hy1, hy2⟩ := info_parts Try.infoStrs
  obtain ⟨ao, ca, rfl, -⟩ := own_at_s hc
  obtain ⟨bo, cb, rfl, -⟩ := own_at_s hw
  have HM0 : Hid (Mkg w w base 39 9 1 tmk (fun k => k = B ∨ some k = (Value.slice ao ts.length ca).ownBlock ∨ some k = texts.ownBlock) G L texts (.slice ao ts.length ca) ts.length (scs ts) 0) :=
    ⟨hrow, hv, hc, Spared.refl _ _, fun k hk _ => by rcases hk with hk | hk; exact .inr (.inl hk.symm); exact .inr (.inr hk.symm), Nat.le_trans hbB (Nat.le_of_lt hB.lt), hG⟩
  have HB0 := hid hB
  have HW0 := hid hw
  obtain ⟨hcB, hfB⟩ := hB.cells
  clear hrow hv hc hw hB hG
  obtain ⟨S, hS⟩ : ∃ S : Nat → Prop, S = (fun k => k = B ∨ some k = (Value.slice ao ts.length ca).ownBlock ∨ some k = texts.ownBlock) := ⟨_, rfl⟩
  rw [← hS] at HM0 ⊢
  have HSB : Hid (S B) := by rw [hS]; exact .inl rfl
  clear hS
  go_enter Try.func36, Try.ntmps36
  go_wp2_with fail
  clear hcB hfB
  go_loopw [3] (fun i wr => ∃ j : Nat, j ≤ ts.length ∧ i = .int .i64 j ∧ Mkg w wr base 39 9 1 tmk S G L texts (.slice ao ts.length ca) ts.length (scs ts) 0 ∧ Bb wr B c0 texts c2 (.bool false) c4 c5 (.slice ao ts.length ca) (.slice bo ts.length cb) c8 c9 ∧ wr.ownsRow base 9 1 (.slice bo ts.length cb) ts.length (scs ts)) (fun i _ => ts.length - (intOf i).toNat)
  case atStart => exact ⟨0, by omega, rfl, HM0.out, HB0.out, HW0.out⟩
  case round =>
    obtain ⟨j, hj, rfl, hM, hB, hW⟩ := hrel
    have HM := hid hM
    have HB := hid hB
    have HW := hid hW
    obtain ⟨hcB, hfB⟩ := hB.cells
    clear hM hB hW HM0 HB0 HW0
    by_cases hlt : j < ts.length
    · obtain ⟨_, _, e1, h1⟩ := own_at_s HM.out.own
      obtain ⟨_, _, e2, h2⟩ := own_at_s HW.out
      cases e1
      cases e2
      obtain ⟨a, rfl, q1⟩ := h1 j hlt
      obtain ⟨b, rfl, q2⟩ := h2 j hlt
      clear h1 h2
      have HS : Hid (wr.setCell ⟨B, 3, none⟩ (.bool false) = wr) := set_same HB.out rfl
      generalize ts.getD j ⟨#[]⟩ = z at *
      go_wp2_with fail
      go_region
      all_goals
        go_wp2_with fail
        go_roundw
        case rel => rw [HS.out]; exact ⟨j + 1, by omega, by go_num, HM.out.drew, HB.out, HW.out⟩
        case measure => simp [intOf]; omega
    · have hjn : j = ts.length := by omega
      subst hjn
      obtain ⟨ai, cpi, htexts⟩ := own_form HM.out.rw
      subst htexts
      clear HW
      go_wp2_with fail
      refine (word_any L.length wr (by omega)).mono ?_
      rintro e w1 ⟨rfl, hb1⟩
      have HMw := hid (HM.out.later hb1)
      have HBw := hid (HB.out.below hb1 HB.out.lt)
      clear hcB hfB HM HB hb1
      have HM := HMw
      have HB := HBw
      clear HMw HBw
      go_wp2_with fail
      have HL2 : Hid (scs ts = reps 0 (tmk L.length) ++ (scs ts).drop 0) := hid (by simp [reps])
      go_loopw [5] (fun i wr => ∃ j : Nat, j ≤ ts.length ∧ i = .int .i64 j ∧ Mkg w wr base 39 9 1 tmk S G L (.slice ai L.length cpi) (.slice ao ts.length ca) ts.length (reps j (tmk L.length) ++ (scs ts).drop j) 0 ∧ Bb wr B c0 (.slice ai L.length cpi) c2 (.bool false) c4 c5 (.slice ao ts.length ca) (.slice bo ts.length cb) c8 c9) (fun i _ => ts.length - (intOf i).toNat)
      case atStart => rw [HL2.out] at HM; exact ⟨0, by omega, rfl, HM.out, HB.out⟩
      case round =>
        obtain ⟨j, hj, rfl, hM, hB⟩ := hrel
        have HM2 := hid hM
        have HB2 := hid hB
        clear hM hB HL2 HM HB
        by_cases hlt2 : j < ts.length
        · obtain ⟨a, rfl⟩ : ∃ a, ao = some ⟨a, 0, none⟩ := by
            rcases HM2.out.own.2 with ⟨q, h0⟩ | ⟨g, cap, cur, q, _⟩
            · omega
            · cases q; exact ⟨g, rfl⟩
          have f1 := row_free HM2.out.own j
          have q1 := row_cell HM2.out.own j _ (tmarks_at L.length (scs ts) j _ (scs_at ts j hlt2))
          generalize ts.getD j ⟨#[]⟩ = z at *
          have hst := HM2.out.store (by decide) rfl j (.string (wordOf L.length))
          rw [tmarks_set _ _ _ (by rw [scs_len]; exact hlt2)] at hst
          have HST := hid hst
          have HBS := hid (HB2.out.far (A := a) (i := j) (.string (wordOf L.length)) (fun q => type_ne HM2.out.own HB2.out (by decide) (by rw [q]; rfl)))
          clear hst
          go_wp2_with fail
          go_roundw
          case rel => exact ⟨j + 1, by omega, by go_num, HST.out, HBS.out⟩
          case measure => simp [intOf]; omega
        · have hjn : j = ts.length := by omega
          subst hjn
          go_wp2_with fail
          have hfull := HM2.out.full
          rw [show reps ts.length (tmk L.length) ++ (scs ts).drop ts.length = reps ts.length (tmk L.length) by rw [List.drop_of_length_le (by rw [scs_len]; exact Nat.le_refl _), List.append_nil]] at hfull
          have HF := hid hfull
          clear hfull HM2
          go_loopw [2, 6] (fun l i wr => ∃ (c : Nat) (Li : List Value) (row : Value) (m : Nat), c ≤ 4 ∧ i = .int .i64 c ∧ Li.length = L.length + c ∧ m ≤ ts.length + 61 * c ∧ Mkg w wr base 39 9 1 tmk S G Li row l m (reps m (tmk L.length)) m ∧ Bb wr B c0 row c2 (.bool false) c4 c5 (.slice ao ts.length ca) (.slice bo ts.length cb) c8 c9) (fun _ i _ => 4 - (intOf i).toNat)
          case atStart => exact ⟨0, L, _, ts.length, by omega, rfl, rfl, by omega, HF.out, HB2.out⟩
          case round =>
            obtain ⟨c, Li, row, m, hc4, rfl, hLi, hm, hM, hB⟩ := hrel
            obtain ⟨lo, lc, rfl⟩ := own_form hM.own
            have HM := hid hM
            have HB := hid hB
            obtain ⟨hcB, hfB⟩ := hB.cells
            clear hM hB HF HB2
            by_cases hlt3 : c < 4
            · have HQ4 : Hid (Li.length / 4 * 4 = L.length) := hid (by omega)
              have hLs : Li.length ≤ L.length + 3 := by omega
              have HLI := hid hLi
              clear hLi
              have hba : base ≤ wr.heap.size := HM.out.low'
              go_wp2_with (at_builtin; refine wpList_append_keep _ rfl (.tmp 63) (.tmp 65) 37 rfl base 39 i1 (.slice none 0 0) 1 24 Try.underlying37 hi1 hy0 hy1 hy2 rfl (by decide) row Li.length Li rfl (HM.out.alloc _).rw ⟨wr.heap.size, 0, none⟩ 1 1 [.slice lo m lc] rfl rfl (cell_one_new _ _ _) ?d1 ?d2 ?d3 ?d4 ?_)
              case d1 => intro u hu; simp at hu; subst hu; rfl
              case d2 => unfold maxLen; omega
              case d3 => omega
              case d4 => simp; omega
              intro row' w2 ho hk hg hat
              obtain ⟨ri, rc, rfl⟩ := own_form ho
              have hB2 := (HB.out.alloc (.cells #[.slice lo m lc] 39)).grown hg (fun q => type_ne HM.out.rw HB.out (by decide) q.symm)
              have hM2 := (HM.out.alloc (.cells #[.slice lo m lc] 39)).laid (by decide) ho hg (by simpa using hat) (by rw [HQ4.out])
              have hM3 := hM2.far (i := 1) hB2 (by decide) (by decide) (fun _ => HSB.out) (.slice ri (Li.length + 1) rc)
              have hB3 := hB2.set1 (.slice ri (Li.length + 1) rc)
              obtain ⟨hcB2, hfB2⟩ := hB2.cells
              have HM3 := hid hM3
              have HB3 := hid hB3
              clear hcB hfB hM2 hM3 hB3 hB2 ho hk hg hat HM HB
              have HNW : Hid (∀ j u, (tmk L.length)[j]? = some u → ((w2.setCell ⟨B, 1, none⟩ (.slice ri (Li.length + 1) rc)).alloc (.cells #[.string (wordOf L.length)] 9)).cell? ((⟨w2.heap.size, 0, none⟩ : Addr).add j) = some u) := by
                have hsz : (w2.setCell ⟨B, 1, none⟩ (.slice ri (Li.length + 1) rc)).heap.size = w2.heap.size := by simp [World.setCell]
                rw [← hsz]
                exact cell_one_new _ _ _
              have hba3 : base ≤ w2.heap.size := by have := HM3.out.low'; simpa [World.setCell] using this
              go_wp2_with (at_builtin; refine wpList_append_keep _ rfl (.tmp 69) (.tmp 71) 39 rfl base 9 i0 (.string ⟨#[]⟩) 1 16 Try.underlying39 hi hz0 hz1 hz2 rfl (by decide) (.slice lo m lc) m (reps m (tmk L.length)) rfl (HM3.out.alloc _).own ⟨w2.heap.size, 0, none⟩ 1 1 (tmk L.length) rfl rfl HNW.out ?e1 ?e2 ?e3 ?e4 ?_)
              case e1 => intro u hu; simp [tmk] at hu; subst hu; rfl
              case e2 => unfold maxLen; omega
              case e3 => omega
              case e4 => simp [World.setCell]; omega
              intro l4 w4 ho4 hk4 hg4 hat4
              have hM4 := (HM3.out.alloc _).grew (by decide) ho4 hk4 hg4 (by simpa [World.setCell] using hat4)
              rw [← reps_succ] at hM4
              have hB4 := (HB3.out.alloc _).grown hg4 (fun q => type_ne HM3.out.own HB3.out (by decide) q.symm)
              have HM4 := hid hM4
              have HB4 := hid hB4
              clear ho4 hk4 hg4 hat4 hM4 hB4 HM3 HB3 HNW hcB2 hfB2 hba3 hba
              go_wp2_with fail
              go_loopw [2, 7] (fun l k wr => ∃ (kk m4 : Nat), kk ≤ 60 ∧ k = .int .i64 kk ∧ m4 ≤ m + 1 + kk ∧ Mkg w wr base 39 9 1 tmk S G (Li ++ [.slice lo m lc]) (.slice ri (Li.length + 1) rc) l m4 (reps m4 (tmk L.length)) m4 ∧ Bb wr B c0 (.slice ri (Li.length + 1) rc) c2 (.bool false) c4 c5 (.slice ao ts.length ca) (.slice bo ts.length cb) c8 c9) (fun _ k _ => 60 - (intOf k).toNat)
              case atStart => exact ⟨0, m + 1, by omega, rfl, by omega, HM4.out, HB4.out⟩
              case round =>
                obtain ⟨kk, m4, hk60, rfl, hm4, hM, hB⟩ := hrel
                obtain ⟨lo4, lc4, rfl⟩ := own_form hM.own
                have HM5 := hid hM
                have HB5 := hid hB
                have hba := hM.low'
                clear hM hB HM4 HB4
                by_cases hk1 : kk < 60
                · by_cases hc2 : c = 2
                  · have h2a : 2 ≤ c := by omega
                    have h2b : c ≤ 2 := by omega
                    clear hc2 hlt3 hc4
                    go_wp2_with (at_builtin; refine wpList_append_keep _ rfl (.tmp 81) (.tmp 83) 39 rfl base 9 i0 (.string ⟨#[]⟩) 1 16 Try.underlying39 hi hz0 hz1 hz2 rfl (by decide) (.slice lo4 m4 lc4) m4 (reps m4 (tmk L.length)) rfl (HM5.out.alloc _).own ⟨_, 0, none⟩ 1 1 (tmk L.length) rfl rfl (cell_one_new _ _ _) ?f1 ?f2 ?f3 ?f4 ?_)
                    case f1 => intro u hu; simp [tmk] at hu; subst hu; rfl
                    case f2 => unfold maxLen; omega
                    case f3 => omega
                    case f4 => simp; omega
                    intro l6 w6 ho6 hk6 hg6 hat6
                    have hM6 := (HM5.out.alloc _).grew (by decide) ho6 hk6 hg6 (by simpa using hat6)
                    rw [← reps_succ] at hM6
                    have hB6 := (HB5.out.alloc _).grown hg6 (fun q => type_ne HM5.out.own HB5.out (by decide) q.symm)
                    have HM6 := hid hM6
                    have HB6 := hid hB6
                    clear ho6 hk6 hg6 hat6 hM6 hB6
                    go_wp2_with fail
                    go_roundw
                    case rel => exact ⟨kk + 1, m4 + 1, by omega, by go_num, by omega, HM6.out, HB6.out⟩
                    case measure => simp [intOf]; omega
                  · go_wp2_with fail
                    go_roundw
                    case rel => exact ⟨c + 1, _, _, m4, by omega, by go_num, by simp [HLI.out]; omega, by omega, HM5.out, HB5.out⟩
                    case measure => simp [intOf]; omega
                · go_wp2_with fail
                  go_roundw
                  case rel => exact ⟨c + 1, _, _, m4, by omega, by go_num, by simp [HLI.out]; omega, by omega, HM5.out, HB5.out⟩
                  case measure => simp [intOf]; omega
            · have hc44 : c = 4 := by omega
              subst hc44
              go_wp2_with fail
              refine bodyPost_end (v := .tuple #[]) ?_ rfl ?_
              · simp [results, Try.results36, go_sem]
              refine ⟨rfl, row, Li, hLi, (HB.out.set6 _).set7 _, ?_⟩
              · have hm4 := (HM.out.far (i := 6) HB.out (by decide) (by decide) (fun _ => HSB.out) (.slice none 0 0))
                have hm5 := (hm4.far (i := 7) (HB.out.set6 _) (by decide) (by decide) (fun _ => HSB.out) (.slice none 0 0))
                exact ⟨hm5.rw, hm5.views.free, fun g hg => (hm5.away g hg).2.2, hm5.sp⟩
end Go.Proofs.Yteljbblbdiploaa
