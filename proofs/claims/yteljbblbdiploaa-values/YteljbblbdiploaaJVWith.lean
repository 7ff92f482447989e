/-
  SMALL LAWS: one element more at the end of a list of the call's own: texts, ids, numbers, updates.
-/
/-
  WALKS: the document's answer: a text in its place among others.
-/
import Derived.Test.YteljbblbdiploaaJVMem
import Derived.Deep.AppendLies
import Derived.Laws.AppendOwnNone
import Derived.Deep.Strs
import Derived.Sort.Walk0
namespace Go.Proofs.Yteljbblbdiploaa
open Go.RowKit

/-- a slice type and its element's type: cells, bytes, zero value -/
structure ElemOf (T E : TypeId) (size bytes : Nat) (z : Value) : Prop where
  und : Try.prog.underlying T = some (.slice E)
  info : (Try.prog.info? E).map (fun i => (i.zero, i.size, i.bytes)) = some (some z, size, bytes)
  zc : z.cells.size = size
  pos : 0 < size

theorem el_string : ElemOf 39 9 1 16 (.string ⟨#[]⟩) := ⟨Try.underlying39, by kernel_rfl, rfl, by decide⟩
theorem el_int : ElemOf 22 3 1 8 (.int .i64 0) := ⟨Try.underlying22, by kernel_rfl, rfl, by decide⟩
theorem el_id : ElemOf 40 24 2 16 (.agg #[.int .i64 0, .int .i64 0]) := ⟨Try.underlying40, by kernel_rfl, rfl, by decide⟩
theorem el_update : ElemOf 49 28 9 96 (.agg #[.int .i64 0, .slice none 0 0, .int .u8 0, .int .u8 0, .string ⟨#[]⟩, .string ⟨#[]⟩, .int .i64 0, .int .i64 0, .int .i64 0]) := ⟨Try.underlying49, by kernel_rfl, rfl, by decide⟩

theorem own_base {w : World} {base : Nat} {E : TypeId} {size : Nat} {v : Value} {n : Nat} {xs : List Value} (h : w.ownsRow base E size v n xs) : ∀ k, v.ownBlock = some k → base ≤ k := fun k hk => (h.lt k hk).1

/-- append(v, x): x laid as a slice of one element ahead of it -/
theorem app_one {T E : TypeId} {size bytes : Nat} {z : Value} (K : ElemOf T E size bytes z) (w : World) {ops : Array Oper} {rest : List Oper} {o : Oper} {a : Act} {Q : Exit → Act → World → Prop} (hgd : o.guard = none) (s x : Operand)
    (ho : o.op = .call { callee := .builtin .append, args := #[s, x], argTypes := #[T, T] }) (base : Nat) (v : Value) (n : Nat) (xs : List Value) (hs : a.eval s = v) (hown : w.ownsRow base E size v n xs)
    (cs : List Value) (hcl : cs.length = size) (h1 : ∀ u ∈ cs, u.oneCell' = true) (hx : a.eval x = .slice (some ⟨w.heap.size, 0, none⟩) 1 1) (hb : (n + 1) * bytes ≤ 140737488355328) (hm : n + 1 ≤ maxLen) (hbase : base ≤ w.heap.size)
    (h : ∀ g cap w', w'.ownsRow base E size (.slice (some ⟨g, 0, none⟩) (n + 1) cap) (n + 1) (xs ++ cs) → w.grownBy w' v.ownBlock → Below base w w' → wpList Try.prog ops Q rest (a.put o.dst (.slice (some ⟨g, 0, none⟩) (n + 1) cap)) w') :
    wpList Try.prog ops Q (o :: rest) a (w.alloc (.cells cs.toArray E)) := by
  obtain ⟨i0, hi, hz0, hz1, hz2⟩ := info_parts K.info
  refine wpList_append_lies _ hgd s x T ho base E i0 z size bytes K.und hi hz0 hz1 hz2 K.zc K.pos v n xs hs (World.ownsRow.alloc hown _) ⟨w.heap.size, 0, none⟩ 1 1 cs hx (by rw [hcl, Nat.one_mul]) (World.news_of_block (heap_alloc_new w _)) h1 (by decide) hm hb (by simp; omega) (w.heap.size + 1) (by simp) ?_
  intro g cap w' ho2 hg _ _
  have hg' : w.grownBy w' v.ownBlock := by
    refine ⟨hg.os, hg.tape, hg.output, ?_, fun k hk hne => (hg.block k (by simp; omega) hne).trans (Below.heap_alloc w _ k hk)⟩
    have := hg.size; simp at this; omega
  exact h g cap w' ho2 hg' ((Below.refl base w).grown hg' hbase (own_base hown))

/-- append(v, x...): x a list of some call's own -/
theorem app_many {T E : TypeId} {size bytes : Nat} {z : Value} (K : ElemOf T E size bytes z) (w : World) {ops : Array Oper} {rest : List Oper} {o : Oper} {a : Act} {Q : Exit → Act → World → Prop} (hgd : o.guard = none) (s x : Operand)
    (ho : o.op = .call { callee := .builtin .append, args := #[s, x], argTypes := #[T, T] }) (base : Nat) (v : Value) (n : Nat) (xs : List Value) (hs : a.eval s = v) (hown : w.ownsRow base E size v n xs)
    (base' : Nat) (v' : Value) (m : Nat) (news : List Value) (hx : a.eval x = v') (hsrc : w.ownsRow base' E size v' m news) (h1 : ∀ u ∈ news, u.oneCell' = true) (hb : (n + m) * bytes ≤ 140737488355328) (hm : n + m ≤ maxLen) (hbase : base ≤ w.heap.size)
    (h : ∀ r w', w'.ownsRow base E size r (n + m) (xs ++ news) → w.grownBy w' v.ownBlock → Below base w w' → wpList Try.prog ops Q rest (a.put o.dst r) w') :
    wpList Try.prog ops Q (o :: rest) a w := by
  obtain ⟨i0, hi, hz0, hz1, hz2⟩ := info_parts K.info
  have hl := hsrc.1
  rcases hsrc.2 with ⟨rfl, rfl⟩ | ⟨g, cap, cur, rfl, hg, hh, hnc, hmx, hsz, htk⟩
  · have hnil : news = [] := List.eq_nil_of_length_eq_zero (by simpa using hl)
    subst hnil
    refine wpList_append_own_none hgd s x T ho base E i0 size K.und hi v n xs hs hown hx ?_
    refine h v w ?_ ⟨rfl, rfl, rfl, Nat.le_refl _, fun _ _ _ => rfl⟩ (Below.refl _ _)
    simpa using hown
  · refine wpList_append_own w hgd s x T ho base E i0 z size bytes K.und hi hz0 hz1 hz2 K.zc K.pos v n xs hs hown ⟨g, 0, none⟩ m cap news hx hl (World.ownsRow.cells hsrc (g := g) rfl) h1 hm hb hbase ?_
    intro r w' h2 h3 _
    exact h r w' h2 h3 ((Below.refl base w).grown h3 hbase (own_base hown))
end Go.Proofs.Yteljbblbdiploaa

namespace Go.Proofs.Yteljbblbdiploaa
open Go.RowKit

/-- texts as a row's cells -/
def tcs (l : List Tx) : List Value := l.map fun s => .string (bs s)
theorem tcs_len (l : List Tx) : (tcs l).length = l.length := by simp [tcs]
theorem tcs_app (l : List Tx) (s : Tx) : tcs (l ++ [s]) = tcs l ++ [.string (bs s)] := by simp [tcs]

theorem one_str (b : ByteArray) : ∀ u ∈ [Value.string b], u.oneCell' = true := by simp; rfl

/-- a list of texts of the call's own: nil, or a row -/
theorem own_texts {w : World} {base : Nat} {v : Value} {n : Nat} {l : List Tx} (h : w.ownsRow base 9 1 v n (tcs l)) :
    n = l.length ∧ ((v = .slice none 0 0 ∧ l = []) ∨ ∃ g cap, v = .slice (some ⟨g, 0, none⟩) l.length cap ∧ base ≤ g ∧ g < w.heap.size ∧ ∀ j, j < l.length → w.cell? ⟨g, j, none⟩ = some (.string (bs (l.getD j [])))) := by
  have hn : n = l.length := by have := h.1; rw [tcs_len, Nat.mul_one] at this; exact this.symm
  subst hn
  refine ⟨rfl, ?_⟩
  rcases h.2 with ⟨hv, h0⟩ | ⟨g, cap, cur, hv, hg, hh, _⟩
  · exact .inl ⟨hv, List.eq_nil_of_length_eq_zero h0⟩
  · refine .inr ⟨g, cap, hv, hg, (Array.getElem?_eq_some_iff.1 hh).1, fun j hj => ?_⟩
    have := World.ownsRow.cells h (g := g) (by rw [hv]; rfl) j (.string (bs (l.getD j []))) (by simp [tcs, hj])
    rwa [show (⟨g, 0, none⟩ : Addr).add j = ⟨g, j, none⟩ by rw [Addr.add_lit, Nat.zero_add]] at this

set_option maxRecDepth 16000 in
set_option maxHeartbeats 1000000 in
theorem with_any (base : Nat) (v : Value) (n : Nat) (l : List Tx) (s : Tx) (w : World) (hbase : base ≤ w.heap.size) (hl : w.ownsRow base 9 1 v n (tcs l)) (hn : n ≤ 1000000) :
    Calls Try.prog 82 #[v, .string (bs s)] w fun e w' => ∃ v' n', e = .returned v' ∧ w'.ownsRow base 9 1 v' n' (tcs (withT l s)) ∧ Below w.heap.size w w' := by
  obtain ⟨rfl, hcase⟩ := own_texts hl
  have HL := hid hl
  rcases hcase with ⟨rfl, rfl⟩ | ⟨g, cap, rfl, hgb, hgw, hcell⟩
  · clear hl
    go_enter Try.func82, Try.ntmps82
    go_wp2_with fail
    go_loopw [5, 6, 7] (fun out dn i wr => out = .slice none 0 0 ∧ dn = .bool false ∧ i = .int .i64 0 ∧ wr = w) (fun _ _ _ _ => 0)
    case atStart => exact ⟨rfl, rfl, rfl, rfl⟩
    case round =>
      obtain ⟨rfl, rfl, rfl, rfl⟩ := hrel
      go_wp2_with (at_builtin; refine app_one el_string _ rfl (.tmp 44) (.tmp 46) rfl wr.heap.size _ 0 [] rfl (World.ownsRow_nil _ _ _ _) [.string (bs s)] rfl (one_str _) rfl ?c2 ?c3 ?c4 ?_)
      case c2 => omega
      case c3 => unfold maxLen; omega
      case c4 => exact Nat.le_refl _
      intro g2 cap2 w2 ho2 hg2 hb2
      have HO2 := hid ho2
      have HB2 := hid hb2
      clear ho2 hg2 hb2
      go_wp2_with fail
      go_ret
      exact ⟨_, 1, rfl, ownsRow_mono HO2.out hbase, HB2.out⟩
  · have HC := hid hcell
    clear hl hcell
    go_enter Try.func82, Try.ntmps82
    go_wp2_with fail
    go_loopw [5, 6, 7] (fun out dn i wr => ∃ k : Nat, k ≤ l.length ∧ i = .int .i64 k ∧ dn = .bool ((l.take k).any fun y => decide (s < y)) ∧ s ∉ l.take k ∧ wr.ownsRow w.heap.size 9 1 out (wOut s (l.take k)).length (tcs (wOut s (l.take k))) ∧ Below w.heap.size w wr) (fun _ _ i _ => l.length - (intOf i).toNat)
    case atStart => exact ⟨0, by omega, rfl, rfl, by simp, World.ownsRow_nil _ _ _ _, Below.refl _ _⟩
    case round =>
      obtain ⟨k, hk, rfl, rfl, hnot, hown, hb⟩ := hrel
      have HNOT := hid hnot
      have HO := hid hown
      have HB := hid hb
      have hlw := wOut_len s (l.take k)
      rw [List.length_take] at hlw
      by_cases hlt : k < l.length
      · have hcell : wr.cell? ⟨g, k, none⟩ = some (.string (bs (l.getD k []))) := (hb.cell (p := ⟨g, k, none⟩) hgw).trans (HC.out k hlt)
        have htk : l.take (k + 1) = l.take k ++ [l.getD k []] := by
          rw [List.take_add_one, List.getD_eq_getElem?_getD, List.getElem?_eq_getElem hlt]; rfl
        have htm : l.getD k [] ∈ l := by rw [List.getD_eq_getElem?_getD, List.getElem?_eq_getElem hlt]; exact List.getElem_mem hlt
        have hwo := wOut_app s (l.getD k []) (l.take k)
        rw [← htk] at hwo
        have hany : (l.take (k + 1)).any (fun y => decide (s < y)) = ((l.take k).any (fun y => decide (s < y)) || decide (s < l.getD k [])) := by rw [htk, List.any_append]; simp
        clear hnot hown hb
        have HTK := hid htk
        have HTM := hid htm
        have HWO := hid hwo
        have HANY := hid hany
        clear htk htm hwo hany
        generalize l.getD k [] = t at *
        by_cases hts : t = s
        · have hq : (t == s) = true := by simp [hts]
          go_wp2_with fail
          go_ret
          refine ⟨_, l.length, rfl, ?_, HB.out⟩
          have : withT l s = l := by rw [withT, if_pos (hts ▸ HTM.out)]
          rw [this]
          exact ownsRow_later HL.out HB.out
        · have hq : (t == s) = false := by rw [beq_eq_false_iff_ne]; exact hts
          generalize hd : ((l.take k).any fun y => decide (s < y)) = d at *
          have HD := hid hd
          clear hd
          have hnx : s ∉ l.take (k + 1) := by rw [HTK.out]; intro m; rcases List.mem_append.1 m with m | m; exact HNOT.out m; rw [List.mem_singleton] at m; exact hts m.symm
          have HNX := hid hnx
          clear hnx
          cases d
          · by_cases hst : s < t
            · have hq2 : Op.bytesLess s t = true := by rw [bytesLess_eq]; simpa using hst
              go_wp2_with (at_builtin; refine app_one el_string _ rfl (.tmp 31) (.tmp 33) rfl w.heap.size _ _ _ rfl HO.out [.string (bs s)] rfl (one_str _) rfl ?c2 ?c3 ?c4 ?_)
              case c2 => omega
              case c3 => unfold maxLen; omega
              case c4 => exact HB.out.size
              intro g1 cap1 w1 ho1 hg1 hb1
              have HO1 := hid ho1
              have HB1 : Hid (Below w.heap.size w w1) := HB.out.trans hb1
              have hcell1 : w1.cell? ⟨g, k, none⟩ = some (.string (bs t)) := (hb1.cell (p := ⟨g, k, none⟩) hgw).trans hcell
              clear ho1 hg1 hb1
              go_wp2_with (at_builtin; refine app_one el_string _ rfl (.tmp 35) (.tmp 40) rfl w.heap.size _ _ _ rfl HO1.out [.string (bs t)] rfl (one_str _) rfl ?c2 ?c3 ?c4 ?_)
              case c2 => omega
              case c3 => unfold maxLen; omega
              case c4 => exact HB1.out.size
              intro g2 cap2 w2 ho2 hg2 hb2
              have HO2 := hid ho2
              have HB2 : Hid (Below w.heap.size w w2) := HB1.out.trans hb2
              clear ho2 hg2 hb2
              go_wp2_with fail
              go_roundw
              case rel =>
                refine ⟨k + 1, by omega, by go_num, by rw [HANY.out]; simp [hst], HNX.out, ?_, HB2.out⟩
                have e : wOut s (l.take (k + 1)) = wOut s (l.take k) ++ [s] ++ [t] := by rw [HWO.out]; simp [hst]
                have e2 := HO2.out
                rw [e, tcs_app, tcs_app, List.length_append, List.length_append, List.append_assoc]
                exact e2
              case measure => simp [intOf]; omega
            · have hq2 : Op.bytesLess s t = false := by rw [bytesLess_eq]; simpa using hst
              go_wp2_with (at_builtin; refine app_one el_string _ rfl (.tmp 35) (.tmp 40) rfl w.heap.size _ _ _ rfl HO.out [.string (bs t)] rfl (one_str _) rfl ?c2 ?c3 ?c4 ?_)
              case c2 => omega
              case c3 => unfold maxLen; omega
              case c4 => exact HB.out.size
              intro g2 cap2 w2 ho2 hg2 hb2
              have HO2 := hid ho2
              have HB2 : Hid (Below w.heap.size w w2) := HB.out.trans hb2
              clear ho2 hg2 hb2
              go_wp2_with fail
              go_roundw
              case rel =>
                refine ⟨k + 1, by omega, by go_num, by rw [HANY.out]; simp [hst], HNX.out, ?_, HB2.out⟩
                have e : wOut s (l.take (k + 1)) = wOut s (l.take k) ++ [t] := by rw [HWO.out]; simp [hst]
                rw [e, tcs_app, List.length_append]
                exact HO2.out
              case measure => simp [intOf]; omega
          · go_wp2_with (at_builtin; refine app_one el_string _ rfl (.tmp 35) (.tmp 40) rfl w.heap.size _ _ _ rfl HO.out [.string (bs t)] rfl (one_str _) rfl ?c2 ?c3 ?c4 ?_)
            case c2 => omega
            case c3 => unfold maxLen; omega
            case c4 => exact HB.out.size
            intro g2 cap2 w2 ho2 hg2 hb2
            have HO2 := hid ho2
            have HB2 : Hid (Below w.heap.size w w2) := HB.out.trans hb2
            clear ho2 hg2 hb2
            go_wp2_with fail
            go_roundw
            case rel =>
              refine ⟨k + 1, by omega, by go_num, by rw [HANY.out]; simp, HNX.out, ?_, HB2.out⟩
              have e : wOut s (l.take (k + 1)) = wOut s (l.take k) ++ [t] := by rw [HWO.out]; simp
              rw [e, tcs_app, List.length_append]
              exact HO2.out
            case measure => simp [intOf]; omega
      · clear hnot hown hb
        have hkl : l.take k = l := List.take_of_length_le (by omega)
        have HKL := hid hkl
        clear hkl
        generalize hd : ((l.take k).any fun y => decide (s < y)) = d at *
        have HD := hid hd
        clear hd
        cases d
        · go_wp2_with (at_builtin; refine app_one el_string _ rfl (.tmp 44) (.tmp 46) rfl w.heap.size _ _ _ rfl HO.out [.string (bs s)] rfl (one_str _) rfl ?c2 ?c3 ?c4 ?_)
          case c2 => omega
          case c3 => unfold maxLen; omega
          case c4 => exact HB.out.size
          intro g2 cap2 w2 ho2 hg2 hb2
          have HO2 := hid ho2
          have HB2 : Hid (Below w.heap.size w w2) := HB.out.trans hb2
          clear ho2 hg2 hb2
          go_wp2_with fail
          go_ret
          refine ⟨_, (wOut s (l.take k)).length + 1, rfl, ?_, HB2.out⟩
          have e : withT l s = wOut s (l.take k) ++ [s] := by
            have hk1 := HKL.out
            have hn1 := HNOT.out
            have hd1 := HD.out
            rw [hk1] at hn1 hd1 ⊢
            rw [withT, if_neg hn1, insT_none s l hd1, wOut, hd1]
            simp
          rw [e, tcs_app]
          exact ownsRow_mono HO2.out hbase
        · go_wp2_with fail
          go_ret
          refine ⟨_, (wOut s (l.take k)).length, rfl, ?_, HB.out⟩
          have e : withT l s = wOut s (l.take k) := by
            have hk1 := HKL.out
            have hn1 := HNOT.out
            have hd1 := HD.out
            rw [hk1] at hn1 hd1 ⊢
            rw [withT, if_neg hn1, wOut, hd1]
            simp
          rw [e]
          exact ownsRow_mono HO.out hbase
end Go.Proofs.Yteljbblbdiploaa
