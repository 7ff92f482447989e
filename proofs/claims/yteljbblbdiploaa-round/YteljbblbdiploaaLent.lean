/-
  WALKS: the statement's own 'lent': an update with a clock of its own.
-/
import Derived.Test.YteljbblbdiploaaAppUpd
import Derived.Laws.AppendOwnNone
namespace Go.Proofs.Yteljbblbdiploaa
open Go.RowKit

/-- numbers as a row's cells -/
def ics (zs : List Int) : List Value := zs.map (Value.int .i64)
theorem ics_len (zs : List Int) : (ics zs).length = zs.length := by simp [ics]
theorem ics_one (zs : List Int) : ∀ u ∈ ics zs, u.oneCell' = true := by
  intro u hu
  obtain ⟨b, _, rfl⟩ := List.mem_map.1 hu
  rfl

/-- a slice of numbers that came in: nil, or numbers that lie somewhere -/
def ClkAt (w : World) (ao : Option Addr) (cap : Nat) (zs : List Int) : Prop :=
  (ao = none ∧ zs = [] ∧ cap = 0) ∨ ∃ a, ao = some a ∧ ∀ j, j < zs.length → w.cell? (a.add j) = some (.int .i64 (zs.getD j 0))

theorem ClkAt.later {w w' : World} {ao : Option Addr} {cap : Nat} {zs : List Int} (h : ClkAt w ao cap zs) (hb : Below w.heap.size w w') : ClkAt w' ao cap zs := by
  rcases h with h | ⟨a, ha, hc⟩
  · exact .inl h
  · exact .inr ⟨a, ha, fun j hj => (hb.cell (World.block_lt_of_cell? w _ (hc j hj))).trans (hc j hj)⟩

theorem ownsRow_mono {w : World} {base base' : Nat} {e : TypeId} {size : Nat} {v : Value} {n : Nat} {xs : List Value} (h : w.ownsRow base e size v n xs) (hb : base' ≤ base) : w.ownsRow base' e size v n xs := by
  refine ⟨h.1, ?_⟩
  rcases h.2 with q | ⟨g, cap, cur, hv, hg, r⟩
  · exact .inl q
  · exact .inr ⟨g, cap, cur, hv, Nat.le_trans hb hg, r⟩

theorem ownsRow_later {w w' : World} {base : Nat} {e : TypeId} {size : Nat} {v : Value} {n : Nat} {xs : List Value} (h : w.ownsRow base e size v n xs) (hb : Below w.heap.size w w') : w'.ownsRow base e size v n xs := by
  refine ⟨h.1, ?_⟩
  rcases h.2 with q | ⟨g, cap, cur, hv, hg, hh, r⟩
  · exact .inl q
  · exact .inr ⟨g, cap, cur, hv, hg, (hb.block g (Array.getElem?_eq_some_iff.1 hh).1).trans hh, r⟩

theorem Try.infoInt : (Try.prog.info? 3).map (fun i => (i.zero, i.size, i.bytes)) = some (some (.int .i64 0), 1, 8) := by kernel_rfl

/-- append(nil, clock...) -/
theorem app_clk (w : World) {ops : Array Oper} {rest : List Oper} {o : Oper} {a : Act} {Q : Exit → Act → World → Prop} (hgd : o.guard = none) (s x : Operand)
    (ho : o.op = .call { callee := .builtin .append, args := #[s, x], argTypes := #[22, 22] }) (base : Nat) (hs : a.eval s = .slice none 0 0)
    (ao : Option Addr) (cap : Nat) (zs : List Int) (hx : a.eval x = .slice ao zs.length cap) (hsrc : ClkAt w ao cap zs) (hl : zs.length * 8 ≤ 140737488351232) (hbase : base ≤ w.heap.size)
    (h : ∀ v' w', w'.ownsRow base 3 1 v' zs.length (ics zs) → w.grownBy w' none → wpList Try.prog ops Q rest (a.put o.dst v') w') :
    wpList Try.prog ops Q (o :: rest) a w := by
  obtain ⟨i0, hi, hz0, hz1, hz2⟩ := info_parts Try.infoInt
  rcases hsrc with ⟨rfl, rfl, rfl⟩ | ⟨ad, rfl, hc⟩
  · refine wpList_append_own_none hgd s x 22 ho base 3 i0 1 Try.underlying22 hi (.slice none 0 0) 0 [] hs (World.ownsRow_nil _ _ _ _) hx ?_
    exact h _ w (World.ownsRow_nil _ _ _ _) ⟨rfl, rfl, rfl, Nat.le_refl _, fun _ _ _ => rfl⟩
  · refine wpList_append_own w hgd s x 22 ho base 3 i0 (.int .i64 0) 1 8 Try.underlying22 hi hz0 hz1 hz2 rfl (by decide) (.slice none 0 0) 0 [] hs (World.ownsRow_nil _ _ _ _) ad zs.length cap (ics zs) hx (by rw [ics_len, Nat.mul_one]) ?_ (ics_one zs) (by unfold maxLen; omega) (by omega) hbase ?_
    · intro j u hu
      have hj : j < zs.length := by
        have := (List.getElem?_eq_some_iff.1 hu).1
        rwa [ics_len] at this
      rw [hc j hj]
      simpa [ics, hj] using hu
    · intro v' w' h1 h2 _
      rw [Nat.zero_add, List.nil_append] at h1
      exact h v' w' h1 h2

set_option maxHeartbeats 2000000 in
theorem lent_any (org t k am o s : Int) (nm tx : ByteArray) (ao : Option Addr) (cap : Nat) (zs : List Int) (w : World) (hsrc : ClkAt w ao cap zs) (hl : zs.length * 8 ≤ 140737488351232) :
    Calls Try.prog 8 #[.agg #[.int .i64 org, .slice ao zs.length cap, .int .u8 t, .int .u8 k, .string nm, .string tx, .int .i64 am, .int .i64 o, .int .i64 s]] w
      fun e w' => ∃ g c2, e = .returned (.agg #[.int .i64 org, .slice (some ⟨g, 0, none⟩) zs.length c2, .int .u8 t, .int .u8 k, .string nm, .string tx, .int .i64 am, .int .i64 o, .int .i64 s]) ∧
        w'.ownsRow w.heap.size 3 1 (.slice (some ⟨g, 0, none⟩) (zs.length + 3) c2) (zs.length + 3) (ics (zs ++ [7000, 7000, 7000])) ∧ Below w.heap.size w w' := by
  have HSRC := hid hsrc
  clear hsrc
  obtain ⟨i0, hi, hz0, hz1, hz2⟩ := info_parts Try.infoInt
  go_enter Try.func8, Try.ntmps8
  go_wp2_with (at_builtin; refine app_clk _ rfl (.tmp 4) (.tmp 6) rfl (w.heap.size + 2) rfl ao cap zs rfl ?c1 hl ?c2 ?_)
  case c1 => exact HSRC.out.later (((Below.refl _ _).alloc (Nat.le_refl _) _).alloc (by simp) _)
  case c2 => simp
  intro v1 w1 hown1 hg1
  have HO1 := hid hown1
  have hrow : ∀ q, v1.ownBlock = some q → w.heap.size + 2 ≤ q := fun q hq => (hown1.lt q hq).1
  have HR := hid hrow
  have hb1 : Below (w.heap.size + 2) ((w.alloc (.cells #[.int .i64 org, .slice ao zs.length cap, .int .u8 t, .int .u8 k, .string nm, .string tx, .int .i64 am, .int .i64 o, .int .i64 s] 28)).alloc (.cells #[.int .i64 0, .slice none 0 0, .int .u8 0, .int .u8 0, .string ⟨#[]⟩, .string ⟨#[]⟩, .int .i64 0, .int .i64 0, .int .i64 0] 28)) w1 := (Below.refl _ _).grown hg1 (by simp) (fun q hq => by simp at hq)
  have HB1 := hid hb1
  have hs1 : w.heap.size + 2 ≤ w1.heap.size := by have := hb1.size; simp at this; omega
  clear hown1 hrow hb1 hg1
  go_wp2_with (at_builtin; refine wpList_append_lies _ rfl (.tmp 8) (.tmp 9) 22 rfl (w.heap.size + 2) 3 i0 (.int .i64 0) 1 8 Try.underlying22 hi hz0 hz1 hz2 rfl (by decide) v1 zs.length (ics zs) rfl (World.ownsRow.alloc HO1.out _) ⟨w1.heap.size, 0, none⟩ 3 3 [.int .i64 7000, .int .i64 7000, .int .i64 7000] rfl rfl (World.news_of_block (heap_alloc_new w1 _)) ?d2 (by decide) ?d3 ?d4 ?d5 (w1.heap.size + 1) ?d6 ?_)
  case d2 => simp; rfl
  case d3 => unfold maxLen; omega
  case d4 => omega
  case d5 => simp; omega
  case d6 => simp
  intro g cap2 w2 hown2 hg2 hat hlt
  have hb2 : Below (w.heap.size + 2) ((w.alloc (.cells #[.int .i64 org, .slice ao zs.length cap, .int .u8 t, .int .u8 k, .string nm, .string tx, .int .i64 am, .int .i64 o, .int .i64 s] 28)).alloc (.cells #[.int .i64 0, .slice none 0 0, .int .u8 0, .int .u8 0, .string ⟨#[]⟩, .string ⟨#[]⟩, .int .i64 0, .int .i64 0, .int .i64 0] 28)) w2 := (HB1.out.alloc hs1 _).grown hg2 (by simp; omega) (fun q hq => HR.out q hq)
  have hc0 : zs.length + 3 ≤ cap2 := by
    rcases hown2.2 with ⟨h, _⟩ | ⟨g', c', cur, hv, _, _, hnc, _⟩
    · cases h
    · cases hv; exact hnc
  have hcm : cap2 ≤ maxLen := by
    rcases hown2.2 with ⟨h, _⟩ | ⟨g', c', cur, hv, _, _, hnc, hm, _⟩
    · cases h
    · cases hv; exact hm
  unfold maxLen at hcm
  have hgl : w.heap.size + 2 ≤ g := by
    rcases hown2.2 with ⟨h, _⟩ | ⟨g', c', cur, hv, hb, _⟩
    · cases h
    · cases hv; exact hb
  obtain ⟨hc1, hf1⟩ := bcell hb2
  have HO2 := hid hown2
  have HB2 := hid hb2
  clear hown2 hg2 hat hb2
  go_wp2_with fail
  refine bodyPost_ret (v := .agg #[.int .i64 org, .slice (some ⟨g, 0, none⟩) zs.length cap2, .int .u8 t, .int .u8 k, .string nm, .string tx, .int .i64 am, .int .i64 o, .int .i64 s]) ?_ rfl ⟨g, cap2, rfl, ?_, ?_⟩
  · simp [results, Try.results8, go_sem, hc1]
  · have e : ics (zs ++ [7000, 7000, 7000]) = ics zs ++ [.int .i64 7000, .int .i64 7000, .int .i64 7000] := by simp [ics]
    rw [e]
    refine ownsRow_mono ?_ (show w.heap.size ≤ w.heap.size + 2 by omega)
    iterate 10 (refine ownsRow_setCell_below ?_ (by simp) _)
    exact HO2.out
  · refine Below.trans (((Below.refl _ _).alloc (Nat.le_refl _) _).alloc (by simp) _) (Below.trans (HB2.out.mono (by omega)) ?_)
    iterate 10 (refine Below.setCell ?_ (by simp) _)
    exact Below.refl _ _
end Go.Proofs.Yteljbblbdiploaa
