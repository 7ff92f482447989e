/-
  WALKS: the statement's own 'lent': an update with a clock of its own.
-/
/-
  CONTRACTS: both Encodes, of every update, right or not: one answer.
-/
/-
  WALKS: the statement's own 'back': is what was lent as it was?
-/
import Derived.Test.YteljbblbdiploaaJAppUpd
import Derived.Laws.AppendOwnNone
import Derived.Test.YteljbblbdiploaaJRefEnc
namespace Go.Proofs.Yteljbblbdiploaa
open Go.RowKit

/-- numbers as a row's cells -/
def ics (zs : List Int) : List Value := zs.map (Value.int .i64)
theorem ics_len (zs : List Int) : (ics zs).length = zs.length := by simp [ics]
theorem ics_one (zs : List Int) : ∀ u ∈ ics zs, u.oneCell' = true := by
  intro u hu
  obtain ⟨b, _, rfl⟩ := List.mem_map.1 hu
  rfl

/-- a slice of numbers that came in: nil, or numbers that lie somewhere -/
def ClkAt (w : World) (ao : Option Addr) (cap : Nat) (zs : List Int) : Prop :=
  (ao = none ∧ zs = [] ∧ cap = 0) ∨ ∃ a, ao = some a ∧ ∀ j, j < zs.length → w.cell? (a.add j) = some (.int .i64 (zs.getD j 0))

theorem ClkAt.later {w w' : World} {ao : Option Addr} {cap : Nat} {zs : List Int} (h : ClkAt w ao cap zs) (hb : Below w.heap.size w w') : ClkAt w' ao cap zs := by
  rcases h with h | ⟨a, ha, hc⟩
  · exact .inl h
  · exact .inr ⟨a, ha, fun j hj => (hb.cell (World.block_lt_of_cell? w _ (hc j hj))).trans (hc j hj)⟩

theorem ownsRow_mono {w : World} {base base' : Nat} {e : TypeId} {size : Nat} {v : Value} {n : Nat} {xs : List Value} (h : w.ownsRow base e size v n xs) (hb : base' ≤ base) : w.ownsRow base' e size v n xs := by
  refine ⟨h.1, ?_⟩
  rcases h.2 with q | ⟨g, cap, cur, hv, hg, r⟩
  · exact .inl q
  · exact .inr ⟨g, cap, cur, hv, Nat.le_trans hb hg, r⟩

theorem ownsRow_later {w w' : World} {base : Nat} {e : TypeId} {size : Nat} {v : Value} {n : Nat} {xs : List Value} (h : w.ownsRow base e size v n xs) (hb : Below w.heap.size w w') : w'.ownsRow base e size v n xs := by
  refine ⟨h.1, ?_⟩
  rcases h.2 with q | ⟨g, cap, cur, hv, hg, hh, r⟩
  · exact .inl q
  · exact .inr ⟨g, cap, cur, hv, hg, (hb.block g (Array.getElem?_eq_some_iff.1 hh).1).trans hh, r⟩

theorem Try.infoInt : (Try.prog.info? 3).map (fun i => (i.zero, i.size, i.bytes)) = some (some (.int .i64 0), 1, 8) := by kernel_rfl

/-- append(nil, clock...) -/
theorem app_clk (w : World) {ops : Array Oper} {rest : List Oper} {o : Oper} {a : Act} {Q : Exit → Act → World → Prop} (hgd : o.guard = none) (s x : Operand)
    (ho : o.op = .call { callee := .builtin .append, args := #[s, x], argTypes := #[22, 22] }) (base : Nat) (hs : a.eval s = .slice none 0 0)
    (ao : Option Addr) (cap : Nat) (zs : List Int) (hx : a.eval x = .slice ao zs.length cap) (hsrc : ClkAt w ao cap zs) (hl : zs.length * 8 ≤ 140737488351232) (hbase : base ≤ w.heap.size)
    (h : ∀ v' w', w'.ownsRow base 3 1 v' zs.length (ics zs) → w.grownBy w' none → wpList Try.prog ops Q rest (a.put o.dst v') w') :
    wpList Try.prog ops Q (o :: rest) a w := by
  obtain ⟨i0, hi, hz0, hz1, hz2⟩ := info_parts Try.infoInt
  rcases hsrc with ⟨rfl, rfl, rfl⟩ | ⟨ad, rfl, hc⟩
  · refine wpList_append_own_none hgd s x 22 ho base 3 i0 1 Try.underlying22 hi (.slice none 0 0) 0 [] hs (World.ownsRow_nil _ _ _ _) hx ?_
    exact h _ w (World.ownsRow_nil _ _ _ _) ⟨rfl, rfl, rfl, Nat.le_refl _, fun _ _ _ => rfl⟩
  · refine wpList_append_own w hgd s x 22 ho base 3 i0 (.int .i64 0) 1 8 Try.underlying22 hi hz0 hz1 hz2 rfl (by decide) (.slice none 0 0) 0 [] hs (World.ownsRow_nil _ _ _ _) ad zs.length cap (ics zs) hx (by rw [ics_len, Nat.mul_one]) ?_ (ics_one zs) (by unfold maxLen; omega) (by omega) hbase ?_
    · intro j u hu
      have hj : j < zs.length := by
        have := (List.getElem?_eq_some_iff.1 hu).1
        rwa [ics_len] at this
      rw [hc j hj]
      simpa [ics, hj] using hu
    · intro v' w' h1 h2 _
      rw [Nat.zero_add, List.nil_append] at h1
      exact h v' w' h1 h2

set_option maxHeartbeats 2000000 in
theorem lent_any (org t k am o s : Int) (nm tx : ByteArray) (ao : Option Addr) (cap : Nat) (zs : List Int) (w : World) (hsrc : ClkAt w ao cap zs) (hl : zs.length * 8 ≤ 140737488351232) :
    Calls Try.prog 8 #[.agg #[.int .i64 org, .slice ao zs.length cap, .int .u8 t, .int .u8 k, .string nm, .string tx, .int .i64 am, .int .i64 o, .int .i64 s]] w
      fun e w' => ∃ g c2, e = .returned (.agg #[.int .i64 org, .slice (some ⟨g, 0, none⟩) zs.length c2, .int .u8 t, .int .u8 k, .string nm, .string tx, .int .i64 am, .int .i64 o, .int .i64 s]) ∧
        w'.ownsRow w.heap.size 3 1 (.slice (some ⟨g, 0, none⟩) (zs.length + 3) c2) (zs.length + 3) (ics (zs ++ [7000, 7000, 7000])) ∧ Below w.heap.size w w' := by
  have HSRC := hid hsrc
  clear hsrc
  obtain ⟨i0, hi, hz0, hz1, hz2⟩ := info_parts Try.infoInt
  go_enter Try.func8, Try.ntmps8
  go_wp2_with (at_builtin; refine app_clk _ rfl (.tmp 4) (.tmp 6) rfl (w.heap.size + 2) rfl ao cap zs rfl ?c1 hl ?c2 ?_)
  case c1 => exact HSRC.out.later (((Below.refl _ _).alloc (Nat.le_refl _) _).alloc (by simp) _)
  case c2 => simp
  intro v1 w1 hown1 hg1
  have HO1 := hid hown1
  have hrow : ∀ q, v1.ownBlock = some q → w.heap.size + 2 ≤ q := fun q hq => (hown1.lt q hq).1
  have HR := hid hrow
  have hb1 : Below (w.heap.size + 2) ((w.alloc (.cells #[.int .i64 org, .slice ao zs.length cap, .int .u8 t, .int .u8 k, .string nm, .string tx, .int .i64 am, .int .i64 o, .int .i64 s] 28)).alloc (.cells #[.int .i64 0, .slice none 0 0, .int .u8 0, .int .u8 0, .string ⟨#[]⟩, .string ⟨#[]⟩, .int .i64 0, .int .i64 0, .int .i64 0] 28)) w1 := (Below.refl _ _).grown hg1 (by simp) (fun q hq => by simp at hq)
  have HB1 := hid hb1
  have hs1 : w.heap.size + 2 ≤ w1.heap.size := by have := hb1.size; simp at this; omega
  clear hown1 hrow hb1 hg1
  go_wp2_with (at_builtin; refine wpList_append_lies _ rfl (.tmp 8) (.tmp 9) 22 rfl (w.heap.size + 2) 3 i0 (.int .i64 0) 1 8 Try.underlying22 hi hz0 hz1 hz2 rfl (by decide) v1 zs.length (ics zs) rfl (World.ownsRow.alloc HO1.out _) ⟨w1.heap.size, 0, none⟩ 3 3 [.int .i64 7000, .int .i64 7000, .int .i64 7000] rfl rfl (World.news_of_block (heap_alloc_new w1 _)) ?d2 (by decide) ?d3 ?d4 ?d5 (w1.heap.size + 1) ?d6 ?_)
  case d2 => simp; rfl
  case d3 => unfold maxLen; omega
  case d4 => omega
  case d5 => simp; omega
  case d6 => simp
  intro g cap2 w2 hown2 hg2 hat hlt
  have hb2 : Below (w.heap.size + 2) ((w.alloc (.cells #[.int .i64 org, .slice ao zs.length cap, .int .u8 t, .int .u8 k, .string nm, .string tx, .int .i64 am, .int .i64 o, .int .i64 s] 28)).alloc (.cells #[.int .i64 0, .slice none 0 0, .int .u8 0, .int .u8 0, .string ⟨#[]⟩, .string ⟨#[]⟩, .int .i64 0, .int .i64 0, .int .i64 0] 28)) w2 := (HB1.out.alloc hs1 _).grown hg2 (by simp; omega) (fun q hq => HR.out q hq)
  have hc0 : zs.length + 3 ≤ cap2 := by
    rcases hown2.2 with ⟨h, _⟩ | ⟨g', c', cur, hv, _, _, hnc, _⟩
    · cases h
    · cases hv; exact hnc
  have hcm : cap2 ≤ maxLen := by
    rcases hown2.2 with ⟨h, _⟩ | ⟨g', c', cur, hv, _, _, hnc, hm, _⟩
    · cases h
    · cases hv; exact hm
  unfold maxLen at hcm
  have hgl : w.heap.size + 2 ≤ g := by
    rcases hown2.2 with ⟨h, _⟩ | ⟨g', c', cur, hv, hb, _⟩
    · cases h
    · cases hv; exact hb
  obtain ⟨hc1, hf1⟩ := bcell hb2
  have HO2 := hid hown2
  have HB2 := hid hb2
  clear hown2 hg2 hat hb2
  go_wp2_with fail
  refine bodyPost_ret (v := .agg #[.int .i64 org, .slice (some ⟨g, 0, none⟩) zs.length cap2, .int .u8 t, .int .u8 k, .string nm, .string tx, .int .i64 am, .int .i64 o, .int .i64 s]) ?_ rfl ⟨g, cap2, rfl, ?_, ?_⟩
  · simp [results, Try.results8, go_sem, hc1]
  · have e : ics (zs ++ [7000, 7000, 7000]) = ics zs ++ [.int .i64 7000, .int .i64 7000, .int .i64 7000] := by simp [ics]
    rw [e]
    refine ownsRow_mono ?_ (show w.heap.size ≤ w.heap.size + 2 by omega)
    iterate 10 (refine ownsRow_setCell_below ?_ (by simp) _)
    exact HO2.out
  · refine Below.trans (((Below.refl _ _).alloc (Nat.le_refl _) _).alloc (by simp) _) (Below.trans (HB2.out.mono (by omega)) ?_)
    iterate 10 (refine Below.setCell ?_ (by simp) _)
    exact Below.refl _ _
end Go.Proofs.Yteljbblbdiploaa

namespace Go.Proofs.Yteljbblbdiploaa
open Go.RowKit

/-- is it an update? -/
def goodU (org : Int) (zs : List Int) (t k n x am o s : Int) : Bool := decide (2 ≤ zs.length ∧ zs.length ≤ 8) && updB org zs t k n x am o s
/-- its bytes, or none -/
def encR (org : Int) (zs : List Int) (t k : Int) (nm tx : ByteArray) (am o s : Int) : ByteArray :=
  if goodU org zs t k nm.size tx.size am o s then ⟨(withSum (encBody org zs t k nm.data.toList tx.data.toList am o s)).toArray⟩ else ⟨#[]⟩
/-- the error's number -/
def encE (org : Int) (zs : List Int) (t k : Int) (nm tx : ByteArray) (am o s : Int) : Int := if goodU org zs t k nm.size tx.size am o s then 0 else 2

theorem ClkAt.plain {w : World} {ao : Option Addr} {cap : Nat} {zs : List Int} (h : ClkAt w ao cap zs) (h0 : 0 < zs.length) :
    ∃ b off, ao = some ⟨b, off, none⟩ ∧ ∀ j, j < zs.length → w.cell? ⟨b, off + j, none⟩ = some (.int .i64 (zs.getD j 0)) := by
  rcases h with ⟨_, hz, _⟩ | ⟨a, rfl, hc⟩
  · rw [hz] at h0; simp at h0
  · obtain ⟨b, off, spot⟩ := a
    have hs : spot = none := by simpa [Addr.add] using World.cell?_spot (hc 0 h0)
    subst hs
    exact ⟨b, off, rfl, fun j hj => by have := hc j hj; rwa [Addr.add_lit] at this⟩

theorem own_clk2 {w : World} {base : Nat} {ao : Option Addr} {n cp : Nat} {zs : List Int} (h : w.ownsRow base 3 1 (.slice ao n cp) n (ics zs)) : n = zs.length ∧ ClkAt w ao cp zs := by
  have hn : n = zs.length := by have := h.1; rw [ics_len, Nat.mul_one] at this; exact this.symm
  refine ⟨hn, ?_⟩
  rcases h.2 with ⟨hv, h0⟩ | ⟨g, cap, cur, hv, _⟩
  · cases hv
    exact .inl ⟨rfl, List.eq_nil_of_length_eq_zero hn.symm, rfl⟩
  · cases hv
    refine .inr ⟨_, rfl, fun j hj => World.ownsRow.cells h (g := g) rfl j _ ?_⟩
    simp [ics, hj]

theorem wEncode_any (org t k am o s : Int) (nm tx : ByteArray) (ao : Option Addr) (cap : Nat) (zs : List Int) (w : World) (hsrc : ClkAt w ao cap zs) (hm : zs.length ≤ maxLen) (hn : nm.size ≤ maxLen) (hx : tx.size ≤ maxLen)
    (ht0 : 0 ≤ t) (ht1 : t < 256) (hk0 : 0 ≤ k) (hk1 : k < 256) :
    Calls Try.prog 9 #[.agg #[.int .i64 org, .slice ao zs.length cap, .int .u8 t, .int .u8 k, .string nm, .string tx, .int .i64 am, .int .i64 o, .int .i64 s]] w
      fun e w' => e = .returned (.tuple #[.string (encR org zs t k nm tx am o s), .int .i64 (encE org zs t k nm tx am o s)]) ∧ Below w.heap.size w w' := by
  by_cases hl : 2 ≤ zs.length ∧ zs.length ≤ 8
  · obtain ⟨b, off, rfl, hc⟩ := hsrc.plain (by omega)
    by_cases hu : updB org zs t k nm.size tx.size am o s = true
    · have hg : goodU org zs t k nm.size tx.size am o s = true := by simp [goodU, hl, hu]
      rw [encR, encE, if_pos hg, if_pos hg]
      exact wEncode_yes org t k am o s nm tx b off zs cap w hl.1 hl.2 hc ht0 ht1 hk0 hk1 hu
    · have hu' : updB org zs t k nm.size tx.size am o s = false := by simpa using hu
      have hg : ¬ goodU org zs t k nm.size tx.size am o s = true := by simp [goodU, hu']
      rw [encR, encE, if_neg hg, if_neg hg]
      exact wEncode_no org t k am o s nm tx b off zs cap w hl.1 hl.2 hc hn hx hu'
  · have hg : ¬ goodU org zs t k nm.size tx.size am o s = true := by simp only [goodU, Bool.and_eq_true, decide_eq_true_eq]; exact fun h => hl h.1
    rw [encR, encE, if_neg hg, if_neg hg]
    exact wEncode_short org t k am o s nm tx ao zs.length cap w (by omega) hm

theorem rEncode_any (org t k am o s : Int) (nm tx : ByteArray) (ao : Option Addr) (cap : Nat) (zs : List Int) (w : World) (hsrc : ClkAt w ao cap zs) (hm : zs.length ≤ maxLen) (hn : nm.size ≤ maxLen) (hx : tx.size ≤ maxLen)
    (ht0 : 0 ≤ t) (ht1 : t < 256) (hk0 : 0 ≤ k) (hk1 : k < 256) :
    Calls Try.prog 10 #[.agg #[.int .i64 org, .slice ao zs.length cap, .int .u8 t, .int .u8 k, .string nm, .string tx, .int .i64 am, .int .i64 o, .int .i64 s]] w
      fun e w' => e = .returned (.tuple #[.string (encR org zs t k nm tx am o s), .int .i64 (encE org zs t k nm tx am o s)]) ∧ Below w.heap.size w w' := by
  by_cases hl : 2 ≤ zs.length ∧ zs.length ≤ 8
  · obtain ⟨b, off, rfl, hc⟩ := hsrc.plain (by omega)
    by_cases hu : updB org zs t k nm.size tx.size am o s = true
    · have hg : goodU org zs t k nm.size tx.size am o s = true := by simp [goodU, hl, hu]
      rw [encR, encE, if_pos hg, if_pos hg]
      exact rEncode_yes org t k am o s nm tx b off zs cap w hl.1 hl.2 hc ht0 ht1 hk0 hk1 hu
    · have hu' : updB org zs t k nm.size tx.size am o s = false := by simpa using hu
      have hg : ¬ goodU org zs t k nm.size tx.size am o s = true := by simp [goodU, hu']
      rw [encR, encE, if_neg hg, if_neg hg]
      exact rEncode_no org t k am o s nm tx b off zs cap w hl.1 hl.2 hk0 hc hn hx hu'
  · have hg : ¬ goodU org zs t k nm.size tx.size am o s = true := by simp only [goodU, Bool.and_eq_true, decide_eq_true_eq]; exact fun h => hl h.1
    rw [encR, encE, if_neg hg, if_neg hg]
    exact rEncode_short org t k am o s nm tx ao zs.length cap w (by omega) hm
end Go.Proofs.Yteljbblbdiploaa

namespace Go.Proofs.Yteljbblbdiploaa
open Go.RowKit

/-- what 'back' finds from place j on: the numbers as they were lent; all may be written -/
def BackInv (w : World) (g : Nat) (zs : List Int) (j : Nat) : Prop :=
  (∀ q, j ≤ q → q < zs.length + 3 → w.cell? ⟨g, q, none⟩ = some (.int .i64 ((zs ++ [7000, 7000, 7000]).getD q 0))) ∧ (∀ q, q < zs.length + 3 → w.frozen? ⟨g, q, none⟩ = false)

theorem BackInv.alloc2 {w : World} {g : Nat} {zs : List Int} {j : Nat} (h : BackInv w g zs j) (hg : g < w.heap.size) (a b : Obj) : BackInv ((w.alloc a).alloc b) g zs j := by
  have hb : Below w.heap.size w ((w.alloc a).alloc b) := ((Below.refl _ _).alloc (Nat.le_refl _) _).alloc (by simp) _
  exact ⟨fun q h1 h2 => (hb.cell (p := ⟨g, q, none⟩) hg).trans (h.1 q h1 h2), fun q h2 => (hb.frozen (p := ⟨g, q, none⟩) hg).trans (h.2 q h2)⟩

theorem BackInv.step {w : World} {g : Nat} {zs : List Int} {j : Nat} (h : BackInv w g zs j) (i : Nat) (v : Value) (hi : i = j := by rfl) : BackInv (w.setCell ⟨g, i, none⟩ v) g zs (j + 1) := by
  subst hi
  refine ⟨fun q h1 h2 => ?_, fun q h2 => ?_⟩
  · have := h.1 q (by omega) h2
    rw [World.cell?_setCell_other]
    · exact this
    · intro e; cases e; omega
  · rw [World.frozen?_setCell]; exact h.2 q h2

theorem grown_set {W w : World} {g j : Nat} (h : W.grownBy w (some g)) (v : Value) : W.grownBy (w.setCell ⟨g, j, none⟩ v) (some g) :=
  ⟨h.os, h.tape, h.output, by simpa [World.setCell] using h.size, fun k hk hne => (Below.heap_setCell w ⟨g, j, none⟩ v k (fun e => hne (by rw [e]))).trans (h.block k hk hne)⟩

theorem back_mark (zs : List Int) (j : Nat) (h : zs.length ≤ j) (h3 : j < zs.length + 3) : (zs ++ [7000, 7000, 7000]).getD j 0 = 7000 := by
  obtain ⟨d, rfl⟩ := Nat.exists_eq_add_of_le h
  have : d = 0 ∨ d = 1 ∨ d = 2 := by omega
  rcases this with rfl | rfl | rfl <;> simp

theorem row_parts {w : World} {base g c2 : Nat} {zs : List Int} (hown : w.ownsRow base 3 1 (.slice (some ⟨g, 0, none⟩) (zs.length + 3) c2) (zs.length + 3) (ics (zs ++ [7000, 7000, 7000]))) :
    base ≤ g ∧ g < w.heap.size ∧ zs.length + 3 ≤ c2 ∧ c2 ≤ 9223372036854775807 ∧ (∀ q, q < zs.length + 3 → w.cell? ⟨g, q, none⟩ = some (.int .i64 ((zs ++ [7000, 7000, 7000]).getD q 0))) ∧ (∀ q, q < zs.length + 3 → w.frozen? ⟨g, q, none⟩ = false) := by
  have hcells := World.ownsRow.cells hown (g := g) rfl
  rcases hown.2 with ⟨h, _⟩ | ⟨g', c', cur, hv, hb, hh, hnc, hm, hcs, htk⟩
  · cases h
  · cases hv
    refine ⟨hb, (Array.getElem?_eq_some_iff.1 hh).1, hnc, by unfold maxLen at hm; omega, ?_, ?_⟩
    · intro q hq
      have hlen : q < (zs ++ [7000, 7000, 7000]).length := by simpa using hq
      have := hcells q (.int .i64 ((zs ++ [7000, 7000, 7000]).getD q 0)) (by rw [ics, List.getElem?_map, List.getD_eq_getElem?_getD, List.getElem?_eq_getElem hlen]; rfl)
      rwa [show (⟨g, 0, none⟩ : Addr).add q = ⟨g, q, none⟩ by rw [Addr.add_lit, Nat.zero_add]] at this
    · intro q hq
      exact frozen_of_row w g q cur _ hh

set_option maxHeartbeats 4000000 in
theorem back_plain (org t k am o s : Int) (nm tx : ByteArray) (b off : Nat) (cap : Nat) (zs : List Int) (g c2 base : Nat) (w : World) (hbb : b < base) (hc : ∀ k, k < zs.length → w.cell? ⟨b, off + k, none⟩ = some (.int .i64 (zs.getD k 0))) (hl : zs.length * 8 ≤ 140737488351232)
    (hown : w.ownsRow base 3 1 (.slice (some ⟨g, 0, none⟩) (zs.length + 3) c2) (zs.length + 3) (ics (zs ++ [7000, 7000, 7000]))) (hbw : base ≤ w.heap.size) :
    Calls Try.prog 11 #[.agg #[.int .i64 org, .slice (some ⟨g, 0, none⟩) zs.length c2, .int .u8 t, .int .u8 k, .string nm, .string tx, .int .i64 am, .int .i64 o, .int .i64 s], .agg #[.int .i64 org, .slice (some ⟨b, off, none⟩) zs.length cap, .int .u8 t, .int .u8 k, .string nm, .string tx, .int .i64 am, .int .i64 o, .int .i64 s]] w
      fun e w' => e = .returned (.bool true) ∧ Below base w w' := by
  obtain ⟨hgb, hgw, hnc, hcm, hcell, hfr⟩ := row_parts hown
  have HI0 : Hid (BackInv w g zs 0) := ⟨fun q _ hq => hcell q hq, hfr⟩
  clear hcell hfr hown
  have hbw' : b < w.heap.size := by omega
  have HC := hid hc
  clear hc
  go_enter Try.func11, Try.ntmps11
  go_wp2_with fail
  go_loopw [7, 8] (fun ok i wr => ∃ j : Nat, j ≤ zs.length + 3 ∧ i = .int .i64 j ∧ ok = .bool true ∧ BackInv wr g zs j ∧ ((w.alloc (.cells #[.int .i64 org, .slice (some ⟨g, 0, none⟩) zs.length c2, .int .u8 t, .int .u8 k, .string nm, .string tx, .int .i64 am, .int .i64 o, .int .i64 s] 28)).alloc (.cells #[.int .i64 org, .slice (some ⟨b, off, none⟩) zs.length cap, .int .u8 t, .int .u8 k, .string nm, .string tx, .int .i64 am, .int .i64 o, .int .i64 s] 28)).grownBy wr (some g)) (fun _ i _ => zs.length + 3 - (intOf i).toNat)
  case atStart => exact ⟨0, by omega, rfl, rfl, HI0.out.alloc2 hgw _ _, ⟨rfl, rfl, rfl, Nat.le_refl _, fun _ _ _ => rfl⟩⟩
  case round =>
    obtain ⟨j, hj, rfl, rfl, hinv, hgr⟩ := hrel
    have HINV := hid hinv
    have HGR := hid hgr
    have q1 : wr.cell? ⟨w.heap.size + 1, 1, none⟩ = some (.slice (some ⟨b, off, none⟩) zs.length cap) := by
      rw [hgr.cell_far ⟨w.heap.size + 1, 1, none⟩ (by simp) (by simp; omega)]; simp [go_sem]
    clear hinv hgr
    by_cases hlt : j < zs.length + 3
    · have c0 := HINV.out.1 j (Nat.le_refl _) hlt
      have f0 := HINV.out.2 j hlt
      have HNX : Hid (BackInv (wr.setCell ⟨g, j, none⟩ (.int .i64 7001)) g zs (j + 1)) := HINV.out.step _ _
      have HGX : Hid (((w.alloc (.cells #[.int .i64 org, .slice (some ⟨g, 0, none⟩) zs.length c2, .int .u8 t, .int .u8 k, .string nm, .string tx, .int .i64 am, .int .i64 o, .int .i64 s] 28)).alloc (.cells #[.int .i64 org, .slice (some ⟨b, off, none⟩) zs.length cap, .int .u8 t, .int .u8 k, .string nm, .string tx, .int .i64 am, .int .i64 o, .int .i64 s] 28)).grownBy (wr.setCell ⟨g, j, none⟩ (.int .i64 7001)) (some g)) := grown_set HGR.out _
      by_cases hjn : j < zs.length
      · have e0 : (zs ++ [7000, 7000, 7000]).getD j 0 = zs.getD j 0 := by simp [List.getElem?_append, hjn]
        rw [e0] at c0
        clear e0
        have d0 : wr.cell? ⟨b, off + j, none⟩ = some (.int .i64 (zs.getD j 0)) := by
          rw [HGR.out.cell_far ⟨b, off + j, none⟩ (by simp; omega) (by simp; omega)]; simp [go_sem, hbw', show b < w.heap.size + 1 by omega]; exact (HC.out j hjn)
        generalize zs.getD j 0 = z at *
        go_wp2_with fail
        go_roundw
        case rel => exact ⟨j + 1, by omega, by go_num, by first | rfl | simp, HNX.out, HGX.out⟩
        case measure => simp [intOf]; omega
      · have e0 : (zs ++ [7000, 7000, 7000]).getD j 0 = 7000 := back_mark zs j (by omega) hlt
        rw [e0] at c0
        clear e0
        go_wp2_with fail
        go_roundw
        case rel => exact ⟨j + 1, by omega, by go_num, by first | rfl | simp, HNX.out, HGX.out⟩
        case measure => simp [intOf]; omega
    · go_wp2_with fail
      go_ret
      exact ⟨rfl, (((Below.refl _ _).alloc hbw _).alloc (by simp; omega) _).trans ((Below.refl _ _).grown HGR.out (by simp; omega) (fun q hq => by cases hq; exact hgb))⟩

set_option maxHeartbeats 4000000 in
theorem back_empty (org t k am o s : Int) (nm tx : ByteArray) (ao : Option Addr) (cap : Nat) (zs : List Int) (g c2 base : Nat) (w : World) (h0 : zs.length < 1) (_hl : zs.length * 8 ≤ 140737488351232)
    (hown : w.ownsRow base 3 1 (.slice (some ⟨g, 0, none⟩) (zs.length + 3) c2) (zs.length + 3) (ics (zs ++ [7000, 7000, 7000]))) (hbw : base ≤ w.heap.size) :
    Calls Try.prog 11 #[.agg #[.int .i64 org, .slice (some ⟨g, 0, none⟩) zs.length c2, .int .u8 t, .int .u8 k, .string nm, .string tx, .int .i64 am, .int .i64 o, .int .i64 s], .agg #[.int .i64 org, .slice ao zs.length cap, .int .u8 t, .int .u8 k, .string nm, .string tx, .int .i64 am, .int .i64 o, .int .i64 s]] w
      fun e w' => e = .returned (.bool true) ∧ Below base w w' := by
  obtain ⟨hgb, hgw, hnc, hcm, hcell, hfr⟩ := row_parts hown
  have HI0 : Hid (BackInv w g zs 0) := ⟨fun q _ hq => hcell q hq, hfr⟩
  clear hcell hfr hown
  go_enter Try.func11, Try.ntmps11
  go_wp2_with fail
  go_loopw [7, 8] (fun ok i wr => ∃ j : Nat, j ≤ zs.length + 3 ∧ i = .int .i64 j ∧ ok = .bool true ∧ BackInv wr g zs j ∧ ((w.alloc (.cells #[.int .i64 org, .slice (some ⟨g, 0, none⟩) zs.length c2, .int .u8 t, .int .u8 k, .string nm, .string tx, .int .i64 am, .int .i64 o, .int .i64 s] 28)).alloc (.cells #[.int .i64 org, .slice ao zs.length cap, .int .u8 t, .int .u8 k, .string nm, .string tx, .int .i64 am, .int .i64 o, .int .i64 s] 28)).grownBy wr (some g)) (fun _ i _ => zs.length + 3 - (intOf i).toNat)
  case atStart => exact ⟨0, by omega, rfl, rfl, HI0.out.alloc2 hgw _ _, ⟨rfl, rfl, rfl, Nat.le_refl _, fun _ _ _ => rfl⟩⟩
  case round =>
    obtain ⟨j, hj, rfl, rfl, hinv, hgr⟩ := hrel
    have HINV := hid hinv
    have HGR := hid hgr
    have q1 : wr.cell? ⟨w.heap.size + 1, 1, none⟩ = some (.slice ao zs.length cap) := by
      rw [hgr.cell_far ⟨w.heap.size + 1, 1, none⟩ (by simp) (by simp; omega)]; simp [go_sem]
    clear hinv hgr
    by_cases hlt : j < zs.length + 3
    · have c0 := HINV.out.1 j (Nat.le_refl _) hlt
      have f0 := HINV.out.2 j hlt
      have HNX : Hid (BackInv (wr.setCell ⟨g, j, none⟩ (.int .i64 7001)) g zs (j + 1)) := HINV.out.step _ _
      have HGX : Hid (((w.alloc (.cells #[.int .i64 org, .slice (some ⟨g, 0, none⟩) zs.length c2, .int .u8 t, .int .u8 k, .string nm, .string tx, .int .i64 am, .int .i64 o, .int .i64 s] 28)).alloc (.cells #[.int .i64 org, .slice ao zs.length cap, .int .u8 t, .int .u8 k, .string nm, .string tx, .int .i64 am, .int .i64 o, .int .i64 s] 28)).grownBy (wr.setCell ⟨g, j, none⟩ (.int .i64 7001)) (some g)) := grown_set HGR.out _
      by_cases hjn : j < zs.length
      · omega
      · have e0 : (zs ++ [7000, 7000, 7000]).getD j 0 = 7000 := back_mark zs j (by omega) hlt
        rw [e0] at c0
        clear e0
        go_wp2_with fail
        go_roundw
        case rel => exact ⟨j + 1, by omega, by go_num, by first | rfl | simp, HNX.out, HGX.out⟩
        case measure => simp [intOf]; omega
    · go_wp2_with fail
      go_ret
      exact ⟨rfl, (((Below.refl _ _).alloc hbw _).alloc (by simp; omega) _).trans ((Below.refl _ _).grown HGR.out (by simp; omega) (fun q hq => by cases hq; exact hgb))⟩
end Go.Proofs.Yteljbblbdiploaa
