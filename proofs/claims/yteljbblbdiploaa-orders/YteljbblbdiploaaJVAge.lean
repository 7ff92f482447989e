/-
  WALKS: package crdt: the inserts in the order of their ages.
-/
import Derived.Test.YteljbblbdiploaaJVChn
import Derived.Test.YteljbblbdiploaaJVRange
import Derived.Test.YteljbblbdiploaaJVWith
import Derived.Shelf.SlSortCmp.NoneTotal
namespace Go.Proofs.Yteljbblbdiploaa
open Go.RowKit

theorem el_insert : ElemOf 130 122 6 56 (.agg #[.int .i64 0, .int .i64 0, .int .i64 0, .int .i64 0, .int .i64 0, .string ⟨#[]⟩]) := ⟨Try.underlying130, by kernel_rfl, rfl, by decide⟩

/-- one's six cells -/
def insCells (u : Up) : List Value := [.int .i64 u.age, .int .i64 u.id.1, .int .i64 u.id.2, .int .i64 u.ao, .int .i64 u.az, .string (bs u.x)]
def insFlat (us : List Up) : List Value := us.flatMap insCells
theorem insFlat_app (us : List Up) (u : Up) : insFlat (us ++ [u]) = insFlat us ++ insCells u := by simp [insFlat]
theorem ins_one (u : Up) : ∀ v ∈ insCells u, v.oneCell' = true := by
  intro v hv
  simp only [insCells, List.mem_cons, List.not_mem_nil, or_false] at hv
  rcases hv with rfl | rfl | rfl | rfl | rfl | rfl <;> rfl
/-- an insert as a pair of the map -/
def pairI (u : Up) : (Int × Int) × Value := (u.id, insV u)

theorem perm_map_inv {α β : Type} (f : α → β) : ∀ {l : List α} {m : List β}, (l.map f).Perm m → ∃ l', l.Perm l' ∧ m = l'.map f := by
  intro l m h
  generalize hk : l.map f = k at h
  induction h generalizing l with
  | nil => exact ⟨[], by rw [List.map_eq_nil_iff.1 hk], rfl⟩
  | cons x _ ih =>
    obtain ⟨a, r, rfl, rfl, hr⟩ := List.map_eq_cons_iff.1 hk
    obtain ⟨r', h1, h2⟩ := ih hr
    exact ⟨a :: r', h1.cons a, by rw [h2]; rfl⟩
  | swap x y l0 =>
    obtain ⟨a, r, rfl, rfl, hr⟩ := List.map_eq_cons_iff.1 hk
    obtain ⟨b, r2, rfl, rfl, rfl⟩ := List.map_eq_cons_iff.1 hr
    exact ⟨b :: a :: r2, List.Perm.swap b a r2, rfl⟩
  | trans _ _ ih1 ih2 =>
    obtain ⟨l1, h1, rfl⟩ := ih1 hk
    obtain ⟨l2, h2, h3⟩ := ih2 rfl
    exact ⟨l2, h1.trans h2, h3⟩

/-- how many are left, as the world has it -/
def rngLeft (w : World) (b r : Nat) : Nat := match w.heap[b]?, w.heap[r]? with | some (.map es _), some (.mapIter _ _ seen _) => (leftOf es seen).size | _, _ => 0
theorem RngI.left {w : World} {b r : Nat} {kv left : List ((Int × Int) × Value)} (h : RngI w b r kv left) : rngLeft w b r = left.length := by
  obtain ⟨es, clock, since, seen, c0, hb, _, _, _, _, _, hr, hl⟩ := h
  rw [rngLeft, hb, hr, ← entI_perm hl, Array.length_toList]

/-! ### The sort -/
theorem insFlat_len (us : List Up) : (insFlat us).length = us.length * 6 := by
  induction us with
  | nil => rfl
  | cons u us ih => rw [insFlat, List.flatMap_cons, List.length_append, ← insFlat, ih, List.length_cons]; simp [insCells]; omega
theorem insFlat_get [Inhabited Up] : ∀ (us : List Up) (t : Nat), t < us.length * 6 → (insFlat us)[t]? = some (insCells us[t / 6]!)[t % 6]!
  | [], t, h => by simp at h
  | u :: us, t, h => by
    rw [insFlat, List.flatMap_cons, ← insFlat]
    by_cases h6 : t < 6
    · rw [List.getElem?_append_left (by simpa [insCells] using h6), Nat.div_eq_of_lt h6, Nat.mod_eq_of_lt h6]
      have : t < (insCells u).length := by simpa [insCells] using h6
      simp [this]
    · obtain ⟨s, rfl⟩ : ∃ s, t = s + 6 := ⟨t - 6, by omega⟩
      have hs : s < us.length * 6 := by rw [List.length_cons] at h; omega
      rw [List.getElem?_append_right (by simp [insCells])]
      have e1 : s + 6 - (insCells u).length = s := by simp [insCells]
      rw [e1, insFlat_get us s hs, Nat.add_div_right s (by omega), Nat.add_mod_right]
      simp
theorem flat_ins [Inhabited Up] (us : List Up) : (Sort.flatK insCells 6 us.toArray).toList = insFlat us := by
  refine List.ext_getElem? fun t => ?_
  by_cases ht : t < us.length * 6
  · have hz : t < (Sort.flatK insCells 6 us.toArray).size := by rw [Sort.size_flatK]; simpa using ht
    rw [insFlat_get us t ht, Array.getElem?_toList, Array.getElem?_eq_getElem hz]
    have := Sort.get_flatK insCells 6 us.toArray t (by simpa using ht)
    rw [getElem!_pos _ t hz] at this
    rw [this]
    simp
  · rw [List.getElem?_eq_none (by rw [Array.length_toList, Sort.size_flatK]; simp; omega), List.getElem?_eq_none (by rw [insFlat_len]; omega)]

/-- a row of the call's own, laid anew -/
theorem own_putK {w : World} {base g n cap k : Nat} {E : TypeId} {xs : List Value} {F : Array Value} (h : w.ownsRow base E k (.slice (some ⟨g, 0, none⟩) n cap) n xs) (hF : F.size = n * k) :
    (Sort.putRow id w g 0 F).ownsRow base E k (.slice (some ⟨g, 0, none⟩) n cap) n F.toList := by
  rcases h.2 with ⟨hv, _⟩ | ⟨g', cap', cur, hv, hg, hh, hnc, hmx, hsz, htk⟩
  · cases hv
  · cases hv
    have hlt := (Array.getElem?_eq_some_iff.1 hh).1
    refine ⟨by rw [Array.length_toList, hF], .inr ⟨g, cap, Sort.putCells id 0 F cur, rfl, hg, ?_, hnc, hmx, ?_, ?_⟩⟩
    · unfold Sort.putRow Sort.mapBlock
      simp [Array.getElem?_modify, hh]
      rfl
    · simp [Sort.putCells, hsz]
    · refine List.ext_getElem? fun j => ?_
      rw [List.getElem?_take]
      by_cases hj : j < n * k
      · rw [if_pos hj]
        have hjc : j < cur.size := by rw [hsz]; exact Nat.lt_of_lt_of_le hj (Nat.mul_le_mul_right k hnc)
        have hjF : j < F.size := by omega
        simp [Sort.putCells, hjc, hjF]
      · rw [if_neg hj, List.getElem?_eq_none (by rw [Array.length_toList]; omega)]
theorem below_putK {w : World} {base g : Nat} (hg : base ≤ g) (hb : base ≤ w.heap.size) (q : Nat) (F : Array Value) (os : Array Obj) : RowKit.Below base w (Sort.grow (Sort.putRow id (Sort.ahead w q) g 0 F) os) := by
  have hsz : (Sort.putRow id (Sort.ahead w q) g 0 F).heap.size = w.heap.size := by rw [Sort.size_putRow]; rfl
  refine ⟨rfl, rfl, rfl, ?_, fun k hk => ?_⟩
  · show w.heap.size ≤ ((Sort.putRow id (Sort.ahead w q) g 0 F).heap ++ os).size
    rw [Array.size_append, hsz]; omega
  · show ((Sort.putRow id (Sort.ahead w q) g 0 F).heap ++ os)[k]? = _
    rw [Array.getElem?_append_left (by omega)]
    unfold Sort.putRow Sort.mapBlock
    simp only [Array.getElem?_modify]
    rw [if_neg (by omega)]
    rfl
theorem own_growK {w : World} {base k : Nat} {E : TypeId} {v : Value} {n : Nat} {xs : List Value} (h : w.ownsRow base E k v n xs) (os : Array Obj) : (Sort.grow w os).ownsRow base E k v n xs := by
  refine ownsRow_later h ⟨rfl, rfl, rfl, ?_, fun k hk => ?_⟩
  · show w.heap.size ≤ (w.heap ++ os).size
    rw [Array.size_append]; omega
  · show (w.heap ++ os)[k]? = _
    rw [Array.getElem?_append_left hk]

theorem sortAge_any (base g n cap : Nat) (us : List Up) (w : World) (hbase : base ≤ w.heap.size) (h : w.ownsRow base 122 6 (.slice (some ⟨g, 0, none⟩) n cap) n (insFlat us)) (hn : n = us.length) (h8 : n ≤ 8000) :
    Calls Try.prog 106 #[.slice (some ⟨g, 0, none⟩) n cap, .func (.func 107) #[] #[]] w fun e w' => e = .returned (.tuple #[]) ∧ ∃ us', us'.Perm us ∧ (us'.Pairwise fun a b => aheadB a b = false) ∧ w'.ownsRow base 122 6 (.slice (some ⟨g, 0, none⟩) n cap) n (insFlat us') ∧ RowKit.Below base w w' := by
  haveI : Inhabited Up := ⟨⟨0, [], 0, 0, [], [], 0, 0, 0⟩⟩
  subst hn
  obtain ⟨hg1, hg2⟩ := h.lt g rfl
  have hH : Sort.HoldsK insCells 6 w g 0 us.toArray := by
    intro j hj
    rw [Sort.size_flatK] at hj
    have hz : j < (Sort.flatK insCells 6 us.toArray).size := by rw [Sort.size_flatK]; exact hj
    rcases h.2 with ⟨hv, _⟩ | ⟨g', cap', cur, hv, hg, hh, _⟩
    · cases hv
    · cases hv
      refine ⟨?_, frozen_of_row w g _ _ _ hh⟩
      have := World.ownsRow.cells h (g := g) rfl j (Sort.flatK insCells 6 us.toArray)[j]! (by
        rw [← flat_ins us, Array.getElem?_toList, Array.getElem?_eq_getElem hz, getElem!_pos _ j hz])
      rw [Addr.add_lit] at this
      exact this
  have hc : CmpLays Try.prog 107 #[] insCells 6 cmpU g 0 us.toArray.size w := fun m os dk _ x y => (byAge_cmp x y _).mono fun e w' q => q
  have key := AnyQ.slices_SortFunc Try.sfL 6 (fun w => by kernel_rfl) (fun w => by kernel_rfl) insCells (fun _ => rfl) ins_one cmpU cmp_swo 107 #[] g 0 cap us.toArray w (fun args w => by kernel_rfl) hc hH hg2 (by simp; omega)
  have e0 : us.toArray.size = us.length := by simp
  rw [e0] at key
  refine key.mono ?_
  rintro e w' ⟨rfl, d', m, os, hp, hs, rfl⟩
  obtain ⟨p1, _, p3⟩ := hp
  have e1 : (d'.extract 0 us.length) = d' := by rw [← e0, ← p1]; simp
  have e2 : (us.toArray.extract 0 us.length) = us.toArray := by rw [← e0]; simp
  rw [e1, e2] at p3
  refine ⟨rfl, d'.toList, by simpa using p3, ?_, ?_, below_putK hg1 hbase m _ os⟩
  · rw [List.pairwise_iff_getElem]
    intro i j hi hj hij
    have hi' : i < d'.size := by simpa using hi
    have hj' : j < d'.size := by simpa using hj
    have := hs i j (Nat.zero_le _) hij (by rw [← e0, ← p1]; exact hj')
    rw [cmp_ahead, getElem!_pos d' i hi', getElem!_pos d' j hj'] at this
    simpa using this
  · have q := own_putK (w := Sort.ahead w m) (F := Sort.flatK insCells 6 d') h (by rw [Sort.size_flatK, p1, e0])
    have e3 : d' = d'.toList.toArray := by simp
    have e4 : (Sort.flatK insCells 6 d').toList = insFlat d'.toList := by
      have := flat_ins d'.toList
      rwa [← e3] at this
    rw [e4] at q
    exact own_growK q os

set_option maxRecDepth 16000 in
set_option maxHeartbeats 1000000 in
theorem byAge_any (B : Nat) (l : List Up) (w : World) (hm : MapI w B (l.map pairI)) (hs : Ups l) (hl : l.length ≤ 8000) :
    Calls Try.prog 91 #[.map (some B)] w fun e w' => ∃ v, e = .returned v ∧ w'.ownsRow w.heap.size 122 6 v l.length (insFlat (agedU l)) ∧ Below w.heap.size w w' := by
  have HM := hid hm
  have HS := hid hs
  have hBw := hm.lt
  clear hm hs
  go_enter Try.func91, Try.ntmps91
  go_wp2_with (refine wp_range_id _ rfl (.tmp 6) 114 rfl 122 Try.underlying114 B (l.map pairI) rfl HM.out ?_)
  intro w1 hr1 hg1 hz1
  have HR1 := hid hr1
  have HG1 : Hid (Below w.heap.size w w1) := (Below.refl _ _).grown hg1 (Nat.le_refl _) (fun j hj => by cases hj)
  clear hr1 hg1
  go_wp2_with fail
  go_loopw [3] (fun v wr => ∃ us rest : List Up, (us ++ rest).Perm l ∧ RngI wr B w.heap.size (l.map pairI) (rest.map pairI) ∧ wr.ownsRow (w.heap.size + 1) 122 6 v us.length (insFlat us) ∧ Below w.heap.size w wr) (fun _ wr => rngLeft wr B w.heap.size)
  case atStart => exact ⟨[], l, List.Perm.refl _, HR1.out, World.ownsRow_nil _ _ _ _, HG1.out⟩
  case round =>
    obtain ⟨us, rest, hp, hr, ho, hb⟩ := hrel
    have HP := hid hp
    have HR := hid hr
    have HO := hid ho
    have HB := hid hb
    clear hp hr ho hb
    go_wp2_with (refine wp_next_id _ rfl (.tmp 7) rfl B w.heap.size (l.map pairI) (rest.map pairI) rfl HR.out ?done ?more)
    case more =>
      intro a b v left' w2 hperm hr2 hg2 hz2 hent
      obtain ⟨rest2, hp2, he2⟩ := perm_map_inv pairI hperm
      obtain ⟨u, r2, rfl, hu, rfl⟩ := List.map_eq_cons_iff.1 he2.symm
      simp only [pairI, Prod.mk.injEq] at hu
      obtain ⟨-, rfl⟩ := hu
      have HP2 : Hid (((us ++ [u]) ++ r2).Perm l) := by
        refine List.Perm.trans ?_ HP.out
        rw [List.append_assoc]
        exact (hp2.symm).append_left us
      have hbw : Below w.heap.size w w2 := HB.out.grown hg2 HB.out.size (fun j hj => by cases hj; exact Nat.le_refl _)
      have hle : us.length + 1 ≤ 8000 := by have := HP2.out.length_eq; simp at this; omega
      have hown := HO.out.kept hg2 (.inr (own_ge HO.out (Nat.lt_succ_self _)).symm)
      have HO2 := hid hown
      have HR2 := hid hr2
      have HBW := hid hbw
      have hzw : w.heap.size + 1 ≤ w2.heap.size := by have := hr2.lt.2; omega
      clear hperm hr2 hg2 hp2 he2 hown hbw hz2
      unfold insV at hent
      go_wp2_with (at_builtin; go_must (refine app_one el_insert _ rfl (.tmp 12) (.tmp 14) rfl (w.heap.size + 1) _ _ _ rfl (HO2.out.alloc _) (insCells u) rfl (ins_one u) (by rw [World.size_alloc]; rfl) ?c2 ?c3 ?c4 ?_))
      case c2 => omega
      case c3 => unfold maxLen; omega
      case c4 => simp; omega
      intro g3 cap3 w3 ho3 hg3 hb3
      have HO3 : Hid (w3.ownsRow (w.heap.size + 1) 122 6 (.slice (some ⟨g3, 0, none⟩) (us ++ [u]).length cap3) (us ++ [u]).length (insFlat (us ++ [u]))) := by
        rw [insFlat_app, List.length_append]; exact ho3
      have hg23 := (World.grownBy_alloc w2 _ _).trans hg3
      have HR3 : Hid (RngI w3 B w.heap.size (l.map pairI) (r2.map pairI)) := HR2.out.kept hg23 (own_ge HO2.out (by omega)) (own_ge HO2.out (by omega))
      have HB3 : Hid (Below w.heap.size w w3) := HBW.out.grown hg23 HBW.out.size (fun j hj => by have := own_base HO2.out j hj; omega)
      clear ho3 hg3 hb3 hent hg23
      go_wp2_with fail
      go_roundw
      case rel => exact ⟨us ++ [u], r2, HP2.out, HR3.out, by simpa using HO3.out, HB3.out⟩
      case measure =>
        rw [HR3.out.left, HR.out.left]
        have := HP.out.length_eq
        have := HP2.out.length_eq
        simp at *
        omega
    case done =>
      intro hrest
      have hus : us.Perm l := by have := HP.out; rw [hrest, List.append_nil] at this; exact this
      have HUS := hid hus
      have HUL := hid hus.length_eq
      have hu8 : us.length ≤ 8000 := by rw [hus.length_eq]; exact hl
      clear hrest hus
      have hown := HO.out
      have hzw : w.heap.size + 1 ≤ wr.heap.size := by have := HR.out.lt.2; omega
      rcases hown.2 with ⟨hv, h0⟩ | ⟨g, cp, cur, hv, -⟩
      · subst hv
        have hl0 : l = [] := List.eq_nil_of_length_eq_zero (by rw [← HUL.out]; exact h0)
        have HL0 := hid hl0
        clear hown hl0 h0
        go_wp2_with fail
        refine (AnyF.slices_SortFunc_none Try.sfL none 0 _ wr).mono ?_
        rintro e w' ⟨rfl, rfl⟩
        go_wp2_with fail
        go_ret
        exact ⟨_, rfl, by rw [HL0.out]; exact World.ownsRow_nil _ _ _ _, HB.out⟩
      · subst hv
        clear hown
        go_wp2_with fail
        refine (sortAge_any (w.heap.size + 1) g us.length cp us wr hzw HO.out rfl hu8).mono ?_
        rintro e w4 ⟨rfl, us', hp', hs', ho', hb'⟩
        have heq := aged_unique HS.out (hp'.trans HUS.out) hs'
        subst heq
        have HO4 := hid ho'
        have HB4 : Hid (Below w.heap.size w w4) := HB.out.trans (hb'.mono (by omega))
        clear ho' hb' hs' hp'
        go_wp2_with fail
        go_ret
        exact ⟨_, rfl, by have := ownsRow_mono HO4.out (Nat.le_succ w.heap.size); rw [← HUL.out]; exact this, HB4.out⟩
end Go.Proofs.Yteljbblbdiploaa
