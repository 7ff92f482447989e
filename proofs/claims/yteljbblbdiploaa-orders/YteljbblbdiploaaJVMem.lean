/-
  PLAIN: what updates come to: as the program reckons it, and as the document says it; no Go text in sight.
-/
/-
  SMALL LAWS: updates as values, and as they lie in a row.
-/
import Derived.Test.YteljbblbdiploaaJVSeq
import Derived.Test.YteljbblbdiploaaJBack
namespace Go.Proofs.Yteljbblbdiploaa

/-- an update -/
structure Up where
  o : Int
  c : List Int
  t : Int
  k : Int
  n : Tx
  x : Tx
  a : Int
  ao : Int
  az : Int

def Up.good (u : Up) : Bool := goodU u.o u.c u.t u.k u.n.length u.x.length u.a u.ao u.az
def Up.at (u : Up) (i : Int) : Int := u.c.getD i.toNat 0
def Up.seq (u : Up) : Int := u.at u.o
def Up.id (u : Up) : Int × Int := (u.o, u.seq)
def Up.anc (u : Up) : Int × Int := (u.ao, u.az)
def Up.age (u : Up) : Int := u.c.sum

theorem Up.good_iff (u : Up) : u.good = true ↔ (2 ≤ u.c.length ∧ u.c.length ≤ 8) ∧ (∀ n ∈ u.c, 0 ≤ n ∧ n ≤ 1000) ∧ (0 ≤ u.o ∧ u.o < u.c.length) ∧ 0 < u.seq ∧ opB u.t u.k u.n.length u.x.length u.a u.ao u.az = true := by
  simp only [Up.good, goodU, updB, clkB, wthn, Up.seq, Up.at, Bool.and_eq_true, decide_eq_true_eq]
  constructor
  · rintro ⟨h1, ⟨⟨h2, h3, h4⟩, h5⟩, h6⟩
    exact ⟨h1, h2, ⟨h3, by omega⟩, h5, h6⟩
  · rintro ⟨h1, h2, ⟨h3, h4⟩, h5, h6⟩
    exact ⟨h1, ⟨⟨h2, h3, by omega⟩, h5⟩, h6⟩

theorem getD_in {l : List Int} {i : Nat} (h : ∀ n ∈ l, 0 ≤ n ∧ n ≤ 1000) : 0 ≤ l.getD i 0 ∧ l.getD i 0 ≤ 1000 := by
  rw [List.getD_eq_getElem?_getD]
  by_cases hi : i < l.length
  · rw [List.getElem?_eq_getElem hi]; exact h _ (List.getElem_mem hi)
  · rw [List.getElem?_eq_none (by omega)]; simp
theorem Up.at_in {u : Up} (h : u.good = true) (i : Int) : 0 ≤ u.at i ∧ u.at i ≤ 1000 := getD_in ((u.good_iff.1 h).2.1)
theorem sum_in : ∀ {l : List Int}, (∀ n ∈ l, 0 ≤ n ∧ n ≤ 1000) → 0 ≤ l.sum ∧ l.sum ≤ 1000 * l.length
  | [], _ => by simp
  | x :: l, h => by
    have := sum_in (l := l) fun n hn => h n (by simp [hn])
    have := h x (by simp)
    simp only [List.sum_cons, List.length_cons]
    omega
theorem Up.age_in {u : Up} (h : u.good = true) : 0 ≤ u.age ∧ u.age ≤ 8000 := by
  obtain ⟨h1, h2, _⟩ := u.good_iff.1 h
  have := sum_in h2
  unfold Up.age
  omega

/-- the updates of one list: all are some, of clocks of one length, no two of one id -/
structure Ups (l : List Up) : Prop where
  good : ∀ u ∈ l, u.good = true
  one : ∀ u ∈ l, ∀ v ∈ l, u.c.length = v.c.length
  ids : l.Pairwise fun u v => u.id ≠ v.id

theorem Ups.filter {l : List Up} (h : Ups l) (p : Up → Bool) : Ups (l.filter p) :=
  ⟨fun u hu => h.good u (List.mem_filter.1 hu).1, fun u hu v hv => h.one u (List.mem_filter.1 hu).1 v (List.mem_filter.1 hv).1, h.ids.filter _⟩
theorem Ups.eq {l : List Up} (h : Ups l) {u v : Up} (hu : u ∈ l) (hv : v ∈ l) (e : u.id = v.id) : u = v := by
  obtain ⟨i, hi, rfl⟩ := List.getElem_of_mem hu
  obtain ⟨j, hj, rfl⟩ := List.getElem_of_mem hv
  have hp := List.pairwise_iff_getElem.1 h.ids
  rcases Nat.lt_trichotomy i j with q | q | q
  · exact absurd e (hp i j hi hj q)
  · subst q; rfl
  · exact absurd e.symm (hp j i hj hi q)

/-! ### Reaches -/
/-- what was known in r or by this clock -/
def rWith (r c : List Int) : List Int := (List.range r.length).map fun i => if i < c.length then max (r.getD i 0) (c.getD i 0) else r.getD i 0
def zero8 : List Int := [0, 0, 0, 0, 0, 0, 0, 0]
theorem rWith_len (r c : List Int) : (rWith r c).length = r.length := by simp [rWith]
theorem rWith_nil (r : List Int) : rWith r [] = r := by
  refine List.ext_getElem (by simp [rWith]) fun i h1 h2 => ?_
  simp [rWith, h2]
theorem rWith_get (r c : List Int) {i : Nat} (hi : i < r.length) : (rWith r c).getD i 0 = if i < c.length then max (r.getD i 0) (c.getD i 0) else r.getD i 0 := by
  simp [rWith, hi]
/-- one number more -/
theorem rWith_snoc (r c : List Int) (n : Int) (h : c.length < r.length) : rWith r (c ++ [n]) = (rWith r c).set c.length (max ((rWith r c).getD c.length 0) n) := by
  refine List.ext_getElem (by simp [rWith_len]) fun i h1 h2 => ?_
  rw [rWith_len] at h1
  have g : ∀ (d : List Int) (hd : i < (rWith r d).length), (rWith r d)[i] = if i < d.length then max (r.getD i 0) (d.getD i 0) else r.getD i 0 := fun d hd => by
    rw [← rWith_get r d h1, List.getD_eq_getElem?_getD, List.getElem?_eq_getElem hd]; rfl
  rw [List.getElem_set, g, g, rWith_get _ _ h]
  simp only [List.length_append, List.length_singleton]
  by_cases hi : i < c.length
  · rw [if_pos (by omega), if_pos hi, if_neg (by omega)]; simp [List.getElem?_append, hi]
  · by_cases he : i = c.length
    · subst he; simp
    · rw [if_neg (by omega), if_neg (by omega), if_neg (by omega)]

/-- a reach has an update -/
def rHas (r : List Int) (u : Up) : Bool := decide (u.seq ≤ r.getD u.o.toNat 0)

/-- what some clocks knew of -/
def rAll (cs : List (List Int)) : List Int := cs.foldl rWith zero8
theorem rAll_app (cs : List (List Int)) (c : List Int) : rAll (cs ++ [c]) = rWith (rAll cs) c := by simp [rAll]
theorem rAll_len (cs : List (List Int)) : (rAll cs).length = 8 := by
  suffices ∀ (cs : List (List Int)) (r : List Int), (cs.foldl rWith r).length = r.length from this cs zero8
  intro cs
  induction cs with
  | nil => intro r; rfl
  | cons c cs ih => intro r; rw [List.foldl_cons, ih, rWith_len]
theorem rAll_le (cs : List (List Int)) (i : Nat) (hi : i < 8) (v : Int) (hv : 0 < v) : v ≤ (rAll cs).getD i 0 ↔ ∃ c ∈ cs, v ≤ c.getD i 0 := by
  suffices ∀ (cs : List (List Int)) (r : List Int), i < r.length → (v ≤ (cs.foldl rWith r).getD i 0 ↔ v ≤ r.getD i 0 ∨ ∃ c ∈ cs, v ≤ c.getD i 0) by
    rw [rAll, this cs zero8 hi]
    have : ¬ v ≤ zero8.getD i 0 := by
      have : zero8.getD i 0 = 0 := by
        rcases i with _ | _ | _ | _ | _ | _ | _ | _ | i <;> first | rfl | omega
      omega
    exact ⟨fun h => h.resolve_left this, .inr⟩
  intro cs
  induction cs with
  | nil => intro r _; simp
  | cons c cs ih =>
    intro r hr
    rw [List.foldl_cons, ih _ (by rw [rWith_len]; exact hr), rWith_get r c hr]
    simp only [List.mem_cons, exists_eq_or_imp]
    by_cases hc : i < c.length
    · rw [if_pos hc]
      constructor
      · rintro (h | h)
        · rcases (by omega : v ≤ r.getD i 0 ∨ v ≤ c.getD i 0) with h | h
          · exact .inl h
          · exact .inr (.inl h)
        · exact .inr (.inr h)
      · rintro (h | h | h)
        · exact .inl (by omega)
        · exact .inl (by omega)
        · exact .inr h
    · rw [if_neg hc]
      have : c.getD i 0 = 0 := by rw [List.getD_eq_getElem?_getD, List.getElem?_eq_none (by omega)]; rfl
      rw [this]
      constructor
      · rintro (h | h)
        · exact .inl h
        · exact .inr (.inr h)
      · rintro (h | h | h)
        · exact .inl h
        · omega
        · exact .inr h

/-! ### A set -/
/-- removes of this text, and clears, that knew of an add -/
def goneS (l : List Up) (a : Up) : Bool := l.any fun b => (decide (b.k = 2) || (decide (b.k = 1) && decide (b.x = a.x))) && decide (a.seq ≤ b.at a.o)
def clearsOf (l : List Up) : List Int := rAll ((l.filter fun u => decide (u.k = 2)).map Up.c)
def removesOf (l : List Up) (x : Tx) : List Int := rAll ((l.filter fun u => decide (u.k = 1) && decide (u.x = x)).map Up.c)
/-- the adds that stay: as the program finds them -/
def addsOf (l : List Up) : List Tx := (l.filter fun u => decide (u.k = 0) && !rHas (clearsOf l) u && !rHas (removesOf l u.x) u).map Up.x

theorem goneS_reach {l : List Up} {a : Up} (ha : 0 < a.seq) (h8 : a.o.toNat < 8) : goneS l a = (rHas (clearsOf l) a || rHas (removesOf l a.x) a) := by
  have e : ∀ cs, rHas (rAll cs) a = true ↔ ∃ c ∈ cs, a.seq ≤ c.getD a.o.toNat 0 := fun cs => by rw [rHas, decide_eq_true_eq]; exact rAll_le _ _ h8 _ ha
  rw [Bool.eq_iff_iff, Bool.or_eq_true, clearsOf, removesOf, e, e]
  simp only [goneS, Bool.or_eq_true, decide_eq_true_eq, List.any_eq_true, Bool.and_eq_true, List.mem_map, List.mem_filter]
  constructor
  · rintro ⟨b, hb, h | ⟨h, h'⟩, hs⟩
    · exact .inl ⟨_, ⟨b, ⟨hb, h⟩, rfl⟩, hs⟩
    · exact .inr ⟨_, ⟨b, ⟨hb, h, h'⟩, rfl⟩, hs⟩
  · rintro (⟨_, ⟨b, ⟨hb, h⟩, rfl⟩, hs⟩ | ⟨_, ⟨b, ⟨hb, h, h'⟩, rfl⟩, hs⟩)
    · exact ⟨b, hb, .inl h, hs⟩
    · exact ⟨b, hb, .inr ⟨h, h'⟩, hs⟩

/-- 'behind' -/
def behindB (a b : Up) : Bool := decide (a.id ≠ b.id) && decide (b.seq ≤ a.at b.o)
/-- taken away, as the document says it of a set's add and of a register's write -/
def goneD (reg : Bool) (l : List Up) (a : Up) : Bool := l.any fun b => (reg || (decide (b.k = 2) || (decide (b.k = 1) && decide (b.x = a.x)))) && behindB b a
/-- the texts that stay, as the document says it -/
def textsD (reg : Bool) (l : List Up) : List Tx := (l.filter fun u => (reg || decide (u.k = 0)) && !goneD reg l u).map Up.x

theorem goneD_set {l : List Up} (hl : Ups l) {a : Up} (ha : a ∈ l) (hk : a.k = 0) : goneD false l a = goneS l a := by
  rw [Bool.eq_iff_iff]
  simp only [goneD, goneS, behindB, Bool.false_or, List.any_eq_true, Bool.and_eq_true, Bool.or_eq_true, decide_eq_true_eq]
  constructor
  · rintro ⟨b, hb, h, _, hs⟩; exact ⟨b, hb, h, hs⟩
  · rintro ⟨b, hb, h, hs⟩
    refine ⟨b, hb, h, fun e => ?_, hs⟩
    have := hl.eq hb ha e
    subst this
    rcases h with h | h <;> omega

theorem Ups.seq_pos {l : List Up} (hl : Ups l) {a : Up} (ha : a ∈ l) : 0 < a.seq ∧ a.o.toNat < 8 := by
  have := (a.good_iff.1 (hl.good a ha))
  exact ⟨this.2.2.2.1, by omega⟩

/-- A SET: both find the same -/
theorem addsOf_D {l : List Up} (hl : Ups l) : addsOf l = textsD false l := by
  unfold addsOf textsD
  congr 1
  refine List.filter_congr fun u hu => ?_
  obtain ⟨h0, h8⟩ := hl.seq_pos hu
  rw [Bool.false_or]
  by_cases hk : u.k = 0
  · rw [goneD_set hl hu hk, goneS_reach h0 h8]
    simp [hk, Bool.not_or]
  · simp [hk]

/-! ### A register -/
/-- best and second best of some numbers -/
def best2 (ns : List Int) : Int × Int := ns.foldl (fun p n => (max p.1 n, max p.2 (min p.1 n))) (0, 0)
theorem best2_app (ns : List Int) (n : Int) : best2 (ns ++ [n]) = (max (best2 ns).1 n, max (best2 ns).2 (min (best2 ns).1 n)) := by simp [best2]
theorem best2_le (v : Int) (hv : 0 < v) (ns : List Int) : (v ≤ (best2 ns).1 ↔ 1 ≤ ns.countP fun n => decide (v ≤ n)) ∧ (v ≤ (best2 ns).2 ↔ 2 ≤ ns.countP fun n => decide (v ≤ n)) := by
  suffices ∀ r : List Int, (v ≤ (best2 r.reverse).1 ↔ 1 ≤ r.reverse.countP fun n => decide (v ≤ n)) ∧ (v ≤ (best2 r.reverse).2 ↔ 2 ≤ r.reverse.countP fun n => decide (v ≤ n)) by
    have := this ns.reverse; rwa [List.reverse_reverse] at this
  intro r
  induction r with
  | nil => simp [best2]; omega
  | cons n r ih =>
    obtain ⟨h1, h2⟩ := ih
    rw [List.reverse_cons, best2_app, List.countP_append, List.countP_singleton]
    by_cases hn : v ≤ n
    · simp only [hn, decide_true, if_true]; omega
    · simp only [hn, decide_false, Bool.false_eq_true, if_false]; omega

/-- the second best of what the clocks have at a place -/
def secondAt (l : List Up) (i : Nat) : Int := (best2 (l.map fun u => u.c.getD i 0)).2
def secondOf (l : List Up) : List Int := (List.range 8).map (secondAt l)
def bestOf (l : List Up) : List Int := (List.range 8).map fun i => (best2 (l.map fun u => u.c.getD i 0)).1
/-- the writes that stay: as the program finds them -/
def writesOf (l : List Up) : List Tx := (l.filter fun u => !rHas (secondOf l) u).map Up.x

theorem two_of_count {p : Up → Bool} {a : Up} : ∀ {l : List Up}, l.Nodup → a ∈ l → p a = true → (2 ≤ l.countP p ↔ ∃ b ∈ l, b ≠ a ∧ p b = true)
  | [], _, h, _ => by simp at h
  | c :: l, hn, ha, hp => by
    obtain ⟨h1, h2⟩ := List.nodup_cons.1 hn
    rw [List.countP_cons]
    rcases List.mem_cons.1 ha with rfl | ha'
    · rw [if_pos hp]
      constructor
      · intro h
        have : 0 < l.countP p := by omega
        obtain ⟨b, hb, hpb⟩ := List.countP_pos_iff.1 this
        exact ⟨b, by simp [hb], fun e => h1 (e ▸ hb), hpb⟩
      · rintro ⟨b, hb, hne, hpb⟩
        rcases List.mem_cons.1 hb with rfl | hb
        · exact absurd rfl hne
        · have := List.countP_pos_iff.2 ⟨b, hb, hpb⟩; omega
    · have ih := two_of_count h2 ha' hp
      have hpos := List.countP_pos_iff.2 ⟨a, ha', hp⟩
      by_cases hc : p c = true
      · rw [if_pos hc]
        refine ⟨fun _ => ⟨c, by simp, fun e => h1 (e ▸ ha'), hc⟩, fun _ => by omega⟩
      · rw [if_neg hc]
        rw [Nat.add_zero, ih]
        constructor
        · rintro ⟨b, hb, hne, hpb⟩; exact ⟨b, by simp [hb], hne, hpb⟩
        · rintro ⟨b, hb, hne, hpb⟩
          rcases List.mem_cons.1 hb with rfl | hb
          · exact absurd hpb hc
          · exact ⟨b, hb, hne, hpb⟩
theorem Ups.nodup {l : List Up} (hl : Ups l) : l.Nodup := hl.ids.imp fun {_ _} h e => h (congrArg Up.id e)

theorem goneD_reg {l : List Up} (hl : Ups l) {a : Up} (ha : a ∈ l) : goneD true l a = rHas (secondOf l) a := by
  obtain ⟨h0, h8⟩ := hl.seq_pos ha
  have e : (secondOf l).getD a.o.toNat 0 = secondAt l a.o.toNat := by simp [secondOf, h8]
  rw [Bool.eq_iff_iff, rHas, e, decide_eq_true_eq, secondAt, (best2_le _ h0 _).2, List.countP_map, two_of_count hl.nodup ha (by simp [Up.seq, Up.at])]
  simp only [goneD, behindB, Bool.true_or, Bool.true_and, List.any_eq_true, Bool.and_eq_true, decide_eq_true_eq, Function.comp]
  constructor
  · rintro ⟨b, hb, hne, hs⟩; exact ⟨b, hb, fun e => hne (congrArg Up.id e), hs⟩
  · rintro ⟨b, hb, hne, hs⟩; exact ⟨b, hb, fun e => hne (hl.eq hb ha e), hs⟩

/-- A REGISTER: both find the same -/
theorem writesOf_D {l : List Up} (hl : Ups l) : writesOf l = textsD true l := by
  unfold writesOf textsD
  congr 1
  refine List.filter_congr fun u hu => ?_
  rw [goneD_reg hl hu, Bool.true_or, Bool.true_and]
end Go.Proofs.Yteljbblbdiploaa

namespace Go.Proofs.Yteljbblbdiploaa
open Go.RowKit

abbrev bs (l : Tx) : ByteArray := ⟨l.toArray⟩
theorem bs_size (l : Tx) : (bs l).size = l.length := by simp [ByteArray.size]

/-- an update as a value, its clock being this slice -/
def upV (u : Up) (ao : Option Addr) (cap : Nat) : Value :=
  .agg #[.int .i64 u.o, .slice ao u.c.length cap, .int .u8 u.t, .int .u8 u.k, .string (bs u.n), .string (bs u.x), .int .i64 u.a, .int .i64 u.ao, .int .i64 u.az]
def upCells (u : Up) (ao : Option Addr) (cap : Nat) : List Value :=
  [.int .i64 u.o, .slice ao u.c.length cap, .int .u8 u.t, .int .u8 u.k, .string (bs u.n), .string (bs u.x), .int .i64 u.a, .int .i64 u.ao, .int .i64 u.az]

/-- what is known of whatever update came in -/
structure UpFit (u : Up) : Prop where
  c : u.c.length * 8 ≤ 140737488351232
  n : u.n.length ≤ maxLen
  x : u.x.length ≤ maxLen
  t : 0 ≤ u.t ∧ u.t < 256
  k : 0 ≤ u.k ∧ u.k < 256

/-- an update lies here -/
structure UpAt (w : World) (b p : Nat) (u : Up) (ao : Option Addr) (cap : Nat) : Prop where
  cell : ∀ i, i < 9 → w.cell? ⟨b, p + i, none⟩ = (upCells u ao cap)[i]?
  clk : ClkAt w ao cap u.c
  fit : UpFit u

/-- updates lie in a row -/
def UpsAt (w : World) (b off : Nat) (l : List Up) : Prop := ∀ j u, l[j]? = some u → ∃ ao cap, UpAt w b (off + j * 9) u ao cap

theorem UpAt.lt {w : World} {b p : Nat} {u : Up} {ao : Option Addr} {cap : Nat} (h : UpAt w b p u ao cap) : b < w.heap.size := lt_of_cell (h.cell 0 (by omega))
theorem UpAt.later {w w' : World} {b p : Nat} {u : Up} {ao : Option Addr} {cap : Nat} (h : UpAt w b p u ao cap) (hb : Below w.heap.size w w') : UpAt w' b p u ao cap :=
  ⟨fun i hi => (hb.cell (p := ⟨b, p + i, none⟩) h.lt).trans (h.cell i hi), h.clk.later hb, h.fit⟩
theorem UpsAt.later {w w' : World} {b off : Nat} {l : List Up} (h : UpsAt w b off l) (hb : Below w.heap.size w w') : UpsAt w' b off l :=
  fun j u hu => by obtain ⟨ao, cap, k⟩ := h j u hu; exact ⟨ao, cap, k.later hb⟩
theorem UpsAt.take {w : World} {b off : Nat} {l : List Up} (h : UpsAt w b off l) (n : Nat) : UpsAt w b off (l.take n) := fun j u hu => h j u (by
  rw [List.getElem?_take] at hu
  split at hu
  · exact hu
  · cases hu)

/-- a list of updates that came in: nil, or a row -/
def UpsIn (w : World) (v : Value) (l : List Up) : Prop := (∃ ao cap, v = .slice ao 0 cap ∧ l = []) ∨ ∃ b off cap, v = .slice (some ⟨b, off, none⟩) l.length cap ∧ UpsAt w b off l
theorem UpsIn.later {w w' : World} {v : Value} {l : List Up} (h : UpsIn w v l) (hb : Below w.heap.size w w') : UpsIn w' v l := by
  rcases h with h | ⟨b, off, cap, h1, h2⟩
  · exact .inl h
  · exact .inr ⟨b, off, cap, h1, h2.later hb⟩

theorem update_any (u : Up) (ao : Option Addr) (cap : Nat) (w : World) (hc : ClkAt w ao cap u.c) (hf : UpFit u) :
    Calls Try.prog 25 #[upV u ao cap] w fun e w' => e = .returned (.bool u.good) ∧ Below w.heap.size w w' := by
  have hn : (bs u.n).size ≤ maxLen := by rw [bs_size]; exact hf.n
  have hx : (bs u.x).size ≤ maxLen := by rw [bs_size]; exact hf.x
  by_cases hl : 2 ≤ u.c.length ∧ u.c.length ≤ 8
  · obtain ⟨b, off, rfl, hp⟩ := hc.plain (by omega)
    refine (update_long u.o u.t u.k u.a u.ao u.az (bs u.n) (bs u.x) b off u.c cap w hl.1 hl.2 hp hn hx).mono ?_
    rintro e w' ⟨rfl, hb⟩
    exact ⟨ret_bool (by rw [bs_size, bs_size]; simp [Up.good, goodU, hl]), hb⟩
  · refine (update_short u.o u.t u.k u.a u.ao u.az (bs u.n) (bs u.x) ao u.c.length cap w (by omega) (by have := hf.c; unfold maxLen; omega)).mono ?_
    rintro e w' ⟨rfl, hb⟩
    refine ⟨ret_bool ?_, hb⟩
    symm
    rw [Bool.eq_false_iff]
    simp only [Up.good, goodU, ne_eq, Bool.and_eq_true, decide_eq_true_eq]
    exact fun h => hl h.1

theorem isUpdate_any (u : Up) (ao : Option Addr) (cap : Nat) (w : World) (hc : ClkAt w ao cap u.c) (hf : UpFit u) :
    Calls Try.prog 28 #[upV u ao cap] w fun e w' => e = .returned (.bool u.good) ∧ Below w.heap.size w w' := by
  have hn : (bs u.n).size ≤ maxLen := by rw [bs_size]; exact hf.n
  have hx : (bs u.x).size ≤ maxLen := by rw [bs_size]; exact hf.x
  by_cases hl : 2 ≤ u.c.length ∧ u.c.length ≤ 8
  · obtain ⟨b, off, rfl, hp⟩ := hc.plain (by omega)
    refine (isUpdate_long u.o u.t u.k u.a u.ao u.az (bs u.n) (bs u.x) b off u.c cap w hl.1 hl.2 hf.k.1 hp hn hx).mono ?_
    rintro e w' ⟨rfl, hb⟩
    exact ⟨ret_bool (by rw [bs_size, bs_size]; simp [Up.good, goodU, hl]), hb⟩
  · refine (isUpdate_short u.o u.t u.k u.a u.ao u.az (bs u.n) (bs u.x) ao u.c.length cap w (by omega) (by have := hf.c; unfold maxLen; omega)).mono ?_
    rintro e w' ⟨rfl, hb⟩
    refine ⟨ret_bool ?_, hb⟩
    symm
    rw [Bool.eq_false_iff]
    simp only [Up.good, goodU, ne_eq, Bool.and_eq_true, decide_eq_true_eq]
    exact fun h => hl h.1

theorem UpAt.nine {w : World} {b p : Nat} {u : Up} {ao : Option Addr} {cap : Nat} (h : UpAt w b p u ao cap) : w.cell? ⟨b, p, none⟩ = some (.int .i64 u.o) ∧ w.cell? ⟨b, p + 1, none⟩ = some (.slice ao u.c.length cap) ∧ w.cell? ⟨b, p + 2, none⟩ = some (.int .u8 u.t) ∧ w.cell? ⟨b, p + 3, none⟩ = some (.int .u8 u.k) ∧ w.cell? ⟨b, p + 4, none⟩ = some (.string (bs u.n)) ∧
    w.cell? ⟨b, p + 5, none⟩ = some (.string (bs u.x)) ∧ w.cell? ⟨b, p + 6, none⟩ = some (.int .i64 u.a) ∧ w.cell? ⟨b, p + 7, none⟩ = some (.int .i64 u.ao) ∧ w.cell? ⟨b, p + 8, none⟩ = some (.int .i64 u.az) :=
  ⟨h.cell 0 (by omega), h.cell 1 (by omega), h.cell 2 (by omega), h.cell 3 (by omega), h.cell 4 (by omega), h.cell 5 (by omega), h.cell 6 (by omega), h.cell 7 (by omega), h.cell 8 (by omega)⟩

/-- some updates in a slice that may be none where there are none -/
def UpsO (w : World) (vo : Option Addr) (l : List Up) : Prop := 0 < l.length → ∃ b off, vo = some ⟨b, off, none⟩ ∧ UpsAt w b off l
theorem UpsO.later {w w' : World} {vo : Option Addr} {l : List Up} (h : UpsO w vo l) (hb : Below w.heap.size w w') : UpsO w' vo l := fun h0 => by
  obtain ⟨b, off, e, hu⟩ := h h0
  exact ⟨b, off, e, hu.later hb⟩
theorem UpsAt.o {w : World} {b off : Nat} {l : List Up} (h : UpsAt w b off l) : UpsO w (some ⟨b, off, none⟩) l := fun _ => ⟨b, off, rfl, h⟩
theorem UpsO.nil (w : World) (vo : Option Addr) : UpsO w vo [] := fun h => by simp at h

set_option maxRecDepth 16000 in
set_option maxHeartbeats 2000000 in
theorem areUpdates_any (vo : Option Addr) (cap : Nat) (l : List Up) (w : World) (hu : UpsO w vo l) (hl : l.length ≤ 9223372036854775807) :
    Calls Try.prog 39 #[.slice vo l.length cap] w fun e w' => e = .returned (.bool (l.all Up.good)) ∧ Below w.heap.size w w' := by
  have HU := hid hu
  clear hu
  go_enter Try.func39, Try.ntmps39
  go_wp2_with fail
  go_loopw [7] (fun i wr => ∃ k : Nat, k ≤ l.length ∧ i = .int .i64 k ∧ (l.take k).all Up.good = true ∧ Below w.heap.size w wr) (fun i _ => l.length - (intOf i).toNat)
  case atStart => exact ⟨0, by omega, rfl, by simp, Below.refl _ _⟩
  case round =>
    obtain ⟨k, hk, rfl, hall, hb⟩ := hrel
    have HA := hid hall
    have HB := hid hb
    clear hall hb
    by_cases hlt : k < l.length
    · obtain ⟨u, hu⟩ : ∃ u, l[k]? = some u := ⟨l[k], List.getElem?_eq_getElem hlt⟩
      obtain ⟨b, off, rfl, hup⟩ := HU.out (by omega)
      obtain ⟨ao, cp, hat⟩ := (hup.later HB.out) k u hu
      clear hup
      have HAT := hid hat
      have HUK := hid hu
      obtain ⟨c0, c1, c2, c3, c4, c5, c6, c7, c8⟩ := hat.nine
      clear hu
      go_wp2_with fail
      refine (update_any u ao cp _ (HAT.out.clk.later ((Below.refl _ _).alloc (Nat.le_refl _) _)) HAT.out.fit).mono ?_
      rintro e w1 ⟨rfl, hb1⟩
      have HB1 : Hid (Below w.heap.size w w1) := (HB.out.alloc HB.out.size _).trans (hb1.mono (by have := HB.out.size; simp; omega))
      clear hb1
      by_cases hg : u.good = true
      · go_wp2_with fail
        go_roundw
        case rel => exact ⟨k + 1, by omega, by go_num, by rw [List.take_add_one, HUK.out]; simp [HA.out, hg], HB1.out⟩
        case measure => simp [intOf]; omega
      · go_wp2_with fail
        go_ret
        refine ⟨ret_bool ?_, HB1.out⟩
        symm
        rw [Bool.eq_false_iff]
        intro h
        exact hg (List.all_eq_true.1 h u (List.mem_of_getElem? HUK.out))
    · go_wp2_with fail
      go_ret
      have : l.take k = l := List.take_of_length_le (by omega)
      exact ⟨ret_bool (by rw [← this]; exact HA.out.symm), HB.out⟩
end Go.Proofs.Yteljbblbdiploaa
