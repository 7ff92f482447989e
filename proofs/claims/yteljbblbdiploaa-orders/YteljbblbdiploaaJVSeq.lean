/-
  PLAIN: texts in the order of their bytes, each once: what sorting and striking doubles gives is what laying each into its place gives; no Go text in sight.
-/
/-
  PLAIN: a tree passed through, each ahead of what hangs on it, those that hang on one with the last first: it is what comes of laying each right behind the one that it hangs on, from the first to the last; no Go text in sight.
-/
import Derived.Lib.SlicesCompact
namespace Go.Proofs.Yteljbblbdiploaa

abbrev Tx := List UInt8

theorem tx_cases (a b : Tx) : a < b ∨ a = b ∨ b < a := by
  by_cases h : a < b
  · exact .inl h
  by_cases k : b < a
  · exact .inr (.inr k)
  exact .inr (.inl (List.le_antisymm (List.not_lt.1 k) (List.not_lt.1 h)))

/-- rising: each once, in the order of their bytes -/
def Rising (l : List Tx) : Prop := l.Pairwise (· < ·)

theorem rising_eq : ∀ {a b : List Tx}, Rising a → Rising b → (∀ x, x ∈ a ↔ x ∈ b) → a = b
  | [], [], _, _, _ => rfl
  | [], y :: b, _, _, h => absurd ((h y).2 (by simp)) (by simp)
  | x :: a, [], _, _, h => absurd ((h x).1 (by simp)) (by simp)
  | x :: a, y :: b, ha, hb, h => by
    obtain ⟨h1, h2⟩ := List.pairwise_cons.1 ha
    obtain ⟨k1, k2⟩ := List.pairwise_cons.1 hb
    have hxy : x = y := by
      rcases List.mem_cons.1 ((h x).1 (by simp)) with e | m
      · exact e
      rcases List.mem_cons.1 ((h y).2 (by simp)) with e | m'
      · exact e.symm
      exact absurd (List.lt_trans (k1 x m) (h1 y m')) (List.lt_irrefl _)
    subst hxy
    congr 1
    refine rising_eq h2 k2 fun z => ⟨fun m => ?_, fun m => ?_⟩
    · rcases List.mem_cons.1 ((h z).1 (by simp [m])) with e | m'
      · subst e; exact absurd (h1 z m) (List.lt_irrefl _)
      · exact m'
    · rcases List.mem_cons.1 ((h z).2 (by simp [m])) with e | m'
      · subst e; exact absurd (k1 z m) (List.lt_irrefl _)
      · exact m'

/-- laid into its place -/
def insT (s : Tx) : List Tx → List Tx
  | [] => [s]
  | x :: l => if s < x then s :: x :: l else x :: insT s l
/-- laid into its place, if it is not there -/
def withT (l : List Tx) (s : Tx) : List Tx := if s ∈ l then l else insT s l

theorem mem_insT (s z : Tx) : ∀ l, z ∈ insT s l ↔ z = s ∨ z ∈ l
  | [] => by simp [insT]
  | x :: l => by
    unfold insT; split
    · simp
    · simp only [List.mem_cons, mem_insT s z l]
      constructor <;> (intro h; rcases h with h | h | h <;> simp [h])
theorem insT_rising (s : Tx) : ∀ l, Rising l → s ∉ l → Rising (insT s l)
  | [], _, _ => by simp [insT, Rising]
  | x :: l, h, hn => by
    obtain ⟨h1, h2⟩ := List.pairwise_cons.1 h
    unfold insT; split
    · rename_i hs
      exact List.pairwise_cons.2 ⟨fun z hz => (List.mem_cons.1 hz).elim (fun e => e ▸ hs) (fun m => List.lt_trans hs (h1 z m)), h⟩
    · rename_i hs
      refine List.pairwise_cons.2 ⟨fun z hz => ?_, insT_rising s l h2 (fun m => hn (by simp [m]))⟩
      rcases (mem_insT s z l).1 hz with rfl | hz
      · rcases tx_cases x z with h | h | h
        · exact h
        · exact absurd (by simp [h]) hn
        · exact absurd h hs
      · exact h1 z hz
theorem mem_withT (l : List Tx) (s z : Tx) : z ∈ withT l s ↔ z = s ∨ z ∈ l := by
  unfold withT; split
  · rename_i h
    constructor
    · exact .inr
    · rintro (rfl | h')
      · exact h
      · exact h'
  · exact mem_insT s z l
theorem withT_rising (l : List Tx) (s : Tx) (h : Rising l) : Rising (withT l s) := by
  unfold withT; split
  · exact h
  · exact insT_rising s l h (by assumption)

/-- all laid into their places -/
def layT (ss : List Tx) : List Tx := ss.foldl withT []
theorem layT_app (ss : List Tx) (s : Tx) : layT (ss ++ [s]) = withT (layT ss) s := by simp [layT]
theorem layT_ok (ss : List Tx) : Rising (layT ss) ∧ ∀ z, z ∈ layT ss ↔ z ∈ ss := by
  suffices ∀ (ss acc : List Tx), Rising acc → Rising (ss.foldl withT acc) ∧ ∀ z, z ∈ ss.foldl withT acc ↔ z ∈ acc ∨ z ∈ ss by
    have h := this ss [] List.Pairwise.nil
    exact ⟨h.1, fun z => (h.2 z).trans (by simp)⟩
  intro ss
  induction ss with
  | nil => intro acc h; exact ⟨h, by simp⟩
  | cons s ss ih =>
    intro acc h
    obtain ⟨h1, h2⟩ := ih (withT acc s) (withT_rising acc s h)
    refine ⟨h1, fun z => ?_⟩
    rw [List.foldl_cons, h2 z, mem_withT, List.mem_cons]
    constructor
    · rintro ((h | h) | h) <;> simp [h]
    · rintro (h | h | h) <;> simp [h]

/-- how laying goes while the list is passed through -/
def wOut (s : Tx) (l : List Tx) : List Tx := if l.any (fun x => decide (s < x)) then insT s l else l
theorem insT_app (s x : Tx) : ∀ l, insT s (l ++ [x]) = if l.any (fun y => decide (s < y)) then insT s l ++ [x] else if s < x then l ++ [s, x] else l ++ [x, s]
  | [] => by simp [insT]
  | y :: l => by
    simp only [List.cons_append, insT, insT_app s x l, List.any_cons]
    by_cases h : s < y
    · simp [h]
    · simp only [h, if_false, decide_false, Bool.false_or]
      split
      · rfl
      · split <;> rfl
theorem insT_none (s : Tx) : ∀ l : List Tx, l.any (fun y => decide (s < y)) = false → insT s l = l ++ [s]
  | [], _ => rfl
  | y :: l, h => by
    simp only [List.any_cons, Bool.or_eq_false_iff, decide_eq_false_iff_not] at h
    simp [insT, h.1, insT_none s l h.2]
theorem wOut_app (s x : Tx) (l : List Tx) : wOut s (l ++ [x]) = if l.any (fun y => decide (s < y)) then wOut s l ++ [x] else if s < x then wOut s l ++ [s, x] else wOut s l ++ [x] := by
  unfold wOut
  simp only [List.any_append, List.any_cons, List.any_nil, Bool.or_false, insT_app]
  by_cases h : l.any (fun y => decide (s < y)) = true
  · simp [h]
  · by_cases k : s < x
    · simp [h, k]
    · simp [h, k]
theorem wOut_len (s : Tx) (l : List Tx) : (wOut s l).length ≤ l.length + 1 := by
  have : (insT s l).length = l.length + 1 := by
    induction l with
    | nil => rfl
    | cons x l ih => unfold insT; split <;> simp [ih]
  unfold wOut; split <;> omega

/-- sorted, and doubles struck -/
def sortT (ss : List Tx) : List Tx := Lib.compactUpTo (ss.mergeSort fun x y => decide (x ≤ y)).toArray ss.length

theorem sorted_le (ss : List Tx) : (ss.mergeSort fun x y => decide (x ≤ y)).Pairwise (· ≤ ·) := by
  have h := List.pairwise_mergeSort (le := fun x y : Tx => decide (x ≤ y)) (fun a b c h k => by simp at *; exact List.le_trans h k) (fun a b => by simp; exact List.le_total a b) ss
  exact h.imp (by simp)

/-- of a list in order the elements that differ from the one ahead of them: rising, the same ones -/
theorem compact_ok (l : List Tx) (hl : l.Pairwise (· ≤ ·)) : ∀ m, m ≤ l.length → Rising (Lib.compactUpTo l.toArray m) ∧ (∀ z, z ∈ Lib.compactUpTo l.toArray m ↔ z ∈ l.take m) ∧ ∀ z ∈ Lib.compactUpTo l.toArray m, ∀ (_ : 0 < m), z ≤ l[m - 1]!
  | 0, _ => by simp [Lib.compactUpTo, Rising]
  | m + 1, h => by
    obtain ⟨h1, h2, h3⟩ := compact_ok l hl m (by omega)
    have hm : m < l.length := by omega
    have hget : l.toArray[m]! = l[m] := by simp [hm]
    have hgl : l[m]! = l[m] := by simp [hm]
    have hle : ∀ z ∈ l.take m, z ≤ l[m] := by
      intro z hz
      obtain ⟨i, hi, rfl⟩ := List.getElem_of_mem hz
      simp only [List.length_take] at hi
      rw [List.getElem_take]
      exact List.pairwise_iff_getElem.1 hl i m (by omega) hm (by omega)
    have htk : l.take (m + 1) = l.take m ++ [l[m]] := by rw [List.take_succ_eq_append_getElem hm]
    rw [Lib.compactUpTo_succ, Nat.add_sub_cancel, hget, hgl, htk]
    by_cases hk : Lib.keeps l.toArray m = true
    · rw [if_pos hk]
      have hlt : ∀ z ∈ Lib.compactUpTo l.toArray m, z < l[m] := by
        intro z hz
        have hzm := (h2 z).1 hz
        have h0 : 0 < m := by cases m with | zero => simp at hzm | succ _ => omega
        have hz3 := h3 z hz h0
        rcases tx_cases z l[m] with h | h | h
        · exact h
        · exfalso
          have e1 : l[m - 1]! = l[m - 1] := by rw [getElem!_pos l (m - 1) (by omega)]
          have a1 : l[m - 1] ≤ l[m] := List.pairwise_iff_getElem.1 hl (m - 1) m (by omega) hm (by omega)
          rw [e1, h] at hz3
          have e2 := List.le_antisymm a1 hz3
          have : Lib.keeps l.toArray m = false := Lib.keeps_neg h0 (by
            rw [hget]
            have : l.toArray[m - 1]! = l[m - 1] := by rw [← e1]; simp [List.getElem!_toArray]
            rw [this, e2])
          rw [this] at hk; cases hk
        · exact absurd h (List.not_lt.2 (hle z hzm))
      refine ⟨?_, ?_, ?_⟩
      · refine List.pairwise_append.2 ⟨h1, by simp, fun a ha b hb => ?_⟩
        rw [List.mem_singleton] at hb; subst hb; exact hlt a ha
      · intro z; rw [List.mem_append, List.mem_append, h2 z]
      · intro z hz _
        rcases List.mem_append.1 hz with hz | hz
        · exact hle z ((h2 z).1 hz)
        · rw [List.mem_singleton] at hz; subst hz; exact List.le_refl _
    · rw [if_neg hk, List.append_nil]
      have h0 : 0 < m := by cases m with | zero => exact absurd (Lib.keeps_lt_one _ 0 (by omega)) hk | succ _ => omega
      have e1 : l[m - 1]! = l[m - 1] := by rw [getElem!_pos l (m - 1) (by omega)]
      have e2 : l[m] = l[m - 1] := by
        have hk' : Lib.keeps l.toArray m = false := by simpa using hk
        by_cases e : l.toArray[m]! = l.toArray[m - 1]!
        · rw [hget] at e; rw [e, ← e1]; simp [List.getElem!_toArray]
        · exact absurd (Lib.keeps_pos e) hk
      refine ⟨h1, fun z => ?_, fun z hz _ => hle z ((h2 z).1 hz)⟩
      rw [h2 z, List.mem_append, List.mem_singleton]
      constructor
      · exact .inl
      · rintro (h | rfl)
        · exact h
        · rw [e2]; exact List.mem_take_iff_getElem.2 ⟨m - 1, by omega, rfl⟩

theorem sortT_ok (ss : List Tx) : Rising (sortT ss) ∧ ∀ z, z ∈ sortT ss ↔ z ∈ ss := by
  have hp := List.mergeSort_perm ss (fun x y : Tx => decide (x ≤ y))
  have hlen := hp.length_eq
  obtain ⟨h1, h2, _⟩ := compact_ok _ (sorted_le ss) ss.length (by omega)
  refine ⟨h1, fun z => ?_⟩
  unfold sortT
  rw [h2 z, List.take_of_length_le (by omega)]
  exact hp.mem_iff

/-- both ways give the same, of whatever lists that hold the same texts -/
theorem sortT_layT {a b : List Tx} (h : ∀ z, z ∈ a ↔ z ∈ b) : sortT a = layT b :=
  rising_eq (sortT_ok a).1 (layT_ok b).1 fun z => by rw [(sortT_ok a).2, (layT_ok b).2, h]
theorem sortT_same {a b : List Tx} (h : ∀ z, z ∈ a ↔ z ∈ b) : sortT a = sortT b := (sortT_layT h).trans (sortT_layT fun _ => Iff.rfl).symm
end Go.Proofs.Yteljbblbdiploaa

namespace Go.Proofs.Yteljbblbdiploaa

theorem rise_eq {α : Type} {lt : α → α → Prop} (irr : ∀ x, ¬ lt x x) (tr : ∀ x y z, lt x y → lt y z → lt x z) : ∀ {a b : List α}, a.Pairwise lt → b.Pairwise lt → (∀ x, x ∈ a ↔ x ∈ b) → a = b
  | [], [], _, _, _ => rfl
  | [], y :: b, _, _, h => absurd ((h y).2 (by simp)) (by simp)
  | x :: a, [], _, _, h => absurd ((h x).1 (by simp)) (by simp)
  | x :: a, y :: b, ha, hb, h => by
    obtain ⟨h1, h2⟩ := List.pairwise_cons.1 ha
    obtain ⟨k1, k2⟩ := List.pairwise_cons.1 hb
    have hxy : x = y := by
      rcases List.mem_cons.1 ((h x).1 (by simp)) with e | m
      · exact e
      rcases List.mem_cons.1 ((h y).2 (by simp)) with e | m'
      · exact e.symm
      exact absurd (tr _ _ _ (k1 x m) (h1 y m')) (irr _)
    subst hxy
    congr 1
    refine rise_eq irr tr h2 k2 fun z => ⟨fun m => ?_, fun m => ?_⟩
    · rcases List.mem_cons.1 ((h z).1 (by simp [m])) with e | m'
      · subst e; exact absurd (h1 z m) (irr _)
      · exact m'
    · rcases List.mem_cons.1 ((h z).2 (by simp [m])) with e | m'
      · subst e; exact absurd (k1 z m) (irr _)
      · exact m'

theorem flat_congr {α β : Type} {f g : α → List β} : ∀ {l : List α}, (∀ k ∈ l, f k = g k) → l.flatMap f = l.flatMap g
  | [], _ => rfl
  | k :: l, h => by rw [List.flatMap_cons, List.flatMap_cons, h k (by simp), flat_congr fun z hz => h z (by simp [hz])]

/-- each stands behind the one that it hangs on, none twice: said of the list turned round -/
def HangR {α : Type} (par : α → Option α) : List α → Prop
  | [] => True
  | x :: r => HangR par r ∧ x ∉ r ∧ ∀ p, par x = some p → p ∈ r
def Hangs {α : Type} (par : α → Option α) (s : List α) : Prop := HangR par s.reverse
theorem Hangs.nil {α : Type} {par : α → Option α} : Hangs par [] := trivial
theorem Hangs.snoc {α : Type} {par : α → Option α} {s : List α} {x : α} (hs : Hangs par s) (hx : x ∉ s) (hp : ∀ p, par x = some p → p ∈ s) : Hangs par (s ++ [x]) := by
  unfold Hangs
  rw [List.reverse_append]
  exact ⟨hs, by simpa using hx, fun p h => by simpa using hp p h⟩
theorem Hangs.ind0 {α : Type} {par : α → Option α} {m : List α → Prop} (nil : m []) (snoc : ∀ s x, Hangs par s → x ∉ s → (∀ p, par x = some p → p ∈ s) → m s → m (s ++ [x])) : ∀ r, HangR par r → m r.reverse
  | [], _ => nil
  | x :: r, ⟨h1, h2, h3⟩ => by
    rw [List.reverse_cons]
    exact snoc _ _ (by unfold Hangs; rwa [List.reverse_reverse]) (by simpa using h2) (fun p h => by simpa using h3 p h) (Hangs.ind0 nil snoc r h1)
theorem Hangs.ind {α : Type} {par : α → Option α} {motive : (s : List α) → Hangs par s → Prop} (nil : motive [] Hangs.nil) (snoc : ∀ {s : List α} {x : α} (hs : Hangs par s) (hx : x ∉ s) (hp : ∀ p, par x = some p → p ∈ s), motive s hs → motive (s ++ [x]) (hs.snoc hx hp)) : ∀ {s : List α} (hs : Hangs par s), motive s hs := by
  intro s hs
  have := Hangs.ind0 (par := par) (m := fun s => ∀ h, motive s h) (fun _ => nil) (fun s x hs hx hp ih _ => snoc hs hx hp (ih hs)) s.reverse hs
  rw [List.reverse_reverse] at this
  exact this hs

section
variable {α : Type} [DecidableEq α]

/-- x laid right behind p -/
def insA (p x : α) : List α → List α
  | [] => []
  | k :: l => if k = p then k :: x :: l else k :: insA p x l
/-- x laid into the row of what hangs, near or far, on 'on' -/
def grow1 (par : α → Option α) (on : Option α) (l : List α) (x : α) : List α := if par x = on then x :: l else match par x with | none => l | some p => insA p x l
/-- the row of what hangs, near or far, on 'on', as those of s are laid one by one -/
def rowOf (par : α → Option α) (on : Option α) (s : List α) : List α := s.foldl (grow1 par on) []
theorem rowOf_app (par : α → Option α) (on : Option α) (s : List α) (x : α) : rowOf par on (s ++ [x]) = grow1 par on (rowOf par on s) x := by simp [rowOf]

theorem mem_insA {p x z : α} : ∀ {l : List α}, z ∈ insA p x l → z = x ∨ z ∈ l
  | [], h => by simp [insA] at h
  | k :: l, h => by
    unfold insA at h
    split at h
    · rcases List.mem_cons.1 h with h | h
      · simp [h]
      · rcases List.mem_cons.1 h with h | h <;> simp [h]
    · rcases List.mem_cons.1 h with h | h
      · simp [h]
      · rcases mem_insA h with h | h <;> simp [h]
theorem insA_nodup {p x : α} : ∀ {l : List α}, l.Nodup → x ∉ l → (insA p x l).Nodup
  | [], _, _ => by simp [insA]
  | k :: l, h, hx => by
    obtain ⟨h1, h2⟩ := List.nodup_cons.1 h
    unfold insA
    split
    · refine List.nodup_cons.2 ⟨fun m => ?_, List.nodup_cons.2 ⟨fun m => hx (by simp [m]), h2⟩⟩
      rcases List.mem_cons.1 m with m | m
      · exact hx (by simp [m])
      · exact h1 m
    · refine List.nodup_cons.2 ⟨fun m => ?_, insA_nodup h2 fun m => hx (by simp [m])⟩
      rcases mem_insA m with m | m
      · exact hx (by simp [m])
      · exact h1 m
theorem insA_none {p x : α} : ∀ {l : List α}, p ∉ l → insA p x l = l
  | [], _ => rfl
  | k :: l, h => by
    unfold insA
    rw [if_neg (fun e => h (by simp [e])), insA_none fun m => h (by simp [m])]
theorem insA_app {p x : α} : ∀ {a b : List α}, insA p x (a ++ b) = if p ∈ a then insA p x a ++ b else a ++ insA p x b
  | [], b => by simp
  | k :: a, b => by
    simp only [List.cons_append, insA, insA_app (a := a)]
    by_cases h : k = p
    · simp [h]
    · have : (p ∈ k :: a) = (p ∈ a) := by simp [Ne.symm h]
      simp only [this, h, if_false]
      split <;> rfl

theorem mem_grow1 {par : α → Option α} {on : Option α} {l : List α} {x z : α} (h : z ∈ grow1 par on l x) : z = x ∨ z ∈ l := by
  unfold grow1 at h
  split at h
  · exact List.mem_cons.1 h
  · split at h
    · exact .inr h
    · exact mem_insA h

variable {par : α → Option α} {s : List α}
theorem mem_rowOf (hs : Hangs par s) {on : Option α} {z : α} (h : z ∈ rowOf par on s) : z ∈ s := by
  induction hs using Hangs.ind with
  | nil => simp [rowOf] at h
  | snoc hs hx hp ih =>
    rw [rowOf_app] at h
    rcases mem_grow1 h with h | h
    · simp [h]
    · simp [ih h]
theorem rowOf_nodup (hs : Hangs par s) (on : Option α) : (rowOf par on s).Nodup := by
  induction hs using Hangs.ind with
  | nil => simp [rowOf]
  | @snoc s x hs hx hp ih =>
    have hx' : x ∉ rowOf par on s := fun m => hx (mem_rowOf hs m)
    rw [rowOf_app]
    unfold grow1
    split
    · exact List.nodup_cons.2 ⟨hx', ih⟩
    · split
      · exact ih
      · exact insA_nodup ih hx'
theorem rowOf_none (hs : Hangs par s) {q : α} (h : q ∉ s) : rowOf par (some q) s = [] := by
  induction hs using Hangs.ind with
  | nil => simp [rowOf]
  | @snoc s x hs hx hp ih =>
    have hq : q ∉ s := fun m => h (by simp [m])
    rw [rowOf_app, ih hq]
    unfold grow1
    rw [if_neg (fun e => hq (hp q e))]
    split <;> rfl
theorem rowOf_self (hs : Hangs par s) {q : α} : q ∉ rowOf par (some q) s := by
  induction hs using Hangs.ind with
  | nil => simp [rowOf]
  | @snoc s x hs hx hp ih =>
    rw [rowOf_app]
    intro m
    rcases mem_grow1 m with e | m'
    · subst e
      rw [rowOf_none hs hx] at m
      unfold grow1 at m
      rw [if_neg (fun e => hx (hp q e))] at m
      split at m <;> simp [insA] at m
    · exact ih m'

/-- those that hang on one, the last first -/
def kidsOf (par : α → Option α) (on : Option α) (s : List α) : List α := (s.filter fun k => decide (par k = on)).reverse
theorem kidsOf_app (on : Option α) (x : α) : kidsOf par on (s ++ [x]) = if par x = on then x :: kidsOf par on s else kidsOf par on s := by
  unfold kidsOf
  rw [List.filter_append, List.reverse_append]
  by_cases h : par x = on <;> simp [h]

theorem insA_flat {p x : α} {f : α → List α} : ∀ {l : List α}, (l.flatMap fun k => k :: f k).Nodup → insA p x (l.flatMap fun k => k :: f k) = l.flatMap fun k => insA p x (k :: f k)
  | [], _ => rfl
  | k :: l, h => by
    rw [List.flatMap_cons, List.flatMap_cons, insA_app, ← insA_flat (List.nodup_append.1 h).2.1]
    split
    · rename_i hp
      have hn : p ∉ l.flatMap fun k => k :: f k := fun m => (List.nodup_append.1 h).2.2 p hp p m rfl
      rw [insA_none hn]
    · rename_i hp
      rw [insA_none hp]

/-- THE TREE, PASSED THROUGH -/
theorem rowOf_eq (hs : Hangs par s) (on : Option α) : rowOf par on s = (kidsOf par on s).flatMap fun k => k :: rowOf par (some k) s := by
  induction hs using Hangs.ind generalizing on with
  | nil => simp [rowOf, kidsOf]
  | @snoc s x hs hx hp ih =>
    have hself : rowOf par (some x) (s ++ [x]) = [] := by
      rw [rowOf_app, rowOf_none hs hx]
      unfold grow1
      rw [if_neg (fun e => hx (hp x e))]
      split <;> rfl
    have hstep : ∀ k, k :: rowOf par (some k) (s ++ [x]) = match par x with | none => k :: rowOf par (some k) s | some p => insA p x (k :: rowOf par (some k) s) := by
      intro k
      rw [rowOf_app]
      unfold grow1
      cases e : par x with
      | none => simp
      | some p =>
        simp only [Option.some.injEq, insA]
        by_cases h : p = k
        · simp [h]
        · simp [h, Ne.symm h]
    rw [rowOf_app, kidsOf_app]
    unfold grow1
    by_cases h : par x = on
    · rw [if_pos h, if_pos h, List.flatMap_cons, hself]
      show x :: rowOf par on s = x :: (kidsOf par on s).flatMap _
      congr 1
      rw [ih on]
      refine flat_congr fun k hk => ?_
      rw [hstep k]
      cases e : par x with
      | none => rfl
      | some p =>
        refine (insA_none fun m => ?_).symm
        have hon : on = some p := h.symm.trans e
        subst hon
        exact rowOf_self hs (ih (some p) ▸ List.mem_flatMap.2 ⟨k, hk, m⟩)
    · rw [if_neg h, if_neg h]
      cases e : par x with
      | none =>
        simp only [e] at hstep ⊢
        rw [ih on]
        exact congrArg (List.flatMap · _) (funext fun k => (hstep k).symm)
      | some p =>
        simp only [e] at hstep ⊢
        have hn : ((kidsOf par on s).flatMap fun k => k :: rowOf par (some k) s).Nodup := by rw [← ih on]; exact rowOf_nodup hs on
        rw [ih on, insA_flat hn]
        exact congrArg (List.flatMap · _) (funext fun k => (hstep k).symm)
end
end Go.Proofs.Yteljbblbdiploaa
