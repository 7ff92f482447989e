/-
  SMALL LAWS: maps whose keys are texts, as lists of pairs: looked up, written.
-/
import Derived.Test.YteljbblbdiploaaJVMapI
import Derived.Test.YteljbblbdiploaaJVWith
namespace Go.Proofs.Yteljbblbdiploaa
open Go.RowKit Go.Instr

/-- the entries of a map whose keys are texts -/
def entS (es : List MapEntry) (kv : List (Tx × Value)) : Prop := es.map (fun e => (e.key, e.val)) = kv.map fun p => (.string (bs p.1), p.2)
theorem bs_beq (s t : Tx) : (bs s == bs t) = decide (s = t) := by
  rw [beq_toListBytes, ByteArray.toList_eq, ByteArray.toList_eq, Bool.eq_iff_iff]
  simp
theorem find_str (s : Tx) : ∀ (es : List MapEntry) (kv : List (Tx × Value)) (n : Nat), entS es kv → findNow .string (.string (bs s)) es n = some ((kv.findIdx? (fun p => decide (p.1 = s))).map fun k => (n + k, ((kv[k]?).map (·.2)).getD .nilFunc))
  | [], [], n, _ => by simp [findNow]
  | [], _ :: _, _, h => by simp [entS] at h
  | _ :: _, [], _, h => by simp [entS] at h
  | e :: es, p :: kv, n, h => by
    simp only [entS, List.map_cons, List.cons.injEq, Prod.mk.injEq] at h
    obtain ⟨⟨h1, h2⟩, h3⟩ := h
    have ih := find_str s es kv (n + 1) h3
    rw [findNow, h1]
    simp only [sameNow, bs_beq]
    by_cases hp : s = p.1
    · subst hp
      simp [List.findIdx?_cons, h2]
    · have hp' : ¬ p.1 = s := fun e => hp e.symm
      simp only [hp, decide_false, ih, List.findIdx?_cons, hp', Bool.false_eq_true, if_false]
      cases kv.findIdx? (fun p => decide (p.1 = s)) with
      | none => simp
      | some k => simp; omega
theorem findKey_str (s : Tx) (w : World) (es : List MapEntry) (kv : List (Tx × Value)) (h : entS es kv) : (findKey 9 (.string (bs s)) es).run Try.prog w = .ok ((kv.findIdx? (fun p => decide (p.1 = s))).map fun k => (0 + k, ((kv[k]?).map (·.2)).getD .nilFunc)) w := by
  have hu : (underlying 9).run Try.prog w = .ok .string w := by simp [go_sem]
  rw [findKey, Sem.run_bind, hu, Result.andThen_ok, find_str s es kv 0 h]
  rfl
theorem str_check (b : Bool) (s : ByteArray) (w : World) : (checkKey b 10000 9 (.string s)).run Try.prog w = .ok () w := by
  rw [checkKey]
  simp [go_sem]

/-- what stands at a key -/
def getS (kv : List (Tx × Value)) (s : Tx) : Option Value := (kv.find? fun p => decide (p.1 = s)).map (·.2)
theorem getS_idx (s : Tx) : ∀ kv : List (Tx × Value), (kv.findIdx? (fun p => decide (p.1 = s))).map (fun k => ((kv[k]?).map (·.2)).getD .nilFunc) = getS kv s
  | [] => rfl
  | p :: kv => by
    have ih := getS_idx s kv
    unfold getS at *
    by_cases hp : p.1 = s
    · simp [List.findIdx?_cons, hp]
    · simp only [List.findIdx?_cons, hp, decide_false, Bool.false_eq_true, if_false, List.find?_cons_of_neg, not_false_eq_true]
      rw [← ih]
      cases kv.findIdx? (fun p => decide (p.1 = s)) <;> simp
/-- written -/
def putS : List (Tx × Value) → Tx → Value → List (Tx × Value)
  | [], s, v => [(s, v)]
  | p :: kv, s, v => if p.1 = s then (s, v) :: kv else p :: putS kv s v
theorem getS_put (s t : Tx) (v : Value) : ∀ kv, getS (putS kv s v) t = if t = s then some v else getS kv t
  | [] => by
    unfold getS putS
    by_cases h : t = s
    · simp [h]
    · simp [h, Ne.symm h]
  | p :: kv => by
    have ih := getS_put s t v kv
    unfold putS
    by_cases hp : p.1 = s
    · rw [if_pos hp]
      unfold getS
      by_cases h : t = s
      · simp [h]
      · have h2 : ¬ p.1 = t := fun e => h (e.symm.trans hp)
        simp [h, Ne.symm h, h2]
    · rw [if_neg hp]
      unfold getS at *
      by_cases h : p.1 = t
      · have h2 : ¬ t = s := fun e => hp (h.trans e)
        simp [h, h2]
      · simp only [List.find?_cons, h, decide_false]
        exact ih
theorem putS_none {s : Tx} (v : Value) : ∀ {kv : List (Tx × Value)}, kv.findIdx? (fun p => decide (p.1 = s)) = none → putS kv s v = kv ++ [(s, v)]
  | [], _ => rfl
  | p :: kv, h => by
    rw [List.findIdx?_cons] at h
    by_cases hp : p.1 = s
    · simp [hp] at h
    · simp only [hp, decide_false, Bool.false_eq_true, if_false, Option.map_eq_none_iff] at h
      rw [putS, if_neg hp, putS_none v h]; rfl
theorem putS_some {s : Tx} (v : Value) : ∀ {kv : List (Tx × Value)} {k : Nat}, kv.findIdx? (fun p => decide (p.1 = s)) = some k → putS kv s v = kv.set k (s, v)
  | [], _, h => by simp at h
  | p :: kv, k, h => by
    rw [List.findIdx?_cons] at h
    by_cases hp : p.1 = s
    · simp [hp] at h; subst h
      rw [putS, if_pos hp]; rfl
    · simp only [hp, decide_false, Bool.false_eq_true, if_false, Option.map_eq_some_iff] at h
      obtain ⟨j, hj, rfl⟩ := h
      rw [putS, if_neg hp, putS_some v hj]; rfl

/-- block b is a map whose keys are texts, with these entries -/
def MapS (w : World) (b : Nat) (kv : List (Tx × Value)) : Prop := ∃ es clock, w.heap[b]? = some (.map es clock) ∧ entS es.toList kv
theorem MapS.lt {w : World} {b : Nat} {kv : List (Tx × Value)} (h : MapS w b kv) : b < w.heap.size := by
  obtain ⟨es, c, h, _⟩ := h
  exact (Array.getElem?_eq_some_iff.1 h).1
theorem MapS.below {w w' : World} {b C : Nat} {kv : List (Tx × Value)} (h : MapS w b kv) (hb : Below C w w') (hC : b < C) : MapS w' b kv := by
  obtain ⟨es, c, h, r⟩ := h
  exact ⟨es, c, (hb.block b hC).trans h, r⟩
theorem MapS.later {w w' : World} {b : Nat} {kv : List (Tx × Value)} (h : MapS w b kv) (hb : Below w.heap.size w w') : MapS w' b kv := h.below hb h.lt
theorem MapS.kept {w w' : World} {b : Nat} {kv : List (Tx × Value)} {row : Option Nat} (h : MapS w b kv) (hg : w.grownBy w' row) (hne : some b ≠ row) : MapS w' b kv := by
  have hlt := h.lt
  obtain ⟨es, c, h, r⟩ := h
  exact ⟨es, c, (hg.block b hlt hne).trans h, r⟩
theorem MapS.made (w : World) : MapS (w.alloc (.map #[] 0)) w.heap.size [] := ⟨#[], 0, (MapKept.heap_alloc w _).1, rfl⟩

theorem lookup_str {t e : TypeId} {w : World} {b : Nat} {kv : List (Tx × Value)} (h : MapS w b kv) (ht : Try.prog.underlying t = some (.map 9 e)) {z : Value} (hz : (zeroValue e).run Try.prog w = .ok z w) (s : Tx) :
    (Instr.lookup t (.map (some b)) (.string (bs s)) false).run Try.prog w = .ok ((getS kv s).getD z) w := by
  obtain ⟨es, c, hb, he⟩ := h
  have hf := findKey_str s w es.toList kv he
  have hk := str_check es.isEmpty (bs s) w
  have hg := getS_idx s kv
  cases hx : kv.findIdx? (fun p => decide (p.1 = s)) with
  | none =>
    rw [hx] at hf hg
    simp only [Option.map_none] at hf hg
    rw [← hg]
    simp [Instr.lookup, run_underlying ht, MapKept.run_getObj_map hb, hk, hf, hz, Result.andThen]
  | some k =>
    rw [hx] at hf hg
    simp only [Option.map_some] at hf hg
    rw [← hg]
    simp [Instr.lookup, run_underlying ht, MapKept.run_getObj_map hb, hk, hf, Result.andThen]

theorem update_str {t e : TypeId} {w : World} {b : Nat} {kv : List (Tx × Value)} (h : MapS w b kv) (ht : Try.prog.underlying t = some (.map 9 e)) (s : Tx) (v : Value) :
    ∃ w', (Instr.mapUpdate t (.map (some b)) (.string (bs s)) v).run Try.prog w = .ok () w' ∧ MapS w' b (putS kv s v) ∧ w.grownBy w' (some b) := by
  have hlt := h.lt
  obtain ⟨es, c, hb, he⟩ := h
  have hf := findKey_str s w es.toList kv he
  have hk := str_check false (bs s) w
  cases hx : kv.findIdx? (fun p => decide (p.1 = s)) with
  | none =>
    rw [hx] at hf
    simp only [Option.map_none] at hf
    refine ⟨ChangeMaps.setBlock w b (.map (es.push { key := .string (bs s), val := v, born := c }) (c + 1)), ?_, ?_, grown_setBlock _ _ _⟩
    · simp [Instr.mapUpdate, run_underlying ht, MapKept.run_getObj_map hb, hk, hf, MapKept.run_setObj_map _ hb, Result.andThen, ChangeMaps.setBlock]
    · refine ⟨es.push { key := .string (bs s), val := v, born := c }, c + 1, by simp [ChangeMaps.setBlock, hlt], ?_⟩
      rw [putS_none v hx]
      simp only [entS, Array.toList_push, List.map_append, List.map_cons, List.map_nil] at he ⊢
      rw [he]
  | some k =>
    rw [hx] at hf
    simp only [Option.map_some, Nat.zero_add] at hf
    refine ⟨ChangeMaps.setBlock w b (.map (es.modify k fun e => { e with key := .string (bs s), val := v }) c), ?_, ?_, grown_setBlock _ _ _⟩
    · have hkl : k < kv.length := (List.findIdx?_eq_some_iff_getElem.1 hx).1
      have hks : kv[k].1 = s := by have := (List.findIdx?_eq_some_iff_getElem.1 hx).2.1; simpa using this
      have hel : es.size = kv.length := by have := congrArg List.length he; simpa using this
      have hek : es[k]'(by omega) = es[k]'(by omega) := rfl
      have hkey : (es[k]'(by omega)).key = .string (bs s) := by
        have h1 : (es.toList.map (fun e => (e.key, e.val)))[k]? = (kv.map fun p => (Value.string (bs p.1), p.2))[k]? := congrArg (fun l => l[k]?) he
        simp [hkl, hel] at h1
        rw [h1.1, hks]
      have hst : (keyThatStays (((es[k]?).map (·.key)).getD (.string (bs s))) (.string (bs s))).run Try.prog w = .ok (.string (bs s)) w := by
        rw [Array.getElem?_eq_getElem (by omega)]
        simp [keyThatStays, hkey, sameBits, bs_beq]
      simp [Instr.mapUpdate, run_underlying ht, MapKept.run_getObj_map hb, hk, hf, hst, MapKept.run_setObj_map _ hb, Result.andThen, ChangeMaps.setBlock]
    · refine ⟨es.modify k fun e => { e with key := .string (bs s), val := v }, c, by simp [ChangeMaps.setBlock, hlt], ?_⟩
      rw [putS_some v hx]
      unfold entS at he ⊢
      refine List.ext_getElem? fun j => ?_
      have h1 : (es.toList.map (fun e => (e.key, e.val)))[j]? = (kv.map fun p => (Value.string (bs p.1), p.2))[j]? := congrArg (fun l => l[j]?) he
      have hkl : k < kv.length := (List.findIdx?_eq_some_iff_getElem.1 hx).1
      have hel : es.size = kv.length := by have := congrArg List.length he; simpa using this
      rw [List.getElem?_map, List.getElem?_map] at h1 ⊢
      by_cases hjk : k = j
      · subst hjk
        simp [hkl, hel]
      · rw [Array.getElem?_toList, Array.getElem?_modify, if_neg hjk, List.getElem?_set_ne hjk, ← h1, Array.getElem?_toList]
end Go.Proofs.Yteljbblbdiploaa
