/-
  SMALL LAWS: maps whose keys are ids, as lists of pairs: looked up, written.
-/
/-
  SMALL LAWS: maps whose keys are ids: written, also where the key is there already.
-/
import Derived.Test.YteljbblbdiploaaJVBeh
import Derived.Maps.Own
namespace Go.Proofs.Yteljbblbdiploaa
open Go.RowKit Go.Instr

theorem id_equal (i j : Int × Int) (w : World) : (Op.equal 24 (idV i) (idV j)).run Try.prog w = .ok (decide (i = j)) w := by
  have e : decide (i = j) = (i.1 == j.1 && i.2 == j.2) := by
    rw [Bool.eq_iff_iff]
    simp [Prod.ext_iff]
  rw [e, Op.equal, Op.maxDepth]
  simp [go_sem]
  by_cases h1 : i.fst = j.fst <;> by_cases h2 : i.snd = j.snd <;> simp [h1, h2]

theorem int_check (b : Bool) (n : Nat) (x : Int) (w : World) : (checkKey b (n + 1) 3 (.int .i64 x)).run Try.prog w = .ok () w := by
  rw [checkKey]
  simp [go_sem]
theorem id_check (b : Bool) (i : Int × Int) (w : World) : (checkKey b 10000 24 (idV i)).run Try.prog w = .ok () w := by
  rw [checkKey]
  simp [go_sem, int_check b 9998]

/-- the entries of a map whose keys are ids -/
def entI (es : List MapEntry) (kv : List ((Int × Int) × Value)) : Prop := es.map (fun e => (e.key, e.val)) = kv.map fun p => (idV p.1, p.2)

theorem find_id (i : Int × Int) (w : World) : ∀ (es : List MapEntry) (kv : List ((Int × Int) × Value)) (n : Nat), entI es kv → (findAsking 24 (idV i) es n).run Try.prog w = .ok ((kv.findIdx? (fun p => decide (p.1 = i))).map fun k => (n + k, ((kv[k]?).map (·.2)).getD .nilFunc)) w
  | [], [], n, _ => by simp [findAsking]
  | [], _ :: _, _, h => by simp [entI] at h
  | _ :: _, [], _, h => by simp [entI] at h
  | e :: es, p :: kv, n, h => by
    simp only [entI, List.map_cons, List.cons.injEq, Prod.mk.injEq] at h
    obtain ⟨⟨h1, h2⟩, h3⟩ := h
    have ih := find_id i w es kv (n + 1) h3
    rw [findAsking, Sem.run_bind, h1, id_equal, Result.andThen_ok]
    by_cases hp : i = p.1
    · subst hp
      simp [List.findIdx?_cons, h2]
    · have hp' : ¬ p.1 = i := fun e => hp e.symm
      simp only [hp, decide_false, Bool.false_eq_true, if_false, ih, List.findIdx?_cons, hp']
      cases kv.findIdx? (fun p => decide (p.1 = i)) with
      | none => simp
      | some k => simp; omega

theorem findKey_id (i : Int × Int) (w : World) (es : List MapEntry) (kv : List ((Int × Int) × Value)) (h : entI es kv) : (findKey 24 (idV i) es).run Try.prog w = .ok ((kv.findIdx? (fun p => decide (p.1 = i))).map fun k => (0 + k, ((kv[k]?).map (·.2)).getD .nilFunc)) w := by
  obtain ⟨fs, hfs⟩ : ∃ fs, Try.prog.underlying 24 = some (.struct fs) := ⟨_, Try.underlying24⟩
  have hu : (underlying 24).run Try.prog w = .ok (.struct fs) w := by
    have : some (TypeDesc.struct fs) = some _ := hfs.symm.trans Try.underlying24
    rw [Option.some.inj this]
    simp [go_sem]
  rw [findKey, Sem.run_bind, hu, Result.andThen_ok]
  cases es with
  | nil =>
    cases kv with
    | nil => simp [findNow]
    | cons => simp [entI] at h
  | cons e es =>
    have : findNow (.struct fs) (idV i) (e :: es) 0 = none := by simp [findNow, sameNow]
    rw [this]
    exact find_id i w _ kv 0 h

/-- what stands at a key -/
def getI (kv : List ((Int × Int) × Value)) (i : Int × Int) : Option Value := (kv.find? fun p => decide (p.1 = i)).map (·.2)
theorem getI_idx (i : Int × Int) : ∀ kv : List ((Int × Int) × Value), (kv.findIdx? (fun p => decide (p.1 = i))).map (fun k => ((kv[k]?).map (·.2)).getD .nilFunc) = getI kv i
  | [] => rfl
  | p :: kv => by
    have ih := getI_idx i kv
    unfold getI at *
    by_cases hp : p.1 = i
    · simp [List.findIdx?_cons, hp]
    · simp only [List.findIdx?_cons, hp, decide_false, Bool.false_eq_true, if_false, List.find?_cons_of_neg, not_false_eq_true]
      rw [← ih]
      cases kv.findIdx? (fun p => decide (p.1 = i)) <;> simp

/-- block b is a map whose keys are ids, with these entries -/
def MapI (w : World) (b : Nat) (kv : List ((Int × Int) × Value)) : Prop := ∃ es clock, w.heap[b]? = some (.map es clock) ∧ entI es.toList kv ∧ (es.toList.map (·.born)).Nodup ∧ ∀ e ∈ es.toList, e.born < clock
theorem MapI.lt {w : World} {b : Nat} {kv : List ((Int × Int) × Value)} (h : MapI w b kv) : b < w.heap.size := by
  obtain ⟨es, c, h, _⟩ := h
  exact (Array.getElem?_eq_some_iff.1 h).1
theorem MapI.below {w w' : World} {b C : Nat} {kv : List ((Int × Int) × Value)} (h : MapI w b kv) (hb : Below C w w') (hC : b < C) : MapI w' b kv := by
  obtain ⟨es, c, h, r⟩ := h
  exact ⟨es, c, (hb.block b hC).trans h, r⟩
theorem MapI.later {w w' : World} {b : Nat} {kv : List ((Int × Int) × Value)} (h : MapI w b kv) (hb : Below w.heap.size w w') : MapI w' b kv := h.below hb h.lt
theorem MapI.made (w : World) : MapI (w.alloc (.map #[] 0)) w.heap.size [] := ⟨#[], 0, (MapKept.heap_alloc w _).1, rfl, by simp, by simp⟩

/-- looked up, with 'ok' -/
theorem lookup_id {t e : TypeId} {w : World} {b : Nat} {kv : List ((Int × Int) × Value)} (h : MapI w b kv) (ht : Try.prog.underlying t = some (.map 24 e)) {z : Value} (hz : (zeroValue e).run Try.prog w = .ok z w) (i : Int × Int) :
    (Instr.lookup t (.map (some b)) (idV i) true).run Try.prog w = .ok (.tuple #[(getI kv i).getD z, .bool (getI kv i).isSome]) w ∧ (Instr.lookup t (.map (some b)) (idV i) false).run Try.prog w = .ok ((getI kv i).getD z) w := by
  obtain ⟨es, c, hb, he, _⟩ := h
  have hf := findKey_id i w es.toList kv he
  have hk := id_check es.isEmpty i w
  have hg := getI_idx i kv
  cases hx : kv.findIdx? (fun p => decide (p.1 = i)) with
  | none =>
    rw [hx] at hf hg
    simp only [Option.map_none] at hf hg
    rw [← hg]
    constructor <;> simp [Instr.lookup, run_underlying ht, MapKept.run_getObj_map hb, hk, hf, hz, Result.andThen]
  | some k =>
    rw [hx] at hf hg
    simp only [Option.map_some] at hf hg
    rw [← hg]
    constructor <;> simp [Instr.lookup, run_underlying ht, MapKept.run_getObj_map hb, hk, hf, Result.andThen]

theorem grown_setBlock (w : World) (b : Nat) (o : Obj) : w.grownBy (ChangeMaps.setBlock w b o) (some b) := by
  refine ⟨rfl, rfl, rfl, by simp [ChangeMaps.setBlock], fun k hk hne => ?_⟩
  have : k ≠ b := fun e => hne (by rw [e])
  simp [ChangeMaps.setBlock, this.symm]

/-- written: a key that is not there -/
theorem update_new {t e : TypeId} {w : World} {b : Nat} {kv : List ((Int × Int) × Value)} (h : MapI w b kv) (ht : Try.prog.underlying t = some (.map 24 e)) (i : Int × Int) (v : Value) (hn : getI kv i = none) :
    ∃ w', (Instr.mapUpdate t (.map (some b)) (idV i) v).run Try.prog w = .ok () w' ∧ MapI w' b (kv ++ [(i, v)]) ∧ w.grownBy w' (some b) := by
  have hlt := h.lt
  obtain ⟨es, c, hb, he, hs1, hs2⟩ := h
  have hf := findKey_id i w es.toList kv he
  have hk := id_check false i w
  have hg := getI_idx i kv
  rw [hn] at hg
  cases hx : kv.findIdx? (fun p => decide (p.1 = i)) with
  | some k => rw [hx] at hg; simp at hg
  | none =>
    rw [hx] at hf
    simp only [Option.map_none] at hf
    refine ⟨ChangeMaps.setBlock w b (.map (es.push { key := idV i, val := v, born := c }) (c + 1)), ?_, ?_, grown_setBlock _ _ _⟩
    · simp [Instr.mapUpdate, run_underlying ht, MapKept.run_getObj_map hb, hk, hf, MapKept.run_setObj_map _ hb, Result.andThen, ChangeMaps.setBlock]
    · refine ⟨es.push { key := idV i, val := v, born := c }, c + 1, by simp [ChangeMaps.setBlock, hlt], ?_, ?_, ?_⟩
      · simp only [entI, Array.toList_push, List.map_append, List.map_cons, List.map_nil] at he ⊢
        rw [he]
      · simp only [Array.toList_push, List.map_append, List.map_cons, List.map_nil]
        refine List.nodup_append.2 ⟨hs1, by simp, fun a ha b' hb' => ?_⟩
        rw [List.mem_singleton] at hb'
        obtain ⟨e0, he0, rfl⟩ := List.mem_map.1 ha
        have := hs2 e0 he0
        omega
      · intro e0 he0
        simp only [Array.toList_push, List.mem_append, List.mem_singleton] at he0
        rcases he0 with m | rfl
        · have := hs2 e0 m; omega
        · simp

/-- 'm[k] = v' for the walk: a key that is not there -/
theorem wpList_new {t e : TypeId} (w : World) {ops : Array Oper} {rest : List Oper} {o : Oper} {a : Act} {Q : Exit → Act → World → Prop} (hgd : o.guard = none) (m x v : Operand) (hop : o.op = Op.mapUpdate t m x v)
    (ht : Try.prog.underlying t = some (.map 24 e)) (b : Nat) (kv : List ((Int × Int) × Value)) (hm : a.eval m = .map (some b)) (h : MapI w b kv) (i : Int × Int) (val : Value) (hx : a.eval x = idV i) (hv : a.eval v = val) (hn : getI kv i = none)
    (hK : ∀ w', MapI w' b (kv ++ [(i, val)]) → w.grownBy w' (some b) → wpList Try.prog ops Q rest (a.put o.dst undef) w') : wpList Try.prog ops Q (o :: rest) a w := by
  refine wpList_plain hgd fun K' hK' => ?_
  obtain ⟨w', hrun, r1, r2⟩ := update_new h ht i val hn
  unfold Oper.wp
  simp [execOp, hop, hm, hx, hv, hrun, Result.andThen]
  exact hK' _ _ (hK w' r1 r2)
end Go.Proofs.Yteljbblbdiploaa

namespace Go.Proofs.Yteljbblbdiploaa
open Go.RowKit Go.Instr

/-- written -/
def putI : List ((Int × Int) × Value) → (Int × Int) → Value → List ((Int × Int) × Value)
  | [], i, v => [(i, v)]
  | p :: kv, i, v => if p.1 = i then (i, v) :: kv else p :: putI kv i v
theorem getI_put (i j : Int × Int) (v : Value) : ∀ kv, getI (putI kv i v) j = if j = i then some v else getI kv j
  | [] => by
    unfold getI putI
    by_cases h : j = i
    · simp [h]
    · simp [h, Ne.symm h]
  | p :: kv => by
    have ih := getI_put i j v kv
    unfold putI
    by_cases hp : p.1 = i
    · rw [if_pos hp]
      unfold getI
      by_cases h : j = i
      · simp [h]
      · have h2 : ¬ p.1 = j := fun e => h (e.symm.trans hp)
        simp [h, Ne.symm h, h2]
    · rw [if_neg hp]
      unfold getI at *
      by_cases h : p.1 = j
      · have h2 : ¬ j = i := fun e => hp (h.trans e)
        simp [h, h2]
      · simp only [List.find?_cons, h, decide_false]
        exact ih
theorem putI_none {i : Int × Int} (v : Value) : ∀ {kv : List ((Int × Int) × Value)}, kv.findIdx? (fun p => decide (p.1 = i)) = none → putI kv i v = kv ++ [(i, v)]
  | [], _ => rfl
  | p :: kv, h => by
    rw [List.findIdx?_cons] at h
    by_cases hp : p.1 = i
    · simp [hp] at h
    · simp only [hp, decide_false, Bool.false_eq_true, if_false, Option.map_eq_none_iff] at h
      rw [putI, if_neg hp, putI_none v h]; rfl
theorem putI_some {i : Int × Int} (v : Value) : ∀ {kv : List ((Int × Int) × Value)} {k : Nat}, kv.findIdx? (fun p => decide (p.1 = i)) = some k → putI kv i v = kv.set k (i, v)
  | [], _, h => by simp at h
  | p :: kv, k, h => by
    rw [List.findIdx?_cons] at h
    by_cases hp : p.1 = i
    · simp [hp] at h; subst h
      rw [putI, if_pos hp]; rfl
    · simp only [hp, decide_false, Bool.false_eq_true, if_false, Option.map_eq_some_iff] at h
      obtain ⟨j, hj, rfl⟩ := h
      rw [putI, if_neg hp, putI_some v hj]; rfl

theorem id_stays (i : Int × Int) (w : World) : (keyThatStays (idV i) (idV i)).run Try.prog w = .ok (idV i) w := by
  have : sameBits 10000 (idV i) (idV i) = true := by simp [sameBits]
  simp [keyThatStays, this]

theorem update_id {t e : TypeId} {w : World} {b : Nat} {kv : List ((Int × Int) × Value)} (h : MapI w b kv) (ht : Try.prog.underlying t = some (.map 24 e)) (i : Int × Int) (v : Value) :
    ∃ w', (Instr.mapUpdate t (.map (some b)) (idV i) v).run Try.prog w = .ok () w' ∧ MapI w' b (putI kv i v) ∧ w.grownBy w' (some b) := by
  cases hx : kv.findIdx? (fun p => decide (p.1 = i)) with
  | none =>
    have hn : getI kv i = none := by rw [← getI_idx, hx]; rfl
    rw [putI_none v hx]
    exact update_new h ht i v hn
  | some k =>
    have hlt := h.lt
    obtain ⟨es, c, hb, he, hs1, hs2⟩ := h
    have hf := findKey_id i w es.toList kv he
    have hk := id_check false i w
    rw [hx] at hf
    simp only [Option.map_some, Nat.zero_add] at hf
    have hkl : k < kv.length := (List.findIdx?_eq_some_iff_getElem.1 hx).1
    have hks : kv[k].1 = i := by have := (List.findIdx?_eq_some_iff_getElem.1 hx).2.1; simpa using this
    have hel : es.size = kv.length := by have := congrArg List.length he; simpa using this
    have hborn : ∀ j, ((es.modify k fun e => { e with key := idV i, val := v }).toList[j]?).map MapEntry.born = (es.toList[j]?).map MapEntry.born := fun j => by
      rw [Array.getElem?_toList, Array.getElem?_toList, Array.getElem?_modify]
      by_cases hjk : k = j
      · subst hjk
        simp only [if_true, Option.map_map]
        rfl
      · rw [if_neg hjk]
    have hbs : (es.modify k fun e => { e with key := idV i, val := v }).toList.map (·.born) = es.toList.map (·.born) := List.ext_getElem? fun j => by rw [List.getElem?_map, List.getElem?_map]; exact hborn j
    refine ⟨ChangeMaps.setBlock w b (.map (es.modify k fun e => { e with key := idV i, val := v }) c), ?_, ?_, grown_setBlock _ _ _⟩
    · have hkey : (es[k]'(by omega)).key = idV i := by
        have h1 : (es.toList.map (fun e => (e.key, e.val)))[k]? = (kv.map fun p => (idV p.1, p.2))[k]? := congrArg (fun l => l[k]?) he
        simp [hkl, hel] at h1
        rw [h1.1, hks]
      have hst : (keyThatStays (((es[k]?).map (·.key)).getD (idV i)) (idV i)).run Try.prog w = .ok (idV i) w := by
        rw [Array.getElem?_eq_getElem (by omega)]
        simp only [Option.map_some, Option.getD_some, hkey]
        exact id_stays i w
      simp [Instr.mapUpdate, run_underlying ht, MapKept.run_getObj_map hb, hk, hf, hst, MapKept.run_setObj_map _ hb, Result.andThen, ChangeMaps.setBlock]
    · refine ⟨es.modify k fun e => { e with key := idV i, val := v }, c, by simp [ChangeMaps.setBlock, hlt], ?_, by rw [hbs]; exact hs1, fun e0 he0 => ?_⟩
      · rw [putI_some v hx]
        unfold entI at he ⊢
        refine List.ext_getElem? fun j => ?_
        have h1 : (es.toList.map (fun e => (e.key, e.val)))[j]? = (kv.map fun p => (idV p.1, p.2))[j]? := congrArg (fun l => l[j]?) he
        rw [List.getElem?_map, List.getElem?_map] at h1 ⊢
        by_cases hjk : k = j
        · subst hjk
          simp [hkl, hel]
        · rw [Array.getElem?_toList, Array.getElem?_modify, if_neg hjk, List.getElem?_set_ne hjk, ← h1, Array.getElem?_toList]
      · have h1 : e0.born ∈ es.toList.map (·.born) := by rw [← hbs]; exact List.mem_map.2 ⟨e0, he0, rfl⟩
        obtain ⟨e1, h2, h3⟩ := List.mem_map.1 h1
        rw [← h3]
        exact hs2 e1 h2
end Go.Proofs.Yteljbblbdiploaa
