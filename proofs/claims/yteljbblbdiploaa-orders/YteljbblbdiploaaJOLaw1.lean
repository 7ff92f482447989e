/-
  SMALL LAWS: a list of updates copied, and two of them changed about, over and over.
-/
/-
  SMALL LAWS, for the walk of the statement Orders' own function.
-/
import Derived.Test.YteljbblbdiploaaJVLen
import Derived.Test.YteljbblbdiploaaJOOpen
import Derived.Test.YteljbblbdiploaaJVSameK
namespace Go.Proofs.Yteljbblbdiploaa
open Go.RowKit

theorem pickN_any (c : Int) (n : Nat) (w : World) (h0 : -9223372036854775808 ≤ c) (h1 : c ≤ 9223372036854775807) (hn : 0 < n) (hn1 : n ≤ 9223372036854775807) :
    Calls Try.prog 23 #[.int .i64 c, .int .i64 n] w fun e w' => ∃ r : Nat, e = .returned (.int .i64 r) ∧ r < n ∧ w' = w := by
  by_cases hc : c < 0
  · go_enter Try.func23, Try.ntmps23
    go_wp2
    go_ret
    refine ⟨((-(c + 1)) % (n : Int)).toNat, ret_int ?_, ?_, rfl⟩
    · have a1 := Int.emod_nonneg (-(c + 1)) (show (n : Int) ≠ 0 by omega)
      have a2 := Int.emod_lt_of_pos (-(c + 1)) (show (0 : Int) < n by omega)
      rw [← Int.neg_tmod, Int.tmod_eq_emod_of_nonneg (by omega)]
      omega
    · have a1 := Int.emod_nonneg (-(c + 1)) (show (n : Int) ≠ 0 by omega)
      have a2 := Int.emod_lt_of_pos (-(c + 1)) (show (0 : Int) < n by omega)
      omega
  · go_enter Try.func23, Try.ntmps23
    go_wp2
    go_ret
    refine ⟨(c % (n : Int)).toNat, ret_int ?_, ?_, rfl⟩
    · have a1 := Int.emod_nonneg c (show (n : Int) ≠ 0 by omega)
      first | omega | (rw [Int.tmod_eq_emod_of_nonneg (by omega)]; omega)
    · have a1 := Int.emod_nonneg c (show (n : Int) ≠ 0 by omega)
      have a2 := Int.emod_lt_of_pos c (show (0 : Int) < n by omega)
      omega

theorem countO_any (n : Int) (w : World) :
    Calls Try.prog 22 #[.int .i64 n] w fun e w' => e = .returned (.agg #[.int .u8 2, .int .u8 0, .string ⟨#[110]⟩, .string ⟨#[]⟩, .int .i64 n, .int .i64 0, .int .i64 0]) ∧ Below w.heap.size w w' := by
  go_enter Try.func22, Try.ntmps22
  go_wp2
  refine bodyPost_ret (v := .agg #[.int .u8 2, .int .u8 0, .string ⟨#[110]⟩, .string ⟨#[]⟩, .int .i64 n, .int .i64 0, .int .i64 0]) ?_ rfl ⟨rfl, ?_⟩
  · simp [results, Try.results22, go_sem]
  · exact (Below.refl _ _).alloc (Nat.le_refl _) _

theorem upFlat_one : ∀ (l : List Up) (cs : List (Option Addr × Nat)), ∀ v ∈ upFlat l cs, v.oneCell' = true
  | [], _, v, h => by simp [upFlat] at h
  | u :: l, [], v, h => by simp [upFlat] at h
  | u :: l, c :: cs, v, h => by
    rw [upFlat, List.mem_append] at h
    rcases h with h | h
    · exact up_one _ _ _ v h
    · exact upFlat_one l cs v h

/-- the slices that are their clocks -/
theorem UpsAt.slices {w : World} {b off : Nat} {l : List Up} (h : UpsAt w b off l) : ∃ cs : List (Option Addr × Nat), cs.length = l.length ∧ ∀ (j : Nat) (u : Up) (c : Option Addr × Nat), l[j]? = some u → cs[j]? = some c → UpAt w b (off + j * 9) u c.1 c.2 := by
  have each : ∀ i, i < l.length → ∃ q : Option Addr × Nat, ∀ u, l[i]? = some u → UpAt w b (off + i * 9) u q.1 q.2 := by
    intro i hi
    obtain ⟨ao, cap, hu⟩ := h i l[i] (List.getElem?_eq_getElem hi)
    exact ⟨(ao, cap), fun u e => by rw [List.getElem?_eq_getElem hi] at e; cases e; exact hu⟩
  haveI : Inhabited (Option Addr × Nat) := ⟨(none, 0)⟩
  obtain ⟨f, hf⟩ := Go.Deep.choose_lt each
  refine ⟨(List.range l.length).map f, by simp, fun j u c hu hc => ?_⟩
  have hj := (List.getElem?_eq_some_iff.1 hu).1
  have e : c = f j := by
    rw [List.getElem?_map, List.getElem?_range hj] at hc
    cases hc; rfl
  rw [e]
  exact hf j hj u hu

/-- each with its clock's slice -/
def Clks (w : World) (ps : List (Up × Option Addr × Nat)) : Prop := ∀ p ∈ ps, ClkAt w p.2.1 p.2.2 p.1.c ∧ UpFit p.1
/-- they lie in a row that may be written -/
structure MAt (w : World) (g : Nat) (ps : List (Up × Option Addr × Nat)) : Prop where
  cell : ∀ (j : Nat) (p : Up × Option Addr × Nat), ps[j]? = some p → ∀ i, i < 9 → w.cell? ⟨g, j * 9 + i, none⟩ = (upCells p.1 p.2.1 p.2.2)[i]?
  free : ∀ q, q < ps.length * 9 → w.frozen? ⟨g, q, none⟩ = false

def setRun (w : World) (g p : Nat) : List Value → World
  | [] => w
  | v :: cs => setRun (w.setCell ⟨g, p, none⟩ v) g (p + 1) cs
theorem setRun_free (g q : Nat) : ∀ (cs : List Value) (w : World) (p : Nat), (setRun w g p cs).frozen? ⟨g, q, none⟩ = w.frozen? ⟨g, q, none⟩
  | [], _, _ => rfl
  | v :: cs, w, p => by rw [setRun, setRun_free g q cs, World.frozen?_setCell]
theorem setRun_far (g q : Nat) : ∀ (cs : List Value) (w : World) (p : Nat), q < p ∨ p + cs.length ≤ q → (setRun w g p cs).cell? ⟨g, q, none⟩ = w.cell? ⟨g, q, none⟩
  | [], _, _, _ => rfl
  | v :: cs, w, p, h => by
    rw [List.length_cons] at h
    rw [setRun, setRun_far g q cs _ _ (by omega), World.cell?_setCell_other]
    intro e; cases e; omega
theorem setRun_at (g : Nat) : ∀ (cs : List Value) (w : World) (p i : Nat), i < cs.length → (∀ j, j < cs.length → ∃ v, w.cell? ⟨g, p + j, none⟩ = some v) → (setRun w g p cs).cell? ⟨g, p + i, none⟩ = cs[i]?
  | [], _, _, _, h, _ => by simp at h
  | v :: cs, w, p, i, h, hc => by
    rw [setRun]
    cases i with
    | zero =>
      obtain ⟨x, hx⟩ := hc 0 (by simp)
      rw [Nat.add_zero] at hx
      rw [setRun_far g (p + 0) cs _ _ (by omega), Nat.add_zero, World.cell?_setCell_same _ _ _ hx]
      rfl
    | succ i =>
      rw [show p + (i + 1) = (p + 1) + i by omega, setRun_at g cs _ (p + 1) i (by simpa using h) fun j hj => ?_]
      · rfl
      · obtain ⟨x, hx⟩ := hc (j + 1) (by simpa using hj)
        refine ⟨x, ?_⟩
        rw [World.cell?_setCell_other, show p + 1 + j = p + (j + 1) by omega]
        · exact hx
        · intro e
          have := congrArg Addr.off e
          simp only at this
          omega
theorem setRun_below {B g : Nat} (hg : B ≤ g) {w0 : World} : ∀ (cs : List Value) (w : World) (p : Nat), Below B w0 w → Below B w0 (setRun w g p cs)
  | [], _, _, h => h
  | v :: cs, _, p, h => setRun_below hg cs _ _ (Below.setCell h (p := ⟨g, p, none⟩) hg v)

theorem MAt.set {w : World} {g : Nat} {ps : List (Up × Option Addr × Nat)} (h : MAt w g ps) {a : Nat} (p : Up × Option Addr × Nat) (ha : a < ps.length) : MAt (setRun w g (a * 9) (upCells p.1 p.2.1 p.2.2)) g (ps.set a p) := by
  refine ⟨fun j q hq i hi => ?_, fun q hq => ?_⟩
  · by_cases e : j = a
    · subst e
      rw [List.getElem?_set_self ha] at hq
      cases hq
      exact setRun_at g _ w (j * 9) i (by rw [upCells_len]; exact hi) fun k hk => by
        rw [upCells_len] at hk
        refine ⟨_, (h.cell j ps[j] (List.getElem?_eq_getElem ha) k hk).trans (List.getElem?_eq_getElem (by rw [upCells_len]; exact hk))⟩
    · rw [List.getElem?_set_ne (fun x => e x.symm)] at hq
      rw [setRun_far g _ _ _ _ (by rw [upCells_len]; omega)]
      exact h.cell j q hq i hi
  · rw [setRun_free]
    rw [List.length_set] at hq
    exact h.free q hq
theorem MAt.later {w w' : World} {g : Nat} {ps : List (Up × Option Addr × Nat)} (h : MAt w g ps) (hg : g < w.heap.size) (hb : Below w.heap.size w w') : MAt w' g ps :=
  ⟨fun j p hp i hi => (hb.cell (p := ⟨g, j * 9 + i, none⟩) hg).trans (h.cell j p hp i hi), fun q hq => (hb.frozen (p := ⟨g, q, none⟩) hg).trans (h.free q hq)⟩
theorem Clks.later {w w' : World} {ps : List (Up × Option Addr × Nat)} (h : Clks w ps) (hb : Below w.heap.size w w') : Clks w' ps := fun p hp => ⟨(h p hp).1.later hb, (h p hp).2⟩
theorem MAt.ups {w : World} {g : Nat} {ps : List (Up × Option Addr × Nat)} (h : MAt w g ps) (hc : Clks w ps) : UpsAt w g 0 (ps.map Prod.fst) := by
  intro j u hu
  rw [List.getElem?_map] at hu
  cases hp : ps[j]? with
  | none => rw [hp] at hu; cases hu
  | some p =>
    rw [hp] at hu
    cases hu
    have hm := hc p (List.mem_of_getElem? hp)
    exact ⟨p.2.1, p.2.2, fun i hi => by rw [Nat.zero_add]; exact h.cell j p hp i hi, hm.1, hm.2⟩

/-- append(nil, l...) -/
theorem app_upds (w : World) {ops : Array Oper} {rest : List Oper} {o : Oper} {a : Act} {Q : Exit → Act → World → Prop} (hgd : o.guard = none) (s x : Operand)
    (ho : o.op = .call { callee := .builtin .append, args := #[s, x], argTypes := #[49, 49] }) (base : Nat) (hs : a.eval s = .slice none 0 0)
    (vo : Option Addr) (cap : Nat) (l : List Up) (hx : a.eval x = .slice vo l.length cap) (hsrc : UpsO w vo l) (hn : vo = none → cap = 0) (hl : l.length * 96 ≤ 140737488351232) (hbase : base ≤ w.heap.size)
    (h : ∀ (mo : Option Addr) (mc : Nat) (w' : World) (ps : List (Up × Option Addr × Nat)), ps.map Prod.fst = l → Clks w ps → (0 < l.length → ∃ g, mo = some ⟨g, 0, none⟩ ∧ base ≤ g ∧ g < w'.heap.size ∧ MAt w' g ps) → l.length ≤ mc → mc ≤ maxLen → Below base w w' → wpList Try.prog ops Q rest (a.put o.dst (.slice mo l.length mc)) w') :
    wpList Try.prog ops Q (o :: rest) a w := by
  obtain ⟨i0, hi, hz0, hz1, hz2⟩ := info_parts el_update.info
  by_cases h0 : 0 < l.length
  · obtain ⟨b, off, rfl, hu⟩ := hsrc h0
    obtain ⟨cs, hcl, hcs⟩ := hu.slices
    refine wpList_append_own w hgd s x 49 ho base 28 i0 _ 9 96 el_update.und hi hz0 hz1 hz2 el_update.zc (by decide) (.slice none 0 0) 0 [] hs (World.ownsRow_nil _ _ _ _) ⟨b, off, none⟩ l.length cap (upFlat l cs) hx (upFlat_len hcl) ?_ (upFlat_one l cs) (by unfold maxLen; omega) (by omega) hbase ?_
    · intro j v hv
      have hj : j < l.length * 9 := by
        have := (List.getElem?_eq_some_iff.1 hv).1
        rwa [upFlat_len hcl] at this
      have hq : j / 9 < l.length := by omega
      have e : j = j / 9 * 9 + j % 9 := by omega
      have h9 : j % 9 < 9 := by omega
      generalize j / 9 = q at *
      generalize j % 9 = i at *
      subst e
      have hlq : l[q]? = some l[q] := List.getElem?_eq_getElem hq
      have hcq : cs[q]? = some (cs[q]'(by omega)) := List.getElem?_eq_getElem _
      rw [upFlat_get hcl hlq hcq i h9] at hv
      have := (hcs q _ _ hlq hcq).cell i h9
      rw [hv] at this
      rw [Addr.add_lit, ← Nat.add_assoc]
      exact this
    · intro v' w' h1 h2 _
      rw [Nat.zero_add, List.nil_append] at h1
      have hb : Below base w w' := (Below.refl base w).grown h2 hbase (fun q hq => by simp [Value.ownBlock] at hq)
      have hzl : (l.zip cs).map Prod.fst = l := List.map_fst_zip (by omega)
      have hzg : ∀ (j : Nat) (p : Up × Option Addr × Nat), (l.zip cs)[j]? = some p → l[j]? = some p.1 ∧ cs[j]? = some p.2 := fun j p hp => by
        rw [List.getElem?_zip_eq_some] at hp
        exact hp
      have hck : Clks w (l.zip cs) := fun p hp => by
        obtain ⟨j, hj⟩ := List.getElem?_of_mem hp
        obtain ⟨k1, k2⟩ := hzg j p hj
        have := hcs j _ _ k1 k2
        exact ⟨this.clk, this.fit⟩
      have hcells := fun g (e : v'.ownBlock = some g) => World.ownsRow.cells h1 (g := g) e
      rcases h1.2 with ⟨rfl, hnil⟩ | ⟨g, c', cur, rfl, hg, hh, hnc, hm, hsz, htk⟩
      · omega
      · refine h (some ⟨g, 0, none⟩) c' w' (l.zip cs) hzl hck (fun _ => ⟨g, rfl, hg, (Array.getElem?_eq_some_iff.1 hh).1, fun j p hp i hi => ?_, fun q _ => frozen_of_row w' g q cur _ hh⟩) hnc hm hb
        obtain ⟨k1, k2⟩ := hzg j p hp
        have e := upFlat_get hcl k1 k2 i hi
        have hx2 : (upCells p.1 p.2.1 p.2.2)[i]? = some ((upCells p.1 p.2.1 p.2.2)[i]'(by rw [upCells_len]; exact hi)) := List.getElem?_eq_getElem _
        have := hcells g rfl (j * 9 + i) _ (e.trans hx2)
        rw [Addr.add_lit, Nat.zero_add] at this
        rw [hx2]
        exact this
  · have hnil : l = [] := List.eq_nil_of_length_eq_zero (by omega)
    subst hnil
    cases vo with
    | none =>
      rw [hn rfl] at hx
      refine wpList_append_own_none hgd s x 49 ho base 28 i0 9 el_update.und hi (.slice none 0 0) 0 [] hs (World.ownsRow_nil _ _ _ _) hx ?_
      exact h none 0 w [] rfl (fun p hp => by simp at hp) (fun q => by simp at q) (by simp) (by unfold maxLen; omega) (Below.refl _ _)
    | some ad =>
      refine wpList_append_own w hgd s x 49 ho base 28 i0 _ 9 96 el_update.und hi hz0 hz1 hz2 el_update.zc (by decide) (.slice none 0 0) 0 [] hs (World.ownsRow_nil _ _ _ _) ad 0 cap [] hx rfl (fun j v hv => by simp at hv) (fun v hv => by simp at hv) (by unfold maxLen; omega) (by omega) hbase ?_
      intro v' w' h1 h2 _
      have hb : Below base w w' := (Below.refl base w).grown h2 hbase (fun q hq => by simp [Value.ownBlock] at hq)
      rcases h1.2 with ⟨rfl, _⟩ | ⟨g, c', cur, rfl, hg, hh, hnc, hm, hsz, htk⟩
      · exact h none 0 w' [] rfl (fun p hp => by simp at hp) (fun q => by simp at q) (by simp) (by unfold maxLen; omega) hb
      · exact h (some ⟨g, 0, none⟩) c' w' [] rfl (fun p hp => by simp at hp) (fun q => by simp at q) (by simp) hm hb

/-- two were changed about -/
theorem MAt.swap {w : World} {g : Nat} {ps : List (Up × Option Addr × Nat)} (h : MAt w g ps) {a b : Nat} (ha : a < ps.length) (hb : b < ps.length) :
    MAt (setRun (setRun w g (a * 9) (upCells ps[b].1 ps[b].2.1 ps[b].2.2)) g (b * 9) (upCells ps[a].1 ps[a].2.1 ps[a].2.2)) g ((ps.set a ps[b]).set b ps[a]) ∧ ((ps.set a ps[b]).set b ps[a]).Perm ps :=
  ⟨(h.set ps[b] ha).set ps[a] (by rw [List.length_set]; exact hb), List.set_set_perm ha hb⟩
theorem val_one : valD 2 [110] [⟨0, [1, 0], 2, 0, [110], [], 5, 0, 0⟩] = (([], [], 5), 0) := by decide +kernel
end Go.Proofs.Yteljbblbdiploaa

namespace Go.Proofs.Yteljbblbdiploaa
open Go.RowKit

theorem MAt.nine {w : World} {g : Nat} {ps : List (Up × Option Addr × Nat)} (h : MAt w g ps) {j : Nat} {p : Up × Option Addr × Nat} (hp : ps[j]? = some p) : w.cell? ⟨g, j * 9, none⟩ = some (.int .i64 p.1.o) ∧ w.cell? ⟨g, j * 9 + 1, none⟩ = some (.slice p.2.1 p.1.c.length p.2.2) ∧ w.cell? ⟨g, j * 9 + 2, none⟩ = some (.int .u8 p.1.t) ∧ w.cell? ⟨g, j * 9 + 3, none⟩ = some (.int .u8 p.1.k) ∧ w.cell? ⟨g, j * 9 + 4, none⟩ = some (.string (bs p.1.n)) ∧
    w.cell? ⟨g, j * 9 + 5, none⟩ = some (.string (bs p.1.x)) ∧ w.cell? ⟨g, j * 9 + 6, none⟩ = some (.int .i64 p.1.a) ∧ w.cell? ⟨g, j * 9 + 7, none⟩ = some (.int .i64 p.1.ao) ∧ w.cell? ⟨g, j * 9 + 8, none⟩ = some (.int .i64 p.1.az) :=
  ⟨h.cell j p hp 0 (by omega), h.cell j p hp 1 (by omega), h.cell j p hp 2 (by omega), h.cell j p hp 3 (by omega), h.cell j p hp 4 (by omega), h.cell j p hp 5 (by omega), h.cell j p hp 6 (by omega), h.cell j p hp 7 (by omega), h.cell j p hp 8 (by omega)⟩
theorem MAt.free9 {w : World} {g : Nat} {ps : List (Up × Option Addr × Nat)} (h : MAt w g ps) {j : Nat} (hj : j < ps.length) : w.frozen? ⟨g, j * 9, none⟩ = false ∧ w.frozen? ⟨g, j * 9 + 1, none⟩ = false ∧ w.frozen? ⟨g, j * 9 + 2, none⟩ = false ∧ w.frozen? ⟨g, j * 9 + 3, none⟩ = false ∧ w.frozen? ⟨g, j * 9 + 4, none⟩ = false ∧
    w.frozen? ⟨g, j * 9 + 5, none⟩ = false ∧ w.frozen? ⟨g, j * 9 + 6, none⟩ = false ∧ w.frozen? ⟨g, j * 9 + 7, none⟩ = false ∧ w.frozen? ⟨g, j * 9 + 8, none⟩ = false :=
  ⟨h.free _ (by omega), h.free _ (by omega), h.free _ (by omega), h.free _ (by omega), h.free _ (by omega), h.free _ (by omega), h.free _ (by omega), h.free _ (by omega), h.free _ (by omega)⟩
theorem MAt.swapped {w : World} {g : Nat} {ps : List (Up × Option Addr × Nat)} (h : MAt w g ps) {a b : Nat} {pa pb : Up × Option Addr × Nat} (ha : ps[a]? = some pa) (hb : ps[b]? = some pb) :
    MAt (setRun (setRun w g (a * 9) (upCells pb.1 pb.2.1 pb.2.2)) g (b * 9) (upCells pa.1 pa.2.1 pa.2.2)) g ((ps.set a pb).set b pa) ∧ ((ps.set a pb).set b pa).Perm ps := by
  obtain ⟨h1, rfl⟩ := List.getElem?_eq_some_iff.1 ha
  obtain ⟨h2, rfl⟩ := List.getElem?_eq_some_iff.1 hb
  exact h.swap h1 h2
theorem next_place (a k n : Nat) (ha : a < n) (hn : 1 < n) (hm : n ≤ 9223372036854775) : ∃ b : Nat, b < n ∧ (wrap64 ((a : Int) + 1 + (k : Int) % ((n : Int) - 1))).tmod n = b := by
  have h1 := Int.emod_nonneg (k : Int) (show (n : Int) - 1 ≠ 0 by omega)
  have h2 := Int.emod_lt_of_pos (k : Int) (show (0 : Int) < (n : Int) - 1 by omega)
  rw [Go.IntWalk.wrap64_in _ (by omega), Int.tmod_eq_emod_of_nonneg (by omega)]
  generalize (a : Int) + 1 + (k : Int) % ((n : Int) - 1) = x at *
  have h3 := Int.emod_nonneg x (show (n : Int) ≠ 0 by omega)
  have h4 := Int.emod_lt_of_pos x (show (0 : Int) < n by omega)
  exact ⟨(x % n).toNat, by omega, by omega⟩

theorem one_ups {w1 : World} {B : Nat} (k1 : w1.heap[B]? = some (.cells #[.int .i64 1, .int .i64 0] 3 (0, 0))) :
    UpsAt (w1.alloc (.cells #[.int .i64 0, .slice (some ⟨B, 0, none⟩) 2 2, .int .u8 2, .int .u8 0, .string ⟨#[110]⟩, .string ⟨#[]⟩, .int .i64 5, .int .i64 0, .int .i64 0] 28)) w1.heap.size 0 [⟨0, [1, 0], 2, 0, [110], [], 5, 0, 0⟩] := by
  intro j u hu
  match j, hu with
  | 0, hu =>
    cases hu
    refine ⟨some ⟨B, 0, none⟩, 2, fun i hi => ?_, ?_, ⟨by simp, by simp [maxLen], by simp, by simp, by simp⟩⟩
    · rw [cell_of_row _ _ _ _ _ (0, 0) (heap_alloc_new w1 _)]
      have : i = 0 ∨ i = 1 ∨ i = 2 ∨ i = 3 ∨ i = 4 ∨ i = 5 ∨ i = 6 ∨ i = 7 ∨ i = 8 := by omega
      rcases this with rfl | rfl | rfl | rfl | rfl | rfl | rfl | rfl | rfl <;> rfl
    · have k2 := ((Below.refl w1.heap.size w1).alloc (Nat.le_refl _) (.cells #[.int .i64 0, .slice (some ⟨B, 0, none⟩) 2 2, .int .u8 2, .int .u8 0, .string ⟨#[110]⟩, .string ⟨#[]⟩, .int .i64 5, .int .i64 0, .int .i64 0] 28)).block B (lt_of_block k1)
      rw [k1] at k2
      refine .inr ⟨⟨B, 0, none⟩, rfl, fun j hj => ?_⟩
      rw [Addr.add_lit, Nat.zero_add, cell_of_row _ _ _ _ _ (0, 0) k2]
      have : j = 0 ∨ j = 1 := by simp at hj; omega
      rcases this with rfl | rfl <;> rfl

theorem has_at {α : Type} {l : List α} {i n : Nat} (hl : l.length = n) (h : i < n) : ∃ p, l[i]? = some p := ⟨l[i]'(by omega), List.getElem?_eq_getElem _⟩
theorem len_small {n : Nat} (h : n * 96 ≤ 140737488351232) : n ≤ 9223372036854775 := by omega
theorem MAt.freeOf {w : World} {g : Nat} {ps : List (Up × Option Addr × Nat)} (h : MAt w g ps) {j : Nat} {p : Up × Option Addr × Nat} (hp : ps[j]? = some p) : w.frozen? ⟨g, j * 9, none⟩ = false ∧ w.frozen? ⟨g, j * 9 + 1, none⟩ = false ∧ w.frozen? ⟨g, j * 9 + 2, none⟩ = false ∧ w.frozen? ⟨g, j * 9 + 3, none⟩ = false ∧ w.frozen? ⟨g, j * 9 + 4, none⟩ = false ∧
    w.frozen? ⟨g, j * 9 + 5, none⟩ = false ∧ w.frozen? ⟨g, j * 9 + 6, none⟩ = false ∧ w.frozen? ⟨g, j * 9 + 7, none⟩ = false ∧ w.frozen? ⟨g, j * 9 + 8, none⟩ = false := h.free9 (List.getElem?_eq_some_iff.1 hp).1
/-- nine cells, stored one after another -/
theorem run_nine (w : World) (g a : Nat) (u : Up) (ao : Option Addr) (cap : Nat) :
    setRun w g (a * 9) (upCells u ao cap) = ((((((((w.setCell ⟨g, a * 9, none⟩ (.int .i64 u.o)).setCell ⟨g, a * 9 + 1, none⟩ (.slice ao u.c.length cap)).setCell ⟨g, a * 9 + 2, none⟩ (.int .u8 u.t)).setCell ⟨g, a * 9 + 3, none⟩ (.int .u8 u.k)).setCell ⟨g, a * 9 + 4, none⟩ (.string (bs u.n))).setCell ⟨g, a * 9 + 5, none⟩ (.string (bs u.x))).setCell ⟨g, a * 9 + 6, none⟩ (.int .i64 u.a)).setCell ⟨g, a * 9 + 7, none⟩ (.int .i64 u.ao)).setCell ⟨g, a * 9 + 8, none⟩ (.int .i64 u.az) := rfl
/-- what was turned about is still the same updates -/
theorem turned_ups {wb w5 wr : World} {B : Nat} {mo : Option Addr} {ps qs : List (Up × Option Addr × Nat)} {l : List Up} (hz : wb.heap.size = B) (hck : Clks wb ps) (hb5 : Below B wb w5) (hb : Below B w5 wr) (hp : qs.Perm ps) (hpl : ps.map Prod.fst = l)
    (hr : 0 < l.length → ∃ g, mo = some ⟨g, 0, none⟩ ∧ B ≤ g ∧ g < wr.heap.size ∧ MAt wr g qs) : UpsO wr mo (qs.map Prod.fst) ∧ (qs.map Prod.fst).Perm l ∧ (qs.map Prod.fst).length = l.length := by
  subst hz
  have hpm : (qs.map Prod.fst).Perm l := by rw [← hpl]; exact hp.map _
  have hlen := hpm.length_eq
  refine ⟨fun h0 => ?_, hpm, hlen⟩
  obtain ⟨g, rfl, _, _, hm⟩ := hr (by omega)
  have hck' : Clks wr qs := fun p hq => (hck.later (hb5.trans hb)) p (hp.subset hq)
  exact ⟨g, 0, rfl, hm.ups hck'⟩
theorem three_box {w : World} {B : Nat} {a b c : Value} {T : TypeId} (h : w.heap[B]? = some (.cells #[a, b, c] T (0, 0))) : w.cell? ⟨B, 0, none⟩ = some a ∧ w.cell? ⟨B, 1, none⟩ = some b ∧ w.cell? ⟨B, 2, none⟩ = some c :=
  ⟨cell_of_row w B 0 _ T (0, 0) h, cell_of_row w B 1 _ T (0, 0) h, cell_of_row w B 2 _ T (0, 0) h⟩
theorem nine_box {w : World} {B : Nat} {a0 a1 a2 a3 a4 a5 a6 a7 a8 : Value} {T : TypeId} (h : w.heap[B]? = some (.cells #[a0, a1, a2, a3, a4, a5, a6, a7, a8] T (0, 0))) :
    w.cell? ⟨B, 0, none⟩ = some a0 ∧ w.cell? ⟨B, 1, none⟩ = some a1 ∧ w.cell? ⟨B, 2, none⟩ = some a2 ∧ w.cell? ⟨B, 3, none⟩ = some a3 ∧ w.cell? ⟨B, 4, none⟩ = some a4 ∧ w.cell? ⟨B, 5, none⟩ = some a5 ∧ w.cell? ⟨B, 6, none⟩ = some a6 ∧ w.cell? ⟨B, 7, none⟩ = some a7 ∧ w.cell? ⟨B, 8, none⟩ = some a8 :=
  ⟨cell_of_row w B 0 _ T (0, 0) h, cell_of_row w B 1 _ T (0, 0) h, cell_of_row w B 2 _ T (0, 0) h, cell_of_row w B 3 _ T (0, 0) h, cell_of_row w B 4 _ T (0, 0) h, cell_of_row w B 5 _ T (0, 0) h, cell_of_row w B 6 _ T (0, 0) h, cell_of_row w B 7 _ T (0, 0) h, cell_of_row w B 8 _ T (0, 0) h⟩
theorem box_kept {w5 wr w6 w7 : World} {B : Nat} {cs : Array Value} {T : TypeId} {fr : Nat × Nat} (h5 : w5.heap[B]? = some (.cells cs T fr)) (hb : Below (B + 1) w5 wr) (h6 : Below wr.heap.size wr w6) (h7 : Below w6.heap.size w6 w7) : w7.heap[B]? = some (.cells cs T fr) := by
  have h1 := (hb.block B (Nat.lt_succ_self B)).trans h5
  have h2 := (h6.block B (lt_of_block h1)).trans h1
  exact (h7.block B (lt_of_block h2)).trans h2
theorem isval_kept {wb w5 wr w6 w7 : World} {B base : Nat} {v : Value} {r : List Tx × List (Int × Int) × Int} (hz : wb.heap.size = B) (h : IsVal wb base v r) (h5 : Below B wb w5) (hb : Below B w5 wr) (h6 : Below wr.heap.size wr w6) (h7 : Below w6.heap.size w6 w7) : IsVal w7 base v r := by
  subst hz
  exact ((h.later (h5.trans hb)).later h6).later h7
theorem setRun_apart {B g : Nat} (hne : B ≠ g) (q : Nat) : ∀ (cs : List Value) (w : World) (p : Nat), (setRun w g p cs).cell? ⟨B, q, none⟩ = w.cell? ⟨B, q, none⟩
  | [], _, _ => rfl
  | v :: cs, w, p => by
    rw [setRun, setRun_apart hne q cs, World.cell?_setCell_other]
    intro e
    exact hne (congrArg Addr.block e).symm
theorem setRun_size (g : Nat) : ∀ (cs : List Value) (w : World) (p : Nat), (setRun w g p cs).heap.size = w.heap.size
  | [], _, _ => rfl
  | v :: cs, w, p => by rw [setRun, setRun_size g cs]; simp [World.setCell]
/-- the nine cells of another block are as they were -/
theorem nine_apart {w : World} {B g p : Nat} {cs : List Value} {a0 a1 a2 a3 a4 a5 a6 a7 a8 : Value} {T : TypeId} (hne : B ≠ g) (h : w.heap[B]? = some (.cells #[a0, a1, a2, a3, a4, a5, a6, a7, a8] T (0, 0))) :
    (setRun w g p cs).cell? ⟨B, 0, none⟩ = some a0 ∧ (setRun w g p cs).cell? ⟨B, 1, none⟩ = some a1 ∧ (setRun w g p cs).cell? ⟨B, 2, none⟩ = some a2 ∧ (setRun w g p cs).cell? ⟨B, 3, none⟩ = some a3 ∧ (setRun w g p cs).cell? ⟨B, 4, none⟩ = some a4 ∧ (setRun w g p cs).cell? ⟨B, 5, none⟩ = some a5 ∧
      (setRun w g p cs).cell? ⟨B, 6, none⟩ = some a6 ∧ (setRun w g p cs).cell? ⟨B, 7, none⟩ = some a7 ∧ (setRun w g p cs).cell? ⟨B, 8, none⟩ = some a8 := by
  obtain ⟨h0, h1, h2, h3, h4, h5, h6, h7, h8⟩ := nine_box h
  exact ⟨(setRun_apart hne _ _ _ _).trans h0, (setRun_apart hne _ _ _ _).trans h1, (setRun_apart hne _ _ _ _).trans h2, (setRun_apart hne _ _ _ _).trans h3, (setRun_apart hne _ _ _ _).trans h4, (setRun_apart hne _ _ _ _).trans h5, (setRun_apart hne _ _ _ _).trans h6, (setRun_apart hne _ _ _ _).trans h7, (setRun_apart hne _ _ _ _).trans h8⟩
theorem turn_same {α : Type} {l : List α} {a b : Nat} {x y : α} (ha : l[a]? = some x) (hb : l[b]? = some y) : (l.set a y)[b]? = some y := by
  by_cases e : a = b
  · subst e
    exact List.getElem?_set_self (List.getElem?_eq_some_iff.1 ha).1
  · rw [List.getElem?_set_ne e]
    exact hb
theorem swap_perm {α : Type} {l : List α} {a b : Nat} {x y : α} (ha : l[a]? = some x) (hb : l[b]? = some y) : ((l.set a y).set b x).Perm l := by
  obtain ⟨h1, rfl⟩ := List.getElem?_eq_some_iff.1 ha
  obtain ⟨h2, rfl⟩ := List.getElem?_eq_some_iff.1 hb
  exact List.set_set_perm h1 h2
theorem MAt.put {w : World} {g : Nat} {ps : List (Up × Option Addr × Nat)} (h : MAt w g ps) {a : Nat} {x : Up × Option Addr × Nat} (ha : ps[a]? = some x) (p : Up × Option Addr × Nat) : MAt (setRun w g (a * 9) (upCells p.1 p.2.1 p.2.2)) g (ps.set a p) := h.set p (List.getElem?_eq_some_iff.1 ha).1
end Go.Proofs.Yteljbblbdiploaa
