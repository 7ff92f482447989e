/-
  WALKS: package crdt: the updates of a thing; amounts added up.
-/
/-
  PLAIN: lists of updates that may stand together, one by one; there are no more than 8000.
-/
/-
  WALKS: package crdt: may updates stand in one list?
-/
import Derived.Test.YteljbblbdiploaaJVWorth
import Derived.Test.YteljbblbdiploaaJVMapI
import Derived.Test.YteljbblbdiploaaJVKids
namespace Go.Proofs.Yteljbblbdiploaa
open Go.RowKit

set_option maxRecDepth 16000 in
set_option maxHeartbeats 1000000 in
theorem ofThing_any (kind : Int) (name : Tx) (vo : Option Addr) (cap : Nat) (l : List Up) (w : World) (hu : UpsO w vo l) (hl : l.length ≤ 8000) :
    Calls Try.prog 42 #[.int .u8 kind, .string (bs name), .slice vo l.length cap] w fun e w' => ∃ v, e = .returned v ∧ UpRow w w' w.heap.size v (ofD kind name l) ∧ (ofD kind name l = [] → v = .slice none 0 0) ∧ Below w.heap.size w w' := by
  have HU := hid hu
  clear hu
  go_enter Try.func42, Try.ntmps42
  go_wp2_with fail
  go_loopw [7, 12] (fun v i wr => ∃ k : Nat, k ≤ l.length ∧ i = .int .i64 k ∧ UpRow w wr w.heap.size v (ofD kind name (l.take k)) ∧ (ofD kind name (l.take k) = [] → v = .slice none 0 0) ∧ Below w.heap.size w wr) (fun _ i _ => l.length - (intOf i).toNat)
  case atStart => exact ⟨0, by omega, rfl, UpRow.nil _ _ _, fun _ => rfl, Below.refl _ _⟩
  case round =>
    obtain ⟨k, hk, rfl, hrow, hnil, hbw⟩ := hrel
    have HNIL := hid hnil
    have HR := hid hrow
    have HB := hid hbw
    clear hrow hnil
    have hil := ofD_len kind name (l.take k)
    rw [List.length_take] at hil
    by_cases hlt : k < l.length
    · obtain ⟨u, hu⟩ : ∃ u, l[k]? = some u := ⟨l[k], List.getElem?_eq_getElem hlt⟩
      obtain ⟨b, off, rfl, hup⟩ := HU.out (by omega)
      obtain ⟨ua, uc, hut⟩ := (hup.later hbw) k u hu
      obtain ⟨ua', uc', hut'⟩ := hup k u hu
      clear hup
      have hst := ofD_step (kind := kind) (name := name) hu
      obtain ⟨c0, c1, c2, c3, c4, c5, c6, c7, c8⟩ := hut.nine
      have hsame : ua = ua' ∧ uc = uc' := by
        have h1 := hut'.nine.2.1
        have h2 := (hbw.cell (p := ⟨b, off + k * 9 + 1, none⟩) hut'.lt).trans h1
        have h3 := h2.symm.trans c1
        cases h3; exact ⟨rfl, rfl⟩
      obtain ⟨rfl, rfl⟩ := hsame
      have HUT := hid hut'
      have HST := hid hst
      clear hu hut hut' hst hbw
      have HBA : Hid (Below w.heap.size w (wr.alloc (.cells #[.int .i64 u.o, .slice ua u.c.length uc, .int .u8 u.t, .int .u8 u.k, .string (bs u.n), .string (bs u.x), .int .i64 u.a, .int .i64 u.ao, .int .i64 u.az] 28))) := HB.out.alloc HB.out.size _
      have HRA := hid (HR.out.later ((Below.refl wr.heap.size wr).alloc (Nat.le_refl _) (.cells #[.int .i64 u.o, .slice ua u.c.length uc, .int .u8 u.t, .int .u8 u.k, .string (bs u.n), .string (bs u.x), .int .i64 u.a, .int .i64 u.ao, .int .i64 u.az] 28)))
      by_cases hk1 : u.t = kind
      · have hk1' : (u.t == kind) = true := by simp [hk1]
        by_cases hk2 : u.n = name
        · have hk2' : (u.n == name) = true := by simp [hk2]
          have HK : Hid (u.t = kind ∧ u.n = name) := ⟨hk1, hk2⟩
          clear hk1 hk2
          go_wp2_with (at_builtin; refine app_up w _ rfl (.tmp 28) (.tmp 30) rfl w.heap.size _ _ rfl HRA.out u ua uc HUT.out.clk HUT.out.fit ?cx ?c2 ?c4 ?_)
          case cx => simp [Act.eval]
          case c2 => omega
          case c4 => exact HBA.out.size
          intro g2 cap2 w2 ho2 hg2 hb2
          have HO2 := hid ho2
          have HB2 : Hid (Below w.heap.size w w2) := HBA.out.trans hb2
          clear ho2 hg2 hb2
          go_wp2_with fail
          go_roundw
          case rel => exact ⟨k + 1, by omega, by go_num, by rw [HST.out, if_pos HK.out]; exact HO2.out, by rw [HST.out, if_pos HK.out]; simp, HB2.out⟩
          case measure => simp [intOf]; omega
        · have hk2' : (u.n == name) = false := by simp [hk2]
          have HK : Hid (¬ (u.t = kind ∧ u.n = name)) := fun h => hk2 h.2
          clear hk1 hk2
          go_wp2_with fail
          go_roundw
          case rel => exact ⟨k + 1, by omega, by go_num, by rw [HST.out, if_neg HK.out]; exact HRA.out, by rw [HST.out, if_neg HK.out]; exact HNIL.out, HBA.out⟩
          case measure => simp [intOf]; omega
      · have hk1' : (u.t == kind) = false := by simp [hk1]
        have HK : Hid (¬ (u.t = kind ∧ u.n = name)) := fun h => hk1 h.1
        clear hk1
        go_wp2_with fail
        go_roundw
        case rel => exact ⟨k + 1, by omega, by go_num, by rw [HST.out, if_neg HK.out]; exact HRA.out, by rw [HST.out, if_neg HK.out]; exact HNIL.out, HBA.out⟩
        case measure => simp [intOf]; omega
    · have htk : l.take k = l := List.take_of_length_le (by omega)
      have hrow := HR.out
      have hnil := HNIL.out
      rw [htk] at hrow hnil
      have HR2 := hid hrow
      have HN2 := hid hnil
      clear hrow hnil htk hbw
      go_wp2_with fail
      go_ret
      exact ⟨_, rfl, HR2.out, HN2.out, HB.out⟩

set_option maxRecDepth 16000 in
set_option maxHeartbeats 1000000 in
theorem total_any (vo : Option Addr) (cap : Nat) (l : List Up) (w : World) (hu : UpsO w vo l) (hg : ∀ u ∈ l, u.good = true) (hl : l.length ≤ 8000) :
    Calls Try.prog 64 #[.slice vo l.length cap] w fun e w' => e = .returned (.int .i64 (sumD l)) ∧ Below w.heap.size w w' := by
  have HU := hid hu
  have HG := hid hg
  clear hu hg
  go_enter Try.func64, Try.ntmps64
  go_wp2_with fail
  go_loopw [3, 8] (fun sm i wr => ∃ k : Nat, k ≤ l.length ∧ i = .int .i64 k ∧ sm = .int .i64 (sumD (l.take k)) ∧ Below w.heap.size w wr) (fun _ i _ => l.length - (intOf i).toNat)
  case atStart => exact ⟨0, by omega, rfl, rfl, Below.refl _ _⟩
  case round =>
    obtain ⟨k, hk, rfl, rfl, hb⟩ := hrel
    have HB := hid hb
    have hsum := sumD_in (l := l.take k) (fun u hu => HG.out u (List.mem_of_mem_take hu))
    rw [List.length_take] at hsum
    have hs0 : -8000000 ≤ sumD (l.take k) ∧ sumD (l.take k) ≤ 8000000 := by omega
    clear hsum
    by_cases hlt : k < l.length
    · obtain ⟨u, hu⟩ : ∃ u, l[k]? = some u := ⟨l[k], List.getElem?_eq_getElem hlt⟩
      obtain ⟨b, off, rfl, hup⟩ := HU.out (by omega)
      obtain ⟨ua, uc, hut⟩ := (hup.later hb) k u hu
      clear hup
      have ham := Up.amt_in (HG.out u (List.mem_of_getElem? hu))
      obtain ⟨c0, c1, c2, c3, c4, c5, c6, c7, c8⟩ := hut.nine
      have hsn : sumD (l.take (k + 1)) = sumD (l.take k) + u.a := by
        rw [List.take_add_one, hu]; exact sumD_app _ _
      have HSN := hid hsn
      clear hu hut hsn hb
      generalize sumD (l.take k) = sm at *
      go_wp2_with fail
      go_roundw
      case rel => exact ⟨k + 1, by omega, by go_num, by rw [HSN.out], HB.out.alloc HB.out.size _⟩
      case measure => simp [intOf]; omega
    · have htk : l.take k = l := List.take_of_length_le (by omega)
      rw [htk] at hs0 ⊢
      clear htk
      go_wp2_with fail
      go_ret
      exact ⟨rfl, HB.out⟩
end Go.Proofs.Yteljbblbdiploaa

namespace Go.Proofs.Yteljbblbdiploaa

theorem nodup_bound : ∀ (n : Nat) (l : List Nat), l.Nodup → (∀ x ∈ l, x < n) → l.length ≤ n
  | 0, l, _, h => by
    cases l with
    | nil => simp
    | cons x l => have := h x (by simp); omega
  | n + 1, l, hn, h => by
    have ih := nodup_bound n (l.erase n) (hn.erase n) fun x hx => by
      have h1 := (hn.mem_erase_iff).1 hx
      have := h x h1.2
      omega
    have := List.length_erase (a := n) (l := l)
    split at this <;> omega

/-- an update's id as one number -/
def Up.code (u : Up) : Nat := u.o.toNat * 1000 + (u.seq.toNat - 1)
theorem Up.code_lt {u : Up} (h : u.good = true) : u.code < 8000 := by
  obtain ⟨h1, _, h3, h4, _⟩ := u.good_iff.1 h
  have := (u.at_in h u.o).2
  unfold Up.code Up.seq at *
  omega
theorem Up.code_inj {u v : Up} (hu : u.good = true) (hv : v.good = true) (h : u.code = v.code) : u.id = v.id := by
  obtain ⟨_, _, a3, a4, _⟩ := u.good_iff.1 hu
  obtain ⟨_, _, b3, b4, _⟩ := v.good_iff.1 hv
  have a5 := (u.at_in hu u.o).2
  have b5 := (v.at_in hv v.o).2
  have e1 : u.seq = u.at u.o := rfl
  have e2 : v.seq = v.at v.o := rfl
  unfold Up.code at h
  refine Prod.ext ?_ ?_
  · show u.o = v.o; omega
  · show u.seq = v.seq; omega
theorem Ups.len {l : List Up} (h : Ups l) : l.length ≤ 8000 := by
  have := nodup_bound 8000 (l.map Up.code) ?_ ?_
  · simpa using this
  · refine List.pairwise_map.2 (h.ids.imp_of_mem ?_)
    intro u v hu hv hne e
    exact hne (Up.code_inj (h.good u hu) (h.good v hv) e)
  · intro x hx
    obtain ⟨u, hu, rfl⟩ := List.mem_map.1 hx
    exact Up.code_lt (h.good u hu)

theorem Ups.nil : Ups [] := ⟨by simp, by simp, by simp⟩
theorem Ups.take {l : List Up} (h : Ups l) (n : Nat) : Ups (l.take n) :=
  ⟨fun u hu => h.good u (List.mem_of_mem_take hu), fun u hu v hv => h.one u (List.mem_of_mem_take hu) v (List.mem_of_mem_take hv), h.ids.sublist (List.take_sublist n l)⟩
/-- one more -/
theorem Ups.snoc {l : List Up} {i : Nat} {u : Up} (hu : l[i]? = some u) (h : Ups (l.take i)) (hg : u.good = true) (hl : ∀ z, l[0]? = some z → u.c.length = z.c.length) (hid : ∀ v ∈ l.take i, v.id ≠ u.id) : Ups (l.take (i + 1)) := by
  have e : l.take (i + 1) = l.take i ++ [u] := by rw [List.take_add_one, hu]; rfl
  have hall : ∀ v ∈ l.take i, v.c.length = u.c.length := by
    intro v hv
    cases hl0 : l with
    | nil => rw [hl0] at hv; simp at hv
    | cons z r =>
      have h0 : l[0]? = some z := by rw [hl0]; rfl
      have hz : z ∈ l.take i := by
        cases i with
        | zero => simp at hv
        | succ i => rw [hl0]; simp
      rw [h.one v hv z hz, hl z h0]
  rw [e]
  refine ⟨fun v hv => ?_, fun v hv x hx => ?_, List.pairwise_append.2 ⟨h.ids, by simp, fun v hv x hx => ?_⟩⟩
  · rcases List.mem_append.1 hv with m | m
    · exact h.good v m
    · rw [List.mem_singleton] at m; subst m; exact hg
  · rcases List.mem_append.1 hv with m | m <;> rcases List.mem_append.1 hx with m' | m'
    · exact h.one v m x m'
    · rw [List.mem_singleton] at m'; subst m'; exact hall v m
    · rw [List.mem_singleton] at m; subst m; exact (hall x m').symm
    · rw [List.mem_singleton] at m m'; subst m m'; rfl
  · rw [List.mem_singleton] at hx; subst hx; exact hid v hv

/-- no two of one id -/
def distB : List Up → Bool
  | [] => true
  | u :: l => l.all (fun v => decide (u.id ≠ v.id)) && distB l
theorem distB_iff : ∀ l, distB l = true ↔ l.Pairwise fun u v => u.id ≠ v.id
  | [] => by simp [distB]
  | u :: l => by rw [distB, Bool.and_eq_true, distB_iff l, List.pairwise_cons, List.all_eq_true]; simp
/-- may these updates stand together? -/
def upsB (l : List Up) : Bool := l.all Up.good && l.all (fun u => l.all fun v => decide (u.c.length = v.c.length)) && distB l
theorem upsB_iff (l : List Up) : upsB l = true ↔ Ups l := by
  unfold upsB
  rw [Bool.and_eq_true, Bool.and_eq_true, distB_iff, List.all_eq_true, List.all_eq_true]
  constructor
  · rintro ⟨⟨h1, h2⟩, h3⟩
    exact ⟨h1, fun u hu v hv => by have := List.all_eq_true.1 (h2 u hu) v hv; simpa using this, h3⟩
  · rintro ⟨h1, h2, h3⟩
    exact ⟨⟨h1, fun u hu => List.all_eq_true.2 fun v hv => by simpa using h2 u hu v hv⟩, h3⟩
/-- what updates come to, and the number of the error: as the document says it -/
def valD (kind : Int) (name : Tx) (l : List Up) : (List Tx × List (Int × Int) × Int) × Int :=
  if kind ≤ 3 ∧ 1 ≤ name.length ∧ name.length ≤ 8 then (if upsB l = true then (worthD kind name l, 0) else (([], [], 0), 2)) else (([], [], 0), 1)
theorem valD_yes {kind : Int} {name : Tx} {l : List Up} (ha : kind ≤ 3 ∧ 1 ≤ name.length ∧ name.length ≤ 8) (h : Ups l) : valD kind name l = (worthD kind name l, 0) := by rw [valD, if_pos ha, if_pos ((upsB_iff l).2 h)]
theorem valD_bad {kind : Int} {name : Tx} {l : List Up} (ha : kind ≤ 3 ∧ 1 ≤ name.length ∧ name.length ≤ 8) (h : ¬ Ups l) : valD kind name l = (([], [], 0), 2) := by rw [valD, if_pos ha, if_neg fun q => h ((upsB_iff l).1 q)]
theorem valD_arg {kind : Int} {name : Tx} {l : List Up} (ha : ¬ (kind ≤ 3 ∧ 1 ≤ name.length ∧ name.length ≤ 8)) : valD kind name l = (([], [], 0), 1) := by rw [valD, if_neg ha]
end Go.Proofs.Yteljbblbdiploaa

namespace Go.Proofs.Yteljbblbdiploaa
open Go.RowKit

/-- the ids that were met -/
def metOf (l : List Up) : List ((Int × Int) × Value) := l.map fun u => (u.id, .agg #[])
theorem metOf_none {l : List Up} {i : Int × Int} : getI (metOf l) i = none ↔ ∀ v ∈ l, v.id ≠ i := by
  unfold getI metOf
  rw [Option.map_eq_none_iff, List.find?_eq_none]
  simp
theorem metOf_some {l : List Up} {i : Int × Int} {x : Value} (h : getI (metOf l) i = some x) : x = .agg #[] := by
  unfold getI metOf at h
  rw [Option.map_eq_some_iff] at h
  obtain ⟨p, hp, rfl⟩ := h
  obtain ⟨u, _, rfl⟩ := List.mem_map.1 (List.mem_of_find?_eq_some hp)
  rfl

set_option maxRecDepth 16000 in
set_option maxHeartbeats 1000000 in
theorem areAlike_any (vo : Option Addr) (cap : Nat) (l : List Up) (w : World) (hu : UpsO w vo l) (hg : ∀ u ∈ l, u.good = true) (hlm : l.length ≤ 9223372036854775807) :
    Calls Try.prog 40 #[.slice vo l.length cap] w fun e w' => ∃ r, e = .returned (.bool r) ∧ (r = true ↔ Ups l) ∧ Below w.heap.size w w' := by
  have HU := hid hu
  have HG := hid hg
  clear hu hg
  have hmk : ∀ t w, (Instr.makeMap t none).run Try.prog w = .ok (.map (some w.heap.size)) (w.alloc (.map #[] 0)) := fun t w => run_makeMap t w
  go_enter Try.func40, Try.ntmps40
  go_wp2_with fail
  clear hmk
  have hm1 := MapI.made w
  have hb1 : Below w.heap.size w (w.alloc (.map #[] 0)) := (Below.refl _ _).alloc (Nat.le_refl _) _
  generalize w.alloc (.map #[] 0) = w1 at *
  have HM1 := hid hm1
  have HB1 := hid hb1
  have hz1 := hm1.lt
  clear hm1 hb1
  go_loopw [11] (fun i wr => ∃ k : Nat, k ≤ l.length ∧ i = .int .i64 k ∧ Ups (l.take k) ∧ MapI wr w.heap.size (metOf (l.take k)) ∧ Below w.heap.size w wr) (fun i _ => l.length - (intOf i).toNat)
  case atStart => exact ⟨0, by omega, rfl, Ups.nil, HM1.out, HB1.out⟩
  case round =>
    obtain ⟨k, hk, rfl, hups, hmap, hb⟩ := hrel
    have HUPS := hid hups
    have HM := hid hmap
    have HB := hid hb
    by_cases hlt : k < l.length
    · obtain ⟨u, hu⟩ : ∃ u, l[k]? = some u := ⟨l[k], List.getElem?_eq_getElem hlt⟩
      have hl0 : 0 < l.length := by omega
      obtain ⟨z, hz⟩ : ∃ z, l[0]? = some z := ⟨l[0], List.getElem?_eq_getElem hl0⟩
      have HZ := hid hz
      obtain ⟨b, off, rfl, hup⟩ := HU.out hl0
      obtain ⟨ua, uc, hut⟩ := (hup.later hb) k u hu
      obtain ⟨za, zc, hzt⟩ := (hup.later hb) 0 z HZ.out
      clear hup hz
      obtain ⟨_, z1, _⟩ := hzt.nine
      rw [Nat.zero_mul, Nat.add_zero] at z1
      obtain ⟨c0, c1, c2, c3, c4, c5, c6, c7, c8⟩ := hut.nine
      have hfu := hut.fit.c
      have hfz := hzt.fit.c
      have hbl := hut.lt
      have HUT := hid hut
      have HUK := hid hu
      have HGU := hid (HG.out u (List.mem_of_getElem? hu))
      have hmlt := hmap.lt
      clear hu hut hzt hups hmap hb
      obtain ⟨w0, hw0⟩ : ∃ w0, w0 = wr := ⟨_, rfl⟩
      subst hw0
      go_wp2_with fail
      obtain ⟨k1, l1⟩ := boxU_new w0 u ua uc
      simp only [upArr] at k1 l1
      generalize w0.alloc (.cells #[.int .i64 u.o, .slice ua u.c.length uc, .int .u8 u.t, .int .u8 u.k, .string (bs u.n), .string (bs u.x), .int .i64 u.a, .int .i64 u.ao, .int .i64 u.az] 28) = wq at *
      have K1 := hid k1
      have L1 := hid l1
      obtain ⟨q0, q1, q2, q3, q4, q5, q6, q7, q8⟩ := k1.nine
      have zq := (l1.cell (p := ⟨b, off + 1, none⟩) hbl).trans z1
      clear k1 l1 c0 c1 c2 c3 c4 c5 c6 c7 c8 z1
      by_cases hlen : u.c.length = z.c.length
      · have HLEN := hid hlen
        rw [← hlen] at zq
        clear hlen
        go_quiet (fail)
        go_wp2_with fail
        clear zq q0 q1 q2 q3 q4 q5 q6 q7 q8
        have hb3 : Below w0.heap.size w0 (wq.drewN nq) := ⟨L1.out.os, L1.out.tape, L1.out.output, L1.out.size, L1.out.block⟩
        have hk3 : BoxU (wq.drewN nq) w0.heap.size u ua uc := K1.out
        generalize wq.drewN nq = w3 at *
        have HK3 := hid hk3
        have HB3 := hid hb3
        refine (idOf_any u ua uc w3 HGU.out (HUT.out.clk.later hb3)).mono ?_
        rintro e w4 ⟨rfl, hb4⟩
        have hb04 : Below w0.heap.size w0 w4 := hb3.trans (hb4.mono hb3.size)
        have hm4 := HM.out.later hb04
        have HM4 := hid hm4
        have HB04 := hid hb04
        obtain ⟨q0, q1, q2, q3, q4, q5, q6, q7, q8⟩ := (hk3.later hb4).nine
        have HK4 := hid (hk3.later hb4)
        obtain ⟨hlk, _⟩ := lookup_id hm4 Try.underlying92 (z := .agg #[]) (by simp [go_sem]) u.id
        have hz4 : w0.heap.size < w4.heap.size := Nat.lt_of_lt_of_le (lt_of_block hk3) hb4.size
        clear hb3 hk3 hb4 hb04 hm4
        by_cases hnone : getI (metOf (l.take k)) u.id = none
        · rw [hnone] at hlk
          simp only [Option.getD_none, Option.isSome_none] at hlk
          have HN := hid hnone
          clear hnone
          go_wp2_with fail
          have hb45 : Below w4.heap.size w4 (w4.alloc (.cells #[] 93)) := (Below.refl _ _).alloc (Nat.le_refl _) _
          generalize w4.alloc (.cells #[] 93) = w5 at *
          have hb05 : Below w0.heap.size w0 w5 := HB04.out.trans (hb45.mono HB04.out.size)
          refine (idOf_any u ua uc w5 HGU.out (HUT.out.clk.later hb05)).mono ?_
          rintro e w6 ⟨rfl, hb6⟩
          have hb06 : Below w0.heap.size w0 w6 := hb05.trans (hb6.mono hb05.size)
          have HM6 := hid (HM.out.later hb06)
          have HB06 := hid hb06
          clear hb45 hb05 hb6 hb06 q0 q1 q2 q3 q4 q5 q6 q7 q8
          go_wp2_with (at_mapUpdate; refine wpList_new _ rfl (.tmp 32) (.tmp 34) (.tmp 35) rfl Try.underlying92 w.heap.size _ rfl HM6.out u.id (.agg #[]) rfl rfl HN.out ?_)
          intro w7 hm7 hg7
          have HM7 := hid hm7
          have HB7 : Hid (Below w.heap.size w w7) := (HB.out.trans (HB06.out.mono HB.out.size)).grown hg7 (Nat.le_trans HB.out.size HB06.out.size) (fun k hk => by cases hk; exact Nat.le_refl _)
          clear hm7 hg7
          go_wp2_with fail
          go_roundw
          case rel =>
            refine ⟨k + 1, by omega, by go_num, Ups.snoc HUK.out HUPS.out HGU.out (fun z' hz' => by rw [HZ.out] at hz'; cases hz'; exact HLEN.out) (metOf_none.1 HN.out), ?_, HB7.out⟩
            have e : metOf (l.take (k + 1)) = metOf (l.take k) ++ [(u.id, .agg #[])] := by rw [List.take_add_one, HUK.out]; simp [metOf]
            rw [e]
            exact HM7.out
          case measure => simp [intOf]; omega
        · obtain ⟨x, hx⟩ := Option.ne_none_iff_exists'.1 hnone
          have hxe := metOf_some hx
          subst hxe
          rw [hx] at hlk
          simp only [Option.getD_some, Option.isSome_some] at hlk
          have HX := hid hnone
          clear hnone hx
          go_wp2_with fail
          go_ret
          refine ⟨false, rfl, ?_, ?_⟩
          · constructor
            · intro h; cases h
            · intro h
              refine absurd (metOf_none.2 ?_) HX.out
              intro v hv e
              obtain ⟨j, hj, rfl⟩ := List.mem_take_iff_getElem.1 hv
              have hp := List.pairwise_iff_getElem.1 h.ids j k (by omega) hlt (by omega)
              have hku : l[k] = u := by have := HUK.out; rw [List.getElem?_eq_getElem hlt] at this; exact Option.some.inj this
              rw [hku] at hp
              exact hp e
          · exact (HB.out.trans (HB04.out.mono HB.out.size)).alloc (Nat.le_trans HB.out.size HB04.out.size) _
      · go_quiet (fail)
        go_wp2_with fail
        go_ret
        refine ⟨false, rfl, ?_, ?_⟩
        · constructor
          · intro h; cases h
          · intro h; exact absurd (h.one u (List.mem_of_getElem? HUK.out) z (List.mem_of_getElem? HZ.out)) hlen
        · exact HB.out.trans ⟨L1.out.os, L1.out.tape, L1.out.output, L1.out.size, fun k hk => L1.out.block k (Nat.lt_of_lt_of_le hk HB.out.size)⟩
    · have hkl : l.take k = l := List.take_of_length_le (by omega)
      rw [hkl] at hups
      have HUL := hid hups
      clear hups hmap hb hkl
      go_wp2_with fail
      go_ret
      exact ⟨true, rfl, by simp [HUL.out], HB.out⟩
end Go.Proofs.Yteljbblbdiploaa
