/-
  WALKS: package crdt: the inserts and the deletes of a sequence.
-/
import Derived.Test.YteljbblbdiploaaJVMapI
import Derived.Test.YteljbblbdiploaaJVRank
namespace Go.Proofs.Yteljbblbdiploaa
open Go.RowKit

/-- one of a sequence, as package crdt keeps it -/
def insV (u : Up) : Value := .agg #[.int .i64 u.age, .int .i64 u.id.1, .int .i64 u.id.2, .int .i64 u.ao, .int .i64 u.az, .string (bs u.x)]
def insKV (l : List Up) : List ((Int × Int) × Value) := l.foldl (fun kv u => if u.k = 1 then kv else putI kv u.id (insV u)) []
def delKV (l : List Up) : List ((Int × Int) × Value) := l.foldl (fun kv u => if u.k = 1 then putI kv (u.ao, u.az) (.agg #[]) else kv) []
theorem insKV_step {l : List Up} {i : Nat} {u : Up} (h : l[i]? = some u) : insKV (l.take (i + 1)) = if u.k = 1 then insKV (l.take i) else putI (insKV (l.take i)) u.id (insV u) := by
  unfold insKV
  rw [List.take_add_one, h, List.foldl_append]; rfl
theorem delKV_step {l : List Up} {i : Nat} {u : Up} (h : l[i]? = some u) : delKV (l.take (i + 1)) = if u.k = 1 then putI (delKV (l.take i)) (u.ao, u.az) (.agg #[]) else delKV (l.take i) := by
  unfold delKV
  rw [List.take_add_one, h, List.foldl_append]; rfl

theorem idOf_z (u : Up) (ao : Option Addr) (cap : Nat) (w : World) (hg : u.good = true) (hc : ClkAt w ao cap u.c) :
    Calls Try.prog 60 #[upV u ao cap] w fun e w' => e = .returned (.agg #[.int .i64 u.id.1, .int .i64 u.id.2]) ∧ Below w.heap.size w w' := idOf_any u ao cap w hg hc

theorem update_fun {t e : TypeId} (ht : Try.prog.underlying t = some (.map 24 e)) (b : Nat) (kv : List ((Int × Int) × Value)) (i : Int × Int) (v : Value) :
    ∃ f : World → World, ∀ w, MapI w b kv → (Instr.mapUpdate t (.map (some b)) (.agg #[.int .i64 i.1, .int .i64 i.2]) v).run Try.prog w = .ok () (f w) ∧ MapI (f w) b (putI kv i v) ∧ w.grownBy (f w) (some b) := by
  classical
  refine ⟨fun w => if h : MapI w b kv then Classical.choose (update_id h ht i v) else w, fun w h => ?_⟩
  simp only [dif_pos h]
  exact Classical.choose_spec (update_id h ht i v)

/-- how things stand while one is put in -/
structure InsT (w w' : World) (X B D : Nat) (u : Up) (ua : Option Addr) (uc : Nat) (ki kd : List ((Int × Int) × Value)) : Prop where
  box : BoxU w' X u ua uc
  ins : MapI w' B ki
  del : MapI w' D kd
  low : Below w.heap.size w w'
  clk : ClkAt w' ua uc u.c
theorem InsT.later {w w' w'' : World} {X B D : Nat} {u : Up} {ua : Option Addr} {uc : Nat} {ki kd : List ((Int × Int) × Value)} (h : InsT w w' X B D u ua uc ki kd) (hb : Below w'.heap.size w' w'') : InsT w w'' X B D u ua uc ki kd :=
  ⟨h.box.later hb, h.ins.later hb, h.del.later hb, h.low.trans (hb.mono h.low.size), h.clk.later hb⟩
theorem box_grown {w w' : World} {X : Nat} {u : Up} {ua : Option Addr} {uc : Nat} {row : Option Nat} (h : BoxU w X u ua uc) (hg : w.grownBy w' row) (hne : some X ≠ row) : BoxU w' X u ua uc := (hg.block X (lt_of_block h) hne).trans h
theorem MapI.kept {w w' : World} {b : Nat} {kv : List ((Int × Int) × Value)} {row : Option Nat} (h : MapI w b kv) (hg : w.grownBy w' row) (hne : some b ≠ row) : MapI w' b kv := by
  have hlt := h.lt
  obtain ⟨es, c, h, r⟩ := h
  exact ⟨es, c, (hg.block b hlt hne).trans h, r⟩

set_option maxRecDepth 16000 in
set_option maxHeartbeats 2000000 in
theorem insDel_any (vo : Option Addr) (cap : Nat) (l : List Up) (w : World) (hu : UpsO w vo l) (hs : ∀ u ∈ l, u.good = true) (hl : l.length ≤ 8000) :
    Calls Try.prog 79 #[.slice vo l.length cap] w fun e w' => ∃ B D, e = .returned (.tuple #[.map (some B), .map (some D)]) ∧ MapI w' B (insKV l) ∧ MapI w' D (delKV l) ∧ w.heap.size ≤ B ∧ w.heap.size ≤ D ∧ B ≠ D ∧ Below w.heap.size w w' := by
  have HU := hid hu
  have HS := hid hs
  clear hu hs
  have hmk : ∀ t w, (Instr.makeMap t none).run Try.prog w = .ok (.map (some w.heap.size)) (w.alloc (.map #[] 0)) := fun t w => run_makeMap t w
  go_enter Try.func79, Try.ntmps79
  go_wp2_with fail
  clear hmk
  have k1 : MapI (w.alloc (.map #[] 0)) w.heap.size [] := MapI.made w
  have l1 : Below w.heap.size w (w.alloc (.map #[] 0)) := (Below.refl _ _).alloc (Nat.le_refl _) _
  have z1 : (w.alloc (.map #[] 0)).heap.size = w.heap.size + 1 := by simp
  generalize w.alloc (.map #[] 0) = w1 at *
  have k2 : MapI (w1.alloc (.map #[] 0)) w1.heap.size [] := MapI.made w1
  have l2 : Below w1.heap.size w1 (w1.alloc (.map #[] 0)) := (Below.refl _ _).alloc (Nat.le_refl _) _
  generalize w1.alloc (.map #[] 0) = w2 at *
  rw [z1] at k2
  have K1 := hid (k1.later l2)
  have K2 := hid k2
  have L2 : Hid (Below w.heap.size w w2) := l1.trans (l2.mono l1.size)
  clear k1 k2 l1 l2 z1
  go_loopw [12] (fun i wr => ∃ k : Nat, k ≤ l.length ∧ i = .int .i64 k ∧ MapI wr w.heap.size (insKV (l.take k)) ∧ MapI wr (w.heap.size + 1) (delKV (l.take k)) ∧ Below w.heap.size w wr) (fun i _ => l.length - (intOf i).toNat)
  case atStart => exact ⟨0, by omega, rfl, K1.out, K2.out, L2.out⟩
  case round =>
    obtain ⟨k, hk, rfl, hi, hd, hb⟩ := hrel
    have HI := hid hi
    have HD := hid hd
    have HB := hid hb
    have hzr : w.heap.size + 1 < wr.heap.size := hd.lt
    clear hi hd
    by_cases hlt : k < l.length
    · obtain ⟨u, hu⟩ : ∃ u, l[k]? = some u := ⟨l[k], List.getElem?_eq_getElem hlt⟩
      obtain ⟨b, off, rfl, hup⟩ := HU.out (by omega)
      obtain ⟨ua, uc, hut⟩ := (hup.later hb) k u hu
      clear hup
      obtain ⟨c0, c1, c2, c3, c4, c5, c6, c7, c8⟩ := hut.nine
      have HUT := hid hut
      have HSI := hid (insKV_step hu)
      have HSD := hid (delKV_step hu)
      have HGU := hid (HS.out u (List.mem_of_getElem? hu))
      clear hb hut hu
      obtain ⟨w0, hw0⟩ : ∃ w0, w0 = wr := ⟨_, rfl⟩
      subst hw0
      obtain ⟨kb, lb⟩ := boxU_new w0 u ua uc
      simp only [upArr] at kb lb
      have KB := hid kb
      have LB := hid lb
      have HT : Hid (InsT w (w0.alloc (.cells #[.int .i64 u.o, .slice ua u.c.length uc, .int .u8 u.t, .int .u8 u.k, .string (bs u.n), .string (bs u.x), .int .i64 u.a, .int .i64 u.ao, .int .i64 u.az] 28)) w0.heap.size w.heap.size (w.heap.size + 1) u ua uc (insKV (l.take k)) (delKV (l.take k))) := ⟨kb, HI.out.later lb, HD.out.later lb, HB.out.trans (lb.mono HB.out.size), HUT.out.clk.later lb⟩
      clear kb lb
      by_cases hk1 : u.k = 1
      · have h1 : (u.k == 1) = true := by simp [hk1]
        have HK1 := hid hk1
        clear hk1
        obtain ⟨f, hf⟩ := update_fun Try.underlying92 (w.heap.size + 1) (delKV (l.take k)) (u.ao, u.az) (.agg #[])
        obtain ⟨hrun, hm7, hg7⟩ := hf _ HT.out.del
        have HM7 := hid hm7
        have HG7 := hid hg7
        clear hf hm7 hg7
        simp only [] at hrun
        go_wp2_with fail
        go_roundw
        case rel =>
          have ht := HT.out
          exact ⟨k + 1, by omega, by go_num, by rw [HSI.out, if_pos HK1.out]; exact ht.ins.kept HG7.out (by simp), by rw [HSD.out, if_pos HK1.out]; exact HM7.out, ht.low.grown HG7.out ht.low.size (fun j hj => by cases hj; omega)⟩
        case measure => simp [intOf]; omega
      · have h1 : (u.k == 1) = false := by simp [hk1]
        have HK1 := hid hk1
        clear hk1
        go_wp2_with fail
        generalize w0.alloc (.cells #[.int .i64 u.o, .slice ua u.c.length uc, .int .u8 u.t, .int .u8 u.k, .string (bs u.n), .string (bs u.x), .int .i64 u.a, .int .i64 u.ao, .int .i64 u.az] 28) = w5 at *
        clear c0 c1 c2 c3 c4 c5 c6 c7 c8
        obtain ⟨f, hf⟩ := update_fun Try.underlying114 w.heap.size (insKV (l.take k)) u.id (insV u)
        have HF := hid hf
        have hrun : ∀ w', InsT w w' w0.heap.size w.heap.size (w.heap.size + 1) u ua uc (insKV (l.take k)) (delKV (l.take k)) → (Instr.mapUpdate 114 (.map (some w.heap.size)) (.agg #[.int .i64 u.id.1, .int .i64 u.id.2]) (.agg #[.int .i64 u.age, .int .i64 u.id.1, .int .i64 u.id.2, .int .i64 u.ao, .int .i64 u.az, .string (bs u.x)])).run Try.prog w' = .ok () (f w') := fun w' h => (hf w' h.ins).1
        have HBF : Hid (∀ w', InsT w w' w0.heap.size w.heap.size (w.heap.size + 1) u ua uc (insKV (l.take k)) (delKV (l.take k)) → BoxU (f w') w0.heap.size u ua uc) := fun w' h => box_grown h.box (HF.out w' h.ins).2.2 (by simp; omega)
        clear hf
        have ht := HT.out.later ((Below.refl _ _).drew)
        go_region_held3 (fun w' => BoxU w' w0.heap.size u ua uc ∧ w'.cell? ⟨w0.heap.size, 0, none⟩ = some (.int .i64 u.o) ∧ w'.cell? ⟨w0.heap.size, 1, none⟩ = some (.slice ua u.c.length uc) ∧ w'.cell? ⟨w0.heap.size, 2, none⟩ = some (.int .u8 u.t) ∧ w'.cell? ⟨w0.heap.size, 3, none⟩ = some (.int .u8 u.k) ∧ w'.cell? ⟨w0.heap.size, 4, none⟩ = some (.string (bs u.n)) ∧ w'.cell? ⟨w0.heap.size, 5, none⟩ = some (.string (bs u.x)) ∧ w'.cell? ⟨w0.heap.size, 6, none⟩ = some (.int .i64 u.a) ∧ w'.cell? ⟨w0.heap.size, 7, none⟩ = some (.int .i64 u.ao) ∧ w'.cell? ⟨w0.heap.size, 8, none⟩ = some (.int .i64 u.az))
          (first | exact ⟨ht.box, ht.box.nine⟩ | exact ⟨ht2.box, ht2.box.nine⟩ | exact ⟨ht1.box, ht1.box.nine⟩ | exact ⟨HBF.out _ ht2, (HBF.out _ ht2).nine⟩)
          (first | (go_at_call 90; refine (rankOf_any u ua uc _ HGU.out ht1.clk).mono ?_; rintro e w7 ⟨rfl, hb7⟩; have ht2 := ht1.later hb7)
                 | (go_at_call 60; refine (idOf_z u ua uc _ HGU.out ht.clk).mono ?_; rintro e w6 ⟨rfl, hb6⟩; have ht1 := ht.later hb6))
        all_goals
          obtain ⟨_, hm9, hg9⟩ := HF.out _ ht2.ins
          have HM9 := hid hm9
          have HG9 := hid hg9
          have HT3 := hid ht2
          clear hrun hm9 hg9 ht ht1 ht2 hb6 hb7
          go_wp2_with fail
          go_roundw
        case rel => exact ⟨k + 1, by omega, by go_num, by rw [HSI.out, if_neg HK1.out]; exact HM9.out, by rw [HSD.out, if_neg HK1.out]; exact HT3.out.del.kept HG9.out (by simp), HT3.out.low.grown HG9.out HT3.out.low.size (fun j hj => by cases hj; omega)⟩
        case measure => simp [intOf]; omega
    · have htk : l.take k = l := List.take_of_length_le (by omega)
      have hi := HI.out
      have hd := HD.out
      rw [htk] at hi hd
      have HI2 := hid hi
      have HD2 := hid hd
      clear hi hd htk hb
      go_wp2_with fail
      refine bodyPost_ret (v := .tuple #[.map (some w.heap.size), .map (some (w.heap.size + 1))]) (by simp [results, Try.results79, go_sem]) rfl ?_
      exact ⟨_, _, rfl, HI2.out, HD2.out, by omega, by omega, by omega, HB.out⟩
end Go.Proofs.Yteljbblbdiploaa
