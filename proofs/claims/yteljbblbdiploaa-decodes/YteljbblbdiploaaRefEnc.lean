/-
  WALKS: the document's answer's Encode.
-/
import Derived.Test.YteljbblbdiploaaWEnc
import Derived.Test.YteljbblbdiploaaIsUpd
import Derived.Test.YteljbblbdiploaaRefBytes
import Derived.Test.YteljbblbdiploaaRefCrc
import Derived.Deep.RegionHeld3
import Derived.Deep.DeepCutAuto
namespace Go.Proofs.Yteljbblbdiploaa
open Go.RowKit

set_option maxHeartbeats 400000 in
theorem rEncode_short (org t k am o s : Int) (nm tx : ByteArray) (ao : Option Addr) (len cap : Nat) (w : World) (hl : len < 2 ∨ 8 < len) (hm : len ≤ maxLen) :
    Calls Try.prog 10 #[.agg #[.int .i64 org, .slice ao len cap, .int .u8 t, .int .u8 k, .string nm, .string tx, .int .i64 am, .int .i64 o, .int .i64 s]] w
      fun e w' => e = .returned (.tuple #[.string ⟨#[]⟩, .int .i64 2]) ∧ Below w.heap.size w w' := by
  go_enter Try.func10, Try.ntmps10
  go_wp2_with fail
  refine (isUpdate_short _ _ _ _ _ _ _ _ _ _ _ _ hl hm).mono ?_
  rintro e w1 ⟨rfl, hb⟩
  go_wp2_with fail
  go_ret2
  exact ⟨rfl, ((Below.refl _ _).alloc (Nat.le_refl _) _).trans (hb.mono (by simp))⟩

set_option maxHeartbeats 400000 in
theorem rEncode_no (org t k am o s : Int) (nm tx : ByteArray) (b off : Nat) (zs : List Int) (cap : Nat) (w : World) (h2 : 2 ≤ zs.length) (h8 : zs.length ≤ 8) (hk0 : 0 ≤ k)
    (hc : ∀ k, k < zs.length → w.cell? ⟨b, off + k, none⟩ = some (.int .i64 (zs.getD k 0))) (hn : nm.size ≤ maxLen) (hx : tx.size ≤ maxLen) (hu : updB org zs t k nm.size tx.size am o s = false) :
    Calls Try.prog 10 #[.agg #[.int .i64 org, .slice (some ⟨b, off, none⟩) zs.length cap, .int .u8 t, .int .u8 k, .string nm, .string tx, .int .i64 am, .int .i64 o, .int .i64 s]] w
      fun e w' => e = .returned (.tuple #[.string ⟨#[]⟩, .int .i64 2]) ∧ Below w.heap.size w w' := by
  have hbl : b < w.heap.size := lt_of_cell (hc 0 (by omega))
  have HK : Hid (∀ O, ∀ k, k < zs.length → (w.alloc O).cell? ⟨b, off + k, none⟩ = some (.int .i64 (zs.getD k 0))) := fun O k hk => by
    rw [World.cell?_alloc_past O b (off + k) hbl]; exact hc k hk
  clear hc
  go_enter Try.func10, Try.ntmps10
  go_wp2_with fail
  refine (isUpdate_long _ _ _ _ _ _ _ _ _ _ _ _ _ h2 h8 hk0 (HK.out _) hn hx).mono ?_
  rintro e w1 ⟨rfl, hb⟩
  go_wp2_with fail
  go_ret2
  exact ⟨rfl, ((Below.refl _ _).alloc (Nat.le_refl _) _).trans (hb.mono (by simp))⟩

theorem bytes_int (x : Int) (n : Nat) (w : World) (h0 : 0 ≤ x) (h1 : x < 4294967296) (hn : n ≤ 8) :
    Calls Try.prog 29 #[.int .i64 x, .int .i64 n] w fun e w' => e = .returned (.string ⟨(lastB x.toNat n).toArray⟩) ∧ Below w.heap.size w w' := by
  obtain ⟨m, rfl⟩ := Int.eq_ofNat_of_zero_le h0
  exact bytes_any m n w (by omega) hn
theorem bytes_1 (x : Int) (w : World) (h0 : 0 ≤ x) (h1 : x < 4294967296) :
    Calls Try.prog 29 #[.int .i64 x, .int .i64 1] w fun e w' => e = .returned (.string ⟨(lastB x.toNat 1).toArray⟩) ∧ Below w.heap.size w w' := bytes_int x 1 w h0 h1 (by omega)
theorem bytes_2 (x : Int) (w : World) (h0 : 0 ≤ x) (h1 : x < 4294967296) :
    Calls Try.prog 29 #[.int .i64 x, .int .i64 2] w fun e w' => e = .returned (.string ⟨(lastB x.toNat 2).toArray⟩) ∧ Below w.heap.size w w' := bytes_int x 2 w h0 h1 (by omega)
theorem bytes_4 (x : Int) (w : World) (h0 : 0 ≤ x) (h1 : x < 4294967296) :
    Calls Try.prog 29 #[.int .i64 x, .int .i64 4] w fun e w' => e = .returned (.string ⟨(lastB x.toNat 4).toArray⟩) ∧ Below w.heap.size w w' := bytes_int x 4 w h0 h1 (by omega)

theorem held9_drew {W w : World} {N : Nat} {a0 a2 a3 : Value} (h : w.cell? ⟨N, 0, none⟩ = some a0 ∧ w.cell? ⟨N, 2, none⟩ = some a2 ∧ w.cell? ⟨N, 3, none⟩ = some a3 ∧ Below W.heap.size W w) :
    w.drew.cell? ⟨N, 0, none⟩ = some a0 ∧ w.drew.cell? ⟨N, 2, none⟩ = some a2 ∧ w.drew.cell? ⟨N, 3, none⟩ = some a3 ∧ Below W.heap.size W w.drew := ⟨h.1, h.2.1, h.2.2.1, h.2.2.2.drew⟩
theorem held9_next {W w w' : World} {N : Nat} {a0 a2 a3 : Value} (h : w.cell? ⟨N, 0, none⟩ = some a0 ∧ w.cell? ⟨N, 2, none⟩ = some a2 ∧ w.cell? ⟨N, 3, none⟩ = some a3 ∧ Below W.heap.size W w) (hb : Below w.heap.size w w') (hN : N < W.heap.size) :
    w'.cell? ⟨N, 0, none⟩ = some a0 ∧ w'.cell? ⟨N, 2, none⟩ = some a2 ∧ w'.cell? ⟨N, 3, none⟩ = some a3 ∧ Below W.heap.size W w' := by
  obtain ⟨h0, h2, h3, h4⟩ := h
  have hN' : N < w.heap.size := Nat.lt_of_lt_of_le hN h4.size
  exact ⟨(hb.cell (p := ⟨N, 0, none⟩) hN').trans h0, (hb.cell (p := ⟨N, 2, none⟩) hN').trans h2, (hb.cell (p := ⟨N, 3, none⟩) hN').trans h3, h4.trans (hb.mono h4.size)⟩

theorem held10_next {W w w' : World} {N : Nat} {a0 a2 : Value} (h : w.cell? ⟨N, 4, none⟩ = some a0 ∧ w.cell? ⟨N, 5, none⟩ = some a2 ∧ Below W.heap.size W w) (hb : Below w.heap.size w w') (hN : N < W.heap.size) :
    w'.cell? ⟨N, 4, none⟩ = some a0 ∧ w'.cell? ⟨N, 5, none⟩ = some a2 ∧ Below W.heap.size W w' := by
  obtain ⟨h0, h2, h4⟩ := h
  have hN' : N < w.heap.size := Nat.lt_of_lt_of_le hN h4.size
  exact ⟨(hb.cell (p := ⟨N, 4, none⟩) hN').trans h0, (hb.cell (p := ⟨N, 5, none⟩) hN').trans h2, h4.trans (hb.mono h4.size)⟩
theorem held11_next {W w w' : World} {N : Nat} {a0 a2 a3 : Value} (h : w.cell? ⟨N, 6, none⟩ = some a0 ∧ w.cell? ⟨N, 7, none⟩ = some a2 ∧ w.cell? ⟨N, 8, none⟩ = some a3 ∧ Below W.heap.size W w) (hb : Below w.heap.size w w') (hN : N < W.heap.size) :
    w'.cell? ⟨N, 6, none⟩ = some a0 ∧ w'.cell? ⟨N, 7, none⟩ = some a2 ∧ w'.cell? ⟨N, 8, none⟩ = some a3 ∧ Below W.heap.size W w' := by
  obtain ⟨h0, h2, h3, h4⟩ := h
  have hN' : N < w.heap.size := Nat.lt_of_lt_of_le hN h4.size
  exact ⟨(hb.cell (p := ⟨N, 6, none⟩) hN').trans h0, (hb.cell (p := ⟨N, 7, none⟩) hN').trans h2, (hb.cell (p := ⟨N, 8, none⟩) hN').trans h3, h4.trans (hb.mono h4.size)⟩
theorem bytes_z (x n : Int) (w : World) (h0 : 0 ≤ x) (h1 : x < 4294967296) (hn0 : 0 ≤ n) (hn : n ≤ 8) :
    Calls Try.prog 29 #[.int .i64 x, .int .i64 n] w fun e w' => e = .returned (.string ⟨(lastB x.toNat n.toNat).toArray⟩) ∧ Below w.heap.size w w' := by
  obtain ⟨m, rfl⟩ := Int.eq_ofNat_of_zero_le hn0
  exact bytes_int x m w h0 h1 (by omega)
theorem box_cells {w wr : World} {a0 a1 a2 a3 a4 a5 a6 a7 a8 : Value} {T : TypeId} (h : Below (w.heap.size + 1) (w.alloc (.cells #[a0, a1, a2, a3, a4, a5, a6, a7, a8] T)) wr) :
    wr.cell? ⟨w.heap.size, 0, none⟩ = some a0 ∧ wr.cell? ⟨w.heap.size, 1, none⟩ = some a1 ∧ wr.cell? ⟨w.heap.size, 2, none⟩ = some a2 ∧ wr.cell? ⟨w.heap.size, 3, none⟩ = some a3 ∧ wr.cell? ⟨w.heap.size, 4, none⟩ = some a4 ∧
    wr.cell? ⟨w.heap.size, 5, none⟩ = some a5 ∧ wr.cell? ⟨w.heap.size, 6, none⟩ = some a6 ∧ wr.cell? ⟨w.heap.size, 7, none⟩ = some a7 ∧ wr.cell? ⟨w.heap.size, 8, none⟩ = some a8 := by
  obtain ⟨hc, _⟩ := bcell h
  refine ⟨?_, ?_, ?_, ?_, ?_, ?_, ?_, ?_, ?_⟩ <;> (rw [hc _ _ (by omega)]; simp)

theorem crcSum_lt (l : List UInt8) : crcSum l < 4294967296 := by unfold crcSum; omega
theorem own_mk (b : ByteArray) : b = ⟨b.data.toList.toArray⟩ := rfl
theorem enc_join {org : Int} {zs : List Int} {t k : Int} {nm tx : ByteArray} {am o s : Int} {x0 : List UInt8} {s1 s2 s3 : ByteArray} (h0 : x0 = encHead zs)
    (h1 : s1 = ⟨x0.toArray⟩ ++ ⟨(lastB org.toNat 1).toArray⟩ ++ ⟨(lastB t.toNat 1).toArray⟩ ++ ⟨(lastB k.toNat 1).toArray⟩)
    (h2 : s2 = s1 ++ ⟨(lastB nm.size 1).toArray⟩ ++ nm ++ ⟨(lastB tx.size 1).toArray⟩ ++ tx)
    (h3 : s3 = s2 ++ ⟨(lastB (am + 1000).toNat 2).toArray⟩ ++ ⟨(lastB o.toNat 1).toArray⟩ ++ ⟨(lastB s.toNat 2).toArray⟩) :
    s3 = ⟨(encBody org zs t k nm.data.toList tx.data.toList am o s).toArray⟩ := by
  have e1 : s1 = ⟨(x0 ++ lastB org.toNat 1 ++ lastB t.toNat 1 ++ lastB k.toNat 1).toArray⟩ := by rw [h1, ByteArray.mk_append_mk, ByteArray.mk_append_mk, ByteArray.mk_append_mk]
  have e2 : s2 = ⟨(x0 ++ lastB org.toNat 1 ++ lastB t.toNat 1 ++ lastB k.toNat 1 ++ lastB nm.size 1 ++ nm.data.toList ++ lastB tx.size 1 ++ tx.data.toList).toArray⟩ := by
    rw [h2, e1]
    show ((_ ++ (⟨nm.data.toList.toArray⟩ : ByteArray)) ++ _) ++ (⟨tx.data.toList.toArray⟩ : ByteArray) = _
    rw [ByteArray.mk_append_mk, ByteArray.mk_append_mk, ByteArray.mk_append_mk, ByteArray.mk_append_mk]
  rw [h3, e2, ByteArray.mk_append_mk, ByteArray.mk_append_mk, ByteArray.mk_append_mk, h0]
  simp only [encBody, encTail, bsize, List.append_assoc]
theorem enc_all {s3 : ByteArray} {l : List UInt8} {c : Nat} (h : s3 = ⟨l.toArray⟩) (hc : crcSum s3.data.toList = c) : Value.string (s3 ++ ⟨(lastB c 4).toArray⟩) = .string ⟨(withSum l).toArray⟩ := by
  subst h
  have e : (⟨l.toArray⟩ : ByteArray).data.toList = l := rfl
  rw [e] at hc
  rw [ByteArray.mk_append_mk, withSum, hc]

set_option maxHeartbeats 4000000 in
theorem rEncode_yes (org t k am o s : Int) (nm tx : ByteArray) (b off : Nat) (zs : List Int) (cap : Nat) (w : World) (h2 : 2 ≤ zs.length) (h8 : zs.length ≤ 8)
    (hc : ∀ k, k < zs.length → w.cell? ⟨b, off + k, none⟩ = some (.int .i64 (zs.getD k 0))) (ht0 : 0 ≤ t) (ht1 : t < 256) (hk0 : 0 ≤ k) (hk1 : k < 256) (hu : updB org zs t k nm.size tx.size am o s = true) :
    Calls Try.prog 10 #[.agg #[.int .i64 org, .slice (some ⟨b, off, none⟩) zs.length cap, .int .u8 t, .int .u8 k, .string nm, .string tx, .int .i64 am, .int .i64 o, .int .i64 s]] w
      fun e w' => e = .returned (.tuple #[.string ⟨(withSum (encBody org zs t k nm.data.toList tx.data.toList am o s)).toArray⟩, .int .i64 0]) ∧ Below w.heap.size w w' := by
  obtain ⟨⟨ho0, ho1⟩, hzz, ⟨hn1, hn8⟩, hx20, ⟨ha0, ha1⟩, ⟨hq0, hq7⟩, ⟨hs0, hs1⟩, _⟩ := upd_parts hu
  have hbl : b < w.heap.size := lt_of_cell (hc 0 (by omega))
  have HZ : Hid (∀ j, j < zs.length → 0 ≤ zs.getD j 0 ∧ zs.getD j 0 ≤ 1000) := hzz
  have HK : Hid (∀ O, ∀ k, k < zs.length → (w.alloc O).cell? ⟨b, off + k, none⟩ = some (.int .i64 (zs.getD k 0))) := fun O k hk => by
    rw [World.cell?_alloc_past O b (off + k) hbl]; exact hc k hk
  clear hc hzz
  go_enter Try.func10, Try.ntmps10
  go_wp2_with fail
  refine (isUpdate_long _ _ _ _ _ _ _ _ _ _ _ _ _ h2 h8 hk0 (HK.out _) (by unfold maxLen; omega) (by unfold maxLen; omega)).mono ?_
  rintro e w1 ⟨rfl, hb⟩
  obtain ⟨hc1, hf1⟩ := bcell hb
  have HB := hid hb
  have hz1 : w.heap.size < w1.heap.size := by have := hb.size; simp at this; omega
  clear hb
  go_wp2_with fail
  refine (bytes_1 _ _ (by omega) (by omega)).mono ?_
  rintro e w2 ⟨rfl, hb2⟩
  have hz2 : w.heap.size < w2.heap.size := by have := hb2.size; omega
  have hi2 : Below (w.heap.size + 1) (w.alloc (.cells #[.int .i64 org, .slice (some ⟨b, off, none⟩) zs.length cap, .int .u8 t, .int .u8 k, .string nm, .string tx, .int .i64 am, .int .i64 o, .int .i64 s] 28)) w2 :=
    (HB.out.mono (by simp)).trans (hb2.mono (by omega))
  clear hb2 hc1 hf1 HB
  have HI2 := hid hi2
  clear hi2
  have HL : Hid (∀ j, (lastB zs.length 1 ++ clkBytes (zs.take j)).length ≤ 50) := fun j => by
    have := List.length_take_le j zs
    simp only [List.length_append, lastB_len, clkBytes_len, List.length_take]; omega
  go_wp2_with fail
  go_loopw [5, 6] (fun x i wr => ∃ j : Nat, j ≤ zs.length ∧ i = .int .i64 j ∧ x = .string ⟨(lastB zs.length 1 ++ clkBytes (zs.take j)).toArray⟩ ∧ Below (w.heap.size + 1) (w.alloc (.cells #[.int .i64 org, .slice (some ⟨b, off, none⟩) zs.length cap, .int .u8 t, .int .u8 k, .string nm, .string tx, .int .i64 am, .int .i64 o, .int .i64 s] 28)) wr) (fun _ i _ => zs.length - (intOf i).toNat)
  case atStart => exact ⟨0, by omega, rfl, by simp [clkBytes], HI2.out⟩
  case round =>
    obtain ⟨j, hj, rfl, rfl, hi⟩ := hrel
    have hsz := hi.size
    simp at hsz
    by_cases hlt : j < zs.length
    · have hcell : wr.cell? ⟨b, off + j, none⟩ = some (.int .i64 (zs.getD j 0)) := by
        rw [hi.cell (p := ⟨b, off + j, none⟩) (by simp; omega)]; exact HK.out _ j hlt
      obtain ⟨hz0, hz1⟩ := HZ.out j hlt
      have HT : Hid (clkBytes (zs.take (j + 1)) = clkBytes (zs.take j) ++ lastB (zs.getD j 0).toNat 2) := clkBytes_take zs j hlt
      obtain ⟨hc1, hf1⟩ := bcell hi
      have q1 : wr.cell? ⟨w.heap.size, 1, none⟩ = some (.slice (some ⟨b, off, none⟩) zs.length cap) := by rw [hc1 _ _ (by omega)]; simp
      have HI := hid hi
      clear hi hc1 hf1
      generalize hn0 : zs.getD j 0 = z at *
      clear hn0
      have hlj := HL.out j
      have hl2 : (lastB z.toNat 2).length ≤ 8 := by rw [lastB_len]; omega
      generalize hx0 : lastB zs.length 1 ++ clkBytes (zs.take j) = x0 at *
      have HX := hid hx0
      clear hx0
      go_wp2_with fail
      refine (bytes_2 _ _ hz0 (by omega)).mono ?_
      rintro e w3 ⟨rfl, hb3⟩
      have hi3 : Below (w.heap.size + 1) (w.alloc (.cells #[.int .i64 org, .slice (some ⟨b, off, none⟩) zs.length cap, .int .u8 t, .int .u8 k, .string nm, .string tx, .int .i64 am, .int .i64 o, .int .i64 s] 28)) w3 := HI.out.trans (hb3.mono (by omega))
      have HI3 := hid hi3
      clear hi3 hb3
      go_wp2
      go_roundw
      case rel => exact ⟨j + 1, by omega, by go_num, by rw [HT.out, ← List.append_assoc, HX.out]; exact congrArg Value.string (ByteArray.mk_append_mk _ _), HI3.out⟩
      case measure => simp [intOf]; omega
    · have hall : zs.take j = zs := List.take_of_length_le (by omega)
      have hlj := HL.out j
      rw [hall] at hlj ⊢
      have HX : Hid (lastB zs.length 1 ++ clkBytes zs = encHead zs) := rfl
      generalize lastB zs.length 1 ++ clkBytes zs = x0 at *
      obtain ⟨hc1, hf1⟩ := bcell hi
      have q0 : wr.cell? ⟨w.heap.size, 0, none⟩ = some (.int .i64 org) := by rw [hc1 _ _ (by omega)]; simp
      have q1 : wr.cell? ⟨w.heap.size, 1, none⟩ = some (.slice (some ⟨b, off, none⟩) zs.length cap) := by rw [hc1 _ _ (by omega)]; simp
      have q2 : wr.cell? ⟨w.heap.size, 2, none⟩ = some (.int .u8 t) := by rw [hc1 _ _ (by omega)]; simp
      have q3 : wr.cell? ⟨w.heap.size, 3, none⟩ = some (.int .u8 k) := by rw [hc1 _ _ (by omega)]; simp
      have q4 : wr.cell? ⟨w.heap.size, 4, none⟩ = some (.string nm) := by rw [hc1 _ _ (by omega)]; simp
      have q5 : wr.cell? ⟨w.heap.size, 5, none⟩ = some (.string tx) := by rw [hc1 _ _ (by omega)]; simp
      have q6 : wr.cell? ⟨w.heap.size, 6, none⟩ = some (.int .i64 am) := by rw [hc1 _ _ (by omega)]; simp
      have q7 : wr.cell? ⟨w.heap.size, 7, none⟩ = some (.int .i64 o) := by rw [hc1 _ _ (by omega)]; simp
      have q8 : wr.cell? ⟨w.heap.size, 8, none⟩ = some (.int .i64 s) := by rw [hc1 _ _ (by omega)]; simp
      clear hc1 hf1
      have HI := hid hi
      clear hi hall
      have g1 : (lastB org.toNat 1).length ≤ 8 := by rw [lastB_len]; omega
      have g2 : (lastB t.toNat 1).length ≤ 8 := by rw [lastB_len]; omega
      have g3 : (lastB k.toNat 1).length ≤ 8 := by rw [lastB_len]; omega
      have wt : IntKind.i64.wrap t = t := by rw [IntKind.wrap_i64]; omega
      have wk : IntKind.i64.wrap k = k := by rw [IntKind.wrap_i64]; omega
      have f1 : ¬ 9223372036854775807 < x0.length + (lastB org.toNat 1).length := by omega
      have f2 : ¬ 9223372036854775807 < x0.length + (lastB org.toNat 1).length + (lastB t.toNat 1).length := by omega
      have f3 : ¬ 9223372036854775807 < x0.length + (lastB org.toNat 1).length + (lastB t.toNat 1).length + (lastB k.toNat 1).length := by omega
      go_wp2_with fail
      go_region_held3 (fun w' => w'.cell? ⟨w.heap.size, 0, none⟩ = some (.int .i64 org) ∧ w'.cell? ⟨w.heap.size, 2, none⟩ = some (.int .u8 t) ∧ w'.cell? ⟨w.heap.size, 3, none⟩ = some (.int .u8 k) ∧ Below wr.heap.size wr w')
        (first | exact ⟨q0, q2, q3, (Below.refl _ _).drew⟩ | (refine held9_drew ?_; assumption) | (refine held9_next ?_ hb' ?_; (assumption); (omega)))
        (first | (go_at_call 29; refine (bytes_z _ _ _ ?_ ?_ ?_ ?_).mono ?_; (omega); (omega); (omega); (omega); rintro e w' ⟨rfl, hb'⟩))
      obtain ⟨_, _, _, hbw⟩ := ‹_ ∧ _ ∧ _ ∧ Below wr.heap.size wr w'›
      have hi9 := HI.out.trans (hbw.mono (by omega))
      have hsz9 : w.heap.size < w'.heap.size := by have := hbw.size; omega
      clear hbw q0 q1 q2 q3 q4 q5 q6 q7 q8 HI
      obtain ⟨q0, q1, q2, q3, q4, q5, q6, q7, q8⟩ := box_cells hi9
      have HI := hid hi9
      clear hi9
      obtain ⟨s1, hs1⟩ : ∃ s1 : ByteArray, s1 = ⟨x0.toArray⟩ ++ ⟨(lastB org.toNat 1).toArray⟩ ++ ⟨(lastB t.toNat 1).toArray⟩ ++ ⟨(lastB k.toNat 1).toArray⟩ := ⟨_, rfl⟩
      have hz1 : s1.size ≤ 100 := by rw [hs1]; simp only [ByteArray.size_append', ByteArray.size_mk', List.size_toArray]; omega
      rw [← hs1]
      have HS1 := hid hs1
      clear hs1 f1 f2 f3
      have g4 : (lastB nm.size 1).length ≤ 8 := by rw [lastB_len]; omega
      have g5 : (lastB tx.size 1).length ≤ 8 := by rw [lastB_len]; omega
      have f1 : ¬ 9223372036854775807 < s1.size + (lastB nm.size 1).length := by omega
      have f2 : ¬ 9223372036854775807 < s1.size + (lastB nm.size 1).length + nm.size := by omega
      have f3 : ¬ 9223372036854775807 < s1.size + (lastB nm.size 1).length + nm.size + (lastB tx.size 1).length := by omega
      have f4 : ¬ 9223372036854775807 < s1.size + (lastB nm.size 1).length + nm.size + (lastB tx.size 1).length + tx.size := by omega
      go_wp2_with fail
      go_region_held3 (fun w2' => w2'.cell? ⟨w.heap.size, 4, none⟩ = some (.string nm) ∧ w2'.cell? ⟨w.heap.size, 5, none⟩ = some (.string tx) ∧ Below w'.heap.size w' w2')
        (first | exact ⟨q4, q5, (Below.refl _ _).drew⟩ | (refine held10_next ?_ hb2' ?_; (assumption); (omega)))
        (first | (go_at_call 29; refine (bytes_z _ _ _ ?_ ?_ ?_ ?_).mono ?_; (omega); (omega); (omega); (omega); rintro e w2' ⟨rfl, hb2'⟩))
      obtain ⟨_, _, hbw⟩ := ‹_ ∧ _ ∧ Below w'.heap.size w' w2'›
      have hi9 := HI.out.trans (hbw.mono (by omega))
      have hszA : w.heap.size < w2'.heap.size := by have := hbw.size; omega
      clear hbw q0 q1 q2 q3 q4 q5 q6 q7 q8 HI
      obtain ⟨q0, q1, q2, q3, q4, q5, q6, q7, q8⟩ := box_cells hi9
      have HI := hid hi9
      clear hi9
      obtain ⟨s2, hs2⟩ : ∃ s2 : ByteArray, s2 = s1 ++ ⟨(lastB nm.size 1).toArray⟩ ++ nm ++ ⟨(lastB tx.size 1).toArray⟩ ++ tx := ⟨_, rfl⟩
      have hz2 : s2.size ≤ 200 := by rw [hs2]; simp only [ByteArray.size_append', ByteArray.size_mk', List.size_toArray]; omega
      rw [← hs2]
      have HS2 := hid hs2
      clear hs2 f1 f2 f3 f4
      have g6 : (lastB (am + 1000).toNat 2).length ≤ 8 := by rw [lastB_len]; omega
      have g7 : (lastB o.toNat 1).length ≤ 8 := by rw [lastB_len]; omega
      have g8 : (lastB s.toNat 2).length ≤ 8 := by rw [lastB_len]; omega
      have wa : IntKind.i64.wrap (am + 1000) = am + 1000 := by rw [IntKind.wrap_i64]; omega
      have f1 : ¬ 9223372036854775807 < s2.size + (lastB (am + 1000).toNat 2).length := by omega
      have f2 : ¬ 9223372036854775807 < s2.size + (lastB (am + 1000).toNat 2).length + (lastB o.toNat 1).length := by omega
      have f3 : ¬ 9223372036854775807 < s2.size + (lastB (am + 1000).toNat 2).length + (lastB o.toNat 1).length + (lastB s.toNat 2).length := by omega
      go_wp2_with fail
      go_region_held3 (fun w3' => w3'.cell? ⟨w.heap.size, 6, none⟩ = some (.int .i64 am) ∧ w3'.cell? ⟨w.heap.size, 7, none⟩ = some (.int .i64 o) ∧ w3'.cell? ⟨w.heap.size, 8, none⟩ = some (.int .i64 s) ∧ Below w2'.heap.size w2' w3')
        (first | exact ⟨q6, q7, q8, (Below.refl _ _).drew⟩ | (refine held11_next ?_ hb3' ?_; (assumption); (omega)))
        (first | (go_at_call 29; refine (bytes_z _ _ _ ?_ ?_ ?_ ?_).mono ?_; (omega); (omega); (omega); (omega); rintro e w3' ⟨rfl, hb3'⟩))
      obtain ⟨_, _, _, hbw⟩ := ‹_ ∧ _ ∧ _ ∧ Below w2'.heap.size w2' w3'›
      have hi9 := HI.out.trans (hbw.mono (by omega))
      have hszB : w.heap.size < w3'.heap.size := by have := hbw.size; omega
      clear hbw q0 q1 q2 q3 q4 q5 q6 q7 q8 HI
      have HI := hid hi9
      clear hi9
      obtain ⟨s3, hs3⟩ : ∃ s3 : ByteArray, s3 = s2 ++ ⟨(lastB (am + 1000).toNat 2).toArray⟩ ++ ⟨(lastB o.toNat 1).toArray⟩ ++ ⟨(lastB s.toNat 2).toArray⟩ := ⟨_, rfl⟩
      have hz3 : s3.size ≤ 300 := by rw [hs3]; simp only [ByteArray.size_append', ByteArray.size_mk', List.size_toArray]; omega
      rw [← hs3]
      have HS3 := hid hs3
      clear hs3 f1 f2 f3
      have HE : Hid (s3 = ⟨(encBody org zs t k nm.data.toList tx.data.toList am o s).toArray⟩) := enc_join HX.out HS1.out HS2.out HS3.out
      go_wp2_with fail
      refine (refCrc_any s3 _ (by omega)).mono ?_
      rintro e w4 ⟨rfl, rfl⟩
      generalize hcr : crcSum s3.data.toList = c at *
      have hcl : c < 4294967296 := by rw [← hcr]; exact crcSum_lt _
      have HCR := hid hcr
      clear hcr
      have g9 : (lastB c 4).length ≤ 8 := by rw [lastB_len]; omega
      go_wp2_with fail
      refine (bytes_4 _ _ (by omega) (by omega)).mono ?_
      rintro e w5 ⟨rfl, hb5⟩
      have hbF : Below w.heap.size w w5 := (((Below.refl _ _).alloc (Nat.le_refl _) _).trans (HI.out.mono (by omega))).trans (hb5.mono (by omega))
      have HBF := hid hbF
      clear hbF hb5
      go_wp2
      go_ret2
      refine ⟨?_, HBF.out⟩
      rw [← enc_all HE.out HCR.out]
      rfl
end Go.Proofs.Yteljbblbdiploaa
