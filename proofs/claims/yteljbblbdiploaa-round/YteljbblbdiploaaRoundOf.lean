/-
  THE LAW Round, out of what the reader's text does.
-/
import Derived.Test.YteljbblbdiploaaRnd3
import Derived.Test.YteljbblbdiploaaOpenU
namespace Go.Proofs.Yteljbblbdiploaa
open Go.ChangeShapes Go.WideShapes Go.ChangeAt Go.RowKit

theorem Try.ownR : ownKnob Try.prog.godebug = none := by kernel_rfl
theorem Try.laidOutR : laidOutB Try.prog = true := by kernel_rfl
theorem i64_of_wf {x : Int} (h : (Lit.int .i64 x).wf = true) : -9223372036854775808 ≤ x ∧ x ≤ 9223372036854775807 := by
  simp [Lit.wf, IntKind.min, IntKind.max, IntKind.signed, IntKind.bits] at h
  exact ⟨by omega, by omega⟩

theorem round_any (hT : TextSaid) (org t k am o s a b : Int) (nm tx : ByteArray) (ao : Option Addr) (cap : Nat) (zs : List Int) (w : World) (hsrc : ClkAt w ao cap zs) (hl : zs.length * 8 ≤ 140737488351232) (hn : nm.size ≤ maxLen) (hx : tx.size ≤ maxLen)
    (ht0 : 0 ≤ t) (ht1 : t < 256) (hk0 : 0 ≤ k) (hk1 : k < 256) (ha : -9223372036854775808 ≤ a ∧ a ≤ 9223372036854775807) (hb : -9223372036854775808 ≤ b ∧ b ≤ 9223372036854775807) :
    Calls Try.prog 6 #[.agg #[.int .i64 org, .slice ao zs.length cap, .int .u8 t, .int .u8 k, .string nm, .string tx, .int .i64 am, .int .i64 o, .int .i64 s], .int .i64 a, .int .i64 b] w
      fun e w' => e = .returned (.bool true) ∧ Below w.heap.size w w' := by
  by_cases hg : goodU org zs t k nm.size tx.size am o s = true
  · have h28 := hg
    simp only [goodU, Bool.and_eq_true, decide_eq_true_eq] at h28
    obtain ⟨b0, off, rfl, hc⟩ := hsrc.plain (by omega)
    exact round_yes hT org t k am o s a b nm tx b0 off cap zs w hc h28.1.1 h28.1.2 hn hx ht0 ht1 hk0 hk1 hg ha.1 ha.2 hb.1 hb.2
  · exact round_no org t k am o s a b nm tx ao cap zs w hsrc hl hn hx ht0 ht1 hk0 hk1 (by simpa using hg)

set_option maxRecDepth 100000 in
theorem round_lifted (hT : TextSaid) (os : Os) (started : os.Started) (H : Type) (enc : TypeId × Value → H) :
    ReturnsInHanded {} Try.checked os 6 .any (Rows.roundSpec.pre6 enc Try.prog Try.f6 Rows.roundRow.domain false) (Rows.roundSpec.post enc Try.prog Try.f6 false true false false) := by
  refine returnsInHanded_of_change_sized (C := Try.checked) Try.ownR started (by kernel_rfl) Try.func6
    (ChangeSpec.witness6 (enc := enc) (C := Try.checked) false ⟨#[], #[.agg #[.int .i64 0, .slice none 0 0, .int .u8 0, .int .u8 0, .string ⟨#[]⟩, .string ⟨#[]⟩, .int .i64 0, .int .i64 0, .int .i64 0], .int .i64 0, .int .i64 0], []⟩ 8 (by kernel_rfl) (by kernel_rfl) (by kernel_rfl) (by kernel_rfl)) ?_
  intro W base args ds gs before hval0 hW _ hsz0 _
  have hsz : (DataW.weightsEach Try.prog (Try.f6.params.toList ++ Rows.roundSpec.plain.varTypes Try.prog) (ds ++ gs)).all (· ≤ reachBytes) = true := hsz0
  clear hsz0
  have hval : ∀ (j : Nat) t v, Try.f6.params[j]? = some t → args[j]? = some v → Value.okWide Try.prog W .any base t v := hval0
  have hW' := hW
  obtain ⟨p, q, hA0, hV, rfl, hfz, hnd⟩ := hW
  have hA : DataW.TrodAll enc Try.prog W 0 (fun _ => true) true Try.f6.params.toList args.toList ds p := hA0
  rw [Try.params6] at hA hval hsz
  obtain ⟨v0, v1, v2, d0, d1, d2, p0, p1, p2, rfl, rfl, rfl, h0, h1, h2⟩ := trodAll_three hA
  obtain ⟨rfl, rfl⟩ := trodVars_none hV
  obtain ⟨a, rfl, rfl, rfl, wa⟩ := open_int Try.underlying3 (hval 1 3 v1 rfl rfl) h1
  obtain ⟨b, rfl, rfl, rfl, wb⟩ := open_int Try.underlying3 (hval 2 3 v2 rfl rfl) h2
  clear hA0 hval0
  simp only [List.append_nil] at hW'
  have hlt : ∀ x ∈ p0, x.block < W.heap.size := fun x hx => by simpa using hW'.lt x hx
  have hargs : ∀ (W' : World), Below W.heap.size W W' → DataW.Trod enc Try.prog W' 0 (fun b => decide (b < W.heap.size)) true 28 v0 d0 p0 :=
    fun W' hn => Below.trod Try.laidOutR (by kernel_rfl) (of_decide_eq_true (by kernel_rfl)) h0 hn hlt
  have hwt : ∀ n ∈ d0.weights Try.prog 28, n ≤ reachBytes := fun n hn => by
    have := List.all_eq_true.1 hsz n (DataW.weights_mem_each (j := 0) (t := 28) (d := d0) rfl rfl n hn)
    simpa using this
  obtain ⟨org, t, k, am, o, s, nm, tx, ao, cap, zs, rfl, hsrc, hl, hn, hx, ht0, ht1, hk0, hk1⟩ := open_upd (hval 0 28 v0 rfl rfl) h0 hwt
  refine (round_any hT org t k am o s a b nm tx ao cap zs W hsrc hl hn hx ht0 ht1 hk0 hk1 (i64_of_wf wa) (i64_of_wf wb)).mono fun e W' ⟨he, hb⟩ => ?_
  subst he
  exact ⟨_, rfl, _, _, _, [], p0 ++ ([] ++ []), [], hW', trodAll_mk1 (shut_bool Try.underlying4 _), trodAll_mk3 (hargs _ hb) (shut_int Try.underlying3 wa) (shut_int Try.underlying3 wb), rfl, hb.frame _, fun h => by cases h⟩

theorem round_of (hT : TextSaid) : Rows.RoundSaid :=
  OpenClaim.holds_of_wide 6 Try.f6 rfl rfl rfl rfl rfl rfl rfl ⟨rfl, rfl, rfl, rfl, rfl⟩ rfl rfl rfl rfl rfl (by kernel_rfl) Try.func6 (by kernel_rfl)
    (of_decide_eq_true (by kernel_rfl)) (by unfold Func.isWrapper; first | (rw [if_pos (by decide +kernel)]; kernel_rfl) | (rw [if_neg (by decide +kernel)]; exact ⟨rfl, rfl⟩))
    (fun os started H enc _ => round_lifted hT os started H enc)
end Go.Proofs.Yteljbblbdiploaa
