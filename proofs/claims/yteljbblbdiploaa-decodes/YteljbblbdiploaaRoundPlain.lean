/-
  PLAIN: bytes that are an update's, with one byte more, fewer, or another one, are none's.
-/
import Derived.Test.YteljbblbdiploaaWDec2
import Derived.Test.YteljbblbdiploaaCrcDiff
namespace Go.Proofs.Yteljbblbdiploaa

/-- bytes that begin as an update's are no other update's -/
theorem enc_unique {l m : List UInt8} {org : Int} {zs : List Int} {t k : Int} {nm tx : List UInt8} {am o s : Int} {org' : Int} {zs' : List Int} {t' k' : Int} {nm' tx' : List UInt8} {am' o' s' : Int}
    (h : IsEnc l org zs t k nm tx am o s) (x : List UInt8) (hm : m = encBody org zs t k nm tx am o s ++ x) (h' : IsEnc m org' zs' t' k' nm' tx' am' o' s') : m = l := by
  obtain ⟨_, r1, r2, r3, r4, _, r6, _, r8, r9, r10, r11, _⟩ := isEnc_read h x m hm
  obtain ⟨_, e1, e2, e3, e4, _, e6, _, e8, e9, e10, e11, _⟩ := isEnc_read h' (lastB (crcSum (encBody org' zs' t' k' nm' tx' am' o' s')) 4) m h'.2.2.2
  have a1 : zs' = zs := e1.symm.trans r1
  have a2 : org' = org := e2.symm.trans r2
  have a3 : t' = t := e3.symm.trans r3
  have a4 : k' = k := e4.symm.trans r4
  have a6 : nm' = nm := e6.symm.trans r6
  have a8 : tx' = tx := e8.symm.trans r8
  have a9 : am' = am := e9.symm.trans r9
  have a10 : o' = o := e10.symm.trans r10
  have a11 : s' = s := e11.symm.trans r11
  subst a1; subst a2; subst a3; subst a4; subst a6; subst a8; subst a9; subst a10; subst a11
  rw [h'.2.2.2, h.2.2.2]

theorem no_short {l : List UInt8} {org : Int} {zs : List Int} {t k : Int} {nm tx : List UInt8} {am o s : Int} (h : IsEnc l org zs t k nm tx am o s) :
    ∀ org' zs' t' k' nm' tx' am' o' s', ¬ IsEnc (l.take (l.length - 1)) org' zs' t' k' nm' tx' am' o' s' := by
  intro org' zs' t' k' nm' tx' am' o' s' h'
  have hl : l.length = (encBody org zs t k nm tx am o s).length + 4 := by rw [h.2.2.2, withSum, List.length_append, lastB_len]
  have e := enc_unique h ((lastB (crcSum (encBody org zs t k nm tx am o s)) 4).take 3) (by
    conv => lhs; arg 2; rw [h.2.2.2]
    rw [withSum, hl, List.take_append]
    rw [List.take_of_length_le (by omega), show (encBody org zs t k nm tx am o s).length + 4 - 1 - (encBody org zs t k nm tx am o s).length = 3 from by omega]) h'
  have := congrArg List.length e
  rw [List.length_take] at this
  omega

theorem no_long {l : List UInt8} {org : Int} {zs : List Int} {t k : Int} {nm tx : List UInt8} {am o s : Int} (h : IsEnc l org zs t k nm tx am o s) (b : UInt8) :
    ∀ org' zs' t' k' nm' tx' am' o' s', ¬ IsEnc (l ++ [b]) org' zs' t' k' nm' tx' am' o' s' := by
  intro org' zs' t' k' nm' tx' am' o' s' h'
  have e := enc_unique h (lastB (crcSum (encBody org zs t k nm tx am o s)) 4 ++ [b]) (by
    conv => lhs; arg 1; rw [h.2.2.2]
    rw [withSum, List.append_assoc]) h'
  have := congrArg List.length e
  rw [List.length_append, List.length_singleton] at this
  omega

theorem no_other {l : List UInt8} {org : Int} {zs : List Int} {t k : Int} {nm tx : List UInt8} {am o s : Int} (h : IsEnc l org zs t k nm tx am o s) (i : Nat) (v : UInt8) (hi : i < l.length) (hv : v ≠ l[i]) :
    ∀ org' zs' t' k' nm' tx' am' o' s', ¬ IsEnc (l.set i v) org' zs' t' k' nm' tx' am' o' s' := by
  intro org' zs' t' k' nm' tx' am' o' s' h'
  have he := h.2.2.2
  subst he
  exact sum_other hi hv h'.2.2.2.symm
end Go.Proofs.Yteljbblbdiploaa
