/-
  PLAIN: an update as bytes; no Go text in sight.
-/
import Derived.Test.YteljbblbdiploaaCrcPlain
namespace Go.Proofs.Yteljbblbdiploaa

/-- the last k bytes of a number, the highest first -/
def lastB (v : Nat) : Nat → List UInt8
  | 0 => []
  | k + 1 => UInt8.ofNat (v / 256 ^ k % 256) :: lastB v k

theorem lastB_len (v k : Nat) : (lastB v k).length = k := by
  induction k with
  | zero => rfl
  | succ k ih => simp [lastB, ih]

/-- the clock's numbers, two bytes each -/
def clkBytes : List Int → List UInt8
  | [] => []
  | z :: zs => lastB z.toNat 2 ++ clkBytes zs
theorem clkBytes_app (a b : List Int) : clkBytes (a ++ b) = clkBytes a ++ clkBytes b := by
  induction a with
  | nil => rfl
  | cons z a ih => simp [clkBytes, ih]
theorem clkBytes_len (zs : List Int) : (clkBytes zs).length = 2 * zs.length := by
  induction zs with
  | nil => rfl
  | cons z zs ih => simp [clkBytes, ih, lastB_len]; omega

def encHead (zs : List Int) : List UInt8 := lastB zs.length 1 ++ clkBytes zs
def encTail (org t k : Int) (nm tx : List UInt8) (am o s : Int) : List UInt8 :=
  lastB org.toNat 1 ++ lastB t.toNat 1 ++ lastB k.toNat 1 ++ lastB nm.length 1 ++ nm ++ lastB tx.length 1 ++ tx ++ lastB (am + 1000).toNat 2 ++ lastB o.toNat 1 ++ lastB s.toNat 2
def encBody (org : Int) (zs : List Int) (t k : Int) (nm tx : List UInt8) (am o s : Int) : List UInt8 := encHead zs ++ encTail org t k nm tx am o s
def withSum (l : List UInt8) : List UInt8 := l ++ lastB (crcSum l) 4

theorem encTail_len (org t k : Int) (nm tx : List UInt8) (am o s : Int) : (encTail org t k nm tx am o s).length = nm.length + tx.length + 10 := by
  simp [encTail, lastB_len]; omega
theorem encBody_len (org : Int) (zs : List Int) (t k : Int) (nm tx : List UInt8) (am o s : Int) : (encBody org zs t k nm tx am o s).length = 2 * zs.length + nm.length + tx.length + 11 := by
  simp [encBody, encHead, lastB_len, clkBytes_len, encTail_len]; omega
end Go.Proofs.Yteljbblbdiploaa
