/-
  What the calls of turnpikeref2's octet, group and gap do.
-/
import Derived.Test.YtpchhfhdepkbcaaDoorAdr6
namespace Go.Proofs.YtpchhfhdepkbcaaDoor
open Go.RowKit
set_option linter.unusedSimpArgs false
set_option linter.unusedVariables false

def octG (t : ByteArray) : Nat → Nat → Int → Int
  | 0, _, n => n
  | f + 1, k, n => if 48 ≤ byteAt t k ∧ byteAt t k ≤ 57 then octG t f (k + 1) (10 * n + (byteAt t k - 48)) else -1
def octV (t : ByteArray) : Int := if t.size < 1 ∨ 3 < t.size ∨ (1 < t.size ∧ byteAt t 0 = 48) then -1 else if 255 < octG t t.size 0 0 then -1 else octG t t.size 0 0

def grG (t : ByteArray) : Nat → Nat → Int → Int
  | 0, _, n => n
  | f + 1, k, n => if hexB (byteAt t k) = true then grG t f (k + 1) (16 * n + hexV (byteAt t k)) else -1
def grV (t : ByteArray) : Int := if t.size < 1 ∨ 4 < t.size then -1 else grG t t.size 0 0

def gapG (t : ByteArray) : Nat → Nat → Int
  | 0, _ => -1
  | f + 1, i => if i + 1 < t.size then (if byteAt t i = 58 ∧ byteAt t (i + 1) = 58 then (i : Int) else gapG t f (i + 1)) else -1
def gapV (t : ByteArray) : Int := gapG t (t.size + 1) 0

end Go.Proofs.YtpchhfhdepkbcaaDoor
