/-
  Package tables: tables as bytes; what is put is taken: plain facts.
-/
import Derived.Test.YtpmpgfngogdfhaaDoorTbA
import Derived.Test.YtpmpgfngogdfhaaDoorUnE
import Derived.Test.YtpmpgfngogdfhaaDoorLtB
import Derived.Deep.RegionHeldLaw
import Derived.Test.YtpmpgfngogdfhaaDoorUnG
import Derived.Test.YtpmpgfngogdfhaaDoorUnA
import Derived.Test.YtpmpgfngogdfhaaDoorSyA
import Derived.Test.YtpmpgfngogdfhaaDoorSeB
import Derived.Test.YtpmpgfngogdfhaaDoorCsM
import Derived.Test.YtpmpgfngogdfhaaDoorCurN
import Derived.Test.YtpmpgfngogdfhaaDoorPutR
import Derived.Test.YtpmpgfngogdfhaaDoorParts
import Derived.WalkMore
import Derived.Test.YtpmpgfngogdfhaaDoorPut
import Derived.Lib.BytesEntry
import Derived.Lib.AppendStr
import Derived.Laws.Externs
import Derived.Deep.Slices
import Derived.Test.YtpmpgfngogdfhaaDoorRefR
import Derived.Test.YtpmpgfngogdfhaaDoorCsL
import Derived.Lib.SlBytesConst
import Derived.Test.YtpmpgfngogdfhaaDoorLawC
import Derived.Laws.StructEq
import Derived.Test.YtpmpgfngogdfhaaDoorLtC
namespace Go.Proofs.YtpmpgfngogdfhaaDoor
open Go Go.RowKit

/-! ### A table as bytes -/
def hdB (ad : Bool) : List UInt8 := match ad with | true => [5, 0, 8, 0] | false => [5, 0, 0, 0]
def putsN (n : Nat) (l : List Nat) : List UInt8 := l.flatMap fun x => leBytes x n
theorem putsN_cons (n x : Nat) (l : List Nat) : putsN n (x :: l) = leBytes x n ++ putsN n l := rfl
theorem putsN_snoc (n x : Nat) (l : List Nat) : putsN n (l ++ [x]) = putsN n l ++ leBytes x n := by simp [putsN]
theorem putsN_len (n : Nat) : ∀ l : List Nat, (putsN n l).length = l.length * n
  | [] => by simp [putsN]
  | x :: l => by rw [putsN_cons, List.length_append, leBytes_length, putsN_len n l, List.length_cons, Nat.add_mul, Nat.one_mul, Nat.add_comm]
def bodyTb (ad wide : Bool) (l : List Nat) : List UInt8 := hdB ad ++ putsN (szT ad wide) l
def fitTb (n : Nat) (l : List Nat) : Bool := l.all fun x => decide (x < 256 ^ n)
def putTbB (ad wide : Bool) (l : List Nat) : List UInt8 := if fitTb (szT ad wide) l = true then lenB (bodyTb ad wide l).length wide ++ bodyTb ad wide l else []
def putTbE (ad wide : Bool) (l : List Nat) : Int := if fitTb (szT ad wide) l = true then 0 else 2
theorem hdB_len (ad : Bool) : (hdB ad).length = 4 := by cases ad <;> rfl
theorem bodyTb_len (ad wide : Bool) (l : List Nat) : (bodyTb ad wide l).length = 4 + l.length * szT ad wide := by rw [bodyTb, List.length_append, hdB_len, putsN_len]
theorem bodyTb_le (ad wide : Bool) {l : List Nat} (h : l.length ≤ 100000) : (bodyTb ad wide l).length ≤ 800004 := by
  have h1 := bodyTb_len ad wide l
  have h2 := (szT_pos ad wide).2
  have h3 : l.length * szT ad wide ≤ 100000 * 8 := Nat.mul_le_mul h h2
  omega
theorem fit_all {n : Nat} {l : List Nat} (h : fitTb n l = true) : ∀ x ∈ l, x < 256 ^ n := fun x hx => of_decide_eq_true (List.all_eq_true.1 h x hx)
/-! ### Items by their bases -/
def atTb (L : List Tbl) (b i : Nat) : Nat × Bool := match L.find? (fun t => t.base == b) with
  | some t => (match t.items[i]? with | some n => (n, true) | none => (0, false))
  | none => (0, false)
end Go.Proofs.YtpmpgfngogdfhaaDoor
