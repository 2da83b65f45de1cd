/-
  Package unit: the document's All.
-/
import Derived.Test.YtpmpgfngogdfhaaDoorUnE
import Derived.Test.YtpmpgfngogdfhaaDoorLtD
namespace Go.Proofs.YtpmpgfngogdfhaaDoor
open Go Go.RowKit

section
variable {l : List UInt8} {e : Int} {wide : Bool}
end
theorem ru_un {w : World} {g : Nat} {v : Value} {l : List UInt8} {s : UCt} (h : RC w g v l s.1 s.2) (hlen : l.length ≤ 140737488355328) (n : Int) (m : Nat) (hm : clampOf n = m) (hs : -9223372036854775808 ≤ n ∧ n ≤ 9223372036854775807) :
    Calls Tryd.prog 55 #[.pointer (some ⟨g, 0, none⟩), .int .i64 n] w fun r w' => r = .returned (.int .u64 (vU l s m : Int)) ∧ RC w' g v l (nU l s m).1 (nU l s m).2 ∧ w.grownBy w' (some g) := by
  have := ruint_cur h n hs hlen
  rw [hm] at this
  exact this

section
variable {B : Nat} {w W W' : World} {gc : Nat} {vc : Value} {sec : List UInt8} {t : UCt} {g : Nat} {v : Value} {l : List UInt8} {s s' : UCt} {H X : Nat} {cs : Array Value}
end

end Go.Proofs.YtpmpgfngogdfhaaDoor

namespace Go.Proofs.YtpmpgfngogdfhaaDoor
open Go Go.RowKit

theorem un_rr {B : Nat} {W W1 : World} {g base n m : Nat} {t : TypeId} {v u : Value} {l : List UInt8} {a : Nat} {e : Int} {xs : List Value} (h : RR B W g v l a e) (hrow : W.ownsRow base t m u n xs) (h1 : 127 ≠ t) (hB : B ≤ base) (hg : W.grownBy W1 u.ownBlock) : RR B W1 g v l a e := by
  refine h.grown hg (fun e => ?_) (fun x hx => Nat.le_trans hB (hrow.lt x hx).1)
  rcases hrow.2 with ⟨rfl, _⟩ | ⟨g', cap, cur, rfl, _, hh, _⟩
  · simp [Value.ownBlock] at e
  · have e' : g = g' := by simpa [Value.ownBlock] using e
    subst e'
    have hX := h.1
    unfold Box at hX
    rw [hX] at hh
    injection hh with hh
    injection hh with _ hh
    exact h1 hh
end Go.Proofs.YtpmpgfngogdfhaaDoor
