/-
  Package syms: count; the numbers of an entry by a cursor's methods that are handed on as values (symbol, rela).
-/
import Derived.Test.YtpmpgfngogdfhaaDoorSyA
import Derived.Test.YtpmpgfngogdfhaaDoorCurE
import Derived.Test.YtpmpgfngogdfhaaDoorEhC
import Derived.Test.YtpmpgfngogdfhaaDoorEhA
import Derived.Laws.ResultCell
namespace Go.Proofs.YtpmpgfngogdfhaaDoor
open Go Go.RowKit

/-! ### A cursor, a struct in memory beside it, and what has not turned since w0 -/
def StY (T : TypeId) (w0 w : World) (g : Nat) (v : Value) (l : List UInt8) (a : Nat) (H : Nat) (cs : Array Value) : Prop :=
  Cur w g v l a 0 ∧ Box w H T cs ∧ w0.grownBy w (some g)
section
variable {T : TypeId} {w0 w w' : World} {g : Nat} {v : Value} {l : List UInt8} {a b H : Nat} {cs : Array Value}
theorem StY.call (h : StY T w0 w g v l a H cs) (hne : g ≠ H) (hC : Cur w' g v l b 0) (hG : w.grownBy w' (some g)) : StY T w0 w' g v l b H cs :=
  ⟨hC, h.2.1.grown hG (by simpa using fun e => hne e.symm), h.2.2.trans hG⟩
theorem StY.set (h : StY T w0 w g v l a H cs) (hT : 5 ≠ T) (hne : g ≠ H) (hH : w0.heap.size ≤ H) (i : Nat) (u : Value) : StY T w0 (w.setCell ⟨H, i, none⟩ u) g v l a H (cs.setIfInBounds i u) :=
  have G : w.grownBy (w.setCell ⟨H, i, none⟩ u) (some H) := only_set (only_refl w (some H)) i u
  ⟨h.1.grown G (by simpa using hne) (.inr (own_other h.1.2.1 h.2.1 hT)), h.2.1.set i u, only_trans h.2.2 G (.inr fun x hx => by injection hx with hx; omega)⟩
theorem got_inY {n : Nat} (h : a + n ≤ l.length) : nextGot l a 0 n = cutT l a n ∧ nextAt l a 0 n = a + n ∧ nextErr l a 0 n = 0 := by
  have h' : n ≤ l.length - a := by omega
  simp [nextGot, nextAt, nextErr, cutT, h']
theorem StY.u8 (h : StY T w0 w g v l a H cs) (hne : g ≠ H) (hl : l.length ≤ 140737488355328) (ha : a + 1 ≤ l.length) :
    Calls Tryd.prog 59 #[.pointer (some ⟨g, 0, none⟩)] w fun r w' => r = .returned (.int .u64 (numT l a 1 : Int)) ∧ StY T w0 w' g v l (a + 1) H cs := by
  obtain ⟨e1, e2, e3⟩ := got_inY ha
  have := u8_cur h.1 hl
  rw [e1, e2, e3] at this
  exact this.mono fun _ _ ⟨h1, h2, h3⟩ => ⟨h1, h.call hne h2 h3⟩
end

end Go.Proofs.YtpmpgfngogdfhaaDoor
