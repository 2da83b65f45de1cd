/-
  The document's Take of symbols.
-/

import Derived.Test.YtkadjejjillmmaaSyDa
import Derived.Test.YtkadjejjillmmaaRefR
import Derived.Test.YtkadjejjillmmaaCsA
import Derived.Test.YtkadjejjillmmaaCsP
import Derived.Test.YtkadjejjillmmaaCsL
import Derived.Test.YtkadjejjillmmaaSeR
import Derived.Test.YtkadjejjillmmaaEhG
import Derived.Test.YtkadjejjillmmaaCopyB
import Derived.Laws.MakeOwn
import Derived.Test.YtkadjejjillmmaaSeM
import Derived.Test.YtkadjejjillmmaaSeB
import Derived.Test.YtkadjejjillmmaaKeep
import Derived.Lib.AppendZerosOnto
import Derived.Test.YtkadjejjillmmaaPoX
import Derived.Test.YtkadjejjillmmaaEhD
import Derived.Stop.BytesEq
import Derived.Laws.Cover3
import Derived.Test.YtkadjejjillmmaaEhA
import Derived.Test.YtkadjejjillmmaaParts
namespace Go.Proofs.Ytkadjejjillmmaa
open Go Go.RowKit

/-- The document's cursor, a struct in memory beside it, and what has not turned since w0. -/
def StQ (T : TypeId) (B : Nat) (w0 w : World) (g : Nat) (v : Value) (l : List UInt8) (a : Nat) (H : Nat) (cs : Array Value) : Prop :=
  RR B w g v l a 0 ∧ Box w H T cs ∧ w0.grownBy w (some g)
theorem clamp_small (s : Nat) (h : s ≤ 8) : clampOf (s : Int) = s := by unfold clampOf; omega
theorem q_num {B : Nat} {w : World} {g : Nat} {v : Value} {l : List UInt8} {a : Nat} (h : RR B w g v l a 0) (s : Nat) (hs : s ≤ 8) (hlen : l.length ≤ 140737488355328) (hin : a + s ≤ l.length) :
    Calls Try.prog 29 #[.pointer (some ⟨g, 0, none⟩), .int .i64 (s : Int)] w fun r w' => r = .returned (.int .u64 (numT l a s : Int)) ∧ RR B w' g v l (a + s) 0 ∧ w.grownBy w' (some g) := by
  have hc := clamp_small s hs
  have := quint_ok h (s : Int) (by omega) hlen (by rw [hc]; omega)
  rw [hc] at this
  exact this
section
variable {T : TypeId} {B : Nat} {w0 w w' : World} {g : Nat} {v : Value} {l : List UInt8} {a b H : Nat} {cs : Array Value}
theorem StQ.call (h : StQ T B w0 w g v l a H cs) (hne : g ≠ H) (hC : RR B w' g v l b 0) (hG : w.grownBy w' (some g)) : StQ T B w0 w' g v l b H cs :=
  ⟨hC, h.2.1.grown hG (by simpa using fun e => hne e.symm), h.2.2.trans hG⟩
theorem StQ.set (h : StQ T B w0 w g v l a H cs) (hne : g ≠ H) (hB : B ≤ H) (hH : w0.heap.size ≤ H) (i : Nat) (u : Value) : StQ T B w0 (w.setCell ⟨H, i, none⟩ u) g v l a H (cs.setIfInBounds i u) :=
  have G : w.grownBy (w.setCell ⟨H, i, none⟩ u) (some H) := only_set (only_refl w (some H)) i u
  ⟨h.1.grown G (by simpa using hne) (fun x hx => by injection hx with hx; omega), h.2.1.set i u, only_trans h.2.2 G (.inr fun x hx => by injection hx with hx; omega)⟩
theorem StQ.num (h : StQ T B w0 w g v l a H cs) (hne : g ≠ H) (s : Nat) (hs : s ≤ 8) (hlen : l.length ≤ 140737488355328) (hin : a + s ≤ l.length) :
    Calls Try.prog 29 #[.pointer (some ⟨g, 0, none⟩), .int .i64 (s : Int)] w fun r w' => r = .returned (.int .u64 (numT l a s : Int)) ∧ StQ T B w0 w' g v l (a + s) H cs :=
  (q_num h.1 s hs hlen hin).mono fun _ _ ⟨h1, h2, h3⟩ => ⟨h1, h.call hne h2 h3⟩
end

end Go.Proofs.Ytkadjejjillmmaa
