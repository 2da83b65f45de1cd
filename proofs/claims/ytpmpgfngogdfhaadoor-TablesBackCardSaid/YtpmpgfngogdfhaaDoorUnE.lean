/-
  Package unit: All.
-/
import Derived.Test.YtpmpgfngogdfhaaDoorUnD
import Derived.Test.YtpmpgfngogdfhaaDoorCurD
import Derived.Test.YtpmpgfngogdfhaaDoorSeG
import Derived.Maps.AppendAt
namespace Go.Proofs.YtpmpgfngogdfhaaDoor
open Go Go.RowKit

/-! ### Rows, cursors and boxes beside one another -/
theorem un_far {X X' : World} {B g k n : Nat} {T e : TypeId} {cs : Array Value} {v : Value} {xs : List Value} (h : X.ownsRow B e n v k xs) (hg : X.grownBy X' (some g)) (hX : Box X g T cs) (hT : T ≠ e) : X'.ownsRow B e n v k xs := by
  refine h.kept hg ?_
  rcases h.2 with ⟨rfl, _⟩ | ⟨g', cap, cur, rfl, _, hh, _⟩
  · exact .inl rfl
  · refine .inr fun he => ?_
    have he' : g' = g := by simpa [Value.ownBlock] using he
    subst he'
    unfold Box at hX
    rw [hX] at hh
    injection hh with hh
    injection hh with _ hh
    exact hT hh
theorem un_apart {w w' : World} {B B' m m' n n' : Nat} {t t' : TypeId} {v v' : Value} {xs xs' : List Value} (h : w.ownsRow B t m v n xs) (h' : w.ownsRow B' t' m' v' n' xs') (ht : t ≠ t') (hg : w.grownBy w' v'.ownBlock) : w'.ownsRow B t m v n xs := by
  refine h.kept hg ?_
  rcases h.2 with ⟨rfl, _⟩ | ⟨g, cap, cur, rfl, _, hh, _⟩
  · exact .inl rfl
  · rcases h'.2 with ⟨rfl, _⟩ | ⟨g', cap', cur', rfl, _, hh', _⟩
    · exact .inr (by simp [Value.ownBlock])
    · refine .inr fun e => ?_
      have e' : g = g' := by simpa [Value.ownBlock] using e
      subst e'
      rw [hh] at hh'
      injection hh' with hh'
      injection hh' with _ hh'
      exact ht hh'
theorem un_box {W W1 : World} {H base n m : Nat} {T t : TypeId} {cs : Array Value} {u : Value} {xs : List Value} (hX : Box W H T cs) (hrow : W.ownsRow base t m u n xs) (hT : T ≠ t) (hg : W.grownBy W1 u.ownBlock) : Box W1 H T cs := by
  refine hX.grown hg ?_
  rcases hrow.2 with ⟨rfl, _⟩ | ⟨g, cap, cur, rfl, _, hh, _⟩
  · simp [Value.ownBlock]
  · intro e
    have e' : H = g := by simpa [Value.ownBlock] using e
    subst e'
    unfold Box at hX
    rw [hX] at hh
    injection hh with hh
    injection hh with _ hh
    exact hT hh
theorem un_cur {W W1 : World} {g base n m : Nat} {t : TypeId} {v u : Value} {l : List UInt8} {a : Nat} {e : Int} {xs : List Value} (h : Cur W g v l a e) (hrow : W.ownsRow base t m u n xs) (h1 : 139 ≠ t) (h2 : 5 ≠ t) (hg : W.grownBy W1 u.ownBlock) : Cur W1 g v l a e :=
  ⟨un_box h.1 hrow h1 hg, un_apart h.2.1 hrow h2 hg, h.2.2⟩
theorem un_sz {W W1 : World} {base n m : Nat} {t : TypeId} {u : Value} {xs : List Value} (h : Sz W) (hrow : W.ownsRow base t m u n xs) (hb : 0 < base) (hg : W.grownBy W1 u.ownBlock) : Sz W1 :=
  h.grown hg (fun e => by have := (hrow.lt _ e).1; omega)
theorem un_slc {X : World} {B k n : Nat} {e : TypeId} {v : Value} {xs : List Value} (h : X.ownsRow B e n v k xs) : ∃ A c, v = .slice A k c := by
  rcases h.2 with ⟨rfl, h0⟩ | ⟨g, cap, cur, rfl, _⟩
  · exact ⟨none, 0, by rw [h0]⟩
  · exact ⟨_, _, rfl⟩
theorem cells_newU (w : World) (cs : List Value) (T : TypeId) (j : Nat) (u : Value) (h : cs[j]? = some u) : (w.alloc (.cells cs.toArray T)).cell? ((⟨w.heap.size, 0, none⟩ : Addr).add j) = some u := by
  rw [addr_add, Nat.zero_add, (Box.new w T cs.toArray).cell]
  simpa using h

theorem left_err {l : List UInt8} {a : Nat} {e : Int} (h : 0 < leftOf l a e) : e = 0 := by
  unfold leftOf at h
  split at h
  · assumption
  · omega
end Go.Proofs.YtpmpgfngogdfhaaDoor
