/-
  What the methods of a cursor do, one contract a method: Err, At, Left, End, Fail, clamp, next. A cursor that New or Sub made is 'Cur': its block, its own bytes, where it stands, why it refused.
-/
import Derived.Test.YtpmpgfngogdfhaaDoorProg
import Derived.Test.YtpmpgfngogdfhaaDoorWords
import Derived.WalkSpells
import Derived.Lib.MinMax
import Derived.Deep.QuietTactic
import Derived.BigQuiet
namespace Go.Proofs.YtpmpgfngogdfhaaDoor
open Go Go.RowKit

/-- A cursor in memory: its block g, the value v of its bytes, the bytes, where it stands, the refusal. -/
def Cur (w : World) (g : Nat) (v : Value) (l : List UInt8) (a : Nat) (e : Int) : Prop :=
  Box w g 139 #[v, .int .i64 (a : Int), .int .i64 e, .bool true] ∧ Own w 0 v l ∧ a ≤ l.length

theorem Cur.drewN {w : World} {g : Nat} {v : Value} {l : List UInt8} {a : Nat} {e : Int} (h : Cur w g v l a e) (n : Nat) : Cur (w.drewN n) g v l a e := h
theorem Cur.grown {w w' : World} {g : Nat} {v : Value} {l : List UInt8} {a : Nat} {e : Int} {row : Option Nat} (h : Cur w g v l a e) (hb : w.grownBy w' row) (h1 : some g ≠ row) (h2 : v.ownBlock = none ∨ v.ownBlock ≠ row) : Cur w' g v l a e :=
  ⟨h.1.grown hb h1, h.2.1.kept hb h2, h.2.2⟩
theorem Cur.below {w w' : World} {g : Nat} {v : Value} {l : List UInt8} {a : Nat} {e : Int} (h : Cur w g v l a e) (hb : Below w.heap.size w w') : Cur w' g v l a e :=
  h.grown (only_below hb none) (by simp) (by rcases v.ownBlock with _ | k <;> simp)
/-- Behind a step of another cursor. -/
theorem Cur.other {w w' : World} {g g' : Nat} {v : Value} {l : List UInt8} {a : Nat} {e : Int} {cs : Array Value} (h : Cur w g v l a e) (hg : g ≠ g') (hb' : Box w g' 139 cs) (hb : w.grownBy w' (some g')) : Cur w' g v l a e :=
  h.grown hb (by simpa using hg) (.inr (own_other h.2.1 hb' (by decide)))
theorem Cur.own_ne {w : World} {g : Nat} {v : Value} {l : List UInt8} {a : Nat} {e : Int} (h : Cur w g v l a e) : v.ownBlock ≠ some g := own_other h.2.1 h.1 (by decide)
/-- The cursor's own stores: its place and its refusal. -/
theorem Cur.moved {w : World} {g : Nat} {v : Value} {l : List UInt8} {a : Nat} {e : Int} (h : Cur w g v l a e) (b : Nat) (hb : b ≤ l.length) : Cur (w.setCell ⟨g, 1, none⟩ (.int .i64 (b : Int))) g v l b e :=
  ⟨by simpa using h.1.set 1 (.int .i64 (b : Int)), h.2.1.kept (only_set (a := w) ⟨rfl, rfl, rfl, Nat.le_refl _, fun _ _ _ => rfl⟩ 1 _) (.inr h.own_ne), hb⟩
theorem Cur.failed {w : World} {g : Nat} {v : Value} {l : List UInt8} {a : Nat} {e : Int} (h : Cur w g v l a e) (f : Int) : Cur (w.setCell ⟨g, 2, none⟩ (.int .i64 f)) g v l a f :=
  ⟨by simpa using h.1.set 2 (.int .i64 f), h.2.1.kept (only_set (a := w) ⟨rfl, rfl, rfl, Nat.le_refl _, fun _ _ _ => rfl⟩ 2 _) (.inr h.own_ne), h.2.2⟩

theorem err_cur {w : World} {g : Nat} {v : Value} {l : List UInt8} {a : Nat} {e : Int} (h : Cur w g v l a e) :
    Calls Tryd.prog 66 #[.pointer (some ⟨g, 0, none⟩)] w fun r w' => r = .returned (.int .i64 e) ∧ w = w' := by
  have h2 := h.1.cell 2
  have h3 := h.1.cell 3
  simp at h2 h3
  clear h
  go_enter Tryd.func66, Tryd.ntmps66
  go_wp2
  go_ret
  exact ⟨rfl, rfl⟩

theorem at_cur {w : World} {g : Nat} {v : Value} {l : List UInt8} {a : Nat} {e : Int} (h : Cur w g v l a e) :
    Calls Tryd.prog 101 #[.pointer (some ⟨g, 0, none⟩)] w fun r w' => r = .returned (.int .i64 (a : Int)) ∧ w = w' := by
  have h1 := h.1.cell 1
  simp at h1
  clear h
  go_enter Tryd.func101, Tryd.ntmps101
  go_wp2
  go_ret
  exact ⟨rfl, rfl⟩

/-- What Left tells. -/
def leftOf (l : List UInt8) (a : Nat) (e : Int) : Nat := if e = 0 then l.length - a else 0

theorem left_cur {w : World} {g : Nat} {v : Value} {l : List UInt8} {a : Nat} {e : Int} (h : Cur w g v l a e) :
    Calls Tryd.prog 86 #[.pointer (some ⟨g, 0, none⟩)] w fun r w' => r = .returned (.int .i64 (leftOf l a e : Int)) ∧ ∃ n, w' = w.drewN n := by
  obtain ⟨A, c, hv, hlc, hcm, _⟩ := own_slice h.2.1
  subst hv
  have hal := h.2.2
  have hE := fun W (hW : W = w) => err_cur (w := W) (hW ▸ h)
  have h0 := h.1.cell 0
  have h1 := h.1.cell 1
  simp at h0 h1
  unfold maxLen at hcm
  by_cases he : e = 0
  · have H := Lib.hid (show (leftOf l a e : Int) = (l.length : Int) - (a : Int) by simp only [leftOf, if_pos he]; omega)
    have hz : (e != 0) = false := by simp [he]
    clear he
    generalize l.length = n at *
    go_enter Tryd.func86, Tryd.ntmps86
    go_wp2_with (go_at_call 66; refine (hE _ rfl).mono ?_; rintro r w' ⟨rfl, rfl⟩)
    go_quiet (fail)
    go_wp2
    go_ret
    exact ⟨by rw [H.out]; rfl, _, rfl⟩
  · have H := Lib.hid (show (leftOf l a e : Int) = 0 by simp only [leftOf, if_neg he]; rfl)
    have hz : (e != 0) = true := by simp [he]
    clear he
    go_enter Tryd.func86, Tryd.ntmps86
    go_wp2_with (go_at_call 66; refine (hE _ rfl).mono ?_; rintro r w' ⟨rfl, rfl⟩)
    go_ret
    exact ⟨by rw [H.out]; rfl, 0, rfl⟩


/-- What Fail leaves. -/
def failOf (e f : Int) : Int := if e = 0 then f else e

theorem fail_cur {w : World} {g : Nat} {v : Value} {l : List UInt8} {a : Nat} {e : Int} (h : Cur w g v l a e) (f : Int) :
    Calls Tryd.prog 68 #[.pointer (some ⟨g, 0, none⟩), .int .i64 f] w fun r w' => r = .returned (.tuple #[]) ∧ Cur w' g v l a (failOf e f) ∧ w.grownBy w' (some g) := by
  have hE := fun W (hW : W = w) => err_cur (w := W) (hW ▸ h)
  have h2 := h.1.cell 2
  have hf := h.1.free 2
  simp at h2
  have hr : w.grownBy w (some g) := ⟨rfl, rfl, rfl, Nat.le_refl _, fun _ _ _ => rfl⟩
  by_cases he : e = 0
  · have H := Lib.hid (show Cur (w.setCell ⟨g, 2, none⟩ (.int .i64 f)) g v l a (failOf e f) by rw [failOf, if_pos he]; exact h.failed f)
    have hz : (e == 0) = true := by simp [he]
    have G := Lib.hid (only_set hr 2 (.int .i64 f))
    clear he h hr
    go_enter Tryd.func68, Tryd.ntmps68
    go_wp2_with (go_at_call 66; refine (hE _ rfl).mono ?_; rintro r w' ⟨rfl, rfl⟩)
    go_end0
    exact ⟨rfl, H.out, G.out⟩
  · have H := Lib.hid (show Cur w g v l a (failOf e f) by rw [failOf, if_neg he]; exact h)
    have hz : (e == 0) = false := by simp [he]
    have G := Lib.hid hr
    clear he h hr
    go_enter Tryd.func68, Tryd.ntmps68
    go_wp2_with (go_at_call 66; refine (hE _ rfl).mono ?_; rintro r w' ⟨rfl, rfl⟩)
    go_end0
    exact ⟨rfl, H.out, G.out⟩

/-- What clamp makes of a size. -/
def clampOf (s : Int) : Nat := (min (max s 0) 8).toNat
theorem clampOf_le (s : Int) : clampOf s ≤ 8 := by unfold clampOf; omega
theorem clamp_any (s : Int) (w : World) (hs : -9223372036854775808 ≤ s ∧ s ≤ 9223372036854775807) :
    Calls Tryd.prog 70 #[.int .i64 s] w fun r w' => r = .returned (.int .i64 (clampOf s : Int)) ∧ w = w' := by
  have H := Lib.hid (show ((clampOf s : Nat) : Int) = min (max s 0) 8 by unfold clampOf; omega)
  go_enter Tryd.func70, Tryd.ntmps70
  go_wp2
  go_ret
  exact ⟨by rw [H.out]; rfl, rfl⟩

end Go.Proofs.YtpmpgfngogdfhaaDoor
