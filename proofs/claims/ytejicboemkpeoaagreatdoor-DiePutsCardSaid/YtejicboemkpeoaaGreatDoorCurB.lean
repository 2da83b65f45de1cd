/-
  The contract of a cursor's next: it goes behind the next n bytes and tells them, or refuses.
-/
import Derived.Test.YtejicboemkpeoaaGreatDoorProg
import Derived.Test.YtejicboemkpeoaaGreatDoorWords
import Derived.WalkSpells
import Derived.Lib.MinMax
import Derived.Deep.QuietTactic
import Derived.BigQuiet
namespace Go.Proofs.YtejicboemkpeoaaGreatDoor
open Go Go.RowKit

/-- A cursor in memory: its block g, the value v of its bytes, the bytes, where it stands, the refusal. -/
def Cur (w : World) (g : Nat) (v : Value) (l : List UInt8) (a : Nat) (e : Int) : Prop :=
  Box w g 177 #[v, .int .i64 (a : Int), .int .i64 e, .bool true] ∧ Own w 0 v l ∧ a ≤ l.length

theorem Cur.drewN {w : World} {g : Nat} {v : Value} {l : List UInt8} {a : Nat} {e : Int} (h : Cur w g v l a e) (n : Nat) : Cur (w.drewN n) g v l a e := h
theorem Cur.grown {w w' : World} {g : Nat} {v : Value} {l : List UInt8} {a : Nat} {e : Int} {row : Option Nat} (h : Cur w g v l a e) (hb : w.grownBy w' row) (h1 : some g ≠ row) (h2 : v.ownBlock = none ∨ v.ownBlock ≠ row) : Cur w' g v l a e :=
  ⟨h.1.grown hb h1, h.2.1.kept hb h2, h.2.2⟩
theorem Cur.below {w w' : World} {g : Nat} {v : Value} {l : List UInt8} {a : Nat} {e : Int} (h : Cur w g v l a e) (hb : Below w.heap.size w w') : Cur w' g v l a e :=
  h.grown (only_below hb none) (by simp) (by rcases v.ownBlock with _ | k <;> simp)
/-- Behind a step of another cursor. -/
theorem Cur.other {w w' : World} {g g' : Nat} {v : Value} {l : List UInt8} {a : Nat} {e : Int} {cs : Array Value} (h : Cur w g v l a e) (hg : g ≠ g') (hb' : Box w g' 177 cs) (hb : w.grownBy w' (some g')) : Cur w' g v l a e :=
  h.grown hb (by simpa using hg) (.inr (own_other h.2.1 hb' (by decide)))
theorem Cur.own_ne {w : World} {g : Nat} {v : Value} {l : List UInt8} {a : Nat} {e : Int} (h : Cur w g v l a e) : v.ownBlock ≠ some g := own_other h.2.1 h.1 (by decide)
/-- The cursor's own stores: its place and its refusal. -/
theorem Cur.moved {w : World} {g : Nat} {v : Value} {l : List UInt8} {a : Nat} {e : Int} (h : Cur w g v l a e) (b : Nat) (hb : b ≤ l.length) : Cur (w.setCell ⟨g, 1, none⟩ (.int .i64 (b : Int))) g v l b e :=
  ⟨by simpa using h.1.set 1 (.int .i64 (b : Int)), h.2.1.kept (only_set (a := w) ⟨rfl, rfl, rfl, Nat.le_refl _, fun _ _ _ => rfl⟩ 1 _) (.inr h.own_ne), hb⟩
theorem Cur.failed {w : World} {g : Nat} {v : Value} {l : List UInt8} {a : Nat} {e : Int} (h : Cur w g v l a e) (f : Int) : Cur (w.setCell ⟨g, 2, none⟩ (.int .i64 f)) g v l a f :=
  ⟨by simpa using h.1.set 2 (.int .i64 f), h.2.1.kept (only_set (a := w) ⟨rfl, rfl, rfl, Nat.le_refl _, fun _ _ _ => rfl⟩ 2 _) (.inr h.own_ne), h.2.2⟩

theorem err_cur {w : World} {g : Nat} {v : Value} {l : List UInt8} {a : Nat} {e : Int} (h : Cur w g v l a e) :
    Calls Tryz.prog 56 #[.pointer (some ⟨g, 0, none⟩)] w fun r w' => r = .returned (.int .i64 e) ∧ w = w' := by
  have h2 := h.1.cell 2
  have h3 := h.1.cell 3
  simp at h2 h3
  clear h
  go_enter Tryz.func56, Tryz.ntmps56
  go_wp2
  go_ret
  exact ⟨rfl, rfl⟩

theorem at_cur {w : World} {g : Nat} {v : Value} {l : List UInt8} {a : Nat} {e : Int} (h : Cur w g v l a e) :
    Calls Tryz.prog 89 #[.pointer (some ⟨g, 0, none⟩)] w fun r w' => r = .returned (.int .i64 (a : Int)) ∧ w = w' := by
  have h1 := h.1.cell 1
  simp at h1
  clear h
  go_enter Tryz.func89, Tryz.ntmps89
  go_wp2
  go_ret
  exact ⟨rfl, rfl⟩

/-- What Left tells. -/
def leftOf (l : List UInt8) (a : Nat) (e : Int) : Nat := if e = 0 then l.length - a else 0

theorem left_cur {w : World} {g : Nat} {v : Value} {l : List UInt8} {a : Nat} {e : Int} (h : Cur w g v l a e) :
    Calls Tryz.prog 92 #[.pointer (some ⟨g, 0, none⟩)] w fun r w' => r = .returned (.int .i64 (leftOf l a e : Int)) ∧ ∃ n, w' = w.drewN n := by
  obtain ⟨A, c, hv, hlc, hcm, _⟩ := own_slice h.2.1
  subst hv
  have hal := h.2.2
  have hE := fun W (hW : W = w) => err_cur (w := W) (hW ▸ h)
  have h0 := h.1.cell 0
  have h1 := h.1.cell 1
  simp at h0 h1
  unfold maxLen at hcm
  by_cases he : e = 0
  · have H := Lib.hid (show (leftOf l a e : Int) = (l.length : Int) - (a : Int) by simp only [leftOf, if_pos he]; omega)
    have hz : (e != 0) = false := by simp [he]
    clear he
    generalize l.length = n at *
    go_enter Tryz.func92, Tryz.ntmps92
    go_wp2_with (go_at_call 56; refine (hE _ rfl).mono ?_; rintro r w' ⟨rfl, rfl⟩)
    go_quiet (fail)
    go_wp2
    go_ret
    exact ⟨by rw [H.out]; rfl, _, rfl⟩
  · have H := Lib.hid (show (leftOf l a e : Int) = 0 by simp only [leftOf, if_neg he]; rfl)
    have hz : (e != 0) = true := by simp [he]
    clear he
    go_enter Tryz.func92, Tryz.ntmps92
    go_wp2_with (go_at_call 56; refine (hE _ rfl).mono ?_; rintro r w' ⟨rfl, rfl⟩)
    go_ret
    exact ⟨by rw [H.out]; rfl, 0, rfl⟩


/-- What Fail leaves. -/
def failOf (e f : Int) : Int := if e = 0 then f else e

theorem fail_cur {w : World} {g : Nat} {v : Value} {l : List UInt8} {a : Nat} {e : Int} (h : Cur w g v l a e) (f : Int) :
    Calls Tryz.prog 54 #[.pointer (some ⟨g, 0, none⟩), .int .i64 f] w fun r w' => r = .returned (.tuple #[]) ∧ Cur w' g v l a (failOf e f) ∧ w.grownBy w' (some g) := by
  have hE := fun W (hW : W = w) => err_cur (w := W) (hW ▸ h)
  have h2 := h.1.cell 2
  have hf := h.1.free 2
  simp at h2
  have hr : w.grownBy w (some g) := ⟨rfl, rfl, rfl, Nat.le_refl _, fun _ _ _ => rfl⟩
  by_cases he : e = 0
  · have H := Lib.hid (show Cur (w.setCell ⟨g, 2, none⟩ (.int .i64 f)) g v l a (failOf e f) by rw [failOf, if_pos he]; exact h.failed f)
    have hz : (e == 0) = true := by simp [he]
    have G := Lib.hid (only_set hr 2 (.int .i64 f))
    clear he h hr
    go_enter Tryz.func54, Tryz.ntmps54
    go_wp2_with (go_at_call 56; refine (hE _ rfl).mono ?_; rintro r w' ⟨rfl, rfl⟩)
    go_end0
    exact ⟨rfl, H.out, G.out⟩
  · have H := Lib.hid (show Cur w g v l a (failOf e f) by rw [failOf, if_neg he]; exact h)
    have hz : (e == 0) = false := by simp [he]
    have G := Lib.hid hr
    clear he h hr
    go_enter Tryz.func54, Tryz.ntmps54
    go_wp2_with (go_at_call 56; refine (hE _ rfl).mono ?_; rintro r w' ⟨rfl, rfl⟩)
    go_end0
    exact ⟨rfl, H.out, G.out⟩

/-- What clamp makes of a size. -/
def clampOf (s : Int) : Nat := (min (max s 0) 8).toNat
theorem clampOf_le (s : Int) : clampOf s ≤ 8 := by unfold clampOf; omega
theorem clamp_any (s : Int) (w : World) (hs : -9223372036854775808 ≤ s ∧ s ≤ 9223372036854775807) :
    Calls Tryz.prog 173 #[.int .i64 s] w fun r w' => r = .returned (.int .i64 (clampOf s : Int)) ∧ w = w' := by
  have H := Lib.hid (show ((clampOf s : Nat) : Int) = min (max s 0) 8 by unfold clampOf; omega)
  go_enter Tryz.func173, Tryz.ntmps173
  go_wp2
  go_ret
  exact ⟨by rw [H.out]; rfl, rfl⟩

end Go.Proofs.YtejicboemkpeoaaGreatDoor

namespace Go.Proofs.YtejicboemkpeoaaGreatDoor
open Go Go.RowKit

theorem heap_size_set (w : World) (p : Addr) (u : Value) : (w.setCell p u).heap.size = w.heap.size := by simp [World.setCell]

/-- The next n bytes, behind the step that moves the cursor. -/
theorem rd_next {w : World} {g : Nat} {A : Option Addr} {N c : Nat} {l : List UInt8} {a : Nat} {e : Int} (h : Cur w g (.slice A N c) l a e) (n k : Nat) (u : Value) :
    Rd ((w.drewN k).setCell ⟨g, 1, none⟩ u) ((w.drewN k).setCell ⟨g, 1, none⟩ u).heap.size (Option.map (fun x => x.add a) A) ((l.drop a).take n) := by
  intro hl
  obtain ⟨A', c', hv, _, _, hrd⟩ := own_slice h.2.1
  injection hv with hA _ _
  subst hA
  have hll : 0 < l.length := by simp at hl; omega
  obtain ⟨b, o, rfl, hb, hc⟩ := hrd hll
  refine ⟨b, o + a, by simp [addr_add], by rw [heap_size_set]; exact hb, fun j x hx => ?_⟩
  have hne : b ≠ g := by
    have := h.own_ne
    simpa [Value.ownBlock] using this
  have hx' : l[a + j]? = some x := by
    rw [List.getElem?_take] at hx
    split at hx
    · rwa [List.getElem?_drop] at hx
    · cases hx
  rw [World.cell?_setCell_other _ _ _ _ (by intro e; injection e with e; exact hne e.symm), World.cell?_drewN, Nat.add_assoc]
  exact hc _ _ hx'

theorem cur_next {w : World} {g : Nat} {v : Value} {l : List UInt8} {a : Nat} {e : Int} (h : Cur w g v l a e) (n k : Nat) (hn : a + n ≤ l.length) :
    Cur ((w.drewN k).setCell ⟨g, 1, none⟩ (.int .i64 ((a : Int) + (n : Int)))) g v l (a + n) e := by
  have := (h.drewN k).moved (a + n) hn
  rwa [Int.natCast_add] at this

theorem only_refl (w : World) (row : Option Nat) : w.grownBy w row := ⟨rfl, rfl, rfl, Nat.le_refl _, fun _ _ _ => rfl⟩

theorem only_drewN_left {a w : World} {k : Nat} {row : Option Nat} (h : (a.drewN k).grownBy w row) : a.grownBy w row := ⟨h.os, h.tape, h.output, h.size, h.block⟩

set_option maxHeartbeats 400000 in
theorem next_ok {w : World} {g : Nat} {v : Value} {l : List UInt8} {a : Nat} (h : Cur w g v l a 0) (n : Nat) (hn : n ≤ l.length - a) (hlen : l.length ≤ 140737488355328) :
    Calls Tryz.prog 172 #[.pointer (some ⟨g, 0, none⟩), .int .u64 (n : Int)] w fun r w' =>
      ∃ A, r = .returned (.slice A n n) ∧ Rd w' w'.heap.size A ((l.drop a).take n) ∧ Cur w' g v l (a + n) 0 ∧ w.grownBy w' (some g) := by
  obtain ⟨A, c, hv, hlc, hcm, hrd⟩ := own_slice h.2.1
  subst hv
  have hal := h.2.2
  have hE := fun W (hW : W = w) => err_cur (w := W) (hW ▸ h)
  have hL := fun W (hW : W = w) => left_cur (w := W) (hW ▸ h)
  have h0 := h.1.cell 0
  have h1 := h.1.cell 1
  have f1 := h.1.free 1
  simp at h0 h1
  have hlf : leftOf l a 0 = l.length - a := by simp [leftOf]
  rw [hlf] at hL
  have hq : decide (((l.length - a : Nat) : Int) < (n : Int)) = false := by simp; omega
  clear hlf
  have hm : n + a ≤ l.length := by omega
  unfold maxLen at hcm
  generalize hN : l.length = N at *
  have HN := Lib.hid hN
  clear hN
  have hNa : ((N - a : Nat) : Int) ≤ 140737488355328 := by omega
  have hNb : (0 : Int) ≤ ((N - a : Nat) : Int) := by omega
  generalize N - a = K at *
  have s1 : IntKind.i64.wrap ((a : Int) + (n : Int)) = (a : Int) + (n : Int) := by rw [IntWalk.i64_in _ (by omega)]
  have s2 : IntKind.i64.wrap (n : Int) = (n : Int) := by rw [IntWalk.i64_in _ (by omega)]
  have R := Lib.hid (rd_next h n)
  have C := Lib.hid (fun k => cur_next h n k (by rw [HN.out]; omega))
  have G := Lib.hid (fun k u => only_set (only_drewN (only_refl w (some g)) k) 1 u)
  clear h hrd
  go_enter Tryz.func172, Tryz.ntmps172
  go_wp2_with (first | (go_at_call 92; refine (hL _ rfl).mono ?_; rintro r w' ⟨rfl, k, rfl⟩) | (go_at_call 56; refine (hE _ rfl).mono ?_; rintro r w' ⟨rfl, rfl⟩))
  go_quiet (fail)
  go_wp2
  · go_ret
    have hn0 : n = 0 := by omega
    subst hn0
    exact ⟨_, rfl, fun h => absurd h (by simp), C.out _, G.out _ _⟩
  · go_ret
    exact ⟨_, rfl, R.out _ _, C.out _, G.out _ _⟩

set_option maxHeartbeats 400000 in
theorem next_short {w : World} {g : Nat} {v : Value} {l : List UInt8} {a : Nat} (h : Cur w g v l a 0) (n : Nat) (hn : l.length - a < n) (hlen : l.length ≤ 140737488355328) :
    Calls Tryz.prog 172 #[.pointer (some ⟨g, 0, none⟩), .int .u64 (n : Int)] w fun r w' =>
      r = .returned (.slice none 0 0) ∧ Cur w' g v l a 10 ∧ w.grownBy w' (some g) := by
  have hE := fun W (hW : W = w) => err_cur (w := W) (hW ▸ h)
  have hL := fun W (hW : W = w) => left_cur (w := W) (hW ▸ h)
  have hF := fun k => fail_cur (h.drewN k) 10
  have hlf : leftOf l a 0 = l.length - a := by simp [leftOf]
  rw [hlf] at hL
  clear hlf
  have hNa : ((l.length - a : Nat) : Int) ≤ 140737488355328 := by omega
  have hNb : (0 : Int) ≤ ((l.length - a : Nat) : Int) := by omega
  clear h hlen
  generalize l.length - a = K at *
  have hq : decide (K < n) = true := by simpa using hn
  go_enter Tryz.func172, Tryz.ntmps172
  go_wp2_with (first | (go_at_call 92; refine (hL _ rfl).mono ?_; rintro r w' ⟨rfl, k, rfl⟩) | (go_at_call 56; refine (hE _ rfl).mono ?_; rintro r w' ⟨rfl, rfl⟩) | (go_at_call 54; refine (hF _).mono ?_; rintro r w' ⟨rfl, hC, hG⟩))
  go_ret
  exact ⟨rfl, by simpa [failOf] using hC, only_drewN_left hG⟩

theorem next_refused {w : World} {g : Nat} {v : Value} {l : List UInt8} {a : Nat} {e : Int} (h : Cur w g v l a e) (he : e ≠ 0) (n : Nat) :
    Calls Tryz.prog 172 #[.pointer (some ⟨g, 0, none⟩), .int .u64 (n : Int)] w fun r w' => r = .returned (.slice none 0 0) ∧ w = w' := by
  have hE := fun W (hW : W = w) => err_cur (w := W) (hW ▸ h)
  have hz : (e != 0) = true := by simp [he]
  clear h he
  go_enter Tryz.func172, Tryz.ntmps172
  go_wp2_with (go_at_call 56; refine (hE _ rfl).mono ?_; rintro r w' ⟨rfl, rfl⟩)
  go_ret
  exact ⟨rfl, rfl⟩

/-! Next, in one contract: what it tells, where the cursor stands then, why it refused. -/
def nextGot (l : List UInt8) (a : Nat) (e : Int) (n : Nat) : List UInt8 := if e = 0 ∧ n ≤ l.length - a then (l.drop a).take n else []
def nextAt (l : List UInt8) (a : Nat) (e : Int) (n : Nat) : Nat := if e = 0 ∧ n ≤ l.length - a then a + n else a
def nextErr (l : List UInt8) (a : Nat) (e : Int) (n : Nat) : Int := if e = 0 then (if n ≤ l.length - a then 0 else 10) else e

theorem next_any {w : World} {g : Nat} {v : Value} {l : List UInt8} {a : Nat} {e : Int} (h : Cur w g v l a e) (n : Nat) (hlen : l.length ≤ 140737488355328) :
    Calls Tryz.prog 172 #[.pointer (some ⟨g, 0, none⟩), .int .u64 (n : Int)] w fun r w' =>
      ∃ A, r = .returned (.slice A (nextGot l a e n).length (nextGot l a e n).length) ∧ Rd w' w'.heap.size A (nextGot l a e n) ∧ Cur w' g v l (nextAt l a e n) (nextErr l a e n) ∧ w.grownBy w' (some g) := by
  by_cases he : e = 0
  · subst he
    by_cases hn : n ≤ l.length - a
    · refine (next_ok h n hn hlen).mono fun r w' ⟨A, h1, h2, h3, h4⟩ => ⟨A, ?_, ?_, ?_, h4⟩
      · have hl : (nextGot l a 0 n).length = n := by simp [nextGot, hn]
        rw [hl]; exact h1
      · simpa [nextGot, hn] using h2
      · simpa [nextAt, nextErr, hn] using h3
    · refine (next_short h n (by omega) hlen).mono fun r w' ⟨h1, h3, h4⟩ => ⟨none, ?_, ?_, ?_, h4⟩
      · simpa [nextGot, hn] using h1
      · simpa [nextGot, hn] using Rd.nil_
      · simpa [nextAt, nextErr, hn] using h3
  · refine (next_refused h he n).mono fun r w' ⟨h1, h2⟩ => ⟨none, ?_, ?_, ?_, ?_⟩
    · simpa [nextGot, he] using h1
    · simpa [nextGot, he] using Rd.nil_
    · subst h2; simpa [nextAt, nextErr, he] using h
    · subst h2; exact only_refl _ _

end Go.Proofs.YtejicboemkpeoaaGreatDoor
