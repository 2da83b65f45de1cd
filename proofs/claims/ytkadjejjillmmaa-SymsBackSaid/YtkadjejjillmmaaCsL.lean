/-
  The contract of layer 3's All: the texts of a table in a row of the call's own.
-/

import Derived.Test.YtkadjejjillmmaaCsT
import Derived.Maps.AppendAt
namespace Go.Proofs.Ytkadjejjillmmaa
open Go Go.RowKit

set_option maxHeartbeats 800000 in
theorem take_core {w : World} {g : Nat} {v : Value} {l t : List UInt8} {a a2 a3 n : Nat} {e f E : Int} (h : Cur w g v l a e) (hlen : l.length ≤ 140737488355328)
    (hM : Calls Try.prog 62 #[.pointer (some ⟨g, 0, none⟩)] w fun x w' => x = .returned (.tuple #[.int .u64 (n : Int), .int .i64 f]) ∧ (∃ b, Cur w' g v l b e ∧ (e ≠ 0 → b = a)) ∧ w.grownBy w' (some g))
    (hE : failOf e f = E)
    (hB : ∀ W, Cur W g v l a E → Calls Try.prog 65 #[.pointer (some ⟨g, 0, none⟩), .int .u64 (n : Int)] W fun r w' => ∃ u, r = .returned u ∧ Own w' W.heap.size u t ∧ Cur w' g v l a2 E ∧ W.grownBy w' (some g))
    (hU : ∀ W, Cur W g v l a2 E → Calls Try.prog 23 #[.pointer (some ⟨g, 0, none⟩)] W fun r w' => (∃ y, r = .returned (.int .u64 y)) ∧ Cur w' g v l a3 E ∧ W.grownBy w' (some g)) :
    Calls Try.prog 45 #[.pointer (some ⟨g, 0, none⟩)] w fun x w' => x = .returned (.string ⟨t.toArray⟩) ∧ Cur w' g v l a3 E ∧ w.grownBy w' (some g) := by
  have hal := h.2.2
  have hA := at_cur h
  have hS := Lib.hid (fun W b (hC : Cur W g v l b e) (hb : e ≠ 0 → b = a) => (by
    have h1 := seek_cur hC a (by unfold two64; omega) hlen
    have e1 : seekAt l b e a = a := by
      unfold seekAt
      by_cases he : e = 0
      · rw [if_pos ⟨he, hal⟩]
      · rw [if_neg (fun k => he k.1)]; exact hb he
    have e2 : seekErr l e a = e := by
      unfold seekErr
      by_cases he : e = 0
      · rw [if_pos he, if_pos hal, he]
      · rw [if_neg he]
    rwa [e1, e2] at h1 : Calls Try.prog 63 #[.pointer (some ⟨g, 0, none⟩), .int .u64 (a : Int)] W fun r w' => r = .returned (.tuple #[]) ∧ Cur w' g v l a e ∧ W.grownBy w' (some g)))
  have hF := Lib.hid (fun W (hC : Cur W g v l a e) => (by have h1 := fail_cur hC f; rwa [hE] at h1 : Calls Try.prog 64 #[.pointer (some ⟨g, 0, none⟩), .int .i64 f] W fun r w' => r = .returned (.tuple #[]) ∧ Cur w' g v l a E ∧ W.grownBy w' (some g)))
  have HB := Lib.hid hB
  have HU := Lib.hid hU
  have s1 : IntKind.u64.wrap (a : Int) = (a : Int) := by rw [IntWalk.u64_in _ (by omega)]
  clear hB hU hE h hal hlen
  go_enter Try.func45, Try.ntmps45
  go_wp2_with (first
    | (go_at_call 61; refine hA.mono ?_; rintro r w' ⟨rfl, rfl⟩)
    | (go_at_call 62; refine hM.mono ?_; rintro r w1 ⟨rfl, ⟨b, hC1, hb1⟩, hG1⟩; have hS1 := hS.out _ _ hC1 hb1; clear hC1 hb1)
    | (go_at_call 63; refine hS1.mono ?_; rintro r w2 ⟨rfl, hC2, hG2⟩; have hF2 := hF.out _ hC2; clear hC2)
    | (go_at_call 64; refine hF2.mono ?_; rintro r w3 ⟨rfl, hC3, hG3⟩; have hB3 := HB.out _ hC3; clear hC3)
    | (go_at_call 65; refine hB3.mono ?_; rintro r w4 ⟨u, rfl, hO4, hC4, hG4⟩; have hU4 := HU.out _ hC4)
    | (go_at_call 23; refine hU4.mono ?_; rintro r w5 ⟨⟨y, rfl⟩, hC5, hG5⟩; have cv := conv_own (own_only hO4 hC4.1 hG5)))
  go_ret
  exact ⟨rfl, hC5, ((hG1.trans hG2).trans hG3).trans (hG4.trans hG5)⟩

theorem take_cur {w : World} {g : Nat} {v : Value} {l : List UInt8} {a : Nat} {e : Int} (h : Cur w g v l a e) (hlen : l.length ≤ 140737488355328) :
    Calls Try.prog 45 #[.pointer (some ⟨g, 0, none⟩)] w fun x w' => x = .returned (.string ⟨(takeT (l.drop a) e).1.toArray⟩) ∧ Cur w' g v l (a + (takeT (l.drop a) e).2.1) (takeT (l.drop a) e).2.2 ∧ w.grownBy w' (some g) := by
  have hM := measure_cur h hlen
  have hal := h.2.2
  obtain ⟨r, hr⟩ : ∃ r, r = l.drop a := ⟨_, rfl⟩
  have hrl : r.length = l.length - a := by rw [hr]; simp
  have bad : ∀ E : Int, E ≠ 0 → (sizeT r e).1 = 0 → failOf e (sizeT r e).2 = E → takeT r e = ([], 0, E) → 
      Calls Try.prog 45 #[.pointer (some ⟨g, 0, none⟩)] w fun x w' => x = .returned (.string ⟨(takeT (l.drop a) e).1.toArray⟩) ∧ Cur w' g v l (a + (takeT (l.drop a) e).2.1) (takeT (l.drop a) e).2.2 ∧ w.grownBy w' (some g) := by
    intro E hE hn hf ht
    rw [← hr, ht]
    rw [← hr, hn] at hM
    have gotE : ∀ n, nextGot l a E n = [] := fun n => by unfold nextGot; rw [if_neg (fun k => hE k.1)]
    have atE : ∀ n, nextAt l a E n = a := fun n => by unfold nextAt; rw [if_neg (fun k => hE k.1)]
    have errE : ∀ n, nextErr l a E n = E := fun n => by unfold nextErr; rw [if_neg hE]
    refine take_core (n := 0) (a2 := a) (a3 := a) h hlen hM hf (fun W hC => ?_) (fun W hC => ?_)
    · have := bytes_cur hC 0 hlen
      rwa [gotE, atE, errE] at this
    · refine (u8_cur hC hlen).mono fun x w' ⟨h1, h2, h3⟩ => ⟨⟨_, h1⟩, ?_, h3⟩
      rwa [atE, errE] at h2
  by_cases he : e = 0
  · subst he
    rcases readT_cases r with ⟨h1, h2⟩ | ⟨h1, h2, h3⟩ | ⟨h1, h2, h3⟩
    · exact bad 12 (by decide) (by unfold sizeT; rw [if_pos rfl, h2]; rfl) (by unfold sizeT; rw [if_pos rfl, h2]; rfl) (by rw [takeT_zero, h2])
    · exact bad 3 (by decide) (by unfold sizeT; rw [if_pos rfl, h3]; rfl) (by unfold sizeT; rw [if_pos rfl, h3]; rfl) (by rw [takeT_zero, h3])
    · have hs : sizeT r 0 = (tlen r, 0) := by unfold sizeT; rw [if_pos rfl, h3, if_pos rfl]
      rw [← hr, hs] at hM
      rw [← hr, takeT_zero, h3]
      refine take_core (n := tlen r) (a2 := a + tlen r) h hlen hM rfl (fun W hC => ?_) (fun W hC => ?_)
      · have := bytes_ok hC (n := tlen r) (by omega) hlen
        rwa [← hr] at this
      · have hlt : a + tlen r < l.length := by omega
        exact (u8_at hC hlt hlen).mono fun x w' ⟨k1, k2, k3⟩ => ⟨⟨_, k1⟩, by rwa [Nat.add_assoc] at k2, k3⟩
  · exact bad e he (by rw [sizeT_bad _ he]) (by rw [sizeT_bad _ he]; unfold failOf; rw [if_neg he]) (takeT_bad _ he)

end Go.Proofs.Ytkadjejjillmmaa

namespace Go.Proofs.Ytkadjejjillmmaa
open Go Go.RowKit

/-- Texts as the cells that hold them. -/
def strV (ts : List (List UInt8)) : List Value := ts.map fun t => Value.string ⟨t.toArray⟩
@[simp] theorem strV_length (ts : List (List UInt8)) : (strV ts).length = ts.length := by simp [strV]
/-- A row of texts of the call's own. -/
abbrev OwnS (w : World) (base : Nat) (u : Value) (ts : List (List UInt8)) : Prop := w.ownsRow base 9 1 u ts.length (strV ts)

end Go.Proofs.Ytkadjejjillmmaa
