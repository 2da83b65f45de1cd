/-
  The contract of layer 3's All: the texts of a table in a row of the call's own.
-/
import Derived.Test.YtpmndmbhkfbljaaDoorPoM
import Derived.Test.YtpmndmbhkfbljaaDoorCurN
import Derived.Test.YtpmndmbhkfbljaaDoorPutR
import Derived.Test.YtpmndmbhkfbljaaDoorRwA
import Derived.WalkMore
import Derived.Maps.AppendAt
namespace Go.Proofs.YtpmndmbhkfbljaaDoor
open Go Go.RowKit

/-- What measure tells. -/
def sizeT (r : List UInt8) (e : Int) : Nat × Int := if e = 0 then (if (readT r).2.2 = 0 then (tlen r, 0) else (0, (readT r).2.2)) else (0, 12)

theorem sizeT_bad (r : List UInt8) {e : Int} (h : e ≠ 0) : sizeT r e = (0, 12) := by unfold sizeT; rw [if_neg h]

theorem left_zero (l : List UInt8) (a : Nat) : leftOf l a 0 = l.length - a := by simp [leftOf]

set_option maxRecDepth 100000 in
set_option maxHeartbeats 1000000 in
theorem measure_ok {w : World} {g : Nat} {v : Value} {l : List UInt8} {a : Nat} (h : Cur w g v l a 0) (hlen : l.length ≤ 140737488355328) :
    Calls Tryd.prog 69 #[.pointer (some ⟨g, 0, none⟩)] w fun x w' => x = .returned (.tuple #[.int .u64 ((sizeT (l.drop a) 0).1 : Int), .int .i64 (sizeT (l.drop a) 0).2]) ∧ (∃ b, Cur w' g v l b 0) ∧ w.grownBy w' (some g) := by
  have hal := h.2.2
  obtain ⟨r, hr⟩ : ∃ r, r = l.drop a := ⟨_, rfl⟩
  have hrl : r.length = l.length - a := by rw [hr]; simp
  rw [← hr]
  have HO := Lib.hid h
  clear h
  go_enter Tryd.func69, Tryd.ntmps69
  go_wp2_with fail
  go_step3
  go_wp2_with fail
  go_step3
  go_wp2_with fail
  go_loopw [4] (fun n wr => ∃ k : Nat, n = .int .u64 k ∧ k ≤ r.length ∧ (∀ j (hj : j < r.length), j < k → r[j] ≠ 0) ∧ Cur wr g v l (a + k) 0 ∧ w.grownBy wr (some g)) (fun n _ => r.length - (intOf n).toNat)
  case atStart => exact ⟨0, rfl, Nat.zero_le _, fun j hj h0 => by omega, HO.out, only_refl _ _⟩
  case round =>
    obtain ⟨k, rfl, hkr, hup, hC, hG⟩ := hrel
    have hL := left_cur hC
    rw [left_zero] at hL
    have HG := Lib.hid hG
    by_cases hlt : k < r.length
    · have hak : a + k < l.length := by omega
      have hget : r[k] = l[a + k] := by simp only [hr, List.getElem_drop]
      have hU := fun n => u8_at (hC.drewN n) hak hlen
      have hz : ((l.length - (a + k) : Nat) : Int) ≠ 0 := by omega
      have hz0 : (((l.length - (a + k) : Nat) : Int) == 0) = false := by simpa using hz
      have hk64 : (k : Int) + 1 < 18446744073709551616 := by omega
      have s1 : IntKind.u64.wrap ((k : Int) + 1) = (k : Int) + 1 := by rw [IntWalk.u64_in _ (by omega)]
      by_cases hb : r[k] = 0
      · have ht : tlen r = k := tlen_eq r k hlt hup hb
        have hb0 : ((l[a + k].toNat : Int) == 0) = true := by rw [← hget, hb]; rfl
        by_cases hbig : 200 < k
        · have hbig' : decide ((200 : Int) < (k : Int)) = true := by simp; omega
          have HR := Lib.hid (show sizeT r 0 = (0, 3) by
            unfold sizeT; rw [if_pos rfl, readT_big (by omega) (by omega)]; rfl)
          clear hup hC hG ht hb hget
          generalize ((l.length - (a + k) : Nat) : Int) = K at *
          go_wp2_with (first | (go_at_call 21; refine hL.mono ?_; rintro r1 w1 ⟨rfl, n1, rfl⟩) | (go_at_call 71; refine (hU _).mono ?_; rintro r1 w1 ⟨rfl, hC1, hG1⟩))
          (try rw [Exit.noGoto_ret])
          go_ret2
          exact ⟨by rw [HR.out]; rfl, ⟨_, hC1⟩, HG.out.trans (only_drewN_left hG1)⟩
        · have hbig' : decide ((200 : Int) < (k : Int)) = false := by simp; omega
          have HR := Lib.hid (show sizeT r 0 = (k, 0) by
            unfold sizeT; rw [if_pos rfl, readT_ok (by omega) (by omega), ht]; rfl)
          clear hup hC hG ht hb hget
          generalize ((l.length - (a + k) : Nat) : Int) = K at *
          go_wp2_with (first | (go_at_call 21; refine hL.mono ?_; rintro r1 w1 ⟨rfl, n1, rfl⟩) | (go_at_call 71; refine (hU _).mono ?_; rintro r1 w1 ⟨rfl, hC1, hG1⟩))
          (try rw [Exit.noGoto_ret])
          go_ret2
          exact ⟨by rw [HR.out]; rfl, ⟨_, hC1⟩, HG.out.trans (only_drewN_left hG1)⟩
      · have hb0 : ((l[a + k].toNat : Int) == 0) = false := by
          have : l[a + k].toNat ≠ 0 := fun e => hb (by rw [hget]; exact UInt8.toNat_inj.1 (by simpa using e))
          simpa using this
        have HUP := Lib.hid (show ∀ j (hj : j < r.length), j < k + 1 → r[j] ≠ 0 from fun j hj hjk => by
          rcases Nat.lt_or_ge j k with h1 | h1
          · exact hup j hj h1
          · have e : j = k := by omega
            subst e
            exact hb)
        clear hup hC hG hb hget
        generalize ((l.length - (a + k) : Nat) : Int) = K at *
        go_wp2_with (first | (go_at_call 21; refine hL.mono ?_; rintro r1 w1 ⟨rfl, n1, rfl⟩) | (go_at_call 71; refine (hU _).mono ?_; rintro r1 w1 ⟨rfl, hC1, hG1⟩))
        go_roundw
        case rel => exact ⟨k + 1, by go_num, by omega, HUP.out, hC1, HG.out.trans (only_drewN_left hG1)⟩
        case measure => simp [intOf]; omega
    · have ht : tlen r = r.length := tlen_all r fun j hj => hup j hj (by omega)
      have hz : l.length - (a + k) = 0 := by omega
      rw [hz] at hL
      have HR := Lib.hid (show sizeT r 0 = (0, 12) by unfold sizeT; rw [if_pos rfl, readT_end ht]; rfl)
      have HC := Lib.hid (fun n => hC.drewN n)
      clear hup hC hG ht hz
      go_wp2_with (go_at_call 21; refine hL.mono ?_; rintro r1 w1 ⟨rfl, n1, rfl⟩)
      (try rw [Exit.noGoto_ret])
      go_ret2
      exact ⟨by rw [HR.out]; rfl, ⟨_, HC.out _⟩, only_drewN HG.out _⟩

theorem measure_ref {w : World} {g : Nat} {v : Value} {l : List UInt8} {a : Nat} {e : Int} (h : Cur w g v l a e) (he : e ≠ 0) :
    Calls Tryd.prog 69 #[.pointer (some ⟨g, 0, none⟩)] w fun x w' => x = .returned (.tuple #[.int .u64 0, .int .i64 12]) ∧ ∃ n, w' = w.drewN n := by
  have hL := left_cur h
  rw [show leftOf l a e = 0 by unfold leftOf; rw [if_neg he]] at hL
  clear h he
  go_enter Tryd.func69, Tryd.ntmps69
  go_wp2_with fail
  go_step3
  go_wp2_with fail
  go_step3
  go_wp2_with fail
  go_loopw [4] (fun n wr => n = .int .u64 0 ∧ wr = w) (fun _ _ => 0)
  case atStart => exact ⟨rfl, rfl⟩
  case round =>
    obtain ⟨rfl, rfl⟩ := hrel
    go_wp2_with (go_at_call 21; refine hL.mono ?_; rintro r1 w1 ⟨rfl, n1, rfl⟩)
    (try rw [Exit.noGoto_ret])
    go_ret2
    exact ⟨rfl, _, rfl⟩

/-- measure of any cursor: what it tells; the cursor stands somewhere, and has refused what it had refused. -/
theorem measure_cur {w : World} {g : Nat} {v : Value} {l : List UInt8} {a : Nat} {e : Int} (h : Cur w g v l a e) (hlen : l.length ≤ 140737488355328) :
    Calls Tryd.prog 69 #[.pointer (some ⟨g, 0, none⟩)] w fun x w' => x = .returned (.tuple #[.int .u64 ((sizeT (l.drop a) e).1 : Int), .int .i64 (sizeT (l.drop a) e).2]) ∧ (∃ b, Cur w' g v l b e ∧ (e ≠ 0 → b = a)) ∧ w.grownBy w' (some g) := by
  by_cases he : e = 0
  · subst he
    exact (measure_ok h hlen).mono fun x w' ⟨h1, ⟨b, h2⟩, h3⟩ => ⟨h1, ⟨b, h2, fun k => absurd rfl k⟩, h3⟩
  · rw [sizeT_bad _ he]
    refine (measure_ref h he).mono fun x w' ⟨h1, n, h2⟩ => ⟨h1, ⟨a, ?_, fun _ => rfl⟩, ?_⟩
    · subst h2; exact h.drewN n
    · subst h2; exact only_drewN (only_refl _ _) n

end Go.Proofs.YtpmndmbhkfbljaaDoor

namespace Go.Proofs.YtpmndmbhkfbljaaDoor
open Go Go.RowKit

set_option maxHeartbeats 800000 in
theorem take_core {w : World} {g : Nat} {v : Value} {l t : List UInt8} {a a2 a3 n : Nat} {e f E : Int} (h : Cur w g v l a e) (hlen : l.length ≤ 140737488355328)
    (hM : Calls Tryd.prog 69 #[.pointer (some ⟨g, 0, none⟩)] w fun x w' => x = .returned (.tuple #[.int .u64 (n : Int), .int .i64 f]) ∧ (∃ b, Cur w' g v l b e ∧ (e ≠ 0 → b = a)) ∧ w.grownBy w' (some g))
    (hE : failOf e f = E)
    (hB : ∀ W, Cur W g v l a E → Calls Tryd.prog 52 #[.pointer (some ⟨g, 0, none⟩), .int .u64 (n : Int)] W fun r w' => ∃ u, r = .returned u ∧ Own w' W.heap.size u t ∧ Cur w' g v l a2 E ∧ W.grownBy w' (some g))
    (hU : ∀ W, Cur W g v l a2 E → Calls Tryd.prog 71 #[.pointer (some ⟨g, 0, none⟩)] W fun r w' => (∃ y, r = .returned (.int .u64 y)) ∧ Cur w' g v l a3 E ∧ W.grownBy w' (some g)) :
    Calls Tryd.prog 53 #[.pointer (some ⟨g, 0, none⟩)] w fun x w' => x = .returned (.string ⟨t.toArray⟩) ∧ Cur w' g v l a3 E ∧ w.grownBy w' (some g) := by
  have hal := h.2.2
  have hA := at_cur h
  have hS := Lib.hid (fun W b (hC : Cur W g v l b e) (hb : e ≠ 0 → b = a) => (by
    have h1 := seek_cur hC a (by unfold two64; omega) hlen
    have e1 : seekAt l b e a = a := by
      unfold seekAt
      by_cases he : e = 0
      · rw [if_pos ⟨he, hal⟩]
      · rw [if_neg (fun k => he k.1)]; exact hb he
    have e2 : seekErr l e a = e := by
      unfold seekErr
      by_cases he : e = 0
      · rw [if_pos he, if_pos hal, he]
      · rw [if_neg he]
    rwa [e1, e2] at h1 : Calls Tryd.prog 70 #[.pointer (some ⟨g, 0, none⟩), .int .u64 (a : Int)] W fun r w' => r = .returned (.tuple #[]) ∧ Cur w' g v l a e ∧ W.grownBy w' (some g)))
  have hF := Lib.hid (fun W (hC : Cur W g v l a e) => (by have h1 := fail_cur hC f; rwa [hE] at h1 : Calls Tryd.prog 24 #[.pointer (some ⟨g, 0, none⟩), .int .i64 f] W fun r w' => r = .returned (.tuple #[]) ∧ Cur w' g v l a E ∧ W.grownBy w' (some g)))
  have HB := Lib.hid hB
  have HU := Lib.hid hU
  have s1 : IntKind.u64.wrap (a : Int) = (a : Int) := by rw [IntWalk.u64_in _ (by omega)]
  clear hB hU hE h hal hlen
  go_enter Tryd.func53, Tryd.ntmps53
  go_wp2_with (first
    | (go_at_call 13; refine hA.mono ?_; rintro r w' ⟨rfl, rfl⟩)
    | (go_at_call 69; refine hM.mono ?_; rintro r w1 ⟨rfl, ⟨b, hC1, hb1⟩, hG1⟩; have hS1 := hS.out _ _ hC1 hb1; clear hC1 hb1)
    | (go_at_call 70; refine hS1.mono ?_; rintro r w2 ⟨rfl, hC2, hG2⟩; have hF2 := hF.out _ hC2; clear hC2)
    | (go_at_call 24; refine hF2.mono ?_; rintro r w3 ⟨rfl, hC3, hG3⟩; have hB3 := HB.out _ hC3; clear hC3)
    | (go_at_call 52; refine hB3.mono ?_; rintro r w4 ⟨u, rfl, hO4, hC4, hG4⟩; have hU4 := HU.out _ hC4)
    | (go_at_call 71; refine hU4.mono ?_; rintro r w5 ⟨⟨y, rfl⟩, hC5, hG5⟩; have cv := conv_own (own_only hO4 hC4.1 hG5)))
  go_ret
  exact ⟨rfl, hC5, ((hG1.trans hG2).trans hG3).trans (hG4.trans hG5)⟩

theorem take_cur {w : World} {g : Nat} {v : Value} {l : List UInt8} {a : Nat} {e : Int} (h : Cur w g v l a e) (hlen : l.length ≤ 140737488355328) :
    Calls Tryd.prog 53 #[.pointer (some ⟨g, 0, none⟩)] w fun x w' => x = .returned (.string ⟨(takeT (l.drop a) e).1.toArray⟩) ∧ Cur w' g v l (a + (takeT (l.drop a) e).2.1) (takeT (l.drop a) e).2.2 ∧ w.grownBy w' (some g) := by
  have hM := measure_cur h hlen
  have hal := h.2.2
  obtain ⟨r, hr⟩ : ∃ r, r = l.drop a := ⟨_, rfl⟩
  have hrl : r.length = l.length - a := by rw [hr]; simp
  have bad : ∀ E : Int, E ≠ 0 → (sizeT r e).1 = 0 → failOf e (sizeT r e).2 = E → takeT r e = ([], 0, E) → 
      Calls Tryd.prog 53 #[.pointer (some ⟨g, 0, none⟩)] w fun x w' => x = .returned (.string ⟨(takeT (l.drop a) e).1.toArray⟩) ∧ Cur w' g v l (a + (takeT (l.drop a) e).2.1) (takeT (l.drop a) e).2.2 ∧ w.grownBy w' (some g) := by
    intro E hE hn hf ht
    rw [← hr, ht]
    rw [← hr, hn] at hM
    have gotE : ∀ n, nextGot l a E n = [] := fun n => by unfold nextGot; rw [if_neg (fun k => hE k.1)]
    have atE : ∀ n, nextAt l a E n = a := fun n => by unfold nextAt; rw [if_neg (fun k => hE k.1)]
    have errE : ∀ n, nextErr l a E n = E := fun n => by unfold nextErr; rw [if_neg hE]
    refine take_core (n := 0) (a2 := a) (a3 := a) h hlen hM hf (fun W hC => ?_) (fun W hC => ?_)
    · have := bytes_cur hC 0 hlen
      rwa [gotE, atE, errE] at this
    · refine (u8_cur hC hlen).mono fun x w' ⟨h1, h2, h3⟩ => ⟨⟨_, h1⟩, ?_, h3⟩
      rwa [atE, errE] at h2
  by_cases he : e = 0
  · subst he
    rcases readT_cases r with ⟨h1, h2⟩ | ⟨h1, h2, h3⟩ | ⟨h1, h2, h3⟩
    · exact bad 12 (by decide) (by unfold sizeT; rw [if_pos rfl, h2]; rfl) (by unfold sizeT; rw [if_pos rfl, h2]; rfl) (by rw [takeT_zero, h2])
    · exact bad 3 (by decide) (by unfold sizeT; rw [if_pos rfl, h3]; rfl) (by unfold sizeT; rw [if_pos rfl, h3]; rfl) (by rw [takeT_zero, h3])
    · have hs : sizeT r 0 = (tlen r, 0) := by unfold sizeT; rw [if_pos rfl, h3, if_pos rfl]
      rw [← hr, hs] at hM
      rw [← hr, takeT_zero, h3]
      refine take_core (n := tlen r) (a2 := a + tlen r) h hlen hM rfl (fun W hC => ?_) (fun W hC => ?_)
      · have := bytes_ok hC (n := tlen r) (by omega) hlen
        rwa [← hr] at this
      · have hlt : a + tlen r < l.length := by omega
        exact (u8_at hC hlt hlen).mono fun x w' ⟨k1, k2, k3⟩ => ⟨⟨_, k1⟩, by rwa [Nat.add_assoc] at k2, k3⟩
  · exact bad e he (by rw [sizeT_bad _ he]) (by rw [sizeT_bad _ he]; unfold failOf; rw [if_neg he]) (takeT_bad _ he)

end Go.Proofs.YtpmndmbhkfbljaaDoor

namespace Go.Proofs.YtpmndmbhkfbljaaDoor
open Go Go.RowKit

/-- Texts as the cells that hold them. -/
def strV (ts : List (List UInt8)) : List Value := ts.map fun t => Value.string ⟨t.toArray⟩
@[simp] theorem strV_length (ts : List (List UInt8)) : (strV ts).length = ts.length := by simp [strV]
end Go.Proofs.YtpmndmbhkfbljaaDoor
