/-
  The chapter's examples of layer 2, as its statements ask for them ahead of all else: they come out true, and nothing that was there turns.
-/
import Derived.Test.YtkabefjppdklgaaLebP
import Derived.Test.YtkabefjppdklgaaLebC
import Derived.Test.YtkabefjppdklgaaLebB
import Derived.Test.YtkabefjppdklgaaLawD
namespace Go.Proofs.Ytkabefjppdklgaa
open Go Go.RowKit

theorem nil_own (w : World) (base : Nat) : Own w base (.slice none 0 0) [] := World.ownsRow_nil _ _ _ _

/-- Behind bytes that were laid into a row of the call's own, all below is as it was. -/
theorem below_laid_nil {B : Nat} {w w1 w2 : World} {base : Nat} {v' : Value} {l' : List UInt8} (h : Below B w w1) (hL : Laid w1 w2 base (.slice none 0 0) v' l') (hB : B ≤ w.heap.size := by exact Nat.le_refl _) : Below B w w2 :=
  h.trans (below_of_only hL.2.1 (Nat.le_trans hB h.size) (by simp [Value.ownBlock]))

theorem below_cur {B : Nat} {w w1 w2 : World} {g : Nat} (h : Below B w w1) (hG : w1.grownBy w2 (some g)) (hg : B ≤ g) (hB : B ≤ w.heap.size := by exact Nat.le_refl _) : Below B w w2 :=
  h.trans (below_of_only hG (Nat.le_trans hB h.size) (fun k e => by cases e; exact hg))

set_option maxHeartbeats 800000 in
theorem works2_any (w : World) :
    Calls Try.prog 37 #[] w fun r w' => r = .returned (.bool true) ∧ Below w.heap.size w w' := by
  have P1 := Lib.hid (fun (W : World) (hW : w.heap.size ≤ W.heap.size) => (show Calls Try.prog 42 #[.slice none 0 0, .int .u64 624485] W fun r w' => ∃ v', r = .returned v' ∧ Laid W w' w.heap.size (.slice none 0 0) v' [229, 142, 38] from
    putU_any (nil_own W w.heap.size) hW 624485 (by decide) (by simp)))
  have P2 := Lib.hid (fun (W : World) (hW : w.heap.size ≤ W.heap.size) => (show Calls Try.prog 44 #[.slice none 0 0, .int .i64 (-2)] W fun r w' => ∃ v', r = .returned v' ∧ Laid W w' w.heap.size (.slice none 0 0) v' [126] from
    putS_any (nil_own W w.heap.size) hW (-2) (by decide) (by simp)))
  have P3 := Lib.hid (fun (W : World) (hW : w.heap.size ≤ W.heap.size) => (show Calls Try.prog 46 #[.slice none 0 0, .int .u64 3, .int .i64 2] W fun r w' => ∃ v', r = .returned v' ∧ Laid W w' w.heap.size (.slice none 0 0) v' [131, 0] from
    putWide_any (nil_own W w.heap.size) hW 3 (by decide) 2 (by simp)))
  have P4 := Lib.hid (fun (W : World) => u_nil W)
  have P5 := Lib.hid (fun (W : World) g v (h : Cur W g v [126] 0 0) => (show Calls Try.prog 40 #[.pointer (some ⟨g, 0, none⟩)] W fun x w' => x = .returned (.int .i64 (-2)) ∧ Cur w' g v [126] 1 0 ∧ W.grownBy w' (some g) from
    s_cur h (by simp)))
  have HB := Lib.hid (Below.refl w.heap.size w)
  go_enter Try.func37, Try.ntmps37
  go_wp2_with (first
    | (go_at_call 42; refine (P1.out _ (Nat.le_refl _)).mono ?_; rintro r w1 ⟨v1, rfl, hL1⟩; have hb1 := below_laid_nil HB.out hL1)
    | (go_at_call 44; refine (P2.out _ hb1.size).mono ?_; rintro r w2 ⟨v2, rfl, hL2⟩; have hb2 := below_laid_nil hb1 hL2; have ho1 := own_below hL1.1 (below_laid_nil (Below.refl _ _) hL2))
    | (go_at_call 46; refine (P3.out _ hb2.size).mono ?_; rintro r w3 ⟨v3, rfl, hL3⟩; have hb3 := below_laid_nil hb2 hL3; have ho1' := own_below ho1 (below_laid_nil (Below.refl _ _) hL3); have ho2 := own_below hL2.1 (below_laid_nil (Below.refl _ _) hL3); have hc1 := conv_own ho1'; have hc2 := conv_own ho2; have hc3 := conv_own hL3.1)
    | (go_at_call 38; refine (P4.out _).mono ?_; rintro r w4 ⟨rfl, hG4⟩; have hb4 := hb3.trans (below_of_only hG4 hb3.size (by simp)); have ho2' := own_below ho2 (below_of_only hG4 (Nat.le_refl _) (by simp)))
    | (go_at_call 15; refine (new_own ho2' (by simp)).mono ?_; rintro r w5 ⟨g, v5, rfl, hM, hb5⟩; have hb6 := hb4.trans (hb5.mono hb4.size); have hM1 := made_up hb4.size hM)
    | (go_at_call 40; refine (P5.out _ _ _ hM1.1).mono ?_; rintro r w6 ⟨rfl, hC6, hG6⟩; have hb7 := below_cur hb6 hG6 hM1.2.1))
  go_ret
  exact ⟨rfl, hb7⟩

end Go.Proofs.Ytkabefjppdklgaa
