/-
  The chapter's example, as the statements ask for it ahead of all else: it comes out true, and nothing that was there turns.
-/
import Derived.Test.YtbggajojhopaaaaCurE
namespace Go.Proofs.Ytbggajojhopaaaa
open Go Go.RowKit

theorem rd_lit (w : World) (l : List UInt8) : Rd (w.alloc (.cells (u8s l).toArray 5)) (w.heap.size + 1) (some ⟨w.heap.size, 0, none⟩) l := fun _ =>
  ⟨w.heap.size, 0, rfl, by omega, fun j u hu => by
    have h := (Box.new w 5 (u8s l).toArray).cell j
    rw [Nat.zero_add, h]
    simp [u8s_get, hu]⟩

set_option maxHeartbeats 800000 in
theorem works_any (w : World) :
    Calls Try.prog 16 #[] w fun r w' => r = .returned (.bool true) ∧ Below w.heap.size w w' := by
  have hN := new_any (w := w.alloc (.cells #[.int .u8 1, .int .u8 2, .int .u8 3] 5)) (B := w.heap.size + 1) 3 (rd_lit w [1, 2, 3]) (by simp) (by simp)
  have e1 : leNat (nextGot [1, 2, 3] 0 0 2) = 513 := by decide
  have e2 : leNat (nextGot [1, 2, 3] 2 0 2) = 0 := by decide
  have n1 : nextAt [1, 2, 3] 0 0 2 = 2 ∧ nextErr [1, 2, 3] 0 0 2 = 0 := by decide
  have n2 : nextAt [1, 2, 3] 2 0 2 = 2 ∧ nextErr [1, 2, 3] 2 0 2 = 10 := by decide
  have n3 : leftOf [1, 2, 3] 2 10 = 0 := by decide
  have hb0 : Below w.heap.size w (w.alloc (.cells #[.int .u8 1, .int .u8 2, .int .u8 3] 5)) := (Below.refl _ _).alloc (Nat.le_refl _) _
  have hU1 : ∀ W g v, Cur W g v [1, 2, 3] 0 0 → Calls Try.prog 34 #[.pointer (some ⟨g, 0, none⟩)] W fun r w' => r = .returned (.int .u64 513) ∧ Cur w' g v [1, 2, 3] 2 0 ∧ W.grownBy w' (some g) := by
    intro W g v h
    have := u16_cur h (by simp)
    rwa [e1, n1.1, n1.2] at this
  have hU2 : ∀ W g v, Cur W g v [1, 2, 3] 2 0 → Calls Try.prog 34 #[.pointer (some ⟨g, 0, none⟩)] W fun r w' => r = .returned (.int .u64 0) ∧ Cur w' g v [1, 2, 3] 2 10 ∧ W.grownBy w' (some g) := by
    intro W g v h
    have := u16_cur h (by simp)
    rwa [e2, n2.1, n2.2] at this
  have hL : ∀ W g v, Cur W g v [1, 2, 3] 2 10 → Calls Try.prog 20 #[.pointer (some ⟨g, 0, none⟩)] W fun r w' => r = .returned (.int .i64 0) ∧ ∃ n, w' = W.drewN n := by
    intro W g v h
    have := left_cur h
    rwa [n3] at this
  clear e1 e2 n1 n2 n3
  have HB := Lib.hid hb0
  have HU1 := Lib.hid hU1
  have HU2 := Lib.hid hU2
  have HL := Lib.hid hL
  clear hb0 hU1 hU2 hL
  go_enter Try.func16, Try.ntmps16
  go_wp2_with (go_at_call 17; refine hN.mono ?_; rintro r w1 ⟨g, v, rfl, hM, hbel⟩)
  refine (HU1.out _ _ _ hM.1).mono ?_
  rintro r w2 ⟨rfl, hK2, hG2⟩
  have HG2 := Lib.hid (below_of_only (B := w.heap.size) hG2 (by have := HB.out.size; have := hbel.size; omega) (by have := hM.2.1; simp at this; simp; omega))
  go_wp2_with fail
  refine (HU2.out _ _ _ hK2).mono ?_
  rintro r w3 ⟨rfl, hK3, hG3⟩
  have HG3 := Lib.hid (below_of_only (B := w.heap.size) hG3 (by have := HB.out.size; have := hbel.size; have := hG2.size; omega) (by have := hM.2.1; simp at this; simp; omega))
  have HE := Lib.hid (HB.out.trans ((hbel.mono (by simp)).trans (HG2.out.trans HG3.out)))
  clear hG2 hG3 hbel hM hK2
  go_wp2_with fail
  refine (err_cur hK3).mono ?_
  rintro r w4 ⟨rfl, rfl⟩
  go_wp2_with fail
  refine (HL.out _ _ _ hK3).mono ?_
  rintro r w4 ⟨rfl, n, rfl⟩
  go_wp2_with fail
  refine (at_cur (hK3.drewN n)).mono ?_
  rintro r w4 ⟨rfl, rfl⟩
  go_wp2_with fail
  go_ret
  exact ⟨rfl, below_drewN HE.out n⟩

end Go.Proofs.Ytbggajojhopaaaa
