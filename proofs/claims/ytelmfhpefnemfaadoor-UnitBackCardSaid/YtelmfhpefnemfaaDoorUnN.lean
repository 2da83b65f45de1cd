/-
  Package unit: the chapter's example (works).
-/
import Derived.Test.YtelmfhpefnemfaaDoorUnI
import Derived.Test.YtelmfhpefnemfaaDoorUnL
import Derived.Test.YtelmfhpefnemfaaDoorPutR
namespace Go.Proofs.YtelmfhpefnemfaaDoor
open Go Go.RowKit

def exH15 : UHd := ⟨1, false, 0, 0, 0, 0, 0, 0⟩
def exB15 : List UInt8 := [9, 0, 0, 0, 5, 0, 1, 8, 0, 0, 0, 0, 0]
def exL15 : UHd := ⟨1, false, 0, 0, 0, 0, 12, 13⟩
theorem ex15_put : putUB exH15 [0] = exB15 := by decide
theorem ex15_err : putUE exH15 = 0 := by decide
theorem ex15_allE : allE exB15 = 0 := by decide
theorem ex15_allL : allL exB15 = [exL15] := by kernel_rfl
theorem ex15_in : findU [exL15] 12 0 = 0 ∧ findU [exL15] 13 0 = -1 := by decide

set_option maxRecDepth 10000 in
set_option maxHeartbeats 1600000 in
theorem works15_any {w : World} (hs : Sz w) : Calls Tryd.prog 26 #[] w fun r w' => r = .returned (.bool true) ∧ Below w.heap.size w w' := by
  have hb1 : Below w.heap.size w (w.alloc (.cells #[.int .u8 0] 5)) := (Below.refl _ _).alloc (Nat.le_refl _) _
  have HB1 := Lib.hid hb1
  have HS1 := Lib.hid (hs.below hb1 hs.pos)
  have P1 := Lib.hid (show Calls Tryd.prog 33 #[.agg #[.int .i64 1, .bool false, .int .u64 0, .int .u64 0, .int .u64 0, .int .u64 0, .int .u64 0, .int .u64 0], .slice (some ⟨w.heap.size, 0, none⟩) 1 1] (w.alloc (.cells #[.int .u8 0] 5)) fun r w' => ∃ A c, r = .returned (.tuple #[.slice A 13 c, .int .i64 0]) ∧ Rd w' w'.heap.size A exB15 ∧ Own w' w.heap.size (.slice A 13 c) exB15 ∧ Below (w.alloc (.cells #[.int .u8 0] 5)).heap.size (w.alloc (.cells #[.int .u8 0] 5)) w' from
    (uput_any HS1.out exH15 ⟨by decide, by decide, by decide, by decide⟩ (B := w.heap.size + 1) (A := some ⟨w.heap.size, 0, none⟩) (body := [0]) (rd_one w 0 0 rfl) (by simp) 1 (by decide)).mono fun r w' ⟨u, e, ho, hb⟩ => by
      rw [ex15_put] at ho
      rw [ex15_err] at e
      obtain ⟨A, c, rfl, -, -, hrd⟩ := own_slice ho
      exact ⟨A, c, e, hrd, row_base ho hb1.size, hb⟩)
  have A1 := Lib.hid (fun (W : World) (A : Option Addr) (c : Nat) (hS : Sz W) (hr : Rd W W.heap.size A exB15) => (show Calls Tryd.prog 27 #[.slice A 13 c] W fun r w' => ∃ g c2, r = .returned (.tuple #[.slice (some ⟨g, 0, none⟩) 1 c2, .int .i64 0]) ∧ w'.cell? ⟨g, 0, none⟩ = some (.int .i64 1) ∧ w'.cell? ⟨g, 6, none⟩ = some (.int .u64 12) ∧ w'.cell? ⟨g, 7, none⟩ = some (.int .u64 13) ∧ Row 8 UHd.cells w' w'.heap.size (some ⟨g, 0, none⟩) [exL15] ∧ Below W.heap.size W w' from
    (uall_any hS c hr (Nat.le_refl _) (by decide)).mono fun r w' ⟨u, e, ho, hb⟩ => by
      rw [ex15_allL] at ho
      rw [ex15_allE] at e
      obtain ⟨A', c', hu, -, -, hrow⟩ := own_row uhd_eight ho
      rcases ho.2 with ⟨rfl, h0⟩ | ⟨g, cap, cur, rfl, -⟩
      · cases h0
      · injection hu with hu1 hu2 hu3
        subst hu1
        exact ⟨g, cap, e, World.ownsRow.cellAt (g := g) (cap := cap) ho 0 (by decide), World.ownsRow.cellAt (g := g) (cap := cap) ho 6 (by decide), World.ownsRow.cellAt (g := g) (cap := cap) ho 7 (by decide), hrow, hb⟩))
  have O12 := Lib.hid (fun (W : World) (B : Nat) (g c : Nat) (hB : B ≤ W.heap.size) (hr : Row 8 UHd.cells W B (some ⟨g, 0, none⟩) [exL15]) => (show Calls Tryd.prog 31 #[.slice (some ⟨g, 0, none⟩) 1 c, .int .u64 12] W fun r w' => r = .returned (.int .i64 0) ∧ Below W.heap.size W w' from
    (of_unit hr hB c 12 (by decide)).mono fun r w' h => by rw [ex15_in.1] at h; exact h))
  have O13 := Lib.hid (fun (W : World) (B : Nat) (g c : Nat) (hB : B ≤ W.heap.size) (hr : Row 8 UHd.cells W B (some ⟨g, 0, none⟩) [exL15]) => (show Calls Tryd.prog 31 #[.slice (some ⟨g, 0, none⟩) 1 c, .int .u64 13] W fun r w' => r = .returned (.int .i64 (-1)) ∧ Below W.heap.size W w' from
    (of_unit hr hB c 13 (by decide)).mono fun r w' h => by rw [ex15_in.2] at h; exact h))
  obtain ⟨s1, hs1⟩ : ∃ s : ByteArray, s = ⟨exB15.toArray⟩ := ⟨_, rfl⟩
  have E1 := Lib.hid hs1
  have q1 : (s1.toList == [9, 0, 0, 0, 5, 0, 1, 8, 0, 0, 0, 0, 0]) = true := by rw [hs1, Lib.toList_data]; rfl
  clear hs hb1 hs1
  go_enter Tryd.func26, Tryd.ntmps26
  go_upto_region 2 with (go_at_call 33; refine P1.out.mono ?_; rintro r w1 ⟨A, c, rfl, hr, ho, hb⟩; have HR1 := Lib.hid hr; have HO1 := Lib.hid ho; have HS2 := Lib.hid (HS1.out.below hb HS1.out.pos); have HB2 := Lib.hid (HB1.out.trans (hb.mono HB1.out.size)); clear hr ho hb)
  go_upto_region 3 with (go_at_call 27; refine (A1.out _ _ _ HS2.out HR1.out).mono ?_; rintro r w2 ⟨g, c2, rfl, c0, c6, c7, hrow, hb⟩; have HRW := Lib.hid hrow; have HB3 := Lib.hid (HB2.out.trans (hb.mono HB2.out.size)); have HO3 := Lib.hid (own_below HO1.out hb); clear hrow hb)
  have cv : (convert 66 9 (.slice A 13 c)).run Tryd.prog w2 = .ok (.string s1) w2 := by rw [E1.out]; exact conv_own HO3.out
  go_wp2_with (first
    | (go_at_call 31; refine (O12.out _ _ _ _ (Nat.le_refl _) HRW.out).mono ?_; rintro r w3 ⟨rfl, hb⟩; have HRW4 := Lib.hid ((HRW.out.below hb).more hb.size); have HB4 := Lib.hid (HB3.out.trans (hb.mono HB3.out.size)); clear hb O12)
    | (go_at_call 31; refine (O13.out _ _ _ _ (Nat.le_refl _) HRW4.out).mono ?_; rintro r w4 ⟨rfl, hb⟩; have HB5 := Lib.hid (HB4.out.trans (hb.mono HB4.out.size)); clear hb))
  go_ret
  exact ⟨rfl, HB5.out⟩

end Go.Proofs.YtelmfhpefnemfaaDoor
