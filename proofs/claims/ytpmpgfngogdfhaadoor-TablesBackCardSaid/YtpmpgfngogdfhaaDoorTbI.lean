/-
  Package tables: the chapter's example (works); the walks of TablesTakes and TablesPuts.
-/
import Derived.Test.YtpmpgfngogdfhaaDoorTbH
import Derived.Test.YtpmpgfngogdfhaaDoorUnG
import Derived.Deep.RegionHeldLaw
import Derived.Test.YtpmpgfngogdfhaaDoorPutR
import Derived.Test.YtpmpgfngogdfhaaDoorLtB
import Derived.Test.YtpmpgfngogdfhaaDoorLtC
import Derived.Test.YtpmpgfngogdfhaaDoorLawC
namespace Go.Proofs.YtpmpgfngogdfhaaDoor
open Go Go.RowKit

def exB16 : List UInt8 := [12, 0, 0, 0, 5, 0, 8, 0, 0, 16, 0, 0, 0, 0, 0, 0]
def exT16 : Tbl := ⟨false, 8, [4096]⟩
theorem ex16_put : putTbB true false [4096] = exB16 := by decide
theorem ex16_err : putTbE true false [4096] = 0 := by decide
theorem ex16_allE : allTbE exB16 true = 0 := by decide
theorem ex16_allL : allTbL exB16 true = [exT16] := by kernel_rfl
theorem ex16_at : atTb [exT16] 8 0 = (4096, true) := by kernel_rfl
theorem row_one16 (w : World) : Row 1 numC (w.alloc (.cells #[.int .u64 4096] 41)) (w.heap.size + 1) (some ⟨w.heap.size, 0, none⟩) [4096] := lit_row num_oneT w 41 [4096]

set_option maxRecDepth 10000 in
set_option maxHeartbeats 1600000 in
theorem works16_any {w : World} (hs : Sz w) : Calls Tryd.prog 25 #[] w fun r w' => r = .returned (.bool true) ∧ Below w.heap.size w w' := by
  have hb1 : Below w.heap.size w (w.alloc (.cells #[.int .u64 4096] 41)) := (Below.refl _ _).alloc (Nat.le_refl _) _
  have HB1 := Lib.hid hb1
  have HS1 := Lib.hid (hs.below hb1 hs.pos)
  have P1 := Lib.hid (show Calls Tryd.prog 35 #[.bool false, .slice (some ⟨w.heap.size, 0, none⟩) 1 1] (w.alloc (.cells #[.int .u64 4096] 41)) fun r w' => ∃ A c, r = .returned (.tuple #[.slice A 16 c, .int .i64 0]) ∧ Rd w' w'.heap.size A exB16 ∧ Own w' w.heap.size (.slice A 16 c) exB16 ∧ Below (w.alloc (.cells #[.int .u64 4096] 41)).heap.size (w.alloc (.cells #[.int .u64 4096] 41)) w' from
    (puts_addrs (l := [4096]) false HS1.out (row_one16 w) (by simp) 1 (by decide) (by decide)).mono fun r w' ⟨u, e, ho, hb⟩ => by
      rw [ex16_put] at ho
      rw [ex16_err] at e
      obtain ⟨A, c, rfl, -, -, hrd⟩ := own_slice ho
      exact ⟨A, c, e, hrd, row_base ho hb1.size, hb⟩)
  have A1 := Lib.hid (fun (W : World) (A : Option Addr) (c : Nat) (hS : Sz W) (hr : Rd W W.heap.size A exB16) => (show Calls Tryd.prog 28 #[.slice A 16 c] W fun r w' => ∃ A2 c2 M, r = .returned (.tuple #[.slice A2 1 c2, .int .i64 0]) ∧ Tabs w' w'.heap.size A2 M ∧ M.length = 1 ∧ M.map TLay.x = [exT16] ∧ Below W.heap.size W w' from
    (tables_addrs hS c hr (Nat.le_refl _) (by decide)).mono fun r w' ⟨u, M, e, hM, ho, hb⟩ => by
      rw [ex16_allL] at hM
      rw [ex16_allE] at e
      have hl : M.length = 1 := by rw [← List.length_map (f := TLay.x), hM]; rfl
      obtain ⟨A', c', hu, -, -, hrow⟩ := ho.lies
      rw [hl] at hu
      subst hu
      exact ⟨A', c', M, e, hrow, hl, hM, hb⟩))
  have T1 := Lib.hid (fun (W : World) (A : Option Addr) (c : Nat) (M : List TLay) (h : Tabs W W.heap.size A M) (hl : M.length = 1) (hM : M.map TLay.x = [exT16]) => (show Calls Tryd.prog 31 #[.slice A 1 c, .int .u64 8, .int .u64 0] W fun r w' => r = .returned (.tuple #[.int .u64 4096, .bool true]) ∧ Below W.heap.size W w' from (by
    have hi : ∀ y ∈ M, y.x.items.length ≤ 1000000000 := fun y hy => by
      have : y.x ∈ M.map TLay.x := List.mem_map_of_mem hy
      rw [hM] at this
      rw [List.mem_singleton.1 this]
      decide
    have := at_tb h (Nat.le_refl _) c 8 0 (by omega) hi
    rw [hl, hM, ex16_at] at this
    exact this)))
  obtain ⟨s1, hs1⟩ : ∃ s : ByteArray, s = ⟨exB16.toArray⟩ := ⟨_, rfl⟩
  have E1 := Lib.hid hs1
  have q1 : (s1.toList == [12, 0, 0, 0, 5, 0, 8, 0, 0, 16, 0, 0, 0, 0, 0, 0]) = true := by rw [hs1, Lib.toList_data]; rfl
  clear hs hb1 hs1
  go_enter Tryd.func25, Tryd.ntmps25
  go_upto_region 2 with (go_at_call 35; refine P1.out.mono ?_; rintro r w1 ⟨A, c, rfl, hr, ho, hb⟩; have HR1 := Lib.hid hr; have HO1 := Lib.hid ho; have HS2 := Lib.hid (HS1.out.below hb HS1.out.pos); have HB2 := Lib.hid (HB1.out.trans (hb.mono HB1.out.size)); clear hr ho hb)
  go_upto_region 3 with (go_at_call 28; refine (A1.out _ _ _ HS2.out HR1.out).mono ?_; rintro r w2 ⟨A2, c2, M, rfl, hrow, hl, hM, hb⟩; have HRW := Lib.hid hrow; have HL := Lib.hid hl; have HM := Lib.hid hM; have HB3 := Lib.hid (HB2.out.trans (hb.mono HB2.out.size)); have HO3 := Lib.hid (own_below HO1.out hb); clear hrow hl hM hb)
  go_upto_region 4 with (go_at_call 31; refine (T1.out _ _ _ _ HRW.out HL.out HM.out).mono ?_; rintro r w3 ⟨rfl, hb⟩; have HB4 := Lib.hid (HB3.out.trans (hb.mono HB3.out.size)); have HO4 := Lib.hid (own_below HO3.out hb); clear hb)
  have cv : (convert 65 9 (.slice A 16 c)).run Tryd.prog w3 = .ok (.string s1) w3 := by rw [E1.out]; exact conv_own HO4.out
  go_wp2_with fail
  go_ret
  exact ⟨rfl, HB4.out⟩

end Go.Proofs.YtpmpgfngogdfhaaDoor
