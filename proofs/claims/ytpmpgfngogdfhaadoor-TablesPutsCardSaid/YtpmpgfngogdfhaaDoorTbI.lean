/-
  Package tables: the chapter's example (works); the walks of TablesTakes and TablesPuts.
-/
import Derived.Test.YtpmpgfngogdfhaaDoorTbH
import Derived.Test.YtpmpgfngogdfhaaDoorUnE
import Derived.Test.YtpmpgfngogdfhaaDoorLtB
import Derived.Deep.RegionHeldLaw
import Derived.Test.YtpmpgfngogdfhaaDoorPutR
import Derived.Test.YtpmpgfngogdfhaaDoorLtC
import Derived.Test.YtpmpgfngogdfhaaDoorLawC
namespace Go.Proofs.YtpmpgfngogdfhaaDoor
open Go Go.RowKit

def exB16 : List UInt8 := [12, 0, 0, 0, 5, 0, 8, 0, 0, 16, 0, 0, 0, 0, 0, 0]
def exT16 : Tbl := ⟨false, 8, [4096]⟩
theorem ex16_put : putTbB true false [4096] = exB16 := by decide
theorem ex16_err : putTbE true false [4096] = 0 := by decide
theorem ex16_allE : allTbE exB16 true = 0 := by decide
theorem ex16_allL : allTbL exB16 true = [exT16] := by kernel_rfl
theorem ex16_at : atTb [exT16] 8 0 = (4096, true) := by kernel_rfl
theorem row_one16 (w : World) : Row 1 numC (w.alloc (.cells #[.int .u64 4096] 41)) (w.heap.size + 1) (some ⟨w.heap.size, 0, none⟩) [4096] := lit_row num_oneT w 41 [4096]

set_option maxRecDepth 10000 in
set_option maxHeartbeats 1600000 in
theorem works16_any {w : World} (hs : Sz w) : Calls Tryd.prog 25 #[] w fun r w' => r = .returned (.bool true) ∧ Below w.heap.size w w' := by
  have hb1 : Below w.heap.size w (w.alloc (.cells #[.int .u64 4096] 41)) := (Below.refl _ _).alloc (Nat.le_refl _) _
  have HB1 := Lib.hid hb1
  have HS1 := Lib.hid (hs.below hb1 hs.pos)
  have P1 := Lib.hid (show Calls Tryd.prog 35 #[.bool false, .slice (some ⟨w.heap.size, 0, none⟩) 1 1] (w.alloc (.cells #[.int .u64 4096] 41)) fun r w' => ∃ A c, r = .returned (.tuple #[.slice A 16 c, .int .i64 0]) ∧ Rd w' w'.heap.size A exB16 ∧ Own w' w.heap.size (.slice A 16 c) exB16 ∧ Below (w.alloc (.cells #[.int .u64 4096] 41)).heap.size (w.alloc (.cells #[.int .u64 4096] 41)) w' from
    (puts_addrs (l := [4096]) false HS1.out (row_one16 w) (by simp) 1 (by decide) (by decide)).mono fun r w' ⟨u, e, ho, hb⟩ => by
      rw [ex16_put] at ho
      rw [ex16_err] at e
      obtain ⟨A, c, rfl, -, -, hrd⟩ := own_slice ho
      exact ⟨A, c, e, hrd, row_base ho hb1.size, hb⟩)
  have A1 := Lib.hid (fun (W : World) (A : Option Addr) (c : Nat) (hS : Sz W) (hr : Rd W W.heap.size A exB16) => (show Calls Tryd.prog 28 #[.slice A 16 c] W fun r w' => ∃ A2 c2 M, r = .returned (.tuple #[.slice A2 1 c2, .int .i64 0]) ∧ Tabs w' w'.heap.size A2 M ∧ M.length = 1 ∧ M.map TLay.x = [exT16] ∧ Below W.heap.size W w' from
    (tables_addrs hS c hr (Nat.le_refl _) (by decide)).mono fun r w' ⟨u, M, e, hM, ho, hb⟩ => by
      rw [ex16_allL] at hM
      rw [ex16_allE] at e
      have hl : M.length = 1 := by rw [← List.length_map (f := TLay.x), hM]; rfl
      obtain ⟨A', c', hu, -, -, hrow⟩ := ho.lies
      rw [hl] at hu
      subst hu
      exact ⟨A', c', M, e, hrow, hl, hM, hb⟩))
  have T1 := Lib.hid (fun (W : World) (A : Option Addr) (c : Nat) (M : List TLay) (h : Tabs W W.heap.size A M) (hl : M.length = 1) (hM : M.map TLay.x = [exT16]) => (show Calls Tryd.prog 31 #[.slice A 1 c, .int .u64 8, .int .u64 0] W fun r w' => r = .returned (.tuple #[.int .u64 4096, .bool true]) ∧ Below W.heap.size W w' from (by
    have hi : ∀ y ∈ M, y.x.items.length ≤ 1000000000 := fun y hy => by
      have : y.x ∈ M.map TLay.x := List.mem_map_of_mem hy
      rw [hM] at this
      rw [List.mem_singleton.1 this]
      decide
    have := at_tb h (Nat.le_refl _) c 8 0 (by omega) hi
    rw [hl, hM, ex16_at] at this
    exact this)))
  obtain ⟨s1, hs1⟩ : ∃ s : ByteArray, s = ⟨exB16.toArray⟩ := ⟨_, rfl⟩
  have E1 := Lib.hid hs1
  have q1 : (s1.toList == [12, 0, 0, 0, 5, 0, 8, 0, 0, 16, 0, 0, 0, 0, 0, 0]) = true := by rw [hs1, Lib.toList_data]; rfl
  clear hs hb1 hs1
  go_enter Tryd.func25, Tryd.ntmps25
  go_upto_region 2 with (go_at_call 35; refine P1.out.mono ?_; rintro r w1 ⟨A, c, rfl, hr, ho, hb⟩; have HR1 := Lib.hid hr; have HO1 := Lib.hid ho; have HS2 := Lib.hid (HS1.out.below hb HS1.out.pos); have HB2 := Lib.hid (HB1.out.trans (hb.mono HB1.out.size)); clear hr ho hb)
  go_upto_region 3 with (go_at_call 28; refine (A1.out _ _ _ HS2.out HR1.out).mono ?_; rintro r w2 ⟨A2, c2, M, rfl, hrow, hl, hM, hb⟩; have HRW := Lib.hid hrow; have HL := Lib.hid hl; have HM := Lib.hid hM; have HB3 := Lib.hid (HB2.out.trans (hb.mono HB2.out.size)); have HO3 := Lib.hid (own_below HO1.out hb); clear hrow hl hM hb)
  go_upto_region 4 with (go_at_call 31; refine (T1.out _ _ _ _ HRW.out HL.out HM.out).mono ?_; rintro r w3 ⟨rfl, hb⟩; have HB4 := Lib.hid (HB3.out.trans (hb.mono HB3.out.size)); have HO4 := Lib.hid (own_below HO3.out hb); clear hb)
  have cv : (convert 65 9 (.slice A 16 c)).run Tryd.prog w3 = .ok (.string s1) w3 := by rw [E1.out]; exact conv_own HO4.out
  go_wp2_with fail
  go_ret
  exact ⟨rfl, HB4.out⟩

set_option maxRecDepth 10000 in
set_option maxHeartbeats 3200000 in
theorem tputs16_walk (a0 : Bool) (a1 : Option Addr) (cap1 : Nat) (L : List Nat) (w : World) (hs : Sz w) (w1 : Row 1 numC w w.heap.size a1 L ∧ ∀ n ∈ L, n < two64) :
    Calls Tryd.prog 5 #[.bool a0, .slice a1 L.length cap1] w fun e w' => e = .returned (.bool true) ∧ Below w.heap.size w w' := by
  have HWK := Lib.hid (fun (W : World) (hb : Below w.heap.size w W) => works16_any (hs.below hb hs.pos))
  by_cases h5 : 1000 < L.length
  · have d : decide ((1000 : Int) < (L.length : Int)) = true := by simp; omega
    have d' : decide (1000 < L.length) = true := by simpa using h5
    clear h5 w1
    generalize L.length = N at *
    go_enter Tryd.func5, Tryd.ntmps5
    go_wp2_with (go_at_call 25; refine (HWK.out _ (Below.refl _ _)).mono ?_; rintro r w2 ⟨rfl, hb2⟩; have HB2 := Lib.hid hb2; clear hb2)
    go_ret
    exact ⟨rfl, HB2.out⟩
  have d : decide ((1000 : Int) < (L.length : Int)) = false := by simp; omega
  have d' : decide (1000 < L.length) = false := by simpa using h5
  have PS := Lib.hid (fun (W : World) (hb : Below w.heap.size w W) => puts_strs a0 (hs.below hb hs.pos) (w1.1.below hb) hb.size cap1 (by omega) w1.2)
  have PA := Lib.hid (fun (W : World) (hb : Below w.heap.size w W) => puts_addrs a0 (hs.below hb hs.pos) (w1.1.below hb) hb.size cap1 (by omega) w1.2)
  have RS := Lib.hid (fun (W : World) (hb : Below w.heap.size w W) => rput_tb a0 false (w1.1.below hb) hb.size cap1 (by omega) w1.2)
  have RA := Lib.hid (fun (W : World) (hb : Below w.heap.size w W) => rput_tb a0 true (w1.1.below hb) hb.size cap1 (by omega) w1.2)
  clear h5 w1 hs
  generalize putTbE false a0 L = E1 at *
  generalize putTbE true a0 L = E2 at *
  generalize putTbB false a0 L = B1 at *
  generalize putTbB true a0 L = B2 at *
  generalize L.length = N at *
  obtain ⟨s1, hs1⟩ : ∃ s : ByteArray, s = ⟨B1.toArray⟩ := ⟨_, rfl⟩
  obtain ⟨s2, hs2⟩ : ∃ s : ByteArray, s = ⟨B2.toArray⟩ := ⟨_, rfl⟩
  have ES1 := Lib.hid hs1
  have ES2 := Lib.hid hs2
  clear hs1 hs2
  have q1 : (s1.toList == s1.toList) = true := by simp
  have q2 : (s2.toList == s2.toList) = true := by simp
  have q3 : (E1 == E1) = true := by simp
  have q4 : (E2 == E2) = true := by simp
  go_enter Tryd.func5, Tryd.ntmps5
  go_upto_region 4 with (go_at_call 33; refine (PS.out _ (Below.refl _ _)).mono ?_; rintro r w2 ⟨u2, rfl, ho, hb⟩; have HO2 := Lib.hid ho; have HB2 := Lib.hid hb; clear ho hb)
  go_upto_region 5 with (go_at_call 34; refine (RS.out _ HB2.out).mono ?_; rintro r w3 ⟨u3, rfl, ho, hb⟩; have HO3 := Lib.hid ho; have HO23 := Lib.hid (own_below HO2.out hb); have HB3 := Lib.hid (HB2.out.trans (hb.mono HB2.out.size)); clear ho hb)
  go_upto_region 6 with (go_at_call 35; refine (PA.out _ HB3.out).mono ?_; rintro r w4 ⟨u4, rfl, ho, hb⟩; have HO4 := Lib.hid ho; have HO24 := Lib.hid (own_below HO23.out hb); have HO34 := Lib.hid (own_below HO3.out hb); have HB4 := Lib.hid (HB3.out.trans (hb.mono HB3.out.size)); clear ho hb)
  go_upto_region 7 with (go_at_call 34; refine (RA.out _ HB4.out).mono ?_; rintro r w5 ⟨u5, rfl, ho, hb⟩; have HO5 := Lib.hid ho; have HO25 := Lib.hid (own_below HO24.out hb); have HO35 := Lib.hid (own_below HO34.out hb); have HO45 := Lib.hid (own_below HO4.out hb); have HB5 := Lib.hid (HB4.out.trans (hb.mono HB4.out.size)); clear ho hb)
  obtain ⟨A2, c2, hv2, -, -, -⟩ := own_slice HO25.out
  obtain ⟨A3, c3, hv3, -, -, -⟩ := own_slice HO35.out
  obtain ⟨A4, c4, hv4, -, -, -⟩ := own_slice HO45.out
  obtain ⟨A5, c5, hv5, -, -, -⟩ := own_slice HO5.out
  generalize B1.length = n1 at *
  generalize B2.length = n2 at *
  subst hv2 hv3 hv4 hv5
  have KS := Lib.hid (fun (W : World) (hb : Below w5.heap.size w5 W) => (by
    refine ⟨?_, ?_, ?_, ?_⟩
    · have := conv_own (own_below HO25.out hb); rw [← ES1.out] at this; exact this
    · have := conv_own (own_below HO35.out hb); rw [← ES1.out] at this; exact this
    · have := conv_own (own_below HO45.out hb); rw [← ES2.out] at this; exact this
    · have := conv_own (own_below HO5.out hb); rw [← ES2.out] at this; exact this : (convert 65 9 (.slice A2 n1 c2)).run Tryd.prog W = .ok (.string s1) W ∧ (convert 65 9 (.slice A3 n1 c3)).run Tryd.prog W = .ok (.string s1) W ∧ (convert 65 9 (.slice A4 n2 c4)).run Tryd.prog W = .ok (.string s2) W ∧ (convert 65 9 (.slice A5 n2 c5)).run Tryd.prog W = .ok (.string s2) W))
  obtain ⟨k1, k2, k3, k4⟩ := KS.out w5 (Below.refl _ _)
  go_wp2_with (go_at_call 25; refine (HWK.out _ HB5.out).mono ?_; rintro r w6 ⟨rfl, hb⟩; have HB6 := Lib.hid (HB5.out.trans (hb.mono HB5.out.size)); clear hb)
  go_ret
  exact ⟨rfl, HB6.out⟩

end Go.Proofs.YtpmpgfngogdfhaaDoor
