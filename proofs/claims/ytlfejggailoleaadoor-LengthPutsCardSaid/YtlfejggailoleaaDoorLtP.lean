/-
  The walk of LengthPuts: what a length is put as, in either form, behind any bytes, or why it is not, is as the document has it.
-/
import Derived.Test.YtlfejggailoleaaDoorLtW
import Derived.Test.YtlfejggailoleaaDoorLawC
namespace Go.Proofs.YtlfejggailoleaaDoor
open Go Go.RowKit

set_option maxHeartbeats 4000000 in
set_option maxRecDepth 10000 in
theorem lnputs_walk (a0 : Option Addr) (len0 cap0 : Nat) (z0 : List Int) (a1 : Int) (wide : Bool) (w : World) (hs : Sz w) (w0 : IsRow .u8 w a0 len0 cap0 z0) (w1 : (Lit.int .u64 a1).wf = true) :
    Calls Tryd.prog 4 #[.slice a0 len0 cap0, .int .u64 a1, .bool wide] w fun e w' => e = .returned (.bool true) ∧ Below w.heap.size w w' := by
  obtain ⟨l, hlen, hrd, hlc, hcm⟩ := row_bytes w0
  obtain ⟨x, rfl, hx⟩ := nat_of_u64 w1
  clear w0 w1
  obtain ⟨i0, hi, hz0, hz1, hz2⟩ := info_parts u8_info
  have hW := Lib.hid (fun (W : World) (hb : Below w.heap.size w W) => works_len (hs.below hb hs.pos))
  by_cases hbig : 3000 < len0
  · have hd : decide ((3000 : Int) < (len0 : Int)) = true := by simp; omega
    clear hs
    go_enter Tryd.func4, Tryd.ntmps4
    go_wp2_with (go_at_call 7; refine (hW.out _ (Below.refl _ _)).mono ?_; rintro r w1 ⟨rfl, hb1⟩)
    go_ret
    exact ⟨rfl, hb1⟩
  · have hd : decide ((3000 : Int) < (len0 : Int)) = false := by simp; omega
    obtain ⟨sA, hsA⟩ : ∃ s : ByteArray, s = ⟨l.toArray⟩ := ⟨_, rfl⟩
    obtain ⟨sM, hsM⟩ : ∃ s : ByteArray, s = ⟨(lenB x wide).toArray⟩ := ⟨_, rfl⟩
    obtain ⟨sP, hsP⟩ : ∃ s : ByteArray, s = ⟨([] ++ l ++ lenB x wide).toArray⟩ := ⟨_, rfl⟩
    have hno : ¬ (9223372036854775807 < sA.size + sM.size) := by
      have := lenB_le x wide
      subst hsA hsM
      simp [ByteArray.size]; omega
    have heq : (sP.toList == (sA ++ sM).toList) = true := by
      subst hsA hsM hsP
      simp [ByteArray.mk_append_mk]
    have EA := Lib.hid (fun (W : World) (hW : Below w.heap.size w W) => (show (convert 22 9 (.slice a0 len0 cap0)).run Tryd.prog W = .ok (.string sA) W by rw [← hlen, hsA]; exact conv_rd (hrd.below hW) cap0))
    have EM := Lib.hid hsM
    have EP := Lib.hid hsP
    have HR := Lib.hid (fun (W : World) (hW : Below w.heap.size w W) => hrd.below hW)
    have hsum : ([] : List UInt8).length + l.length ≤ 140737488355328 := by simp; omega
    have HL := Lib.hid hlen
    have hP := Lib.hid (fun (W : World) (v : Value) (hb : Below w.heap.size w W) (hv : Own W w.heap.size v ([] ++ l)) => put_len (hs.below hb hs.pos) hv hs.pos hb.size x wide (by simp; omega))
    have hQ := Lib.hid (fun (W : World) => rput_len W x hx wide)
    have hO := Lib.hid (fun (W : World) (hb : Below w.heap.size w W) => off_len wide (hs.below hb hs.pos))
    have hO' := Lib.hid (fun (W : World) => roff_len wide W)
    have hb0 := (Below.refl w.heap.size w).alloc (Nat.le_refl _) (.cells #[] 5)
    clear hlen hrd hx hsA hsM hsP hs hbig
    have hq : ∀ i : Int, (i == i) = true := fun i => by simp
    generalize lenE x wide = ee at *
    generalize lenO wide = oo at *
    go_enter Tryd.func4, Tryd.ntmps4
    go_wp2_with (first
      | (at_builtin; refine wpList_append_bytes (by rfl) (.tmp 16) (.tmp 17) _ (by rfl) w.heap.size i0 Tryd.underlying22 hi hz0 hz1 hz2 (.slice (some ⟨w.heap.size, 0, none⟩) 0 0) [] (by rfl) (by exact own_new w) w.heap.size a0 len0 cap0 l HL.out (by rfl) (HR.out _ hb0) hsum hb0.size ?_; intro v1 w1 hown1 hg1 hat1; have hb1 := hb0.grown hg1 hb0.size (by simp [Value.ownBlock]); clear hg1 hat1)
      | (go_at_call 19; refine (hP.out _ _ hb1 hown1).mono ?_; rintro r w2 ⟨v2, rfl, hL2⟩; have hb2 := below_laid hb1 hown1 hL2)
      | (go_at_call 20; refine (hQ.out _).mono ?_; rintro r w3 ⟨v3, rfl, hown3, hb3⟩; have hb4 := hb2.trans (hb3.mono hb2.size); have hc3 := conv_as EM.out (conv_own hown3); have hc4 := conv_as EP.out (conv_own (own_below hL2.1 hb3)); have hc5 := EA.out _ hb4)
      | (go_at_call 21; refine (hO.out _ hb4).mono ?_; rintro r w5 ⟨rfl, rfl⟩)
      | (go_at_call 22; refine (hO'.out _).mono ?_; rintro r w5 ⟨rfl, rfl⟩)
      | (go_at_call 7; refine (hW.out _ hb4).mono ?_; rintro r w5 ⟨rfl, hb5⟩; have hb6 := hb4.trans (hb5.mono hb4.size)))
    go_ret
    exact ⟨rfl, hb6⟩

end Go.Proofs.YtlfejggailoleaaDoor
