/-
  The walk of ElfheadTakes: which header any bytes begin with, or why none, is as the document has it.
-/
import Derived.Test.YtggakhdejkejgaaDoorEhW
import Derived.Test.YtggakhdejkejgaaDoorEhF
namespace Go.Proofs.YtggakhdejkejgaaDoor
open Go Go.RowKit

/-- A header that Take tells is one of five numbers. -/
theorem takeH_is (l : List UInt8) : ∃ (t m : Int) (o : Nat) (n s : Int), takeH l = hdV t m o n s := by
  unfold takeH
  split
  · exact ⟨_, _, _, _, _, rfl⟩
  · exact ⟨0, 0, 0, 0, 0, rfl⟩

set_option maxHeartbeats 4000000 in
set_option maxRecDepth 10000 in
theorem ehtakes_walk (a0 : Option Addr) (len0 cap0 : Nat) (z0 : List Int) (w : World) (hM : Mg w) (w0 : IsRow .u8 w a0 len0 cap0 z0) (hreach : cap0 ≤ 140737488351232) :
    Calls Tryd.prog 3 #[.slice a0 len0 cap0] w fun e w' => e = .returned (.bool true) ∧ Below w.heap.size w w' := by
  obtain ⟨l, hlen, hrd, hlc, hcm⟩ := row_bytes w0
  clear w0
  subst hlen
  obtain ⟨i0, hi, hz0, hz1, hz2⟩ := info_parts u8_info
  have hl : l.length ≤ 140737488355328 := by omega
  obtain ⟨t, m, o, n, s, hH⟩ := takeH_is l
  have hpos := hM.pos
  have hsum : ([] : List UInt8).length + l.length ≤ 140737488355328 := by simpa using hl
  have hb0 := (Below.refl w.heap.size w).alloc (Nat.le_refl _) (.cells #[] 5)
  have HR := Lib.hid hrd
  have HT := Lib.hid (fun W A c (hr : Rd W W.heap.size A l) (hc : l.length ≤ c) (hM : Mg W) => take_any hr (Nat.le_refl _) c hc hM hl)
  have HT2 := Lib.hid (fun W (hW : Below w.heap.size w W) => rtake_any (hrd.below hW) hW.size cap0 hlc hl)
  have HW := Lib.hid (fun W (hW : Below w.heap.size w W) => ehworks_any (hM.below hW hpos))
  have HM := Lib.hid (fun W (hW : Below w.heap.size w W) => hM.below hW hpos)
  obtain ⟨sX, hsX⟩ : ∃ s : ByteArray, s = ⟨l.toArray⟩ := ⟨_, rfl⟩
  have HS := Lib.hid hsX
  rw [hH] at HT HT2
  clear hrd hl hH hM hpos hsX hlc hcm hreach
  generalize takeE l = e at *
  go_enter Tryd.func3, Tryd.ntmps3
  go_wp2_with (at_builtin; refine wpList_append_bytes (by rfl) (.tmp 8) (.tmp 9) _ (by rfl) w.heap.size i0 Tryd.underlying22 hi hz0 hz1 hz2 (.slice (some ⟨w.heap.size, 0, none⟩) 0 0) [] (by rfl) (by exact own_new w) w.heap.size a0 l.length cap0 l rfl (by rfl) (HR.out.below hb0) hsum hb0.size ?_; intro v1 w1 hown1 hg1 hat1; have HB1 := Lib.hid (hb0.grown hg1 hb0.size (by simp [Value.ownBlock])); rw [List.nil_append] at hown1; (obtain ⟨A1, c1, rfl, hlc1, _, hrd1⟩ := own_slice hown1); have HR1 := Lib.hid hrd1; have HL1 := Lib.hid hlc1; clear hg1 hat1 hown1 hrd1 hlc1 hsum hb0)
  refine (HT.out _ _ _ HR1.out HL1.out (HM.out _ HB1.out)).mono ?_
  rintro r w2 ⟨rfl, hb2⟩
  have HB2 := Lib.hid (HB1.out.trans (hb2.mono HB1.out.size))
  have HR2 := Lib.hid (HR1.out.below hb2)
  have HZ2 := Lib.hid hb2.size
  clear HT HM HB1 HR1 hb2
  go_wp2_with fail
  have HB3 := Lib.hid (HB2.out.alloc HB2.out.size (.cells #[.int .i64 t, .int .i64 m, .int .u64 (o : Int), .int .i64 n, .int .i64 s] 25))
  refine (HT2.out _ HB3.out).mono ?_
  rintro r w4 ⟨rfl, hb4⟩
  have HB4 := Lib.hid (HB3.out.trans (hb4.mono HB3.out.size))
  have hX4 := (Box.new w2 25 #[.int .i64 t, .int .i64 m, .int .u64 (o : Int), .int .i64 n, .int .i64 s]).below hb4 (by simp)
  have hR4 : Rd w4 w1.heap.size A1 l := (HR2.out.alloc HZ2.out (.cells #[.int .i64 t, .int .i64 m, .int .u64 (o : Int), .int .i64 n, .int .i64 s] 25)).keep fun p hp => hb4.cell (by have := HZ2.out; simp; omega)
  have hlt : w2.heap.size < w4.heap.size := hX4.lt
  have x0 := hX4.cell 0
  have x1 := hX4.cell 1
  have x2 := hX4.cell 2
  have x3 := hX4.cell 3
  have x4 := hX4.cell 4
  simp at x0 x1 x2 x3 x4
  have hc1 : ∀ o1, (convert 22 9 (.slice A1 l.length c1)).run Tryd.prog (w4.alloc o1) = .ok (.string sX) (w4.alloc o1) := fun o1 => by
    have h := conv_rd (hR4.alloc (by have := HZ2.out; omega) o1) c1
    rw [← HS.out] at h
    exact h
  have hc2 : ∀ o1, (convert 22 9 (.slice a0 l.length cap0)).run Tryd.prog (w4.alloc o1) = .ok (.string sX) (w4.alloc o1) := fun o1 => by
    have h := conv_rd (HR.out.below (HB4.out.alloc HB4.out.size o1)) cap0
    rw [← HS.out] at h
    exact h
  have HB5 := Lib.hid (HB4.out.alloc HB4.out.size (.cells #[.int .i64 t, .int .i64 m, .int .u64 (o : Int), .int .i64 n, .int .i64 s] 29))
  clear hX4 hR4 hb4 HB2 HB3 HT2 HR2 HZ2 HR
  generalize l.length = N at *
  go_wp2_with fail
  refine (HW.out _ HB5.out).mono ?_
  rintro r w6 ⟨rfl, hb6⟩
  go_wp2
  go_ret
  exact ⟨rfl, HB5.out.trans (hb6.mono HB5.out.size)⟩

end Go.Proofs.YtggakhdejkejgaaDoor
