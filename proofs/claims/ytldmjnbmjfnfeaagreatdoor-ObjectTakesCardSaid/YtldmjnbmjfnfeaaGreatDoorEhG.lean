/-
  Put of package elfhead: a header's bytes.
-/
import Derived.Test.YtldmjnbmjfnfeaaGreatDoorEhC
import Derived.Test.YtldmjnbmjfnfeaaGreatDoorEhA
import Derived.Test.YtldmjnbmjfnfeaaGreatDoorZeros
import Derived.Test.YtldmjnbmjfnfeaaGreatDoorCsL
namespace Go.Proofs.YtldmjnbmjfnfeaaGreatDoor
open Go Go.RowKit

/-- A number of type int as one without a sign. -/
def wrapN (t : Int) : Nat := (IntKind.u64.wrap t).toNat
theorem wrapN_eq (t : Int) : IntKind.u64.wrap t = (wrapN t : Int) := by unfold wrapN; rw [IntKind.wrap_u64]; omega

/-- A header's numbers, with how many bytes each has. -/
def itsT (t m : Nat) (o : Nat) (n s : Nat) : List (Nat × Nat) := [(t, 2), (m, 2), (1, 4), (0, 8), (0, 8), (o, 8), (0, 4), (64, 2), (0, 2), (0, 2), (64, 2), (n, 2), (s, 2)]
def itsB (l : List (Nat × Nat)) : List UInt8 := l.flatMap fun x => leBytes x.1 x.2
def itsV (l : List (Nat × Nat)) : List Value := l.flatMap fun x => [Value.int .u64 (x.1 : Int), Value.int .i64 (x.2 : Int)]
/-- A header's bytes. -/
def headB (t m : Int) (o : Nat) (n s : Int) : List UInt8 := magB ++ List.replicate 9 0 ++ itsB (itsT (wrapN t) (wrapN m) o (wrapN n) (wrapN s))

theorem itsV_at : ∀ (l : List (Nat × Nat)) (k x s : Nat), l[k]? = some (x, s) → (itsV l)[k * 2]? = some (.int .u64 (x : Int)) ∧ (itsV l)[k * 2 + 1]? = some (.int .i64 (s : Int))
  | [], _, _, _, h => by simp at h
  | y :: r, 0, x, s, h => by
    simp at h
    subst h
    exact ⟨rfl, rfl⟩
  | y :: r, k + 1, x, s, h => by
    have := itsV_at r k x s (by simpa using h)
    have e : itsV (y :: r) = Value.int .u64 (y.1 : Int) :: Value.int .i64 (y.2 : Int) :: itsV r := rfl
    rw [e, show (k + 1) * 2 = k * 2 + 1 + 1 by omega]
    simpa using this
theorem itsB_step (l : List (Nat × Nat)) (k x s : Nat) (h : l[k]? = some (x, s)) : itsB (l.take (k + 1)) = itsB (l.take k) ++ leBytes x s := by
  unfold itsB
  rw [List.take_add_one, h]
  simp

theorem itsB_le : ∀ (l : List (Nat × Nat)) (k : Nat), (∀ x ∈ l, x.2 ≤ 8) → (itsB (l.take k)).length ≤ 8 * l.length
  | [], k, _ => by simp [itsB]
  | y :: r, 0, _ => by simp [itsB]
  | y :: r, k + 1, h => by
    have := itsB_le r k (fun x hx => h x (by simp [hx]))
    have h2 := h y (by simp)
    simp only [itsB, List.take_succ_cons, List.flatMap_cons, List.length_append, leBytes_length, List.length_cons] at this ⊢
    omega

abbrev magV : Value := .agg #[.int .u8 127, .int .u8 69, .int .u8 76, .int .u8 70, .int .u8 2, .int .u8 1, .int .u8 1]
theorem idx_mag (k : Nat) (hk : k < 7) : ∃ b : UInt8, magB[k]? = some b ∧ ∀ W, (Instr.index 148 magV (.int .i64 (k : Int))).run Tryz.prog W = .ok (.int .u8 (b.toNat : Int)) W := by
  have h7 : k = 0 ∨ k = 1 ∨ k = 2 ∨ k = 3 ∨ k = 4 ∨ k = 5 ∨ k = 6 := by omega
  obtain ⟨i, hi, _, hs, _⟩ := info_parts u8_info
  rcases h7 with rfl | rfl | rfl | rfl | rfl | rfl | rfl
  · exact ⟨127, rfl, fun W => by simp [Instr.index, run_underlying Tryz.underlying148, asIntOf, part, isAgg, run_underlying Tryz.underlying5, sizeOf, typeInfo, hi, hs]⟩
  · exact ⟨69, rfl, fun W => by simp [Instr.index, run_underlying Tryz.underlying148, asIntOf, part, isAgg, run_underlying Tryz.underlying5, sizeOf, typeInfo, hi, hs]⟩
  · exact ⟨76, rfl, fun W => by simp [Instr.index, run_underlying Tryz.underlying148, asIntOf, part, isAgg, run_underlying Tryz.underlying5, sizeOf, typeInfo, hi, hs]⟩
  · exact ⟨70, rfl, fun W => by simp [Instr.index, run_underlying Tryz.underlying148, asIntOf, part, isAgg, run_underlying Tryz.underlying5, sizeOf, typeInfo, hi, hs]⟩
  · exact ⟨2, rfl, fun W => by simp [Instr.index, run_underlying Tryz.underlying148, asIntOf, part, isAgg, run_underlying Tryz.underlying5, sizeOf, typeInfo, hi, hs]⟩
  · exact ⟨1, rfl, fun W => by simp [Instr.index, run_underlying Tryz.underlying148, asIntOf, part, isAgg, run_underlying Tryz.underlying5, sizeOf, typeInfo, hi, hs]⟩
  · exact ⟨1, rfl, fun W => by simp [Instr.index, run_underlying Tryz.underlying148, asIntOf, part, isAgg, run_underlying Tryz.underlying5, sizeOf, typeInfo, hi, hs]⟩

theorem mag_take (k : Nat) (b : UInt8) (h : magB[k]? = some b) : magB.take (k + 1) = magB.take k ++ [b] := by
  rw [List.take_add_one, h]
  rfl
theorem mag_all (k : Nat) (h : k = 7) : magB.take k = magB := by subst h; rfl
theorem laid_step {w wr w0 w1 : World} {base : Nat} {v v1 : Value} {l l1 : List UInt8} (hB : Below base w wr) (hO : Own wr base v l) (hb : Below wr.heap.size wr w0) (hbw : base ≤ w.heap.size) (_h1 : Own w1 base v1 l1) (hg : w0.grownBy w1 v.ownBlock) : Below base w w1 :=
  (hB.trans (hb.mono (Nat.le_trans hbw hB.size))).grown hg (Nat.le_trans hbw (Nat.le_trans hB.size hb.size)) (fun k hk => (own_ge hO k hk).1)

set_option maxHeartbeats 1600000 in
set_option maxRecDepth 10000 in
theorem puth_any (t m : Int) (o : Nat) (n s : Int) {w : World} (hM : Mg w) :
    Calls Tryz.prog 65 #[hdV t m o n s] w fun r w' => ∃ v', r = .returned v' ∧ Own w' w.heap.size v' (headB t m o n s) ∧ Below w.heap.size w w' := by
  obtain ⟨i0, hi, hz0, hz1, hz2⟩ := info_parts u8_info
  have e0 := wrapN_eq t
  have e1 := wrapN_eq m
  have e3 := wrapN_eq n
  have e4 := wrapN_eq s
  have HH := Lib.hid (show headB t m o n s = magB ++ List.replicate 9 0 ++ itsB (itsT (wrapN t) (wrapN m) o (wrapN n) (wrapN s)) from rfl)
  generalize headB t m o n s = hbs at *
  generalize wrapN t = t' at *
  generalize wrapN m = m' at *
  generalize wrapN n = n' at *
  generalize wrapN s = s' at *
  have hb1 : Below w.heap.size w (w.alloc (.cells #[.int .i64 t, .int .i64 m, .int .u64 (o : Int), .int .i64 n, .int .i64 s] 55)) := (Below.refl _ _).alloc (Nat.le_refl _) _
  have hM1 := hM.alloc (.cells #[.int .i64 t, .int .i64 m, .int .u64 (o : Int), .int .i64 n, .int .i64 s] 55)
  have hpos := hM.pos
  have HX := Lib.hid (Box.new w 55 #[.int .i64 t, .int .i64 m, .int .u64 (o : Int), .int .i64 n, .int .i64 s])
  go_enter Tryz.func65, Tryz.ntmps65
  go_wp2_with (at_make; refine wpList_make_own _ rfl _ _ 22 rfl w.heap.size 5 i0 (.int .u8 0) 1 Tryz.underlying22 hi hz0 hz1 .i64 .i64 64 64 rfl rfl rfl (by rw [hz2]; decide) (by unfold maxLen; decide) (by simp) ?_; intro w1 hown1 hg1; have hM2 := hM1.grown hg1 (by simp); have hB2 := hb1.grown hg1 (by simp) (by simp); have HX2 := Lib.hid (HX.out.grown hg1 (by simp)); have m0 := hM2 0 127 rfl; have m1 := hM2 1 69 rfl; have m2 := hM2 2 76 rfl; have m3 := hM2 3 70 rfl; have m4 := hM2 4 2 rfl; have m5 := hM2 5 1 rfl; have m6 := hM2 6 1 rfl; simp at m0 m1 m2 m3 m4 m5 m6; clear hM2)
  go_loopw [3, 10] (fun u i wr => ∃ k : Nat, k ≤ 7 ∧ i = .int .i64 k ∧ Own wr w.heap.size u (magB.take k) ∧ Below w.heap.size w wr ∧ Box wr w.heap.size 55 #[.int .i64 t, .int .i64 m, .int .u64 (o : Int), .int .i64 n, .int .i64 s]) (fun _ i _ => 7 - (intOf i).toNat)
  case atStart => exact ⟨0, by omega, rfl, by simpa [Own, u8s] using hown1, hB2, HX2.out⟩
  case round =>
    obtain ⟨k, hk, rfl, hO, hB, hX⟩ := hrel
    have HO := Lib.hid hO
    have HB := Lib.hid hB
    have HX3 := Lib.hid hX
    clear hO hB hX hown1 hB2 HX2
    by_cases hlt : k < 7
    · obtain ⟨b, hkb, hix⟩ := idx_mag k hlt
      have HK := Lib.hid (mag_take k b hkb)
      have hlen : (magB.take k).length ≤ 7 := by simp [magB]; omega
      have hsum : (magB.take k).length + [b].length ≤ 140737488355328 := by simp only [List.length_singleton]; omega
      have HR := Lib.hid (rd_one wr (b.toNat : Int) b rfl)
      have hbs1 : w.heap.size ≤ (wr.alloc (.cells #[.int .u8 (b.toNat : Int)] 5)).heap.size := by have := HB.out.size; simp; omega
      clear hkb hlen
      go_wp2_with (at_builtin; refine wpList_append_bytes (by rfl) (.tmp 13) (.tmp 15) _ (by rfl) w.heap.size i0 Tryz.underlying22 hi hz0 hz1 hz2 u3 (magB.take k) (by rfl) (HO.out.alloc _) (wr.heap.size + 1) (some ⟨wr.heap.size, 0, none⟩) 1 1 [b] rfl (by rfl) HR.out hsum hbs1 ?_; intro v1 w2 hown2 hg2 hat2)
      have hb0 := (Below.refl wr.heap.size wr).alloc (Nat.le_refl _) (.cells #[.int .u8 (b.toNat : Int)] 5)
      have HB4 := Lib.hid (laid_step HB.out HO.out hb0 (Nat.le_refl _) hown2 hg2)
      have HX4 := Lib.hid ((HX3.out.below hb0 HX3.out.lt).grown hg2 (by have := own_other HO.out HX3.out (by decide); exact fun e => this e.symm))
      have HO4 := Lib.hid hown2
      clear hown2 hg2 hat2 hb0 HB HX3 HO
      go_roundw
      case rel => exact ⟨k + 1, by omega, by go_num, by rw [HK.out]; exact HO4.out, HB4.out, HX4.out⟩
      case measure => simp [intOf]; omega
    · have HO5 := Lib.hid (show Own wr w.heap.size u3 magB by have := HO.out; rwa [mag_all k (by omega)] at this)
      clear HO
      generalize hwx : wr = wx at *
      clear hwx
      have hsz : magB.length + 9 ≤ 140737488355328 := by decide
      have hbx : w.heap.size ≤ wx.heap.size := HB.out.size
      go_wp2_with (at_builtin; refine wpList_append_zeros (by rfl) (.tmp 18) _ _ _ (by rfl) w.heap.size i0 .i64 .i64 Tryz.underlying22 Tryz.underlying3 hi hz0 hz1 hz2 u3 magB (by rfl) HO5.out 9 9 (by rfl) (by decide) (by decide) hsz hbx ?_; intro v6 w6 hown6 hg6 hat6 hold6; have HX6 := Lib.hid (HX3.out.grown hg6 (by have := own_other HO5.out HX3.out (by decide); exact fun e => this e.symm)); have HO6 := Lib.hid hown6; have HB6 := Lib.hid (laid_step HB.out HO5.out (Below.refl _ _) (Nat.le_refl _) hown6 hg6); clear hown6 hg6 hat6 hold6 hsz hbx HO5 HB HX3; have x0 := HX6.out.cell 0; have x1 := HX6.out.cell 1; have x2 := HX6.out.cell 2; have x3 := HX6.out.cell 3; have x4 := HX6.out.cell 4; simp at x0 x1 x2 x3 x4)
      have HBX := Lib.hid (show Box (w6.alloc (.cells (itsV (itsT t' m' o n' s')).toArray 182)) w6.heap.size 182 (itsV (itsT t' m' o n' s')).toArray from Box.new _ _ _)
      clear x0 x1 x2 x3 x4 HX6 hlt
      go_loopw [3, 49] (fun u i wr => ∃ k : Nat, k ≤ 13 ∧ i = .int .i64 k ∧ Own wr w.heap.size u (magB ++ List.replicate 9 0 ++ itsB ((itsT t' m' o n' s').take k)) ∧ Below w.heap.size w wr ∧ Box wr w6.heap.size 182 (itsV (itsT t' m' o n' s')).toArray) (fun _ i _ => 13 - (intOf i).toNat)
      case atStart => exact ⟨0, by omega, rfl, by rw [List.take_zero, show itsB [] = [] from rfl, List.append_nil]; exact HO6.out.alloc (.cells (itsV (itsT t' m' o n' s')).toArray 182), HB6.out.alloc HB6.out.size _, HBX.out⟩
      case round =>
        obtain ⟨j, hj, rfl, hO, hB, hX⟩ := hrel
        have HO := Lib.hid hO
        have HB := Lib.hid hB
        have HX := Lib.hid hX
        clear hO hB hX HBX HO6 HB6
        by_cases hlt : j < 13
        · obtain ⟨x, q, hxq⟩ : ∃ x q, (itsT t' m' o n' s')[j]? = some (x, q) := ⟨_, _, List.getElem?_eq_getElem (show j < (itsT t' m' o n' s').length from hlt)⟩
          obtain ⟨hd0, hd1⟩ := itsV_at _ j x q hxq
          have HS := Lib.hid (itsB_step _ j x q hxq)
          have hq : q ≤ 8 := by
            have hall : ∀ y ∈ itsT t' m' o n' s', y.2 ≤ 8 := by simp [itsT]
            exact hall _ (List.mem_of_getElem? hxq)
          have hlen := itsB_le (itsT t' m' o n' s') j (by simp [itsT])
          have hlen2 : (magB ++ List.replicate 9 0 ++ itsB ((itsT t' m' o n' s').take j)).length ≤ 140737488355000 := by
            have : (itsT t' m' o n' s').length = 13 := rfl
            have h7 : magB.length = 7 := rfl
            simp only [List.length_append, List.length_replicate]
            omega
          have d0 : wr.cell? ⟨w6.heap.size, j * 2, none⟩ = some (.int .u64 (x : Int)) := by rw [HX.out.cell]; simpa using hd0
          have d1 : wr.cell? ⟨w6.heap.size, j * 2 + 1, none⟩ = some (.int .i64 (q : Int)) := by rw [HX.out.cell]; simpa using hd1
          have hclamp : clampOf (q : Int) = q := by unfold clampOf; omega
          have hb0 : Below wr.heap.size wr (wr.alloc (.cells #[.int .u64 (x : Int), .int .i64 (q : Int)] 182)) := (Below.refl _ _).alloc (Nat.le_refl _) _
          have hP := put_any (HO.out.alloc (.cells #[.int .u64 (x : Int), .int .i64 (q : Int)] 182)) (Nat.le_trans HB.out.size hb0.size) x q (by omega) hlen2
          rw [hclamp] at hP
          have HP := Lib.hid hP
          have hGl := HX.out.lt
          have HB0 := Lib.hid hb0
          clear hd0 hd1 hxq hlen hlen2 hclamp hP hb0 hq
          go_wp2_with (go_at_call 63; refine HP.out.mono ?_; rintro r w7 ⟨v7, rfl, hL⟩)
          have HO7 := Lib.hid hL.1
          have HB7 := Lib.hid (laid_step HB.out HO.out HB0.out (Nat.le_refl _) hL.1 hL.2.1)
          have HX7 := Lib.hid ((HX.out.below HB0.out HX.out.lt).grown hL.2.1 (by have := own_other HO.out HX.out (by decide); exact fun e => this e.symm))
          clear hL HP HO HB HX HB0 d0 d1
          go_roundw
          case rel => exact ⟨j + 1, by omega, by go_num, by rw [HS.out, ← List.append_assoc]; exact HO7.out, HB7.out, HX7.out⟩
          case measure => simp [intOf]; omega
        · have HO7 := Lib.hid (show Own wr w.heap.size u3 hbs by
            have := HO.out
            rw [show j = 13 by omega] at this
            rw [HH.out]
            exact this)
          clear HO HX
          go_wp2
          go_ret
          exact ⟨_, rfl, HO7.out, HB.out⟩

end Go.Proofs.YtldmjnbmjfnfeaaGreatDoor
