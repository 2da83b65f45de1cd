/-
  The walk of ElfheadBack: a header that may be is taken as it was, whatever stands behind it, and whatever stands in the bytes that are not looked at.
-/
import Derived.Test.YtggakhdejkejgaaDoorEhL
import Derived.Test.YtggakhdejkejgaaDoorEhW
namespace Go.Proofs.YtggakhdejkejgaaDoor
open Go Go.RowKit

abbrev hcs (t m : Int) (o : Nat) (n s : Int) : Array Value := #[.int .i64 t, .int .i64 m, .int .u64 (o : Int), .int .i64 n, .int .i64 s]

theorem own_low {w : World} {b b' : Nat} {v : Value} {l : List UInt8} (hb : b' ≤ b) (h : Own w b v l) : Own w b' v l :=
  ⟨h.1, h.2.imp id fun ⟨g, cap, cur, a, hg, x⟩ => ⟨g, cap, cur, a, Nat.le_trans hb hg, x⟩⟩
theorem own_store' {w : World} {base g L c : Nat} {l : List UInt8} (h : Own w base (.slice (some ⟨g, 0, none⟩) L c) l) (i : Nat) (hi : i < l.length) :
    ∃ u, w.cell? ⟨g, i, none⟩ = some u ∧ w.frozen? ⟨g, i, none⟩ = false ∧ base ≤ g ∧ ∀ b : UInt8, Own (w.setCell ⟨g, i, none⟩ (.int .u8 (b.toNat : Int))) base (.slice (some ⟨g, 0, none⟩) L c) (l.set i b) := by
  obtain ⟨g', c', u, hv, hb, h1, h2, h3⟩ := own_store h i hi
  injection hv with e1 e2 e3
  injection e1 with e1
  injection e1 with e1
  subst e1 e2 e3
  refine ⟨u, h1, h2, hb, fun b => ?_⟩
  have := h3 b
  exact this

set_option maxHeartbeats 8000000 in
set_option maxRecDepth 10000 in
theorem ehback_walk (t m o0 n s : Int) (a1 : Option Addr) (len1 cap1 : Nat) (z1 : List Int) (a2 : Option Addr) (len2 cap2 : Nat) (z2 : List Int) (w : World) (hM : Mg w) (w0 : (Lit.int .u64 o0).wf = true) (w1 : IsRow .u8 w a1 len1 cap1 z1) (w2 : IsRow .u8 w a2 len2 cap2 z2) :
    Calls Tryd.prog 5 #[.agg #[.int .i64 t, .int .i64 m, .int .u64 o0, .int .i64 n, .int .i64 s], .slice a1 len1 cap1, .slice a2 len2 cap2] w fun e w' => e = .returned (.bool true) ∧ Below w.heap.size w w' := by
  obtain ⟨o, rfl, ho⟩ := nat_of_u64 w0
  obtain ⟨r, hlen1, hrd1, _, _⟩ := row_bytes w1
  obtain ⟨q, hlen2, hrd2, _, hcm2⟩ := row_bytes w2
  clear w0 w1 w2
  subst hlen1 hlen2
  obtain ⟨i0, hi, hz0, hz1, hz2⟩ := info_parts u8_info
  have hpos := hM.pos
  have hb0 : Below w.heap.size w (w.alloc (.cells (hcs t m o n s) 29)) := (Below.refl _ _).alloc (Nat.le_refl _) _
  have hX := Box.new w 29 (hcs t m o n s)
  have HW := Lib.hid (ehworks_any (hM.below hb0 hpos))
  have HB0 := Lib.hid hb0
  have HX := Lib.hid hX
  have HM := Lib.hid hM
  have HR1 := Lib.hid hrd1
  have HR2 := Lib.hid hrd2
  clear hb0 hX hM hrd1 hrd2
  go_enter Tryd.func5, Tryd.ntmps5
  go_wp2_with fail
  refine HW.out.mono ?_
  rintro x w3 ⟨rfl, hb3⟩
  have HB3 := Lib.hid (HB0.out.trans (hb3.mono HB0.out.size))
  have hX3 := HX.out.below hb3 HX.out.lt
  have x0 := hX3.cell 0
  have x1 := hX3.cell 1
  have x2 := hX3.cell 2
  have x3 := hX3.cell 3
  have x4 := hX3.cell 4
  simp [hcs] at x0 x1 x2 x3 x4
  clear hX3 hb3 HW HB0 HX
  by_cases hbig : 4900 < r.length
  · have hd : decide ((4900 : Int) < (r.length : Int)) = true := by simp; omega
    clear hbig
    generalize r.length = N at *
    go_wp2
    go_ret
    exact ⟨rfl, HB3.out.alloc HB3.out.size _⟩
  · have hd : decide ((4900 : Int) < (r.length : Int)) = false := by simp; omega
    have hN : (r.length : Int) ≤ 4900 := by omega
    have HRt := Lib.hid (fun W => right_any t m o n s (64 + (r.length : Int)) W ho (by omega))
    have HTB := Lib.hid (fun (l' : List UInt8) (hR : rightOf t m o n s (64 + (r.length : Int)) = true) (h : Alike (headB t m o n s ++ r) l') => take_back (t := t) (m := m) (n := n) (s := s) (r := r) (l' := l') ho (by rw [Int.natCast_add]; exact hR) h)
    clear hbig
    generalize rightOf t m o n s (64 + (r.length : Int)) = rt at *
    -- Right
    go_wp2_with fail
    refine (HRt.out _).mono ?_
    rintro x w5 ⟨rfl, hb5⟩
    clear x0 x1 x2 x3 x4 HRt
    have hb4 := (Below.refl w3.heap.size w3).alloc (Nat.le_refl _) (.cells (hcs t m o n s) 25)
    have HB5 := Lib.hid ((HB3.out.trans (hb4.mono HB3.out.size)).trans (hb5.mono (Nat.le_trans HB3.out.size hb4.size)))
    have hX5 := (Box.new w3 25 (hcs t m o n s)).below hb5 (by simp)
    clear HB3 hb4 hb5
    cases rt
    · clear hX5 HTB
      generalize r.length = N at *
      go_wp2
      go_ret
      exact ⟨rfl, HB5.out⟩
    · have y0 := hX5.cell 0
      have y1 := hX5.cell 1
      have y2 := hX5.cell 2
      have y3 := hX5.cell 3
      have y4 := hX5.cell 4
      simp [hcs] at y0 y1 y2 y3 y4
      have HX5 := Lib.hid hX5
      clear hX5
      have HP := Lib.hid (puth_any t m o n s (HM.out.below HB5.out hpos))
      go_wp2_with fail
      refine HP.out.mono ?_
      rintro x w6 ⟨v6, rfl, hown6, hb6⟩
      have HB6 := Lib.hid (HB5.out.trans (hb6.mono HB5.out.size))
      have HX6 := Lib.hid (HX5.out.below hb6 HX5.out.lt)
      have HO6 := Lib.hid (own_low HB5.out.size hown6)
      have hH64 : (headB t m o n s).length = 64 := by
        have := (headB_cuts (wrapN t) (wrapN m) o (wrapN n) (wrapN s) []).2.2.2.2.2.2.2.2.2.2
        rw [List.append_nil] at this
        exact this
      have hsum : (headB t m o n s).length + r.length ≤ 140737488355328 := by omega
      have HL := Lib.hid (show (headB t m o n s ++ r).length = 64 + r.length by rw [List.length_append, hH64])
      obtain ⟨L, hLL⟩ : ∃ L, L = (headB t m o n s ++ r).length := ⟨_, rfl⟩
      have h64 : 64 ≤ L := by rw [hLL, HL.out]; omega
      have hLI : (L : Int) ≤ 4964 := by rw [hLL, HL.out]; omega
      have HLL := Lib.hid hLL
      clear hLL
      have hrr := HR1.out.below HB6.out
      have hbs := HB6.out.size
      clear hown6 hb6 HP HX5 HB5 y0 y1 y2 y3 y4 hH64
      go_wp2_with (at_builtin; refine wpList_append_bytes (by rfl) (.tmp 27) (.tmp 28) _ (by rfl) w.heap.size i0 Tryd.underlying22 hi hz0 hz1 hz2 v6 (headB t m o n s) (by rfl) HO6.out w.heap.size a1 r.length cap1 r rfl (by rfl) hrr hsum hbs ?_; intro v7 w7 hown7 hg7 hat7; have HB7 := Lib.hid (HB6.out.trans (below_of_only (B := w.heap.size) hg7 hbs (fun k hk => (own_ge HO6.out k hk).1))); have HX7 := Lib.hid (HX6.out.grown hg7 (by have := own_other HO6.out HX6.out (by decide); exact fun e => this e.symm)); have HO7 := Lib.hid hown7; (obtain ⟨g, c, _, hv7, _, _⟩ := own_store hown7 0 (by rw [HL.out]; omega)); rw [← HLL.out] at hv7; subst hv7; clear hg7 hat7 hown7 hrr hsum hbs HB6 HX6 HO6)
      clear HL hd
      have HN := Lib.hid hN
      clear hN
      generalize hl0 : headB t m o n s ++ r = l0 at *
      have HQ := Lib.hid hl0
      clear hl0
      go_loopw [9] (fun i wr => ∃ (k : Nat) (l' : List UInt8), k ≤ 31 ∧ i = .int .i64 k ∧ Own wr w.heap.size (.slice (some ⟨g, 0, none⟩) L c) l' ∧ Alike l0 l' ∧ Below w.heap.size w wr ∧ Box wr w3.heap.size 25 (hcs t m o n s)) (fun i _ => 31 - (intOf i).toNat)
      case atStart => exact ⟨0, l0, by omega, rfl, HO7.out, Alike.refl l0, HB7.out, HX7.out⟩
      case round =>
        obtain ⟨k, l', hk, rfl, hO, hA, hB, hX⟩ := hrel
        have HO := Lib.hid hO
        have HA := Lib.hid hA
        have HB := Lib.hid hB
        have HX := Lib.hid hX
        have HJ := Lib.hid (show l'.length = L from hA.1.trans HLL.out.symm)
        clear hO hA hB hX HO7 HB7 HX7
        by_cases hq : k < q.length
        · have hqd : decide ((k : Int) < (q.length : Int)) = true := by simp; omega
          by_cases h31 : k < 31
          · have h31d : decide ((k : Int) < 31) = true := by simp; omega
            obtain ⟨b2, o2, rfl, hb2, hc2⟩ := HR2.out (by omega)
            have hcr : wr.cell? ⟨b2, o2 + k, none⟩ = some (.int .u8 (q[k].toNat : Int)) := by
              rw [HB.out.cell (p := ⟨b2, o2 + k, none⟩) hb2]
              exact hc2 k q[k] (List.getElem?_eq_getElem hq)
            clear hc2
            by_cases h9 : k < 9
            · have h9d : decide ((k : Int) < 9) = true := by simp; omega
              have hj : 7 + k < L := by omega
              have u1 : IntKind.i64.wrap ((7 : Int) + (k : Int)) = (7 : Int) + (k : Int) := by rw [IntWalk.i64_in _ (by omega)]
              have u3 : ((7 : Int) + (k : Int)).toNat = 7 + k := by omega
              have u4 : (0 : Int) ≤ (7 : Int) + (k : Int) := by omega
              obtain ⟨u, hu1, hu2, hge, hst⟩ := own_store' HO.out (7 + k) (by rw [HJ.out]; exact hj)
              have HO8 := Lib.hid (hst q[k])
              have HA8 := Lib.hid (HA.out.set (7 + k) (by unfold Looked; omega) q[k])
              have HB8 := Lib.hid (show Below w.heap.size w (wr.setCell ⟨g, (7 + k), none⟩ (.int .u8 (q[k].toNat : Int))) from HB.out.setCell hge _)
              have HX8 := Lib.hid (HX.out.grown (only_set (only_refl wr (some g)) (7 + k) (.int .u8 (q[k].toNat : Int))) (by have := own_other HO.out HX.out (by decide); exact fun e => this e.symm))
              clear hst hge HO HA HB HX HJ
              go_wp2
              go_roundw
              case rel => exact ⟨k + 1, _, by omega, by go_num, HO8.out, HA8.out, HB8.out, HX8.out⟩
              case measure => simp [intOf]; omega
            · have h9d : decide ((k : Int) < 9) = false := by simp; omega
              by_cases h25 : k < 25
              · have h25d : decide ((k : Int) < 25) = true := by simp; omega
                have hj : k + 15 < L := by omega
                have u1 : IntKind.i64.wrap ((24 : Int) + (k : Int)) = (24 : Int) + (k : Int) := by rw [IntWalk.i64_in _ (by omega)]
                have u2 : IntKind.i64.wrap ((24 : Int) + (k : Int) - 9) = (24 : Int) + (k : Int) - 9 := by rw [IntWalk.i64_in _ (by omega)]
                have u3 : ((24 : Int) + (k : Int) - 9).toNat = k + 15 := by omega
                have u4 : (0 : Int) ≤ (24 : Int) + (k : Int) - 9 := by omega
                obtain ⟨u, hu1, hu2, hge, hst⟩ := own_store' HO.out (k + 15) (by rw [HJ.out]; exact hj)
                have HO8 := Lib.hid (hst q[k])
                have HA8 := Lib.hid (HA.out.set (k + 15) (by unfold Looked; omega) q[k])
                have HB8 := Lib.hid (show Below w.heap.size w (wr.setCell ⟨g, (k + 15), none⟩ (.int .u8 (q[k].toNat : Int))) from HB.out.setCell hge _)
                have HX8 := Lib.hid (HX.out.grown (only_set (only_refl wr (some g)) (k + 15) (.int .u8 (q[k].toNat : Int))) (by have := own_other HO.out HX.out (by decide); exact fun e => this e.symm))
                clear hst hge HO HA HB HX HJ
                go_wp2
                go_roundw
                case rel => exact ⟨k + 1, _, by omega, by go_num, HO8.out, HA8.out, HB8.out, HX8.out⟩
                case measure => simp [intOf]; omega
              · have h25d : decide ((k : Int) < 25) = false := by simp; omega
                by_cases h29 : k < 29
                · have h29d : decide ((k : Int) < 29) = true := by simp; omega
                  have hj : k + 23 < L := by omega
                  have u1 : IntKind.i64.wrap ((48 : Int) + (k : Int)) = (48 : Int) + (k : Int) := by rw [IntWalk.i64_in _ (by omega)]
                  have u2 : IntKind.i64.wrap ((48 : Int) + (k : Int) - 25) = (48 : Int) + (k : Int) - 25 := by rw [IntWalk.i64_in _ (by omega)]
                  have u3 : ((48 : Int) + (k : Int) - 25).toNat = k + 23 := by omega
                  have u4 : (0 : Int) ≤ (48 : Int) + (k : Int) - 25 := by omega
                  obtain ⟨u, hu1, hu2, hge, hst⟩ := own_store' HO.out (k + 23) (by rw [HJ.out]; exact hj)
                  have HO8 := Lib.hid (hst q[k])
                  have HA8 := Lib.hid (HA.out.set (k + 23) (by unfold Looked; omega) q[k])
                  have HB8 := Lib.hid (show Below w.heap.size w (wr.setCell ⟨g, (k + 23), none⟩ (.int .u8 (q[k].toNat : Int))) from HB.out.setCell hge _)
                  have HX8 := Lib.hid (HX.out.grown (only_set (only_refl wr (some g)) (k + 23) (.int .u8 (q[k].toNat : Int))) (by have := own_other HO.out HX.out (by decide); exact fun e => this e.symm))
                  clear hst hge HO HA HB HX HJ
                  go_wp2
                  go_roundw
                  case rel => exact ⟨k + 1, _, by omega, by go_num, HO8.out, HA8.out, HB8.out, HX8.out⟩
                  case measure => simp [intOf]; omega
                · have h29d : decide ((k : Int) < 29) = false := by simp; omega
                  have hj : k + 25 < L := by omega
                  have u1 : IntKind.i64.wrap ((54 : Int) + (k : Int)) = (54 : Int) + (k : Int) := by rw [IntWalk.i64_in _ (by omega)]
                  have u2 : IntKind.i64.wrap ((54 : Int) + (k : Int) - 29) = (54 : Int) + (k : Int) - 29 := by rw [IntWalk.i64_in _ (by omega)]
                  have u3 : ((54 : Int) + (k : Int) - 29).toNat = k + 25 := by omega
                  have u4 : (0 : Int) ≤ (54 : Int) + (k : Int) - 29 := by omega
                  obtain ⟨u, hu1, hu2, hge, hst⟩ := own_store' HO.out (k + 25) (by rw [HJ.out]; exact hj)
                  have HO8 := Lib.hid (hst q[k])
                  have HA8 := Lib.hid (HA.out.set (k + 25) (by unfold Looked; omega) q[k])
                  have HB8 := Lib.hid (show Below w.heap.size w (wr.setCell ⟨g, (k + 25), none⟩ (.int .u8 (q[k].toNat : Int))) from HB.out.setCell hge _)
                  have HX8 := Lib.hid (HX.out.grown (only_set (only_refl wr (some g)) (k + 25) (.int .u8 (q[k].toNat : Int))) (by have := own_other HO.out HX.out (by decide); exact fun e => this e.symm))
                  clear hst hge HO HA HB HX HJ
                  go_wp2
                  go_roundw
                  case rel => exact ⟨k + 1, _, by omega, by go_num, HO8.out, HA8.out, HB8.out, HX8.out⟩
                  case measure => simp [intOf]; omega
          · have h31d : decide ((k : Int) < 31) = false := by simp; omega
            obtain ⟨A', c', hv, hlc, _, hrd⟩ := own_slice HO.out
            injection hv with e1 e2 e3
            subst e1 e3
            have hT := take_any hrd (Nat.le_refl _) c hlc (HM.out.below HB.out hpos) (by omega)
            obtain ⟨t1, t2, _⟩ := HTB.out l' (by simp) HA.out
            rw [← e2, t1, t2] at hT
            clear e2 hlc hrd t1 t2 HO HA HJ HTB HQ HLL
            go_wp2_with fail
            refine hT.mono ?_
            rintro x w8 ⟨rfl, hb8⟩
            have HB8 := Lib.hid (HB.out.trans (hb8.mono HB.out.size))
            have hX8 := HX.out.below hb8 HX.out.lt
            have hlt : w3.heap.size < w8.heap.size := hX8.lt
            have y0 := hX8.cell 0
            have y1 := hX8.cell 1
            have y2 := hX8.cell 2
            have y3 := hX8.cell 3
            have y4 := hX8.cell 4
            simp [hcs] at y0 y1 y2 y3 y4
            clear hX8 hb8 hT HB HX
            go_wp2
            go_ret
            exact ⟨rfl, HB8.out.alloc HB8.out.size _⟩
        · have hqd : decide ((k : Int) < (q.length : Int)) = false := by simp; omega
          obtain ⟨A', c', hv, hlc, _, hrd⟩ := own_slice HO.out
          injection hv with e1 e2 e3
          subst e1 e3
          have hT := take_any hrd (Nat.le_refl _) c hlc (HM.out.below HB.out hpos) (by omega)
          obtain ⟨t1, t2, _⟩ := HTB.out l' (by simp) HA.out
          rw [← e2, t1, t2] at hT
          clear e2 hlc hrd t1 t2 HO HA HJ HTB HQ HLL
          go_wp2_with fail
          refine hT.mono ?_
          rintro x w8 ⟨rfl, hb8⟩
          have HB8 := Lib.hid (HB.out.trans (hb8.mono HB.out.size))
          have hX8 := HX.out.below hb8 HX.out.lt
          have hlt : w3.heap.size < w8.heap.size := hX8.lt
          have y0 := hX8.cell 0
          have y1 := hX8.cell 1
          have y2 := hX8.cell 2
          have y3 := hX8.cell 3
          have y4 := hX8.cell 4
          simp [hcs] at y0 y1 y2 y3 y4
          clear hX8 hb8 hT HB HX
          go_wp2
          go_ret
          exact ⟨rfl, HB8.out.alloc HB8.out.size _⟩

end Go.Proofs.YtggakhdejkejgaaDoor
