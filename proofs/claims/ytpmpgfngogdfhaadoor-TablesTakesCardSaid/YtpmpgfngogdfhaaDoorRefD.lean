/-
  The document's own cursor: Uint, Bytes and Sub.
-/
import Derived.Test.YtpmpgfngogdfhaaDoorRefC
import Derived.Test.YtpmpgfngogdfhaaDoorParts
namespace Go.Proofs.YtpmpgfngogdfhaaDoor
open Go Go.RowKit

theorem leNat_drop (l : List UInt8) (m : Nat) (h : m < l.length) : leNat (l.drop m) = l[m].toNat + 256 * leNat (l.drop (m + 1)) := by
  rw [List.drop_eq_getElem_cons h, leNat]
theorem leNat_drop_lt (l : List UInt8) (m : Nat) (h : l.length ≤ 8) : leNat (l.drop m) < 18446744073709551616 := leNat_64 _ (by simp; omega)
theorem rc_left (l : List UInt8) (a : Nat) : leftOf l a 0 = l.length - a := by simp [leftOf]

set_option maxHeartbeats 800000 in
theorem ruint_ok {w : World} {g : Nat} {v : Value} {l : List UInt8} {a : Nat} (h : RC w g v l a 0) (s : Int) (hs : -9223372036854775808 ≤ s ∧ s ≤ 9223372036854775807) (hlen : l.length ≤ 140737488355328) (hn : clampOf s ≤ l.length - a) :
    Calls Tryd.prog 55 #[.pointer (some ⟨g, 0, none⟩), .int .i64 s] w fun r w' =>
      r = .returned (.int .u64 (leNat ((l.drop a).take (clampOf s)) : Int)) ∧ RC w' g v l (a + clampOf s) 0 ∧ w.grownBy w' (some g) := by
  obtain ⟨A, c, hv, hlc, hcm, hrd⟩ := own_slice h.2.1
  subst hv
  have hc8 := clampOf_le s
  have hc := fun W => size_any s W hs
  have hL := fun W (hW : W = w) => rleft_cur (w := W) (hW ▸ h)
  have h0 := h.1.cell 0
  have h1 := h.1.cell 1
  have h2 := h.1.cell 2
  have f1 := h.1.free 1
  simp at h0 h1 h2
  have hal := h.2.2
  clear hs
  unfold maxLen at hcm
  generalize clampOf s = n at *
  rw [rc_left] at hL
  have hgl : ((l.drop a).take n).length = n := by simp; omega
  have hgc : ∀ m, m < n → ∃ b o, A = some ⟨b, o, none⟩ ∧ ∃ x : UInt8, w.cell? ⟨b, o + (a + m), none⟩ = some (.int .u8 (x.toNat : Int)) ∧ leNat (((l.drop a).take n).drop m) = x.toNat + 256 * leNat (((l.drop a).take n).drop (m + 1)) := by
    intro m hm
    obtain ⟨b, o, hA, _, hcell⟩ := hrd (by omega)
    have hlt : a + m < l.length := by omega
    refine ⟨b, o, hA, l[a + m], hcell _ _ (List.getElem?_eq_getElem hlt), ?_⟩
    rw [leNat_drop _ m (by omega)]
    simp
  have hgb : ∀ m, leNat (((l.drop a).take n).drop m) < 18446744073709551616 := fun m => leNat_drop_lt _ _ (by omega)
  obtain ⟨got, hgot⟩ : ∃ t, t = (l.drop a).take n := ⟨_, rfl⟩
  rw [← hgot] at hgl hgc hgb
  have HR := Lib.hid (show leNat (got.drop 0) = leNat ((l.drop a).take n) by rw [List.drop_zero, hgot])
  have HZ := Lib.hid (show leNat (got.drop n) = 0 by rw [List.drop_of_length_le (by omega)]; rfl)
  have HGC := Lib.hid hgc
  have HGB := Lib.hid hgb
  have HC := Lib.hid (fun k => (show RC ((w.drewN k).setCell ⟨g, 1, none⟩ (.int .i64 ((a : Int) + (n : Int)))) g (.slice A l.length c) l (a + n) 0 from by
    have := (h.drewN k).moved (a + n) (by omega)
    rwa [Int.natCast_add] at this))
  have HO := Lib.hid (fun k u => only_set (only_drewN (only_refl w (some g)) k) 1 u)
  have hq : decide (l.length - a < n) = false := by simp; omega
  have hK0 : ((l.length - a : Nat) : Int) ≤ 140737488355328 := by omega
  have han : (a : Int) + (n : Int) ≤ (l.length : Int) := by omega
  have hl47 : (l.length : Int) ≤ 140737488355328 := by omega
  have hlc' : (l.length : Int) ≤ (c : Int) := by omega
  clear hgc hgb hgl hgot h hrd hal hlen
  generalize l.length - a = K at *
  generalize hN : l.length = N at *
  have HN := Lib.hid hN
  clear hN
  go_enter Tryd.func55, Tryd.ntmps55
  go_wp2_with (first | (go_at_call 90; refine (hc _).mono ?_; rintro r w' ⟨rfl, rfl⟩) | (go_at_call 57; refine (hL _ rfl).mono ?_; rintro r w' ⟨rfl, k, rfl⟩))
  go_loopw [5, 6] (fun x i wr => ∃ j : Nat, j ≤ n ∧ i = .int .i64 ((j : Int) - 1) ∧ x = .int .u64 (leNat (got.drop j) : Int) ∧ ∃ q, wr = w.drewN q) (fun _ i _ => (intOf i + 1).toNat)
  case atStart => exact ⟨n, Nat.le_refl _, rfl, by rw [HZ.out]; rfl, _, rfl⟩
  case round =>
    obtain ⟨j, hj, hi, hx, q, rfl⟩ := hrel
    rcases j with _ | m
    · have hi' : u6 = .int .i64 (-1) := hi
      subst hi' hx
      clear hi
      go_wp2
      go_ret
      exact ⟨by rw [HR.out]; rfl, HC.out _, HO.out _ _⟩
    · have hi' : u6 = .int .i64 (m : Int) := by rw [hi]; congr 1; omega
      subst hi' hx
      clear hi
      obtain ⟨b, o, hA, xb, hcell, hstep⟩ := HGC.out m (by omega)
      subst hA
      have hb := HGB.out m
      have hxb := xb.toNat_lt
      rw [hstep] at hb
      have HS := Lib.hid hstep
      clear hstep
      generalize hy : leNat (got.drop (m + 1)) = y at *
      have HY := Lib.hid hy
      clear hy
      have s1 : IntKind.i64.wrap ((a : Int) + (m : Int)) = (a : Int) + (m : Int) := by rw [IntWalk.i64_in _ (by omega)]
      have s2 : IntKind.u64.wrap ((y : Int) * 256) = (y : Int) * 256 := by rw [IntWalk.u64_in _ (by omega)]
      have s3 : IntKind.u64.wrap (xb.toNat : Int) = (xb.toNat : Int) := by rw [IntWalk.u64_in _ (by omega)]
      have s4 : IntKind.u64.wrap ((y : Int) * 256 + (xb.toNat : Int)) = (y : Int) * 256 + (xb.toNat : Int) := by rw [IntWalk.u64_in _ (by omega)]
      have b1 : (0 : Int) ≤ (a : Int) + (m : Int) := by omega
      have b2 : (a : Int) + (m : Int) < (N : Int) := by omega
      have b3 : ((a : Int) + (m : Int)).toNat = a + m := by omega
      go_wp2
      go_quiet (fail)
      go_wp2
      go_roundw
      case rel => exact ⟨m, by omega, rfl, by rw [HS.out]; go_num, _, rfl⟩
      case measure => simp [intOf]

theorem ruint_short {w : World} {g : Nat} {v : Value} {l : List UInt8} {a : Nat} (h : RC w g v l a 0) (s : Int) (hs : -9223372036854775808 ≤ s ∧ s ≤ 9223372036854775807) (hn : l.length - a < clampOf s) :
    Calls Tryd.prog 55 #[.pointer (some ⟨g, 0, none⟩), .int .i64 s] w fun r w' => r = .returned (.int .u64 0) ∧ RC w' g v l a 10 ∧ w.grownBy w' (some g) := by
  have hc8 := clampOf_le s
  have hc := fun W => size_any s W hs
  have hL := fun W (hW : W = w) => rleft_cur (w := W) (hW ▸ h)
  have h2 := h.1.cell 2
  have f2 := h.1.free 2
  simp at h2
  clear hs
  generalize clampOf s = n at *
  rw [rc_left] at hL
  have HC := Lib.hid (fun k => (h.drewN k).failed 10)
  have HO := Lib.hid (fun k u => only_set (only_drewN (only_refl w (some g)) k) 2 u)
  have hq : decide (l.length - a < n) = true := by simp; omega
  clear h
  generalize l.length - a = K at *
  have hfr : ∀ k, ((w.drewN k).setCell ⟨g, 2, none⟩ (.int .i64 10)).cell? ⟨g, 2, none⟩ = some (.int .i64 10) := fun k => by
    rw [World.cell?_setCell_same _ _ _ (by simpa using h2)]
  go_enter Tryd.func55, Tryd.ntmps55
  go_wp2_with (first | (go_at_call 90; refine (hc _).mono ?_; rintro r w' ⟨rfl, rfl⟩) | (go_at_call 57; refine (hL _ rfl).mono ?_; rintro r w' ⟨rfl, k, rfl⟩))
  go_ret
  exact ⟨rfl, HC.out _, HO.out _ _⟩

theorem ruint_ref {w : World} {g : Nat} {v : Value} {l : List UInt8} {a : Nat} {e : Int} (h : RC w g v l a e) (he : e ≠ 0) (s : Int) (hs : -9223372036854775808 ≤ s ∧ s ≤ 9223372036854775807) :
    Calls Tryd.prog 55 #[.pointer (some ⟨g, 0, none⟩), .int .i64 s] w fun r w' => r = .returned (.int .u64 0) ∧ w = w' := by
  have hc := fun W => size_any s W hs
  have h2 := h.1.cell 2
  simp at h2
  have hz : (e == 0) = false := by simp [he]
  have hz2 : (e != 0) = true := by simp [he]
  clear hs h he
  generalize clampOf s = n at *
  go_enter Tryd.func55, Tryd.ntmps55
  go_wp2_with (go_at_call 90; refine (hc _).mono ?_; rintro r w' ⟨rfl, rfl⟩)
  go_ret
  exact ⟨rfl, rfl⟩

theorem ruint_cur {w : World} {g : Nat} {v : Value} {l : List UInt8} {a : Nat} {e : Int} (h : RC w g v l a e) (s : Int) (hs : -9223372036854775808 ≤ s ∧ s ≤ 9223372036854775807) (hlen : l.length ≤ 140737488355328) :
    Calls Tryd.prog 55 #[.pointer (some ⟨g, 0, none⟩), .int .i64 s] w fun r w' =>
      r = .returned (.int .u64 (leNat (nextGot l a e (clampOf s)) : Int)) ∧ RC w' g v l (nextAt l a e (clampOf s)) (nextErr l a e (clampOf s)) ∧ w.grownBy w' (some g) := by
  by_cases he : e = 0
  · subst he
    by_cases hn : clampOf s ≤ l.length - a
    · have hf := next_fits l a (clampOf s) hn
      rw [hf.1, hf.2.1, hf.2.2]
      exact ruint_ok h s hs hlen hn
    · refine (ruint_short h s hs (by omega)).mono fun r w' ⟨h1, h3, h4⟩ => ⟨?_, ?_, h4⟩
      · simpa [nextGot, hn, leNat] using h1
      · simpa [nextAt, nextErr, hn] using h3
  · refine (ruint_ref h he s hs).mono fun r w' ⟨h1, h2⟩ => ⟨?_, ?_, ?_⟩
    · simpa [nextGot, he, leNat] using h1
    · subst h2; simpa [nextAt, nextErr, he] using h
    · subst h2; exact only_refl _ _

end Go.Proofs.YtpmpgfngogdfhaaDoor
