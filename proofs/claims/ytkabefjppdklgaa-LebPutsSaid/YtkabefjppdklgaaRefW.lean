/-
  The document's own PutWide of layer 2.
-/
import Derived.Test.YtkabefjppdklgaaRefP
import Derived.Test.YtkabefjppdklgaaLebB
namespace Go.Proofs.Ytkabefjppdklgaa
open Go Go.RowKit

/-- A row of at least one byte: its block, and its last byte. -/
theorem own_cell {w : World} {base : Nat} {v : Value} {l : List UInt8} {k N : Nat} {u : UInt8} (h : Own w base v l) (hl : l.length = N) (hk : N = k + 1) (hu : l[k]? = some u) :
    ∃ g c, v = .slice (some ⟨g, 0, none⟩) N c ∧ w.cell? ⟨g, k, none⟩ = some (.int .u8 (u.toNat : Int)) ∧ w.frozen? ⟨g, k, none⟩ = false ∧ base ≤ g ∧ g < w.heap.size := by
  have hc : ∀ g c, v = .slice (some ⟨g, 0, none⟩) l.length c → w.cell? ⟨g, k, none⟩ = some (.int .u8 (u.toNat : Int)) := by
    rintro g c rfl
    have h1 := World.ownsRow.cellAt (g := g) (cap := c) h k (by omega)
    rw [h1, u8s_get, hu]
    rfl
  rcases h.2 with ⟨rfl, h0⟩ | ⟨g, cap, cur, rfl, hb, hg, _⟩
  · omega
  · refine ⟨g, cap, by rw [hl], hc g cap rfl, World.ownsRow.frozenAt (g := g) (cap := cap) h k, hb, ?_⟩
    rcases Nat.lt_or_ge g w.heap.size with hlt | hge
    · exact hlt
    · rw [Array.getElem?_eq_none hge] at hg; cases hg

theorem own_set {w : World} {base g N c k : Nat} {l : List UInt8} (h : Own w base (.slice (some ⟨g, 0, none⟩) N c) l) (hl : l.length = N) (b : UInt8) :
    Own (w.setCell ⟨g, k, none⟩ (.int .u8 (b.toNat : Int))) base (.slice (some ⟨g, 0, none⟩) N c) (l.set k b) := by
  subst hl
  have h1 := (World.ownsRow.stored (g := g) (cap := c) h k (.int .u8 (b.toNat : Int))).1
  have e : (u8s l).set k (.int .u8 (b.toNat : Int)) = u8s (l.set k b) := by simp [u8s, List.map_set]
  rw [e] at h1
  unfold Own
  rw [List.length_set]
  exact h1

theorem put_set (k : Nat) (x : Int) : (lebPut (k + 1) x).set k (UInt8.ofNat ((x / 128 ^ k % 128).toNat + 128)) = lebMore (k + 1) x := by
  unfold lebPut
  rw [Nat.add_sub_cancel, lebMore_succ, List.set_append_right _ _ (by simp)]
  simp

theorem put_wider (t x : Nat) (hx : x < 2 ^ 64) (h : sizeU x ≤ t) : lebMore t (x : Int) ++ [0] = lebPut (t + 1) (x : Int) := by
  have h1 := (sizeU_range x hx).1
  have hlt : x < 128 ^ t := by
    by_cases h9 : t ≤ 9
    · exact (sizeU_le x t hx (by omega) h9).1 h
    · exact Nat.lt_of_lt_of_le (Nat.lt_trans hx (by decide : 2 ^ 64 < 128 ^ 10)) (Nat.pow_le_pow_right (by decide) (by omega))
  unfold lebPut
  rw [Nat.add_sub_cancel]
  have e : (x : Int) / 128 ^ t = 0 := by
    rw [show (128 : Int) ^ t = ((128 ^ t : Nat) : Int) by simp, ← Int.natCast_ediv, Nat.div_eq_of_lt hlt]
    rfl
  rw [e]
  rfl

set_option maxHeartbeats 2000000 in
theorem rputWide_any (w : World) (x : Nat) (hx : x < 2 ^ 64) (s : Int) :
    Calls Try.prog 47 #[.int .u64 (x : Int), .int .i64 s] w fun r w' => ∃ v', r = .returned v' ∧ Own w' w.heap.size v' (lebPut (wideOf x s) (x : Int)) ∧ Below w.heap.size w w' := by
  obtain ⟨i0, hi, hz0, hz1, hz2⟩ := info_parts u8_info
  have HP := rputU_any w x hx
  have hr := sizeU_range x hx
  go_enter Try.func47, Try.ntmps47
  go_wp2_with (go_at_call 43; refine HP.mono ?_; rintro r w1 ⟨v1, rfl, hO1, hb1⟩)
  have HO := Lib.hid hO1
  have HB := Lib.hid hb1
  clear hO1 hb1
  go_loopw [5] (fun u wr => ∃ t : Nat, sizeU x ≤ t ∧ t ≤ wideOf x s ∧ Own wr w.heap.size u (lebPut t (x : Int)) ∧ Below w.heap.size w wr) (fun u _ => 10 - (match u with | .slice _ n _ => n | _ => 0))
  case atStart => exact ⟨sizeU x, Nat.le_refl _, (wideOf_range x s hx).1, HO.out, HB.out⟩
  case round =>
    obtain ⟨t, ht, htw, hO, hb⟩ := hrel
    obtain ⟨k, hk⟩ : ∃ k, t = k + 1 := ⟨t - 1, by omega⟩
    have hlen := lebPut_length t (x : Int) (by omega)
    have hlast : (lebPut t (x : Int))[k]? = some (UInt8.ofNat ((x : Int) / 128 ^ k % 128).toNat) := by
      subst hk
      unfold lebPut
      rw [List.getElem?_append_right (by simp)]
      simp
    obtain ⟨g, c, rfl, hcell, hfr, hgb, hgl⟩ := own_cell hO hlen hk hlast
    have hw10 := (wideOf_range x s hx).2
    have HX := Lib.hid hx
    have HOw := Lib.hid hO
    have HBw := Lib.hid hb
    clear hO hb HO HB HP hlast hx
    have hbn : ((UInt8.ofNat ((x : Int) / 128 ^ k % 128).toNat).toNat : Int) = (x : Int) / 128 ^ k % 128 := by rw [UInt8.toNat_ofNat']; omega
    have hbp : ((UInt8.ofNat ((x : Int) / 128 ^ k % 128).toNat).toNat : Int) + 128 = ((UInt8.ofNat (((x : Int) / 128 ^ k % 128).toNat + 128)).toNat : Int) := by rw [UInt8.toNat_ofNat', UInt8.toNat_ofNat']; omega
    have hmod : (((UInt8.ofNat ((x : Int) / 128 ^ k % 128).toNat).toNat : Int) + 128) % 256 = ((UInt8.ofNat (((x : Int) / 128 ^ k % 128).toNat + 128)).toNat : Int) := by omega
    have HS := Lib.hid (own_set (k := k) HOw.out hlen (UInt8.ofNat (((x : Int) / 128 ^ k % 128).toNat + 128)))
    have HE := Lib.hid (show (lebPut t (x : Int)).set k (UInt8.ofNat (((x : Int) / 128 ^ k % 128).toNat + 128)) = lebMore t (x : Int) by subst hk; exact put_set k _)
    clear hbn hbp
    generalize UInt8.ofNat ((x : Int) / 128 ^ k % 128).toNat = u at *
    generalize UInt8.ofNat (((x : Int) / 128 ^ k % 128).toNat + 128) = u' at *
    have hNk : (t : Int) - 1 = (k : Int) := by omega
    have hNl : (k : Int) < (t : Int) := by omega
    by_cases hlt : t < wideOf x s
    · have c1 : decide ((t : Int) < s) = true := by unfold wideOf at hlt; simp; omega
      have c2 : (t : Int) < 10 := by omega
      have HK := Lib.hid hk
      have HT := Lib.hid ht
      have HLEN := Lib.hid hlen
      have HLT := Lib.hid hlt
      clear hk ht htw hw10 hlen hlt
      have HM := Lib.hid (show Own (wr.setCell ⟨g, k, none⟩ (.int .u8 (u'.toNat : Int))) w.heap.size (.slice (some ⟨g, 0, none⟩) t c) (lebMore t (x : Int)) by rw [← HE.out]; exact HS.out)
      have HB2 := Lib.hid (HBw.out.setCell (p := ⟨g, k, none⟩) hgb (.int .u8 (u'.toNat : Int)))
      have hsum : (lebMore t (x : Int)).length + ([0] : List UInt8).length ≤ 140737488355328 := by simp; omega
      have hb1 : w.heap.size ≤ ((wr.setCell ⟨g, k, none⟩ (.int .u8 (u'.toNat : Int))).alloc (.cells #[.int .u8 0] 5)).heap.size := by
        have := HBw.out.size
        simp [World.setCell]; omega
      have hrd := rd_one (wr.setCell ⟨g, k, none⟩ (.int .u8 (u'.toNat : Int))) 0 0 rfl
      rw [heap_size_set] at hrd
      have HR := Lib.hid hrd
      clear hrd
      go_wp2_with (at_builtin; refine wpList_append_bytes (by rfl) (.tmp 29) (.tmp 30) _ (by rfl) w.heap.size i0 Try.underlying22 hi hz0 hz1 hz2 (.slice (some ⟨g, 0, none⟩) t c) (lebMore t (x : Int)) (by rfl) (HM.out.alloc _) (wr.heap.size + 1) (some ⟨wr.heap.size, 0, none⟩) 1 1 [0] rfl (by rfl) HR.out hsum hb1 ?_; intro v2 w2 hown2 hg2 hat2)
      have hown3 : Own w2 w.heap.size v2 (lebPut (t + 1) (x : Int)) := by rw [← put_wider t x HX.out HT.out]; exact hown2
      have hb2 : Below w.heap.size w w2 := (HB2.out.alloc (by have := HBw.out.size; simp [World.setCell]; omega) _).grown hg2 hb1 (fun q hq => by have e : g = q := (by simpa [Value.ownBlock] using hq); omega)
      have hl2 : v2 = .slice none 0 0 ∨ ∃ A c2, v2 = .slice A (t + 1) c2 := by
        obtain ⟨A, c2, e, _⟩ := own_slice hown3
        exact .inr ⟨A, c2, by rw [e, lebPut_length _ _ (by omega)]⟩
      refine ⟨⟨t + 1, by have := HT.out; omega, HLT.out, hown3, hb2⟩, ?_⟩
      rcases hl2 with rfl | ⟨A, c2, rfl⟩
      · obtain ⟨A, c2, e, _⟩ := own_slice hown3
        injection e with _ e2 _
        rw [lebPut_length _ _ (by omega)] at e2
        omega
      · simp only
        omega
    · have c1 : decide ((t : Int) < s) = false ∨ (decide ((t : Int) < s) = true ∧ (10 : Int) ≤ (t : Int)) := by
        by_cases h1 : (t : Int) < s
        · refine .inr ⟨by simpa using h1, ?_⟩
          unfold wideOf at hlt; omega
        · exact .inl (by simpa using h1)
      have htw2 : t = wideOf x s := by omega
      have HD := Lib.hid (show Own wr w.heap.size (.slice (some ⟨g, 0, none⟩) t c) (lebPut (wideOf x s) (x : Int)) by rw [← htw2]; exact HOw.out)
      clear hk ht htw hw10 hlen hlt htw2 hr
      rcases c1 with c1 | ⟨c1, c2⟩
      · go_wp2_with fail
        go_ret
        exact ⟨_, rfl, HD.out, HBw.out⟩
      · go_wp2_with fail
        go_ret
        exact ⟨_, rfl, HD.out, HBw.out⟩

end Go.Proofs.Ytkabefjppdklgaa
