/-
  The walk of LebShort: what is read, put anew, has no more bytes than it had; sizes rise with the numbers.
-/
import Derived.Test.YtkabefjppdklgaaLebL
namespace Go.Proofs.Ytkabefjppdklgaa
open Go Go.RowKit

theorem lebVal_take_len (l : List UInt8) (k : Nat) : lebVal (l.take k) < 128 ^ k := lebVal_take_lt l k

/-- What is read needs no more bytes than were read. -/
theorem readU_size (l : List UInt8) (h : (readU l).2.2 = 0) : (readU l).1 < 2 ^ 64 ∧ sizeU (readU l).1 ≤ (readU l).2.1 := by
  unfold readU at *
  split
  · rename_i h1; rw [if_pos h1] at h; simp at h
  · rename_i h1
    rw [if_neg h1] at h
    split
    · rename_i h2
      rw [if_pos h2] at h
      split
      · rename_i h3
        have hr := (lebRun_le 10 l).1
        refine ⟨h3, ?_⟩
        show sizeU (lebVal (l.take (lebRun 10 l + 1))) ≤ lebRun 10 l + 1
        by_cases h9 : lebRun 10 l + 1 ≤ 9
        · exact (sizeU_le _ _ h3 (by omega) h9).2 (lebVal_take_lt _ _)
        · have := (sizeU_range _ h3).2
          omega
      · rename_i h3; rw [if_neg h3] at h; simp at h
    · rename_i h2; rw [if_neg h2] at h; simp at h

theorem readS_size (l : List UInt8) (h : (readS l).2.2 = 0) : (-9223372036854775808 ≤ (readS l).1 ∧ (readS l).1 ≤ 9223372036854775807) ∧ sizeS (readS l).1 ≤ (readS l).2.1 := by
  unfold readS at *
  split
  · rename_i h1; rw [if_pos h1] at h; simp at h
  · rename_i h1
    rw [if_neg h1] at h
    split
    · rename_i h2
      rw [if_pos h2] at h
      split
      · rename_i h3
        have hr := (lebRun_le 10 l).1
        refine ⟨h3, ?_⟩
        show sizeS (lebInt (l.take (lebRun 10 l + 1))) ≤ lebRun 10 l + 1
        by_cases h9 : lebRun 10 l + 1 ≤ 9
        · refine (sizeS_le _ _ h3 (by omega) h9).2 ?_
          rw [Nat.add_sub_cancel, lebInt_take_succ l _ h2]
          have hv := lebVal_take_lt l (lebRun 10 l)
          have hd := sdig_range l[lebRun 10 l]
          generalize lebVal (l.take (lebRun 10 l)) = v at *
          generalize sdig l[lebRun 10 l] = d at *
          generalize 128 ^ lebRun 10 l = K at *
          have h1 : (K : Int) * (-64) ≤ K * d := Int.mul_le_mul_of_nonneg_left hd.1 (by omega)
          have h2 : (K : Int) * d ≤ K * 63 := Int.mul_le_mul_of_nonneg_left (by omega) (by omega)
          omega
        · have := (sizeS_range _ h3).2
          omega
      · rename_i h3; rw [if_neg h3] at h; simp at h
    · rename_i h2; rw [if_neg h2] at h; simp at h

theorem readU_zero (l : List UInt8) (h : (readU l).2.2 ≠ 0) : (readU l).1 = 0 := by
  unfold readU at *
  split
  · rfl
  · rename_i h1
    rw [if_neg h1] at h
    split
    · rename_i h2
      rw [if_pos h2] at h
      split
      · rename_i h3; rw [if_pos h3] at h; simp at h
      · rfl
    · rfl

theorem sizeU_mono (n m : Nat) (hm : m < 2 ^ 64) (h : n ≤ m) : sizeU n ≤ sizeU m := by
  have h1 := sizeU_range m hm
  by_cases h9 : sizeU m ≤ 9
  · exact (sizeU_le n _ (Nat.lt_of_le_of_lt h hm) h1.1 h9).2 (Nat.lt_of_le_of_lt h ((sizeU_le m _ hm h1.1 h9).1 (Nat.le_refl _)))
  · have := (sizeU_range n (Nat.lt_of_le_of_lt h hm)).2
    omega

theorem new_arg {w W : World} {a : Option Addr} {len cap : Nat} {l : List UInt8} (hlen : l.length = len) (hrd : Rd w w.heap.size a l) (hW : Below w.heap.size w W) (hl : l.length ≤ 140737488355328) :
    Calls Try.prog 15 #[.slice a len cap] W fun r w' => ∃ g v, r = .returned (.pointer (some ⟨g, 0, none⟩)) ∧ Made W.heap.size w' g v l 0 ∧ Below W.heap.size W w' := by
  subst hlen
  exact new_any cap (hrd.below hW) hW.size hl

/-- What the law asks of a number that was read. -/
theorem cmp_u (l : List UInt8) (b : Bool) (hb : ((uOf l 0).2.2 == 0) = b) : (uOf l 0).1 < 2 ^ 64 ∧ (b = true → decide ((uOf l 0).2.1 < sizeU (uOf l 0).1) = false) := by
  have e : uOf l 0 = readU l := by unfold uOf; rw [if_pos rfl]
  rw [e] at hb ⊢
  by_cases h : (readU l).2.2 = 0
  · have := readU_size l h
    exact ⟨this.1, fun _ => by simp; omega⟩
  · refine ⟨by rw [readU_zero l h]; decide, fun hbt => ?_⟩
    rw [hbt] at hb
    exact absurd (by simpa using hb) h

theorem readS_zero (l : List UInt8) (h : (readS l).2.2 ≠ 0) : (readS l).1 = 0 := by
  unfold readS at *
  split
  · rfl
  · rename_i h1
    rw [if_neg h1] at h
    split
    · rename_i h2
      rw [if_pos h2] at h
      split
      · rename_i h3; rw [if_pos h3] at h; simp at h
      · rfl
    · rfl

theorem cmp_s (l : List UInt8) (b : Bool) (hb : ((sOf l 0).2.2 == 0) = b) : (-9223372036854775808 ≤ (sOf l 0).1 ∧ (sOf l 0).1 ≤ 9223372036854775807) ∧ (b = true → decide ((sOf l 0).2.1 < sizeS (sOf l 0).1) = false) := by
  have e : sOf l 0 = readS l := by unfold sOf; rw [if_pos rfl]
  rw [e] at hb ⊢
  by_cases h : (readS l).2.2 = 0
  · have := readS_size l h
    exact ⟨this.1, fun _ => by simp; omega⟩
  · refine ⟨by rw [readS_zero l h]; decide, fun hbt => ?_⟩
    rw [hbt] at hb
    exact absurd (by simpa using hb) h

theorem size_hid {n : Nat} (hn : Hid (n < 2 ^ 64)) (w : World) : Calls Try.prog 48 #[.int .u64 (n : Int)] w fun r w' => r = .returned (.int .i64 (sizeU n : Int)) ∧ w = w' := sizeU_any n hn.out w

theorem two_cursors {B : Nat} {w w' : World} {g g' : Nat} {v v' : Value} {l l' : List UInt8} {e e' : Int} (h : Made B w g v l e) (h' : Made w.heap.size w' g' v' l' e') : g ≠ g' := by
  have h1 := h.1.1.lt
  have h2 := h'.2.1
  omega

set_option maxHeartbeats 8000000 in
theorem lshort_walk (a0 : Option Addr) (len0 cap0 : Nat) (z0 : List Int) (a1 : Int) (a2 : Int) (w : World) (w0 : IsRow .u8 w a0 len0 cap0 z0) (w1 : (Lit.int .u64 a1).wf = true) (w2 : (Lit.int .u64 a2).wf = true) :
    Calls Try.prog 12 #[.slice a0 len0 cap0, .int .u64 a1, .int .u64 a2] w fun e w' => e = .returned (.bool true) ∧ Below w.heap.size w w' := by
  obtain ⟨l, hlen, hrd, hlc, hcm⟩ := row_bytes w0
  obtain ⟨x, rfl, hx⟩ := nat_of_u64 w1
  obtain ⟨y, rfl, hy⟩ := nat_of_u64 w2
  clear w0 w1 w2
  have hW := works2_any w
  by_cases hbig : 2000 < len0
  · have hd : decide ((2000 : Int) < (len0 : Int)) = true := by simp; omega
    go_enter Try.func12, Try.ntmps12
    go_wp2_with (go_at_call 37; refine hW.mono ?_; rintro r w1 ⟨rfl, hb1⟩)
    go_ret
    exact ⟨rfl, hb1⟩
  · have hd : decide ((2000 : Int) < (len0 : Int)) = false := by simp; omega
    have hx64 : x < 2 ^ 64 := hx
    have hy64 : y < 2 ^ 64 := hy
    have hl : l.length ≤ 140737488355328 := by omega
    have HN := Lib.hid (fun W (hW : Below w.heap.size w W) => new_arg (cap := cap0) hlen hrd hW hl)
    obtain ⟨bu, hbu⟩ : ∃ b, ((uOf l 0).2.2 == 0) = b := ⟨_, rfl⟩
    obtain ⟨bs, hbs⟩ : ∃ b, ((sOf l 0).2.2 == 0) = b := ⟨_, rfl⟩
    have hcu := cmp_u l bu hbu
    have hcs := cmp_s l bs hbs
    have HU := Lib.hid (fun W g v (h : Cur W g v l 0 0) => (u_cur h hl : Calls _ _ _ _ _))
    have HS := Lib.hid (fun W g v (h : Cur W g v l 0 0) => (s_cur h hl : Calls _ _ _ _ _))
    rw [List.drop_zero] at HU HS
    simp only [Nat.zero_add] at HU HS
    have HXU := Lib.hid hcu.1
    have HZS := Lib.hid (fun W => sizeS_any (sOf l 0).1 hcs.1 W)
    have HX := Lib.hid hx64
    have HY := Lib.hid hy64
    have hcu2 := hcu.2
    have hcs2 := hcs.2
    have hrx := sizeU_range x hx64
    have hry := sizeU_range y hy64
    have hmn := sizeU_mono x y hy64
    have hmn' := sizeU_mono y x hx64
    clear hcu hcs hlen hrd hx hy hx64 hy64
    generalize uOf l 0 = ru at *
    generalize sOf l 0 = rs at *
    obtain ⟨xu, pu, eu⟩ := ru
    obtain ⟨ys, ps, es⟩ := rs
    dsimp only at *
    have q1 : (1 : Int) ≤ (sizeU x : Int) := by omega
    have q2 : (1 : Int) ≤ (sizeU y : Int) := by omega
    have q3 : (sizeU x : Int) ≤ 10 := by omega
    have q4 : (sizeU y : Int) ≤ 10 := by omega
    have hgo : ∀ (hu : (eu == 0) = false ∨ ((eu == 0) = true ∧ decide (pu < sizeU xu) = false)) (hs : (es == 0) = false ∨ ((es == 0) = true ∧ decide (ps < sizeS ys) = false)) (hxy : decide (y < x) = false ∧ decide (sizeU x ≤ sizeU y) = true ∨ decide (y < x) = true ∧ decide (sizeU y ≤ sizeU x) = true),
        Calls Try.prog 12 #[.slice a0 len0 cap0, .int .u64 (x : Int), .int .u64 (y : Int)] w fun e w' => e = .returned (.bool true) ∧ Below w.heap.size w w' := by
      clear hbu hbs hcu2 hcs2 hrx hry hmn hmn'
      intro hu hs hxy
      rcases hu with hu | ⟨hu, hu2⟩ <;> rcases hs with hs | ⟨hs, hs2⟩ <;> rcases hxy with ⟨hxy, hk⟩ | ⟨hxy, hk⟩
      all_goals go_enter Try.func12, Try.ntmps12
      all_goals go_wp2_with (first
          | (go_at_call 37; refine hW.mono ?_; rintro r w1 ⟨rfl, hb1⟩; clear hW)
          | (go_at_call 15; refine (HN.out _ hb1).mono ?_; rintro r w2 ⟨g, v, rfl, hM, hb2⟩; have hb3 := hb1.trans (hb2.mono hb1.size); have hM1 := made_up hb1.size hM; clear hM hb1)
          | (go_at_call 15; refine (HN.out _ hb3).mono ?_; rintro r w4 ⟨g4, v4, rfl, hM4, hb4⟩; have hb5 := hb3.trans (hb4.mono hb3.size); have hM5 := made_up hb3.size hM4; have hC5 := hM1.1.below hb4; have hne := two_cursors hM1 hM4; clear hM4 hb3)
          | (go_at_call 38; refine (HU.out _ _ _ hC5).mono ?_; rintro r w6 ⟨rfl, hC6, hG6⟩; have hb6 := below_cur hb5 hG6 hM1.2.1; have hD6 := hM5.1.other (Ne.symm hne) hC5.1 hG6; clear hb5)
          | (go_at_call 40; refine (HS.out _ _ _ hD6).mono ?_; rintro r w7 ⟨rfl, hD7, hG7⟩; have hb7 := below_cur hb6 hG7 hM5.2.1; have hCe := hC6.other hne hD6.1 hG7; have hCa := hCe; have hDe := hD7; have hDa := hD7; clear hb6 hC6 hD7)
          | (go_at_call 20; refine (err_cur hCe).mono ?_; rintro r w8 ⟨rfl, rfl⟩; clear hCe)
          | (go_at_call 20; refine (err_cur hDe).mono ?_; rintro r w8 ⟨rfl, rfl⟩; clear hDe; try clear hCa)
          | (go_at_call 17; refine (at_cur hCa).mono ?_; rintro r w8 ⟨rfl, rfl⟩; clear hCa)
          | (go_at_call 17; refine (at_cur hDa).mono ?_; rintro r w8 ⟨rfl, rfl⟩; clear hDa)
          | (go_at_call 48; refine (size_hid (by first | exact HXU | exact HX | exact HY) _).mono ?_; rintro r w8 ⟨rfl, rfl⟩)
          | (go_at_call 49; refine (HZS.out _).mono ?_; rintro r w8 ⟨rfl, rfl⟩))
      all_goals go_ret
      all_goals exact ⟨rfl, hb7⟩
    refine hgo ?_ ?_ ?_
    · cases bu
      · exact .inl hbu
      · exact .inr ⟨hbu, hcu2 rfl⟩
    · cases bs
      · exact .inl hbs
      · exact .inr ⟨hbs, hcs2 rfl⟩
    · by_cases hxy : x ≤ y
      · exact .inl ⟨by simp; omega, by simp; exact hmn hxy⟩
      · exact .inr ⟨by simp; omega, by simp; exact hmn' (by omega)⟩

end Go.Proofs.Ytkabefjppdklgaa
