/-
  The document's own Right and Put of layer 3.
-/
import Derived.Test.YtejicboemkpeoaaGreatDoorCsJ
import Derived.Test.YtejicboemkpeoaaGreatDoorLawA
namespace Go.Proofs.YtejicboemkpeoaaGreatDoor
open Go Go.RowKit

theorem right_any (s : List UInt8) (w : World) (hs : s.length ≤ 140737488355328) :
    Calls Tryz.prog 14 #[.string ⟨s.toArray⟩] w fun r w' => r = .returned (.bool (rightT s)) ∧ w = w' := by
  have hI := fun W => index_str s W
  have hsz : (ByteArray.mk s.toArray).size = s.length := rfl
  by_cases h1 : s.length ≤ 200
  · have hd : decide ((s.length : Int) ≤ 200) = true := by simp; omega
    by_cases h2 : tlen s = s.length
    · have hz : zeroAt s = -1 := if_neg (by omega)
      have HR := Lib.hid (show rightT s = true by unfold rightT; simp [h1, h2])
      rw [hz] at hI
      clear hz h1 h2 hs
      generalize ByteArray.mk s.toArray = b at *
      generalize s.length = n at *
      subst hsz
      go_enter Tryz.func14, Tryz.ntmps14
      go_wp2_with (go_at_call 49; refine (hI _).mono ?_; rintro r w' ⟨rfl, rfl⟩)
      go_ret
      exact ⟨by rw [HR.out]; rfl, rfl⟩
    · have hle := tlen_le s
      have hz : zeroAt s = (tlen s : Int) := if_pos (by omega)
      have HR := Lib.hid (show rightT s = false by unfold rightT; simp [h1, h2])
      have hn : decide ((tlen s : Int) < 0) = false := by simp
      rw [hz] at hI
      clear hz h1 h2 hs hle
      generalize tlen s = k at *
      generalize ByteArray.mk s.toArray = b at *
      generalize s.length = n at *
      subst hsz
      go_enter Tryz.func14, Tryz.ntmps14
      go_wp2_with (go_at_call 49; refine (hI _).mono ?_; rintro r w' ⟨rfl, rfl⟩)
      go_ret
      exact ⟨by rw [HR.out]; rfl, rfl⟩
  · have hd : decide ((s.length : Int) ≤ 200) = false := by simp; omega
    have HR := Lib.hid (show rightT s = false by unfold rightT; simp [h1])
    clear h1 hI hs
    generalize ByteArray.mk s.toArray = b at *
    generalize s.length = n at *
    subst hsz
    go_enter Tryz.func14, Tryz.ntmps14
    go_wp2_with fail
    go_ret
    exact ⟨by rw [HR.out]; rfl, rfl⟩

set_option maxHeartbeats 800000 in
theorem putt_any {w : World} {base : Nat} {v : Value} {l : List UInt8} (hown : Own w base v l) (hbase : base ≤ w.heap.size) (s : List UInt8) (hlen : l.length + s.length ≤ 140737488355000) :
    Calls Tryz.prog 181 #[v, .string ⟨s.toArray⟩] w fun r w' => ∃ v', r = .returned v' ∧ Laid w w' base v v' (l ++ putT s) := by
  obtain ⟨i0, hi, hz0, hz1, hz2⟩ := info_parts u8_info
  have hC := fun W => cut_zero s (by omega) W
  have hle := tlen_le s
  have hputs : l ++ putT s = (l ++ s.take (tlen s)) ++ [0] := by unfold putT; rw [List.append_assoc]
  have hsum : l.length + (s.take (tlen s)).length ≤ 140737488355328 := by simp; omega
  have hsum2 : (l ++ s.take (tlen s)).length + [(0 : UInt8)].length ≤ 140737488355328 := by simp; omega
  have HP := Lib.hid hputs
  unfold headT at hC
  have HO := Lib.hid hown
  have HR := Lib.hid (fun W => rd_one W 0 0 rfl)
  clear hputs hlen hle hown
  generalize s.take (tlen s) = t at *
  generalize ByteArray.mk s.toArray = b at *
  go_enter Tryz.func181, Tryz.ntmps181
  go_wp2_with (first
    | (go_at_call 205; refine (hC _).mono ?_; rintro r w1 ⟨⟨u, f, rfl⟩, n, rfl⟩)
    | (at_builtin; refine wpList_append_str (by rfl) (.tmp 14) (.tmp 15) _ _ (by rfl) base i0 Tryz.underlying26 Tryz.underlying9 hi hz0 hz1 hz2 v l (by rfl) (World.ownsRow.kept (w := w) HO.out (only_drewN (only_refl w none) n) (by rcases v.ownBlock with _ | k <;> simp)) t (by rfl) hsum (by exact hbase) ?_; intro v1 w1 hown1 hg1 hat1; have HL1 := Lib.hid (show Laid w w1 base v v1 (l ++ t) from ⟨hown1, only_drewN_left hg1, hat1⟩); clear hown1 hg1 hat1)
    | (at_builtin; refine wpList_append_bytes (by rfl) (.tmp 17) (.tmp 18) _ (by rfl) base i0 Tryz.underlying26 hi hz0 hz1 hz2 v1 (l ++ t) (by rfl) (HL1.out.1.alloc _) (w1.heap.size + 1) (some ⟨w1.heap.size, 0, none⟩) 1 1 [0] rfl (by rfl) (HR.out _) hsum2 (by have := HL1.out.2.1.size; simp; omega) ?_; intro v2 w2 hown2 hg2 hat2))
  go_ret
  exact ⟨_, rfl, by rw [HP.out]; exact HL1.out.trans (Laid.of_append ((Below.refl w1.heap.size w1).alloc (Nat.le_refl _) _) hown2 hg2 hat2)⟩

end Go.Proofs.YtejicboemkpeoaaGreatDoor

namespace Go.Proofs.YtejicboemkpeoaaGreatDoor
open Go Go.RowKit

theorem byte_zero (b : UInt8) : ((b.toNat : Int) == 0) = decide (b = 0) := by
  by_cases h : b = 0
  · subst h; rfl
  · have : b.toNat ≠ 0 := fun e => h (UInt8.toNat_inj.1 (by simpa using e))
    simp [h, this]

theorem up_next {s : List UInt8} {k : Nat} (hup : ∀ j (hj : j < s.length), j < k → s[j] ≠ 0) (h : k < s.length) (hb : s[k] ≠ 0) : ∀ j (hj : j < s.length), j < k + 1 → s[j] ≠ 0 := fun j hj hjk => by
  rcases Nat.lt_or_ge j k with h1 | h1
  · exact hup j hj h1
  · have e : j = k := by omega
    subst e
    exact hb

set_option maxHeartbeats 800000 in
theorem rright_any (s : List UInt8) (w : World) (hs : s.length ≤ 140737488355328) :
    Calls Tryz.prog 43 #[.string ⟨s.toArray⟩] w fun r w' => r = .returned (.bool (rightT s)) ∧ w = w' := by
  have hsz : (ByteArray.mk s.toArray).size = s.length := rfl
  go_enter Tryz.func43, Tryz.ntmps43
  go_wp2_with fail
  go_loop [3] (fun i => ∃ k : Nat, i = .int .i64 k ∧ k ≤ s.length ∧ (∀ j (hj : j < s.length), j < k → s[j] ≠ 0)) (fun i => s.length - (intOf i).toNat)
  case atStart => exact ⟨0, rfl, Nat.zero_le _, fun j hj h0 => by omega⟩
  case round =>
    obtain ⟨k, rfl, hk, hup⟩ := hrel
    by_cases hlt : k < s.length
    · have hg := byte_zero ((ByteArray.mk s.toArray)[k]'hlt)
      by_cases hb : s[k] = 0
      · have hb2 : (ByteArray.mk s.toArray)[k]'hlt = 0 := hb
        rw [hb2] at hg
        have hb0 : ((((ByteArray.mk s.toArray)[k]'hlt).toNat : Int) == 0) = true := by rw [hb2]; rfl
        have ht : tlen s = k := tlen_eq s k hlt hup hb
        have HR := Lib.hid (show rightT s = false by unfold rightT; rw [ht]; simp; omega)
        clear hup ht hg hb hb2
        go_wp2_with fail
        go_ret
        exact ⟨by rw [HR.out]; rfl, rfl⟩
      · have hb0 : ((((ByteArray.mk s.toArray)[k]'hlt).toNat : Int) == 0) = false := by rw [hg]; exact decide_eq_false hb
        have HUP := Lib.hid (up_next hup hlt hb)
        clear hup hg hb
        go_wp2_with fail
        exact ⟨⟨k + 1, by go_num, by omega, HUP.out⟩, by simp [intOf]; omega⟩
    · have ht : tlen s = s.length := tlen_all s fun j hj => hup j hj (by omega)
      have HR := Lib.hid (show rightT s = decide ((s.length : Int) ≤ 200) by
        unfold rightT; rw [ht]; by_cases h : s.length ≤ 200
        · simp [h]; omega
        · simp [h]; omega)
      clear hup ht
      go_wp2_with fail
      go_ret
      exact ⟨by rw [HR.out]; rfl, rfl⟩

set_option maxHeartbeats 1600000 in
theorem rputt_any (s : List UInt8) (w : World) (hs : s.length ≤ 140737488355000) :
    Calls Tryz.prog 107 #[.string ⟨s.toArray⟩] w fun r w' => ∃ v', r = .returned v' ∧ Own w' w.heap.size v' (putT s) ∧ Below w.heap.size w w' := by
  obtain ⟨i0, hi, hz0, hz1, hz2⟩ := info_parts u8_info
  have hsz : (ByteArray.mk s.toArray).size = s.length := rfl
  have HO := Lib.hid (Laid.refl (l := []) (World.ownsRow_nil w w.heap.size 5 1))
  go_enter Tryz.func107, Tryz.ntmps107
  go_wp2_with fail
  go_loopw [3, 4] (fun u i wr => ∃ k : Nat, i = .int .i64 k ∧ k ≤ s.length ∧ (∀ j (hj : j < s.length), j < k → s[j] ≠ 0) ∧ Laid w wr w.heap.size (.slice none 0 0) u (s.take k)) (fun _ i _ => s.length - (intOf i).toNat)
  case atStart => exact ⟨0, rfl, Nat.zero_le _, fun j hj h0 => by omega, by simpa using HO.out⟩
  case round =>
    obtain ⟨k, rfl, hk, hup, hL⟩ := hrel
    have HL := Lib.hid hL
    clear hL HO
    have stop : k = tlen s → Hid (putT s = s.take k ++ [0]) := fun e => Lib.hid (by rw [e]; rfl)
    have hsum0 : (s.take k).length + [(0 : UInt8)].length ≤ 140737488355328 := by simp; omega
    have HR0 := Lib.hid (rd_one wr 0 0 rfl)
    have hb1 : w.heap.size ≤ wr.heap.size + 1 := by have := HL.out.2.1.size; omega
    by_cases hlt : k < s.length
    · have hg := byte_zero ((ByteArray.mk s.toArray)[k]'hlt)
      by_cases hb : s[k] = 0
      · have hb2 : (ByteArray.mk s.toArray)[k]'hlt = 0 := hb
        have hb0 : ((((ByteArray.mk s.toArray)[k]'hlt).toNat : Int) == 0) = true := by rw [hb2]; rfl
        have hb3 : ((((ByteArray.mk s.toArray)[k]'hlt).toNat : Int) != 0) = false := by simp [hb2]
        have HP := stop (tlen_eq s k hlt hup hb).symm
        clear hup hg hb hb2 stop
        go_wp2_with (at_builtin; refine wpList_append_bytes (by rfl) (.tmp 23) (.tmp 24) _ (by rfl) w.heap.size i0 Tryz.underlying26 hi hz0 hz1 hz2 u3 (s.take k) (by rfl) (HL.out.1.alloc _) (wr.heap.size + 1) (some ⟨wr.heap.size, 0, none⟩) 1 1 [0] rfl (by rfl) HR0.out hsum0 (by simpa using hb1) ?_; intro v2 w2 hown2 hg2 hat2)
        have HL1 := Lib.hid (HL.out.trans (Laid.of_append ((Below.refl wr.heap.size wr).alloc (Nat.le_refl _) _) hown2 hg2 hat2))
        go_ret
        exact ⟨_, rfl, by rw [HP.out]; exact HL1.out.1, below_of_only HL1.out.2.1 (Nat.le_refl _) (by simp [Value.ownBlock])⟩
      · have hb0 : ((((ByteArray.mk s.toArray)[k]'hlt).toNat : Int) == 0) = false := by rw [hg]; exact decide_eq_false hb
        have hb3 : ((((ByteArray.mk s.toArray)[k]'hlt).toNat : Int) != 0) = true := by simp [bne, hb0]
        have HUP := Lib.hid (up_next hup hlt hb)
        have HR := Lib.hid (rd_one wr (((ByteArray.mk s.toArray)[k]'hlt).toNat : Int) s[k] rfl)
        have hsum : (s.take k).length + [s[k]].length ≤ 140737488355328 := by simp; omega
        have HT := Lib.hid (show s.take (k + 1) = s.take k ++ [s[k]] from List.take_succ_eq_append_getElem hlt)
        clear hup hg hb stop HR0
        go_wp2_with (at_builtin; refine wpList_append_bytes (by rfl) (.tmp 17) (.tmp 21) _ (by rfl) w.heap.size i0 Tryz.underlying26 hi hz0 hz1 hz2 u3 (s.take k) (by rfl) (HL.out.1.alloc _) (wr.heap.size + 1) (some ⟨wr.heap.size, 0, none⟩) 1 1 [s[k]] rfl (by rfl) HR.out hsum (by simpa using hb1) ?_; intro v2 w2 hown2 hg2 hat2)
        have HL1 := Lib.hid (HL.out.trans (Laid.of_append ((Below.refl wr.heap.size wr).alloc (Nat.le_refl _) _) hown2 hg2 hat2))
        clear hown2 hg2 hat2
        go_roundw
        case rel => exact ⟨k + 1, by go_num, by omega, HUP.out, by rw [HT.out]; exact HL1.out⟩
        case measure => simp [intOf]; omega
    · have ht : tlen s = s.length := tlen_all s fun j hj => hup j hj (by omega)
      have HP := stop (by omega)
      clear hup ht stop
      go_wp2_with (at_builtin; refine wpList_append_bytes (by rfl) (.tmp 23) (.tmp 24) _ (by rfl) w.heap.size i0 Tryz.underlying26 hi hz0 hz1 hz2 u3 (s.take k) (by rfl) (HL.out.1.alloc _) (wr.heap.size + 1) (some ⟨wr.heap.size, 0, none⟩) 1 1 [0] rfl (by rfl) HR0.out hsum0 (by simpa using hb1) ?_; intro v2 w2 hown2 hg2 hat2)
      have HL1 := Lib.hid (HL.out.trans (Laid.of_append ((Below.refl wr.heap.size wr).alloc (Nat.le_refl _) _) hown2 hg2 hat2))
      go_ret
      exact ⟨_, rfl, by rw [HP.out]; exact HL1.out.1, below_of_only HL1.out.2.1 (Nat.le_refl _) (by simp [Value.ownBlock])⟩

end Go.Proofs.YtejicboemkpeoaaGreatDoor
