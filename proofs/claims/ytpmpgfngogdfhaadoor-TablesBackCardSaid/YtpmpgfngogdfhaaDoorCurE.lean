/-
  The contracts of a cursor's Bytes, Sub and Seek.
-/
import Derived.Test.YtpmpgfngogdfhaaDoorCurD
namespace Go.Proofs.YtpmpgfngogdfhaaDoor
open Go Go.RowKit

theorem made_up {B B' : Nat} {w' : World} {g' : Nat} {v' : Value} {l' : List UInt8} {e' : Int} (hB : B ≤ B') (hM : Made B' w' g' v' l' e') : Made B w' g' v' l' e' :=
  ⟨hM.1, Nat.le_trans hB hM.2.1, fun k hk => Nat.le_trans hB (hM.2.2 k hk)⟩

theorem sub_cur {w : World} {g : Nat} {v : Value} {l : List UInt8} {a : Nat} {e : Int} (h : Cur w g v l a e) (n : Nat) (hlen : l.length ≤ 140737488355328) :
    Calls Tryd.prog 115 #[.pointer (some ⟨g, 0, none⟩), .int .u64 (n : Int)] w fun r w' =>
      ∃ g2 v2, r = .returned (.pointer (some ⟨g2, 0, none⟩)) ∧ Made w.heap.size w' g2 v2 (nextGot l a e n) (nextErr l a e n) ∧ Cur w' g v l (nextAt l a e n) (nextErr l a e n) ∧ w.grownBy w' (some g) := by
  have hN := fun W (hW : W = w) => next_any (w := W) (hW ▸ h) n hlen
  have hgl : (nextGot l a e n).length ≤ 140737488355328 := by
    unfold nextGot; split
    · simp; omega
    · simp
  have hC := fun W A (hr : Rd W W.heap.size A (nextGot l a e n)) => new_any (w := W) (nextGot l a e n).length hr (Nat.le_refl _) hgl
  have hF := fun W => refused_any W (nextErr l a e n)
  have hE := fun W (hK : Cur W g v l (nextAt l a e n) (nextErr l a e n)) => err_cur hK
  have hnil : nextErr l a e n ≠ 0 → nextGot l a e n = [] := by
    intro hne
    unfold nextErr at hne
    unfold nextGot
    by_cases he : e = 0
    · by_cases hn : n ≤ l.length - a
      · rw [if_pos he, if_pos hn] at hne; exact absurd rfl hne
      · simp [hn]
    · simp [he]
  clear h hlen hgl
  by_cases hz : nextErr l a e n = 0
  · have hq : (nextErr l a e n != 0) = false := by simp [hz]
    have HZ := Lib.hid hz
    clear hz hF hnil
    generalize nextErr l a e n = f at *
    go_enter Tryd.func115, Tryd.ntmps115
    go_wp2_with (first | (go_at_call 69; refine (hN _ rfl).mono ?_; rintro r w1 ⟨A, rfl, hR, hK, hG⟩; have HK := Lib.hid hK; have HG := Lib.hid hG; clear hK hG hN) | (go_at_call 66; refine (hE _ HK.out).mono ?_; rintro r w2 ⟨rfl, rfl⟩) | (go_at_call 36; refine (hC _ _ hR).mono ?_; rintro r w3 ⟨g2, v2, rfl, hM, hbel⟩; have HM := Lib.hid hM; have HB := Lib.hid hbel; clear hM hbel))
    go_ret
    exact ⟨g2, v2, rfl, by rw [HZ.out]; exact made_up HG.out.size HM.out, HK.out.below HB.out, only_then_below HG.out HB.out⟩
  · have hq : (nextErr l a e n != 0) = true := by simp [hz]
    have HZ := Lib.hid (hnil hz)
    clear hz hC hnil
    generalize nextErr l a e n = f at *
    go_enter Tryd.func115, Tryd.ntmps115
    go_wp2_with (first | (go_at_call 69; refine (hN _ rfl).mono ?_; rintro r w1 ⟨A, rfl, hR, hK, hG⟩; have HK := Lib.hid hK; have HG := Lib.hid hG; clear hK hG hN hR) | (go_at_call 66; refine (hE _ HK.out).mono ?_; rintro r w2 ⟨rfl, rfl⟩) | (go_at_call 124; refine (hF _).mono ?_; rintro r w3 ⟨g2, v2, rfl, hM, hbel⟩; have HM := Lib.hid hM; have HB := Lib.hid hbel; clear hM hbel))
    go_ret
    exact ⟨g2, v2, rfl, by rw [HZ.out]; exact made_up HG.out.size HM.out, HK.out.below HB.out, only_then_below HG.out HB.out⟩

/-- Where Seek goes, or why not. -/
def seekAt (l : List UInt8) (a : Nat) (e : Int) (n : Nat) : Nat := if e = 0 ∧ n ≤ l.length then n else a
def seekErr (l : List UInt8) (e : Int) (n : Nat) : Int := if e = 0 then (if n ≤ l.length then 0 else 10) else e

theorem seek_cur {w : World} {g : Nat} {v : Value} {l : List UInt8} {a : Nat} {e : Int} (h : Cur w g v l a e) (n : Nat) (hn64 : n < two64) (hlen : l.length ≤ 140737488355328) :
    Calls Tryd.prog 37 #[.pointer (some ⟨g, 0, none⟩), .int .u64 (n : Int)] w fun r w' =>
      r = .returned (.tuple #[]) ∧ Cur w' g v l (seekAt l a e n) (seekErr l e n) ∧ w.grownBy w' (some g) := by
  obtain ⟨A, c, hv, hlc, hcm, hrd⟩ := own_slice h.2.1
  subst hv
  have hE := fun W (hW : W = w) => err_cur (w := W) (hW ▸ h)
  have h0 := h.1.cell 0
  have h1 := h.1.cell 1
  have f1 := h.1.free 1
  simp at h0 h1
  clear hrd hcm hlc
  have hW := within_any n 0 l.length w hn64 (by unfold two64; omega)
  rw [within_iff n 0 l.length (by unfold two64; omega), Nat.add_zero] at hW
  by_cases he : e = 0
  · subst he
    by_cases hn : n ≤ l.length
    · have H := Lib.hid (show Cur (w.setCell ⟨g, 1, none⟩ (.int .i64 (n : Int))) g (.slice A l.length c) l (seekAt l a 0 n) (seekErr l 0 n) by
        unfold seekAt seekErr
        rw [if_pos ⟨rfl, hn⟩, if_pos rfl, if_pos hn]
        exact h.moved n hn)
      have G := Lib.hid (only_set (only_refl w (some g)) 1 (.int .i64 (n : Int)))
      rw [decide_eq_true hn] at hW
      have hnn : (n : Int) ≤ 140737488355328 := by omega
      clear h hn64 hn
      generalize l.length = m at *
      go_enter Tryd.func37, Tryd.ntmps37
      go_wp2_with (first | (go_at_call 66; refine (hE _ rfl).mono ?_; rintro r w2 ⟨rfl, rfl⟩) | (go_at_call 67; refine hW.mono ?_; rintro r w2 ⟨rfl, rfl⟩))
      go_end0
      exact ⟨rfl, H.out, G.out⟩
    · have hF := fail_cur h 10
      rw [decide_eq_false hn] at hW
      have H := Lib.hid (show seekAt l a 0 n = a ∧ seekErr l 0 n = 10 by
        unfold seekAt seekErr
        rw [if_neg (fun x => hn x.2), if_pos rfl, if_neg hn]
        exact ⟨rfl, rfl⟩)
      clear h hn hn64
      generalize l.length = m at *
      go_enter Tryd.func37, Tryd.ntmps37
      go_wp2_with (first | (go_at_call 66; refine (hE _ rfl).mono ?_; rintro r w2 ⟨rfl, rfl⟩) | (go_at_call 67; refine hW.mono ?_; rintro r w2 ⟨rfl, rfl⟩) | (go_at_call 68; refine hF.mono ?_; rintro r w2 ⟨rfl, hC, hG⟩))
      first | go_end0 | (refine bodyPost_ret (results_none rfl _ _ _) rfl ?_)
      exact ⟨rfl, by rw [H.out.1, H.out.2]; simpa [failOf] using hC, hG⟩
  · have H := Lib.hid (show Cur w g (.slice A l.length c) l (seekAt l a e n) (seekErr l e n) by
      unfold seekAt seekErr
      rw [if_neg (fun x => he x.1), if_neg he]
      exact h)
    have hz : (e != 0) = true := by simp [he]
    clear h he hn64 hW
    generalize l.length = m at *
    go_enter Tryd.func37, Tryd.ntmps37
    go_wp2_with (go_at_call 66; refine (hE _ rfl).mono ?_; rintro r w2 ⟨rfl, rfl⟩)
    first | go_end0 | (refine bodyPost_ret (results_none rfl _ _ _) rfl ?_)
    exact ⟨rfl, H.out, only_refl _ _⟩

end Go.Proofs.YtpmpgfngogdfhaaDoor
