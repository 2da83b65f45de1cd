/-
  The contracts of a cursor's Bytes, Sub and Seek.
-/
import Derived.Test.YtpmpgfngogdfhaaDoorCurD
namespace Go.Proofs.YtpmpgfngogdfhaaDoor
open Go Go.RowKit

theorem made_up {B B' : Nat} {w' : World} {g' : Nat} {v' : Value} {l' : List UInt8} {e' : Int} (hB : B ≤ B') (hM : Made B' w' g' v' l' e') : Made B w' g' v' l' e' :=
  ⟨hM.1, Nat.le_trans hB hM.2.1, fun k hk => Nat.le_trans hB (hM.2.2 k hk)⟩

theorem sub_cur {w : World} {g : Nat} {v : Value} {l : List UInt8} {a : Nat} {e : Int} (h : Cur w g v l a e) (n : Nat) (hlen : l.length ≤ 140737488355328) :
    Calls Tryd.prog 115 #[.pointer (some ⟨g, 0, none⟩), .int .u64 (n : Int)] w fun r w' =>
      ∃ g2 v2, r = .returned (.pointer (some ⟨g2, 0, none⟩)) ∧ Made w.heap.size w' g2 v2 (nextGot l a e n) (nextErr l a e n) ∧ Cur w' g v l (nextAt l a e n) (nextErr l a e n) ∧ w.grownBy w' (some g) := by
  have hN := fun W (hW : W = w) => next_any (w := W) (hW ▸ h) n hlen
  have hgl : (nextGot l a e n).length ≤ 140737488355328 := by
    unfold nextGot; split
    · simp; omega
    · simp
  have hC := fun W A (hr : Rd W W.heap.size A (nextGot l a e n)) => new_any (w := W) (nextGot l a e n).length hr (Nat.le_refl _) hgl
  have hF := fun W => refused_any W (nextErr l a e n)
  have hE := fun W (hK : Cur W g v l (nextAt l a e n) (nextErr l a e n)) => err_cur hK
  have hnil : nextErr l a e n ≠ 0 → nextGot l a e n = [] := by
    intro hne
    unfold nextErr at hne
    unfold nextGot
    by_cases he : e = 0
    · by_cases hn : n ≤ l.length - a
      · rw [if_pos he, if_pos hn] at hne; exact absurd rfl hne
      · simp [hn]
    · simp [he]
  clear h hlen hgl
  by_cases hz : nextErr l a e n = 0
  · have hq : (nextErr l a e n != 0) = false := by simp [hz]
    have HZ := Lib.hid hz
    clear hz hF hnil
    generalize nextErr l a e n = f at *
    go_enter Tryd.func115, Tryd.ntmps115
    go_wp2_with (first | (go_at_call 69; refine (hN _ rfl).mono ?_; rintro r w1 ⟨A, rfl, hR, hK, hG⟩; have HK := Lib.hid hK; have HG := Lib.hid hG; clear hK hG hN) | (go_at_call 66; refine (hE _ HK.out).mono ?_; rintro r w2 ⟨rfl, rfl⟩) | (go_at_call 36; refine (hC _ _ hR).mono ?_; rintro r w3 ⟨g2, v2, rfl, hM, hbel⟩; have HM := Lib.hid hM; have HB := Lib.hid hbel; clear hM hbel))
    go_ret
    exact ⟨g2, v2, rfl, by rw [HZ.out]; exact made_up HG.out.size HM.out, HK.out.below HB.out, only_then_below HG.out HB.out⟩
  · have hq : (nextErr l a e n != 0) = true := by simp [hz]
    have HZ := Lib.hid (hnil hz)
    clear hz hC hnil
    generalize nextErr l a e n = f at *
    go_enter Tryd.func115, Tryd.ntmps115
    go_wp2_with (first | (go_at_call 69; refine (hN _ rfl).mono ?_; rintro r w1 ⟨A, rfl, hR, hK, hG⟩; have HK := Lib.hid hK; have HG := Lib.hid hG; clear hK hG hN hR) | (go_at_call 66; refine (hE _ HK.out).mono ?_; rintro r w2 ⟨rfl, rfl⟩) | (go_at_call 124; refine (hF _).mono ?_; rintro r w3 ⟨g2, v2, rfl, hM, hbel⟩; have HM := Lib.hid hM; have HB := Lib.hid hbel; clear hM hbel))
    go_ret
    exact ⟨g2, v2, rfl, by rw [HZ.out]; exact made_up HG.out.size HM.out, HK.out.below HB.out, only_then_below HG.out HB.out⟩

end Go.Proofs.YtpmpgfngogdfhaaDoor
