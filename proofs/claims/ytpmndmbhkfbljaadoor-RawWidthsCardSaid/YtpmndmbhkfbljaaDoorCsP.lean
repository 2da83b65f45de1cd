/-
  The contracts of layer 3's Right and Put, and of the document's own.
-/
import Derived.Test.YtpmndmbhkfbljaaDoorCsJ
import Derived.Test.YtpmndmbhkfbljaaDoorPutR
namespace Go.Proofs.YtpmndmbhkfbljaaDoor
open Go Go.RowKit

theorem right_any (s : List UInt8) (w : World) (hs : s.length ≤ 140737488355328) :
    Calls Tryd.prog 64 #[.string ⟨s.toArray⟩] w fun r w' => r = .returned (.bool (rightT s)) ∧ w = w' := by
  have hI := fun W => index_str s W
  have hsz : (ByteArray.mk s.toArray).size = s.length := rfl
  by_cases h1 : s.length ≤ 200
  · have hd : decide ((s.length : Int) ≤ 200) = true := by simp; omega
    by_cases h2 : tlen s = s.length
    · have hz : zeroAt s = -1 := if_neg (by omega)
      have HR := Lib.hid (show rightT s = true by unfold rightT; simp [h1, h2])
      rw [hz] at hI
      clear hz h1 h2 hs
      generalize ByteArray.mk s.toArray = b at *
      generalize s.length = n at *
      subst hsz
      go_enter Tryd.func64, Tryd.ntmps64
      go_wp2_with (go_at_call 79; refine (hI _).mono ?_; rintro r w' ⟨rfl, rfl⟩)
      go_ret
      exact ⟨by rw [HR.out]; rfl, rfl⟩
    · have hle := tlen_le s
      have hz : zeroAt s = (tlen s : Int) := if_pos (by omega)
      have HR := Lib.hid (show rightT s = false by unfold rightT; simp [h1, h2])
      have hn : decide ((tlen s : Int) < 0) = false := by simp
      rw [hz] at hI
      clear hz h1 h2 hs hle
      generalize tlen s = k at *
      generalize ByteArray.mk s.toArray = b at *
      generalize s.length = n at *
      subst hsz
      go_enter Tryd.func64, Tryd.ntmps64
      go_wp2_with (go_at_call 79; refine (hI _).mono ?_; rintro r w' ⟨rfl, rfl⟩)
      go_ret
      exact ⟨by rw [HR.out]; rfl, rfl⟩
  · have hd : decide ((s.length : Int) ≤ 200) = false := by simp; omega
    have HR := Lib.hid (show rightT s = false by unfold rightT; simp [h1])
    clear h1 hI hs
    generalize ByteArray.mk s.toArray = b at *
    generalize s.length = n at *
    subst hsz
    go_enter Tryd.func64, Tryd.ntmps64
    go_wp2_with fail
    go_ret
    exact ⟨by rw [HR.out]; rfl, rfl⟩

set_option maxHeartbeats 800000 in
theorem putt_any {w : World} {base : Nat} {v : Value} {l : List UInt8} (hown : Own w base v l) (hbase : base ≤ w.heap.size) (s : List UInt8) (hlen : l.length + s.length ≤ 140737488355000) :
    Calls Tryd.prog 58 #[v, .string ⟨s.toArray⟩] w fun r w' => ∃ v', r = .returned v' ∧ Laid w w' base v v' (l ++ putT s) := by
  obtain ⟨i0, hi, hz0, hz1, hz2⟩ := info_parts u8_info
  have hC := fun W => cut_zero s (by omega) W
  have hle := tlen_le s
  have hputs : l ++ putT s = (l ++ s.take (tlen s)) ++ [0] := by unfold putT; rw [List.append_assoc]
  have hsum : l.length + (s.take (tlen s)).length ≤ 140737488355328 := by simp; omega
  have hsum2 : (l ++ s.take (tlen s)).length + [(0 : UInt8)].length ≤ 140737488355328 := by simp; omega
  have HP := Lib.hid hputs
  unfold headT at hC
  have HO := Lib.hid hown
  have HR := Lib.hid (fun W => rd_one W 0 0 rfl)
  clear hputs hlen hle hown
  generalize s.take (tlen s) = t at *
  generalize ByteArray.mk s.toArray = b at *
  go_enter Tryd.func58, Tryd.ntmps58
  go_wp2_with (first
    | (go_at_call 74; refine (hC _).mono ?_; rintro r w1 ⟨⟨u, f, rfl⟩, n, rfl⟩)
    | (at_builtin; refine wpList_append_str (by rfl) (.tmp 14) (.tmp 15) _ _ (by rfl) base i0 Tryd.underlying22 Tryd.underlying9 hi hz0 hz1 hz2 v l (by rfl) (World.ownsRow.kept (w := w) HO.out (only_drewN (only_refl w none) n) (by rcases v.ownBlock with _ | k <;> simp)) t (by rfl) hsum (by exact hbase) ?_; intro v1 w1 hown1 hg1 hat1; have HL1 := Lib.hid (show Laid w w1 base v v1 (l ++ t) from ⟨hown1, only_drewN_left hg1, hat1⟩); clear hown1 hg1 hat1)
    | (at_builtin; refine wpList_append_bytes (by rfl) (.tmp 17) (.tmp 18) _ (by rfl) base i0 Tryd.underlying22 hi hz0 hz1 hz2 v1 (l ++ t) (by rfl) (HL1.out.1.alloc _) (w1.heap.size + 1) (some ⟨w1.heap.size, 0, none⟩) 1 1 [0] rfl (by rfl) (HR.out _) hsum2 (by have := HL1.out.2.1.size; simp; omega) ?_; intro v2 w2 hown2 hg2 hat2))
  go_ret
  exact ⟨_, rfl, by rw [HP.out]; exact HL1.out.trans (Laid.of_append ((Below.refl w1.heap.size w1).alloc (Nat.le_refl _) _) hown2 hg2 hat2)⟩

end Go.Proofs.YtpmndmbhkfbljaaDoor
