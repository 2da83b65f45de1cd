/-
  Once: the program's, by a set of texts; and the document's, text by text.
-/
import Derived.Test.YtejicboemkpeoaaGreatDoorCsQ
import Derived.Test.YtejicboemkpeoaaGreatDoorRefR
import Derived.Test.YtejicboemkpeoaaGreatDoorCsL
import Derived.Lib.SlBytesConst
namespace Go.Proofs.YtejicboemkpeoaaGreatDoor
open Go Go.RowKit

theorem rtake_ref {B : Nat} {w : World} {g : Nat} {v : Value} {l : List UInt8} {a : Nat} {e : Int} (h : RR B w g v l a e) (he : e ≠ 0) :
    Calls Tryz.prog 139 #[.pointer (some ⟨g, 0, none⟩)] w fun x w' => x = .returned (.string ⟨#[]⟩) ∧ w = w' := by
  have h2 := h.1.cell 2
  simp at h2
  have hz : (e != 0) = true := by simp [he]
  clear h he
  go_enter Tryz.func139, Tryz.ntmps139
  go_wp2_with fail
  go_ret
  exact ⟨rfl, rfl⟩

set_option maxRecDepth 10000 in
set_option maxHeartbeats 3200000 in
theorem rtake_ok {B : Nat} {w : World} {g : Nat} {v : Value} {l : List UInt8} {a : Nat} (h : RR B w g v l a 0) (hlen : l.length ≤ 140737488355000) :
    Calls Tryz.prog 139 #[.pointer (some ⟨g, 0, none⟩)] w fun x w' => x = .returned (.string ⟨(readT (l.drop a)).1.toArray⟩) ∧ RR B w' g v l (a + (readT (l.drop a)).2.1) (readT (l.drop a)).2.2 ∧ w.grownBy w' (some g) := by
  obtain ⟨A, c, hv, hlc, hcm, hrd⟩ := h.2.1
  subst hv
  have h0 := h.1.cell 0
  have h1 := h.1.cell 1
  have h2 := h.1.cell 2
  have f1 := h.1.free 1
  have f2 := h.1.free 2
  simp at h0 h1 h2
  have hal := h.2.2.1
  unfold maxLen at hcm
  obtain ⟨r, hr⟩ : ∃ r, r = l.drop a := ⟨_, rfl⟩
  have hrl : r.length = l.length - a := by rw [hr]; simp
  rw [← hr]
  have hrdr := rd_cut hrd a r.length
  rw [← hr, List.take_length] at hrdr
  have hcell : ∀ k (hk : k < r.length), ∃ b o, A = some ⟨b, o, none⟩ ∧ w.cell? ⟨b, o + (a + k), none⟩ = some (.int .u8 (r[k].toNat : Int)) := by
    intro k hk
    obtain ⟨b, o, hA, _, hc⟩ := hrd (by omega)
    refine ⟨b, o, hA, ?_⟩
    have hget : r[k] = l[a + k]'(by omega) := by simp only [hr, List.getElem_drop]
    rw [hget]
    exact hc (a + k) _ (List.getElem?_eq_getElem (by omega))
  have HC := Lib.hid hcell
  have HH := Lib.hid h
  have HRD := Lib.hid hrdr
  generalize hN : l.length = N at *
  clear hcell h hrd hrdr hr
  go_enter Tryz.func139, Tryz.ntmps139
  go_wp2_with fail
  go_loop [3] (fun i => ∃ k : Nat, i = .int .i64 ((a : Int) + (k : Int)) ∧ k ≤ r.length ∧ (∀ j (hj : j < r.length), j < k → r[j] ≠ 0)) (fun i => N - (intOf i).toNat)
  case atStart => exact ⟨0, by simp, Nat.zero_le _, fun j hj h0 => by omega⟩
  case round =>
    obtain ⟨k, rfl, hk, hup⟩ := hrel
    by_cases hlt : k < r.length
    · obtain ⟨b, o, rfl, hck⟩ := HC.out k hlt
      have hg := byte_zero r[k]
      have b1 : (a : Int) + (k : Int) < (N : Int) := by omega
      have b2 : (0 : Int) ≤ (a : Int) + (k : Int) := by omega
      have b3 : ((a : Int) + (k : Int)).toNat = a + k := by omega
      by_cases hb : r[k] = 0
      · have ht : tlen r = k := tlen_eq r k hlt hup hb
        have hb0 : ((r[k].toNat : Int) != 0) = false := by simp [hb]
        have s1 : IntKind.i64.wrap ((a : Int) + (k : Int) - (a : Int)) = (k : Int) := by rw [IntWalk.i64_in _ (by omega)]; omega
        have q1 : ((a : Int) + (k : Int) == (N : Int)) = false := by simp; omega
        by_cases hbig : 200 < k
        · have hbig' : (200 : Int) < (k : Int) := by omega
          have HR := Lib.hid (show readT r = ([], 0, 3) from readT_big (by omega) (by omega))
          have HF := Lib.hid (HH.out.failed 3)
          have HO := Lib.hid (only_set (only_refl w (some g)) 2 (.int .i64 3))
          clear hup hg hb ht
          go_wp2_with fail
          go_ret
          exact ⟨by rw [HR.out]; rfl, by rw [HR.out]; exact HF.out, HO.out⟩
        · have hbig' : ¬ (200 : Int) < (k : Int) := by omega
          have HR := Lib.hid (show readT r = (r.take k, k + 1, 0) by rw [readT_ok (by omega) (by omega), ht])
          have b4 : (a : Int) ≤ (a : Int) + (k : Int) := by omega
          have b5 : (a : Int) + (k : Int) ≤ (c : Int) := by omega
          have b6 : (0 : Int) ≤ (a : Int) := by omega
          have hca : c ≠ a := by omega
          obtain ⟨A2, c2, hsl, hra⟩ : ∃ A2 c2, (∀ W : World, (Instr.slice 26 (.slice (some ⟨b, o, none⟩) N c) (some (.int .i64 (a : Int))) (some (.int .i64 ((a : Int) + (k : Int)))) none).run Tryz.prog W = .ok (.slice A2 k c2) W) ∧ (convert 26 9 (.slice A2 k c2)).run Tryz.prog w.drew = .ok (.string ⟨(r.take k).toArray⟩) w.drew := by
            refine ⟨Option.map (fun x : Addr => x.add a) (some ⟨b, o, none⟩), c - a, fun W => ?_, ?_⟩
            · rw [run_slice_lh W _ _ _ _ Tryz.underlying26 _ _ _ _ b6 b4 b5, size_u8]
              simp only [Result.andThen, sliced, if_neg hca, Int.toNat_natCast, Nat.mul_one, b3, Nat.add_sub_cancel_left]
            · have hrd2 := rd_cut HRD.out 0 k
              have e1 : Option.map (fun x : Addr => x.add 0) (Option.map (fun x => x.add a) (some (⟨b, o, none⟩ : Addr))) = Option.map (fun x : Addr => x.add a) (some ⟨b, o, none⟩) := by simp [addr_add]
              rw [e1, List.drop_zero] at hrd2
              have hl2 : (r.take k).length = k := by simp; omega
              have h3 := conv_rd (w := w.drew) hrd2 (c - a)
              rw [hl2] at h3
              exact h3
          have s2 : IntKind.i64.wrap ((a : Int) + (k : Int) + 1) = (a : Int) + (k : Int) + 1 := by rw [IntWalk.i64_in _ (by omega)]
          have HF := Lib.hid ((by
            have := (show RR B w.drew g (.slice (some ⟨b, o, none⟩) N c) l a 0 from HH.out).moved (a + (k + 1)) (by omega)
            rwa [show ((a + (k + 1) : Nat) : Int) = (a : Int) + (k : Int) + 1 by omega] at this : RR B (w.drew.setCell ⟨g, 1, none⟩ (.int .i64 ((a : Int) + (k : Int) + 1))) g (.slice (some ⟨b, o, none⟩) N c) l (a + (k + 1)) 0))
          have HO := Lib.hid (fun u => only_set (only_drewN (only_refl w (some g)) 1) 1 u)
          clear hup hg hb ht
          go_wp2_with fail
          go_region_held_law (fun W => W.cell? ⟨g, 0, none⟩ = some (.slice (some ⟨b, o, none⟩) N c) ∧ W.cell? ⟨g, 1, none⟩ = some (.int .i64 (a : Int)) ∧ (convert 26 9 (.slice A2 k c2)).run Tryz.prog W = .ok (.string ⟨(r.take k).toArray⟩) W) (exact ⟨h0, h1, hra⟩) (fail)
          go_wp2
          go_ret
          exact ⟨by rw [HR.out]; rfl, by rw [HR.out]; exact HF.out, HO.out _⟩
      · have hb0 : ((r[k].toNat : Int) != 0) = true := by
          have h5 : ((r[k].toNat : Int) == 0) = false := by rw [hg]; exact decide_eq_false hb
          simp [bne, h5]
        have s2 : IntKind.i64.wrap ((a : Int) + (k : Int) + 1) = (a : Int) + (k : Int) + 1 := by rw [IntWalk.i64_in _ (by omega)]
        have HUP := Lib.hid (up_next hup hlt hb)
        clear hup hg hb
        go_wp2_with fail
        exact ⟨⟨k + 1, by go_num, by omega, HUP.out⟩, by simp [intOf]; omega⟩
    · have ht : tlen r = r.length := tlen_all r fun j hj => hup j hj (by omega)
      have b1 : ¬ (a : Int) + (k : Int) < (N : Int) := by omega
      have q1 : ((a : Int) + (k : Int) == (N : Int)) = true := by simp; omega
      have HR := Lib.hid (show readT r = ([], 0, 12) from readT_end ht)
      have HF := Lib.hid (HH.out.failed 12)
      have HO := Lib.hid (only_set (only_refl w (some g)) 2 (.int .i64 12))
      clear hup ht
      go_wp2_with fail
      go_ret
      exact ⟨by rw [HR.out]; rfl, by rw [HR.out]; exact HF.out, HO.out⟩

theorem rtake_cur {B : Nat} {w : World} {g : Nat} {v : Value} {l : List UInt8} {a : Nat} {e : Int} (h : RR B w g v l a e) (hlen : l.length ≤ 140737488355000) :
    Calls Tryz.prog 139 #[.pointer (some ⟨g, 0, none⟩)] w fun x w' => x = .returned (.string ⟨(takeT (l.drop a) e).1.toArray⟩) ∧ RR B w' g v l (a + (takeT (l.drop a) e).2.1) (takeT (l.drop a) e).2.2 ∧ w.grownBy w' (some g) := by
  by_cases he : e = 0
  · subst he
    rw [takeT_zero]
    exact rtake_ok h hlen
  · rw [takeT_bad _ he]
    refine (rtake_ref h he).mono fun x w' ⟨h1, h2⟩ => ⟨h1, ?_, ?_⟩
    · subst h2; exact h
    · subst h2; exact only_refl _ _

end Go.Proofs.YtejicboemkpeoaaGreatDoor

namespace Go.Proofs.YtejicboemkpeoaaGreatDoor
open Go Go.RowKit

section
variable {w w' : World} {base g : Nat} {u : Value} {ls : List (List UInt8)}
end

theorem str_eq (s t : List UInt8) : ((ByteArray.mk s.toArray).toList == (ByteArray.mk t.toArray).toList) = decide (s = t) := by
  rw [Lib.toList_data, Lib.toList_data]
  by_cases h : s = t
  · subst h; simp
  · simp [h]

end Go.Proofs.YtejicboemkpeoaaGreatDoor

namespace Go.Proofs.YtejicboemkpeoaaGreatDoor
open Go Go.RowKit Go.Maps

/-- The set of the texts. -/
def setT (ls : List (List UInt8)) : DataW Unit := setOf (.agg []) (ls.map keyT)

end Go.Proofs.YtejicboemkpeoaaGreatDoor
