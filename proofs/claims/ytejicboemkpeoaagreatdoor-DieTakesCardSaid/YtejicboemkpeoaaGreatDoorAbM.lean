/-
  The document's numbers of a cursor that has refused, or not; its pair.
-/
import Derived.Test.YtejicboemkpeoaaGreatDoorAbK
import Derived.Test.YtejicboemkpeoaaGreatDoorAbH
import Derived.Test.YtejicboemkpeoaaGreatDoorRefS
namespace Go.Proofs.YtejicboemkpeoaaGreatDoor
open Go Go.RowKit Go.Maps

/-! ### Of a state -/
section
variable {l : List UInt8} {s : CSt}
theorem sU_ref (h : s.2 ≠ 0) : tU l s = 0 ∧ sU l s = s := by
  unfold tU sU uOf
  rw [if_neg h]
  exact ⟨rfl, rfl⟩
theorem sS_ref (h : s.2 ≠ 0) : tS l s = 0 ∧ sS l s = s := by
  unfold tS sS sOf
  rw [if_neg h]
  exact ⟨rfl, rfl⟩
theorem sF_ref (h : s.2 ≠ 0) (f : Int) : sF s f = s := by
  unfold sF
  rw [failOf_no h]
theorem sU_bad (h : (sU l s).2 ≠ 0) : tU l s = 0 := by
  by_cases he : s.2 = 0
  · unfold sU uOf at h
    unfold tU uOf
    rw [if_pos he] at h ⊢
    unfold readU at h ⊢
    split
    · rfl
    · rename_i h1
      rw [if_neg h1] at h
      split
      · rename_i h2
        rw [if_pos h2] at h
        split
        · rename_i h3
          rw [if_pos h3] at h
          exact absurd rfl h
        · rfl
      · rfl
  · exact (sU_ref he).1
end

section
variable {B : Nat} {w : World} {g : Nat} {v : Value} {l : List UInt8}
theorem rparts_ref {a : Nat} {e : Int} (h : RR B w g v l a e) (he : e ≠ 0) :
    Calls Tryz.prog 136 #[.pointer (some ⟨g, 0, none⟩)] w fun r w' => r = .returned (.slice none 0 0) ∧ RR B w' g v l a e ∧ w.grownBy w' (some g) := by
  have HU := Lib.hid (quint_ref h he 1 (by omega))
  have HC := Lib.hid h
  have hk := cell_e h
  have hne : (e != 0) = true := by simp [he]
  clear h
  go_enter Tryz.func136, Tryz.ntmps136
  go_wp2_with fail
  go_loopg [3, 4] 0 (fun gk u i wr => gk = 0 ∧ u = .slice none 0 0 ∧ i = .int .i64 0 ∧ wr = w)
  case atStart => exact ⟨rfl, rfl, rfl, rfl⟩
  case round =>
    obtain ⟨rfl, rfl, rfl, rfl⟩ := hrel
    go_wp2_with (go_at_call 58; refine HU.out.mono ?_; rintro r w1 ⟨rfl, rfl⟩)
    go_ret
    exact ⟨rfl, HC.out, only_refl _ _⟩
theorem rU_ref {a : Nat} {e : Int} (h : RR B w g v l a e) (he : e ≠ 0) :
    Calls Tryz.prog 94 #[.pointer (some ⟨g, 0, none⟩)] w fun r w' => r = .returned (.int .u64 0) ∧ RR B w' g v l a e ∧ w.grownBy w' (some g) := by
  have HP := Lib.hid (rparts_ref h he)
  clear h
  go_enter Tryz.func94, Tryz.ntmps94
  go_wp2_with (go_at_call 136; refine HP.out.mono ?_; rintro r w1 ⟨rfl, hC1, hG1⟩; have HC1 := Lib.hid hC1; have HG1 := Lib.hid hG1; clear hC1 hG1)
  go_loopg [4, 5] 0 (fun gk u i wr => gk = 0 ∧ u = .int .u64 0 ∧ i = .int .i64 (-1) ∧ wr = w1)
  case atStart => exact ⟨rfl, rfl, rfl, rfl⟩
  case round =>
    obtain ⟨rfl, rfl, rfl, rfl⟩ := hrel
    go_wp2_with fail
    go_ret
    exact ⟨rfl, HC1.out, HG1.out⟩
theorem rS_ref {a : Nat} {e : Int} (h : RR B w g v l a e) (he : e ≠ 0) :
    Calls Tryz.prog 138 #[.pointer (some ⟨g, 0, none⟩)] w fun r w' => r = .returned (.int .i64 0) ∧ RR B w' g v l a e ∧ w.grownBy w' (some g) := by
  have HP := Lib.hid (rparts_ref h he)
  clear h
  go_enter Tryz.func138, Tryz.ntmps138
  go_wp2_with (go_at_call 136; refine HP.out.mono ?_; rintro r w1 ⟨rfl, hC1, hG1⟩; have HC1 := Lib.hid hC1; have HG1 := Lib.hid hG1; clear hC1 hG1)
  go_ret
  exact ⟨rfl, HC1.out, HG1.out⟩

theorem ru_st {s : CSt} (h : RR B w g v l s.1 s.2) (hlen : l.length ≤ 140737488355328) :
    Calls Tryz.prog 94 #[.pointer (some ⟨g, 0, none⟩)] w fun x w' => x = .returned (.int .u64 (tU l s : Int)) ∧ RR B w' g v l (sU l s).1 (sU l s).2 ∧ w.grownBy w' (some g) := by
  by_cases he : s.2 = 0
  · obtain ⟨a, e⟩ := s
    simp only at he h
    subst he
    exact rU_ok h hlen
  · rw [(sU_ref he).1, (sU_ref he).2]
    exact rU_ref h he
theorem rs_st {s : CSt} (h : RR B w g v l s.1 s.2) (hlen : l.length ≤ 140737488355328) :
    Calls Tryz.prog 138 #[.pointer (some ⟨g, 0, none⟩)] w fun x w' => x = .returned (.int .i64 (tS l s)) ∧ RR B w' g v l (sS l s).1 (sS l s).2 ∧ w.grownBy w' (some g) := by
  by_cases he : s.2 = 0
  · obtain ⟨a, e⟩ := s
    simp only at he h
    subst he
    exact rS_ok h hlen
  · rw [(sS_ref he).1, (sS_ref he).2]
    exact rS_ref h he
theorem rb_st {s : CSt} (h : RR B w g v l s.1 s.2) (hlen : l.length ≤ 140737488355328) :
    Calls Tryz.prog 58 #[.pointer (some ⟨g, 0, none⟩), .int .i64 1] w fun x w' => x = .returned (.int .u64 (tB l s : Int)) ∧ RR B w' g v l (sB l s).1 (sB l s).2 ∧ w.grownBy w' (some g) :=
  quint_cur h 1 (by omega) hlen
theorem rf_st {s : CSt} (h : RR B w g v l s.1 s.2) (f : Int) :
    Calls Tryz.prog 137 #[.pointer (some ⟨g, 0, none⟩), .int .i64 f] w fun x w' => x = .returned (.tuple #[]) ∧ RR B w' g v l (sF s f).1 (sF s f).2 ∧ w.grownBy w' (some g) := qfail h f

end

end Go.Proofs.YtejicboemkpeoaaGreatDoor
