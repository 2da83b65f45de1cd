/-
  What a cursor that is nil, or that no call made, answers: one contract a method. It stands as it stood, and tells nothing but why.
-/
import Derived.Test.YtpmndmbhkfbljaaDoorPut
namespace Go.Proofs.YtpmndmbhkfbljaaDoor
open Go Go.RowKit

/-- A cursor that is nil, or that no call made. -/
def Nob (w : World) (p : Option Addr) : Prop :=
  p = none ∨ ∃ g, p = some ⟨g, 0, none⟩ ∧ Box w g 52 #[.slice none 0 0, .int .i64 0, .int .i64 0, .bool false]

theorem Nob.below {w w' : World} {p : Option Addr} (h : Nob w p) (hb : Below w.heap.size w w') : Nob w' p :=
  h.imp id fun ⟨g, e, hg⟩ => ⟨g, e, hg.below hb hg.lt⟩

theorem err_nob {w : World} {p : Option Addr} (h : Nob w p) :
    Calls Tryd.prog 12 #[.pointer p] w fun r w' => r = .returned (.int .i64 1) ∧ w = w' := by
  rcases h with rfl | ⟨g, rfl, hb⟩
  · focus
      go_enter Tryd.func12, Tryd.ntmps12
      go_wp2
      go_ret
      exact ⟨rfl, rfl⟩
  · have c0 := hb.cell 0
    have c1 := hb.cell 1
    have c2 := hb.cell 2
    have c3 := hb.cell 3
    simp at c0 c1 c2 c3
    clear hb
    focus
      go_enter Tryd.func12, Tryd.ntmps12
      go_wp2
      go_ret
      exact ⟨rfl, rfl⟩

theorem next_nob {w : World} {p : Option Addr} (h : Nob w p) (n : Int) :
    Calls Tryd.prog 67 #[.pointer p, .int .u64 n] w fun r w' => r = .returned (.slice none 0 0) ∧ w = w' := by
  have hE := fun W (hW : W = w) => err_nob (w := W) (hW ▸ h)
  rcases h with rfl | ⟨g, rfl, hb⟩
  · focus
      go_enter Tryd.func67, Tryd.ntmps67
      go_wp2_with (first | (go_at_call 12; refine (hE _ rfl).mono ?_; rintro r w' ⟨rfl, rfl⟩))
      go_ret
      exact ⟨rfl, rfl⟩
  · have c0 := hb.cell 0
    have c1 := hb.cell 1
    have c2 := hb.cell 2
    have c3 := hb.cell 3
    simp at c0 c1 c2 c3
    clear hb
    focus
      go_enter Tryd.func67, Tryd.ntmps67
      go_wp2_with (first | (go_at_call 12; refine (hE _ rfl).mono ?_; rintro r w' ⟨rfl, rfl⟩))
      go_ret
      exact ⟨rfl, rfl⟩

theorem uint_nob {w : World} {p : Option Addr} (h : Nob w p) (s : Int) (hs : -9223372036854775808 ≤ s ∧ s ≤ 9223372036854775807) :
    Calls Tryd.prog 50 #[.pointer p, .int .i64 s] w fun r w' => r = .returned (.int .u64 0) ∧ w = w' := by
  have hc8 := clampOf_le s
  have hc := fun W => clamp_any s W hs
  have hN := fun W n (hW : W = w) => next_nob (w := W) (hW ▸ h) n
  clear hs h
  generalize clampOf s = n at *
  go_enter Tryd.func50, Tryd.ntmps50
  go_wp2_with (first | (go_at_call 68; refine (hc _).mono ?_; rintro r w' ⟨rfl, rfl⟩) | (go_at_call 67; refine (hN _ _ rfl).mono ?_; rintro r w' ⟨rfl, rfl⟩))
  refine wp_loop_rounds 1 ?_
  rw [rounds_succ]
  go_wp2
  go_ret
  exact ⟨rfl, rfl⟩

end Go.Proofs.YtpmndmbhkfbljaaDoor
