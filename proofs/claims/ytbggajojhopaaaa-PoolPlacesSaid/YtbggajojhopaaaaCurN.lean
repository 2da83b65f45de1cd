/-
  What a cursor that is nil, or that no call made, answers: one contract a method. It stands as it stood, and tells nothing but why.
-/
import Derived.Test.YtbggajojhopaaaaCurE
namespace Go.Proofs.Ytbggajojhopaaaa
open Go Go.RowKit

/-- A cursor that is nil, or that no call made. -/
def Nob (w : World) (p : Option Addr) : Prop :=
  p = none ∨ ∃ g, p = some ⟨g, 0, none⟩ ∧ Box w g 45 #[.slice none 0 0, .int .i64 0, .int .i64 0, .bool false]

theorem Nob.below {w w' : World} {p : Option Addr} (h : Nob w p) (hb : Below w.heap.size w w') : Nob w' p :=
  h.imp id fun ⟨g, e, hg⟩ => ⟨g, e, hg.below hb hg.lt⟩

theorem err_nob {w : World} {p : Option Addr} (h : Nob w p) :
    Calls Try.prog 22 #[.pointer p] w fun r w' => r = .returned (.int .i64 1) ∧ w = w' := by
  rcases h with rfl | ⟨g, rfl, hb⟩
  · focus
      go_enter Try.func22, Try.ntmps22
      go_wp2
      go_ret
      exact ⟨rfl, rfl⟩
  · have c0 := hb.cell 0
    have c1 := hb.cell 1
    have c2 := hb.cell 2
    have c3 := hb.cell 3
    simp at c0 c1 c2 c3
    clear hb
    focus
      go_enter Try.func22, Try.ntmps22
      go_wp2
      go_ret
      exact ⟨rfl, rfl⟩

theorem at_nob {w : World} {p : Option Addr} (h : Nob w p) :
    Calls Try.prog 19 #[.pointer p] w fun r w' => r = .returned (.int .i64 0) ∧ w = w' := by
  rcases h with rfl | ⟨g, rfl, hb⟩
  · focus
      go_enter Try.func19, Try.ntmps19
      go_wp2
      go_ret
      exact ⟨rfl, rfl⟩
  · have c0 := hb.cell 0
    have c1 := hb.cell 1
    have c2 := hb.cell 2
    have c3 := hb.cell 3
    simp at c0 c1 c2 c3
    clear hb
    focus
      go_enter Try.func19, Try.ntmps19
      go_wp2
      go_ret
      exact ⟨rfl, rfl⟩

theorem left_nob {w : World} {p : Option Addr} (h : Nob w p) :
    Calls Try.prog 20 #[.pointer p] w fun r w' => r = .returned (.int .i64 0) ∧ w = w' := by
  have hE := fun W (hW : W = w) => err_nob (w := W) (hW ▸ h)
  rcases h with rfl | ⟨g, rfl, hb⟩
  · focus
      go_enter Try.func20, Try.ntmps20
      go_wp2_with (first | (go_at_call 22; refine (hE _ rfl).mono ?_; rintro r w' ⟨rfl, rfl⟩))
      go_ret
      exact ⟨rfl, rfl⟩
  · have c0 := hb.cell 0
    have c1 := hb.cell 1
    have c2 := hb.cell 2
    have c3 := hb.cell 3
    simp at c0 c1 c2 c3
    clear hb
    focus
      go_enter Try.func20, Try.ntmps20
      go_wp2_with (first | (go_at_call 22; refine (hE _ rfl).mono ?_; rintro r w' ⟨rfl, rfl⟩))
      go_ret
      exact ⟨rfl, rfl⟩

theorem end_nob {w : World} {p : Option Addr} (h : Nob w p) :
    Calls Try.prog 23 #[.pointer p] w fun r w' => r = .returned (.int .i64 1) ∧ w = w' := by
  have hE := fun W (hW : W = w) => err_nob (w := W) (hW ▸ h)
  have hL := fun W (hW : W = w) => left_nob (w := W) (hW ▸ h)
  rcases h with rfl | ⟨g, rfl, hb⟩
  · focus
      go_enter Try.func23, Try.ntmps23
      go_wp2_with (first | (go_at_call 22; refine (hE _ rfl).mono ?_; rintro r w' ⟨rfl, rfl⟩) | (go_at_call 20; refine (hL _ rfl).mono ?_; rintro r w' ⟨rfl, rfl⟩))
      go_ret
      exact ⟨rfl, rfl⟩
  · have c0 := hb.cell 0
    have c1 := hb.cell 1
    have c2 := hb.cell 2
    have c3 := hb.cell 3
    simp at c0 c1 c2 c3
    clear hb
    focus
      go_enter Try.func23, Try.ntmps23
      go_wp2_with (first | (go_at_call 22; refine (hE _ rfl).mono ?_; rintro r w' ⟨rfl, rfl⟩) | (go_at_call 20; refine (hL _ rfl).mono ?_; rintro r w' ⟨rfl, rfl⟩))
      go_ret
      exact ⟨rfl, rfl⟩

theorem seek_nob {w : World} {p : Option Addr} (h : Nob w p) (n : Int) :
    Calls Try.prog 31 #[.pointer p, .int .u64 n] w fun r w' => r = .returned (.tuple #[]) ∧ w = w' := by
  have hE := fun W (hW : W = w) => err_nob (w := W) (hW ▸ h)
  rcases h with rfl | ⟨g, rfl, hb⟩
  · focus
      go_enter Try.func31, Try.ntmps31
      go_wp2_with (first | (go_at_call 22; refine (hE _ rfl).mono ?_; rintro r w' ⟨rfl, rfl⟩))
      first | go_end0 | (refine bodyPost_ret (results_none rfl _ _ _) rfl ?_)
      exact ⟨rfl, rfl⟩
  · have c0 := hb.cell 0
    have c1 := hb.cell 1
    have c2 := hb.cell 2
    have c3 := hb.cell 3
    simp at c0 c1 c2 c3
    clear hb
    focus
      go_enter Try.func31, Try.ntmps31
      go_wp2_with (first | (go_at_call 22; refine (hE _ rfl).mono ?_; rintro r w' ⟨rfl, rfl⟩))
      first | go_end0 | (refine bodyPost_ret (results_none rfl _ _ _) rfl ?_)
      exact ⟨rfl, rfl⟩

theorem next_nob {w : World} {p : Option Addr} (h : Nob w p) (n : Int) :
    Calls Try.prog 71 #[.pointer p, .int .u64 n] w fun r w' => r = .returned (.slice none 0 0) ∧ w = w' := by
  have hE := fun W (hW : W = w) => err_nob (w := W) (hW ▸ h)
  rcases h with rfl | ⟨g, rfl, hb⟩
  · focus
      go_enter Try.func71, Try.ntmps71
      go_wp2_with (first | (go_at_call 22; refine (hE _ rfl).mono ?_; rintro r w' ⟨rfl, rfl⟩))
      go_ret
      exact ⟨rfl, rfl⟩
  · have c0 := hb.cell 0
    have c1 := hb.cell 1
    have c2 := hb.cell 2
    have c3 := hb.cell 3
    simp at c0 c1 c2 c3
    clear hb
    focus
      go_enter Try.func71, Try.ntmps71
      go_wp2_with (first | (go_at_call 22; refine (hE _ rfl).mono ?_; rintro r w' ⟨rfl, rfl⟩))
      go_ret
      exact ⟨rfl, rfl⟩

theorem uint_nob {w : World} {p : Option Addr} (h : Nob w p) (s : Int) (hs : -9223372036854775808 ≤ s ∧ s ≤ 9223372036854775807) :
    Calls Try.prog 32 #[.pointer p, .int .i64 s] w fun r w' => r = .returned (.int .u64 0) ∧ w = w' := by
  have hc8 := clampOf_le s
  have hc := fun W => clamp_any s W hs
  have hN := fun W n (hW : W = w) => next_nob (w := W) (hW ▸ h) n
  clear hs h
  generalize clampOf s = n at *
  go_enter Try.func32, Try.ntmps32
  go_wp2_with (first | (go_at_call 69; refine (hc _).mono ?_; rintro r w' ⟨rfl, rfl⟩) | (go_at_call 71; refine (hN _ _ rfl).mono ?_; rintro r w' ⟨rfl, rfl⟩))
  refine wp_loop_rounds 1 ?_
  rw [rounds_succ]
  go_wp2
  go_ret
  exact ⟨rfl, rfl⟩

theorem u8_nob {w : World} {p : Option Addr} (h : Nob w p) : Calls Try.prog 33 #[.pointer p] w fun r w' => r = .returned (.int .u64 0) ∧ w = w' := by
  have hU := fun W (hW : W = w) => uint_nob (w := W) (hW ▸ h) 1 (by omega)
  clear h
  go_enter Try.func33, Try.ntmps33
  go_wp2_with (go_at_call 32; refine (hU _ rfl).mono ?_; rintro r w' ⟨rfl, rfl⟩)
  go_ret
  exact ⟨rfl, rfl⟩

theorem u16_nob {w : World} {p : Option Addr} (h : Nob w p) : Calls Try.prog 34 #[.pointer p] w fun r w' => r = .returned (.int .u64 0) ∧ w = w' := by
  have hU := fun W (hW : W = w) => uint_nob (w := W) (hW ▸ h) 2 (by omega)
  clear h
  go_enter Try.func34, Try.ntmps34
  go_wp2_with (go_at_call 32; refine (hU _ rfl).mono ?_; rintro r w' ⟨rfl, rfl⟩)
  go_ret
  exact ⟨rfl, rfl⟩

theorem u32_nob {w : World} {p : Option Addr} (h : Nob w p) : Calls Try.prog 35 #[.pointer p] w fun r w' => r = .returned (.int .u64 0) ∧ w = w' := by
  have hU := fun W (hW : W = w) => uint_nob (w := W) (hW ▸ h) 4 (by omega)
  clear h
  go_enter Try.func35, Try.ntmps35
  go_wp2_with (go_at_call 32; refine (hU _ rfl).mono ?_; rintro r w' ⟨rfl, rfl⟩)
  go_ret
  exact ⟨rfl, rfl⟩

theorem u64_nob {w : World} {p : Option Addr} (h : Nob w p) : Calls Try.prog 36 #[.pointer p] w fun r w' => r = .returned (.int .u64 0) ∧ w = w' := by
  have hU := fun W (hW : W = w) => uint_nob (w := W) (hW ▸ h) 8 (by omega)
  clear h
  go_enter Try.func36, Try.ntmps36
  go_wp2_with (go_at_call 32; refine (hU _ rfl).mono ?_; rintro r w' ⟨rfl, rfl⟩)
  go_ret
  exact ⟨rfl, rfl⟩

theorem clone_nil (w : World) : Calls Try.prog 63 #[.slice none 0 0] w fun r w' => r = .returned (.slice none 0 0) ∧ w = w' := by
  have hq := fun W => Lib.run_eql_slice_nil (P := Try.prog) W 22 5 none 0 0 0 0 Try.underlying22
  go_enter Try.func63, Try.ntmps63
  go_wp2
  go_ret
  exact ⟨rfl, rfl⟩

theorem bytes_nob {w : World} {p : Option Addr} (h : Nob w p) (n : Int) : Calls Try.prog 37 #[.pointer p, .int .u64 n] w fun r w' => r = .returned (.slice none 0 0) ∧ w = w' := by
  have hN := fun W (hW : W = w) => next_nob (w := W) (hW ▸ h) n
  have hC := clone_nil
  clear h
  go_enter Try.func37, Try.ntmps37
  go_wp2_with (first | (go_at_call 71; refine (hN _ rfl).mono ?_; rintro r w' ⟨rfl, rfl⟩) | (go_at_call 63; refine (hC _).mono ?_; rintro r w' ⟨rfl, rfl⟩))
  go_ret
  exact ⟨rfl, rfl⟩

theorem sub_nob {w : World} {p : Option Addr} (h : Nob w p) (n : Int) :
    Calls Try.prog 38 #[.pointer p, .int .u64 n] w fun r w' => ∃ g v, r = .returned (.pointer (some ⟨g, 0, none⟩)) ∧ Cur w' g v [] 0 1 ∧ Below w.heap.size w w' := by
  have hN := fun W (hW : W = w) => next_nob (w := W) (hW ▸ h) n
  have hE := fun W (hW : W = w) => err_nob (w := W) (hW ▸ h)
  have hF := refused_any w 1
  clear h
  go_enter Try.func38, Try.ntmps38
  go_wp2_with (first | (go_at_call 71; refine (hN _ rfl).mono ?_; rintro r w' ⟨rfl, rfl⟩) | (go_at_call 22; refine (hE _ rfl).mono ?_; rintro r w' ⟨rfl, rfl⟩) | (go_at_call 72; refine hF.mono ?_; rintro r w' ⟨g, v, rfl, hM, hbel⟩))
  go_ret
  exact ⟨g, v, rfl, hM.1, hbel⟩

end Go.Proofs.Ytbggajojhopaaaa
