/-
  The walk of CursorNobody: a cursor that is nil, or that no call made, reads nothing and says why, whatever is asked.
-/
import Derived.Test.YtphnifkmcppflaaCurN
import Derived.Test.YtphnifkmcppflaaLawA
namespace Go.Proofs.Ytphnifkmcppflaa
open Go Go.RowKit

set_option maxHeartbeats 1600000 in
theorem nobody_walk (a0 a1 : Int) (_w0 : (Lit.int .u64 a0).wf = true) (w1 : (Lit.int .i64 a1).wf = true) (w : World) :
    Calls Try.prog 6 #[.int .u64 a0, .int .i64 a1] w fun e w' => e = .returned (.bool true) ∧ Below w.heap.size w w' := by
  have hs := i64_of w1
  clear w1
  have hW := fun W => works_any W
  have h1 := fun W p (h : Nob W p) => seek_nob h a0
  have h2 := fun W p (h : Nob W p) => uint_nob h a1 hs
  have h3 := fun W p (h : Nob W p) => bytes_nob h a0
  have h4 := fun W p (h : Nob W p) => sub_nob h a0
  have hb0 : Below w.heap.size w ((w.alloc (.cells #[.slice none 0 0, .int .i64 0, .int .i64 0, .bool false] 45)).alloc (.cells #[.pointer none, .pointer (some ⟨w.heap.size, 0, none⟩)] 25)) := by
    refine ((Below.refl _ _).alloc (Nat.le_refl _) _).alloc ?_ _
    simp
  have hx0 : Box ((w.alloc (.cells #[.slice none 0 0, .int .i64 0, .int .i64 0, .bool false] 45)).alloc (.cells #[.pointer none, .pointer (some ⟨w.heap.size, 0, none⟩)] 25)) w.heap.size 45 #[.slice none 0 0, .int .i64 0, .int .i64 0, .bool false] :=
    (Box.new w _ _).grown (World.grownBy_alloc _ _ none) (by simp)
  have hy0 : Box ((w.alloc (.cells #[.slice none 0 0, .int .i64 0, .int .i64 0, .bool false] 45)).alloc (.cells #[.pointer none, .pointer (some ⟨w.heap.size, 0, none⟩)] 25)) (w.heap.size + 1) 25 #[.pointer none, .pointer (some ⟨w.heap.size, 0, none⟩)] := by
    have := Box.new (w.alloc (.cells #[.slice none 0 0, .int .i64 0, .int .i64 0, .bool false] 45)) 25 #[.pointer none, .pointer (some ⟨w.heap.size, 0, none⟩)]
    simpa using this
  have HB0 := Lib.hid hb0
  have HX0 := Lib.hid hx0
  have HY0 := Lib.hid hy0
  clear hb0 hx0 hy0
  go_enter Try.func6, Try.ntmps6
  go_wp2_with fail
  go_loopw [11] (fun i wr => ∃ k : Nat, k ≤ 2 ∧ i = .int .i64 k ∧ Below w.heap.size w wr ∧ Box wr w.heap.size 45 #[.slice none 0 0, .int .i64 0, .int .i64 0, .bool false] ∧ Box wr (w.heap.size + 1) 25 #[.pointer none, .pointer (some ⟨w.heap.size, 0, none⟩)]) (fun i _ => 2 - (intOf i).toNat)
  case atStart => exact ⟨0, by omega, rfl, HB0.out, HX0.out, HY0.out⟩
  case round =>
    obtain ⟨k, hk, rfl, hB, hX, hY⟩ := hrel
    have y0 := hY.cell 0
    have y1 := hY.cell 1
    simp at y0 y1
    have HB := Lib.hid hB
    have HX := Lib.hid hX
    have HY := Lib.hid hY
    clear hB hX hY HB0 HX0 HY0
    have h012 : k = 0 ∨ k = 1 ∨ k = 2 := by omega
    rcases h012 with rfl | rfl | rfl
    · have HP : Nob wr none := .inl rfl
      go_wp2_with (first | (go_at_call 24; refine (h1 _ _ HP).mono ?_; rintro r w' ⟨rfl, rfl⟩) | (go_at_call 25; refine (h2 _ _ HP).mono ?_; rintro r w' ⟨rfl, rfl⟩) | (go_at_call 26; refine (u8_nob HP).mono ?_; rintro r w' ⟨rfl, rfl⟩) | (go_at_call 27; refine (u16_nob HP).mono ?_; rintro r w' ⟨rfl, rfl⟩) | (go_at_call 28; refine (u32_nob HP).mono ?_; rintro r w' ⟨rfl, rfl⟩) | (go_at_call 29; refine (u64_nob HP).mono ?_; rintro r w' ⟨rfl, rfl⟩) | (go_at_call 30; refine (h3 _ _ HP).mono ?_; rintro r w' ⟨rfl, rfl⟩) | (go_at_call 12; refine (at_nob HP2).mono ?_; rintro r w' ⟨rfl, rfl⟩) | (go_at_call 13; refine (left_nob HP2).mono ?_; rintro r w' ⟨rfl, rfl⟩) | (go_at_call 16; refine (end_nob HP2).mono ?_; rintro r w' ⟨rfl, rfl⟩) | (go_at_call 31; refine (h4 _ _ HP).mono ?_; rintro r w2 ⟨g, v, rfl, hK, hbel⟩; have HP2 := HP.below hbel) | (go_at_call 15; ((with_reducible refine (err_cur hK).mono ?_); rintro r w' ⟨rfl, rfl⟩)) | (go_at_call 15; ((with_reducible refine (err_nob HP2).mono ?_); rintro r w' ⟨rfl, rfl⟩)))
      go_roundw
      case rel => exact ⟨1, by omega, rfl, HB.out.trans (hbel.mono HB.out.size), HX.out.below hbel HX.out.lt, HY.out.below hbel HY.out.lt⟩
      case measure => simp [intOf]
    · have HP : Nob wr (some ⟨w.heap.size, 0, none⟩) := .inr ⟨_, rfl, HX.out⟩
      go_wp2_with (first | (go_at_call 24; refine (h1 _ _ HP).mono ?_; rintro r w' ⟨rfl, rfl⟩) | (go_at_call 25; refine (h2 _ _ HP).mono ?_; rintro r w' ⟨rfl, rfl⟩) | (go_at_call 26; refine (u8_nob HP).mono ?_; rintro r w' ⟨rfl, rfl⟩) | (go_at_call 27; refine (u16_nob HP).mono ?_; rintro r w' ⟨rfl, rfl⟩) | (go_at_call 28; refine (u32_nob HP).mono ?_; rintro r w' ⟨rfl, rfl⟩) | (go_at_call 29; refine (u64_nob HP).mono ?_; rintro r w' ⟨rfl, rfl⟩) | (go_at_call 30; refine (h3 _ _ HP).mono ?_; rintro r w' ⟨rfl, rfl⟩) | (go_at_call 12; refine (at_nob HP2).mono ?_; rintro r w' ⟨rfl, rfl⟩) | (go_at_call 13; refine (left_nob HP2).mono ?_; rintro r w' ⟨rfl, rfl⟩) | (go_at_call 16; refine (end_nob HP2).mono ?_; rintro r w' ⟨rfl, rfl⟩) | (go_at_call 31; refine (h4 _ _ HP).mono ?_; rintro r w2 ⟨g, v, rfl, hK, hbel⟩; have HP2 := HP.below hbel) | (go_at_call 15; ((with_reducible refine (err_cur hK).mono ?_); rintro r w' ⟨rfl, rfl⟩)) | (go_at_call 15; ((with_reducible refine (err_nob HP2).mono ?_); rintro r w' ⟨rfl, rfl⟩)))
      go_roundw
      case rel => exact ⟨2, by omega, rfl, HB.out.trans (hbel.mono HB.out.size), HX.out.below hbel HX.out.lt, HY.out.below hbel HY.out.lt⟩
      case measure => simp [intOf]
    · go_wp2_with (go_at_call 9; refine (hW _).mono ?_; rintro r w' ⟨rfl, hbel⟩)
      go_ret
      exact ⟨rfl, HB.out.trans (hbel.mono HB.out.size)⟩

end Go.Proofs.Ytphnifkmcppflaa
