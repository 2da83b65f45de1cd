/-
  The chapter's examples of package length, as the statements ask for them: they come out true, and nothing that was there turns.
-/
import Derived.Test.YtlfejggailoleaaDoorLtB
import Derived.Test.YtlfejggailoleaaDoorLtC
namespace Go.Proofs.YtlfejggailoleaaDoor
open Go Go.RowKit

theorem eg_narrow : (ByteArray.mk (lenB [(7 : UInt8), 8].length false ++ [7, 8]).toArray) = ByteArray.mk #[2, 0, 0, 0, 7, 8] := by
  congr 1
theorem eg_wide : (ByteArray.mk (lenB [(7 : UInt8), 8].length true ++ [7, 8]).toArray) = ByteArray.mk #[255, 255, 255, 255, 2, 0, 0, 0, 0, 0, 0, 0, 7, 8] := by
  congr 1

set_option maxHeartbeats 800000 in
set_option maxRecDepth 10000 in
theorem works_len {w : World} (hs : Sz w) :
    Calls Tryd.prog 7 #[] w fun r w' => r = .returned (.bool true) ∧ Below w.heap.size w w' := by
  have hA : ∀ (W : World) (hW : Below w.heap.size w W) (wide : Bool), Calls Tryd.prog 23 #[.slice none 0 0, .bool wide, .slice (some ⟨W.heap.size, 0, none⟩) 2 2] (W.alloc (.cells #[.int .u8 7, .int .u8 8] 5)) fun r w' =>
      ∃ v', r = .returned (.tuple #[v', .int .i64 0]) ∧ Own w' w.heap.size v' (lenB [(7 : UInt8), 8].length wide ++ [7, 8]) ∧ Below W.heap.size W w' := by
    intro W hW wide
    have hW1 : Below W.heap.size W (W.alloc (.cells #[.int .u8 7, .int .u8 8] 5)) := (Below.refl _ _).alloc (Nat.le_refl _) _
    have h := wrap_len (w := W.alloc (.cells #[.int .u8 7, .int .u8 8] 5)) (hs.below (hW.trans (hW1.mono hW.size)) hs.pos) wide (rd_lit W [7, 8]) (by simp) 2 (by simp)
    refine h.mono ?_
    rintro r w' ⟨v', h1, h2, h3⟩
    refine ⟨v', h1, ?_, hW1.trans (h3.mono (by simp))⟩
    exact ⟨h2.1, h2.2.imp id fun ⟨g, cap, cur, p, hb, q⟩ => ⟨g, cap, cur, p, by have := hW.size; simp at hb; omega, q⟩⟩
  have HA := Lib.hid hA
  have HT := Lib.hid (fun (W : World) (hW : Below w.heap.size w W) => take_nob (hs.below hW hs.pos) (.inl rfl))
  clear hA hs
  go_enter Tryd.func7, Tryd.ntmps7
  go_wp2_with fail
  refine (HA.out w (Below.refl _ _) false).mono ?_
  rintro r w1 ⟨v1, rfl, hown1, hb1⟩
  go_wp2_with fail
  refine (HA.out w1 hb1 true).mono ?_
  rintro r w2 ⟨v2, rfl, hown2, hb2⟩
  have hc1 := conv_as eg_narrow.symm (conv_own (own_below hown1 hb2))
  have hc2 := conv_as eg_wide.symm (conv_own hown2)
  have HB := Lib.hid (hb1.trans (hb2.mono hb1.size))
  clear hown1 hown2 hb1 hb2
  go_wp2_with (go_at_call 9; refine (HT.out _ HB.out).mono ?_; rintro r w3 ⟨rfl, rfl⟩)
  go_ret
  exact ⟨rfl, HB.out⟩

end Go.Proofs.YtlfejggailoleaaDoor
