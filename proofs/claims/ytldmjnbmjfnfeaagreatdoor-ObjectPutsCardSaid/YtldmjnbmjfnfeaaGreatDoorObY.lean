/-
  The document's Bulk of an object: how many bytes, symbols and relocations it has, as far as a bound.
-/
import Derived.Test.YtldmjnbmjfnfeaaGreatDoorOcB
import Derived.Test.YtldmjnbmjfnfeaaGreatDoorObX
import Derived.Test.YtldmjnbmjfnfeaaGreatDoorSyF
import Derived.Test.YtldmjnbmjfnfeaaGreatDoorSeR
import Derived.Test.YtldmjnbmjfnfeaaGreatDoorObB
import Derived.Test.YtldmjnbmjfnfeaaGreatDoorLawA
import Derived.Test.YtldmjnbmjfnfeaaGreatDoorCsL
import Derived.ProofKit
import Derived.OpenShut
import Derived.Deep.Slices
import Derived.Test.YtldmjnbmjfnfeaaGreatDoorSyP
import Derived.Test.YtldmjnbmjfnfeaaGreatDoorSeY
import Derived.Deep.DeepCutAuto
import Derived.Deep.LoopGhost
namespace Go.Proofs.YtldmjnbmjfnfeaaGreatDoor
open Go Go.RowKit

def exS9 : List Sect := [zeroS, ⟨[46, 116, 101, 120, 116], 1, 6, 0, [], 0, 0, 0, 0⟩, ⟨[46, 100, 101, 98, 117, 103, 95, 105, 110, 102, 111], 1, 0, 0, [0, 0, 0, 0, 0, 0, 0, 0], 0, 0, 0, 0⟩]
def exY9 : List Sym := [⟨[], 0, 0, 0, 0, 0⟩, ⟨[102], 0, 0, 1, 0, 0⟩]
def exR9 : List Rel := [⟨0, 1, 1, 0⟩]
def exL9 (H : Nat) : List Lay := [⟨zeroS, none, 0⟩, ⟨⟨[46, 116, 101, 120, 116], 1, 6, 0, [], 0, 0, 0, 0⟩, none, 0⟩, ⟨⟨[46, 100, 101, 98, 117, 103, 95, 105, 110, 102, 111], 1, 0, 0, [0, 0, 0, 0, 0, 0, 0, 0], 0, 0, 0, 0⟩, some ⟨H, 0, none⟩, 8⟩]
def exQ9 (g : Nat) : List RLay := [⟨none, 0, []⟩, ⟨none, 0, []⟩, ⟨some ⟨g, 0, none⟩, 1, exR9⟩]
def exO9 (H g : Nat) : ObjV := ⟨1, 62, some ⟨g, 0, none⟩, 3, exL9 H, some ⟨g + 1, 0, none⟩, 2, exY9, some ⟨g + 1 + 1 + 1, 0, none⟩, 3, exQ9 (g + 1 + 1)⟩
theorem ex9_right : rightO exS9 exY9 [[], [], exR9] = true := by kernel_rfl
theorem ex9_may : mayPut 1 62 (fileO exS9 exY9 [[], [], exR9]) = true := by kernel_rfl
theorem ex9_len (z : Sect) : (backF exS9 exY9 [[], [], exR9] z).length = 7 := rfl
theorem ex9_one (z : Sect) : (backF exS9 exY9 [[], [], exR9] z)[1]? = some ⟨[46, 116, 101, 120, 116], 1, 6, 0, [], 0, 0, 0, 0⟩ := rfl
theorem ex9_two (z : Sect) : (backF exS9 exY9 [[], [], exR9] z)[2]? = some ⟨[46, 100, 101, 98, 117, 103, 95, 105, 110, 102, 111], 1, 0, 0, [0, 0, 0, 0, 0, 0, 0, 0], 0, 0, 0, 0⟩ := rfl
theorem secs_lit {w : World} {L : List Lay} (h : ∀ x ∈ L, x.Ok w w.heap.size) : Secs (w.alloc (.cells (cellsL L).toArray 39)) (w.heap.size + 1) (some ⟨w.heap.size, 0, none⟩) L :=
  ⟨fun _ => ⟨w.heap.size, 0, rfl, by omega, fun i y hy j v hv => by
    rw [(Box.new w 39 (cellsL L).toArray).cell, Nat.zero_add]
    simpa using cellsL_at L i y j v hy hv⟩, fun y hy => ((h y hy).below ((Below.refl _ _).alloc (Nat.le_refl _) _)).more (by omega)⟩
theorem fits_small (s : Sect) (h : InI s.kind ∧ InI s.link ∧ InI s.inf ∧ InI s.algn ∧ InI s.ent ∧ s.flags < two64 ∧ s.addr < two64 ∧ s.data.length ≤ 100000 ∧ s.name.length ≤ 100000) : s.Fits := ⟨h.1, h.2.1, h.2.2.1, h.2.2.2.1, h.2.2.2.2.1, h.2.2.2.2.2.1, h.2.2.2.2.2.2.1, h.2.2.2.2.2.2.2.1, h.2.2.2.2.2.2.2.2⟩

theorem ex9_dbg : (⟨[46, 100, 101, 98, 117, 103, 95, 105, 110, 102, 111], 1, 0, 0, [0, 0, 0, 0, 0, 0, 0, 0], 0, 0, 0, 0⟩ : Sect).Fits := fits_small _ (by unfold InI; refine ⟨?_, ?_, ?_, ?_, ?_, ?_, ?_, ?_, ?_⟩ <;> decide)
theorem ex9_ok {w1 : World} {H : Nat} (hd : Rd w1 w1.heap.size (some ⟨H, 0, none⟩) [0, 0, 0, 0, 0, 0, 0, 0]) : (exO9 H w1.heap.size).Ok (((((w1.alloc (.cells #[.string ⟨#[]⟩, .int .i64 0, .int .u64 0, .int .u64 0, .slice none 0 0, .int .i64 0, .int .i64 0, .int .i64 0, .int .i64 0, .string ⟨#[46, 116, 101, 120, 116]⟩, .int .i64 1, .int .u64 6, .int .u64 0, .slice none 0 0, .int .i64 0, .int .i64 0, .int .i64 0, .int .i64 0, .string ⟨#[46, 100, 101, 98, 117, 103, 95, 105, 110, 102, 111]⟩, .int .i64 1, .int .u64 0, .int .u64 0, .slice (some ⟨H, 0, none⟩) 8 8, .int .i64 0, .int .i64 0, .int .i64 0, .int .i64 0] 39)).alloc (.cells #[.string ⟨#[]⟩, .int .i64 0, .int .i64 0, .int .i64 0, .int .u64 0, .int .u64 0, .string ⟨#[102]⟩, .int .i64 0, .int .i64 0, .int .i64 1, .int .u64 0, .int .u64 0] 51)).alloc (.cells #[.int .u64 0, .int .i64 1, .int .i64 1, .int .i64 0] 53)).alloc (.cells #[.slice none 0 0, .slice none 0 0, .slice (some ⟨w1.heap.size + 1 + 1, 0, none⟩) 1 1] 49)).alloc (.cells #[.int .i64 1, .int .i64 62, .slice (some ⟨w1.heap.size, 0, none⟩) 3 3, .slice (some ⟨w1.heap.size + 1, 0, none⟩) 2 2, .slice (some ⟨w1.heap.size + 1 + 1 + 1, 0, none⟩) 3 3] 28)) (((((w1.alloc (.cells #[.string ⟨#[]⟩, .int .i64 0, .int .u64 0, .int .u64 0, .slice none 0 0, .int .i64 0, .int .i64 0, .int .i64 0, .int .i64 0, .string ⟨#[46, 116, 101, 120, 116]⟩, .int .i64 1, .int .u64 6, .int .u64 0, .slice none 0 0, .int .i64 0, .int .i64 0, .int .i64 0, .int .i64 0, .string ⟨#[46, 100, 101, 98, 117, 103, 95, 105, 110, 102, 111]⟩, .int .i64 1, .int .u64 0, .int .u64 0, .slice (some ⟨H, 0, none⟩) 8 8, .int .i64 0, .int .i64 0, .int .i64 0, .int .i64 0] 39)).alloc (.cells #[.string ⟨#[]⟩, .int .i64 0, .int .i64 0, .int .i64 0, .int .u64 0, .int .u64 0, .string ⟨#[102]⟩, .int .i64 0, .int .i64 0, .int .i64 1, .int .u64 0, .int .u64 0] 51)).alloc (.cells #[.int .u64 0, .int .i64 1, .int .i64 1, .int .i64 0] 53)).alloc (.cells #[.slice none 0 0, .slice none 0 0, .slice (some ⟨w1.heap.size + 1 + 1, 0, none⟩) 1 1] 49)).alloc (.cells #[.int .i64 1, .int .i64 62, .slice (some ⟨w1.heap.size, 0, none⟩) 3 3, .slice (some ⟨w1.heap.size + 1, 0, none⟩) 2 2, .slice (some ⟨w1.heap.size + 1 + 1 + 1, 0, none⟩) 3 3] 28)).heap.size := by
  have e1 : (w1.alloc (.cells (cellsL (exL9 H)).toArray 39)) = (w1.alloc (.cells #[.string ⟨#[]⟩, .int .i64 0, .int .u64 0, .int .u64 0, .slice none 0 0, .int .i64 0, .int .i64 0, .int .i64 0, .int .i64 0, .string ⟨#[46, 116, 101, 120, 116]⟩, .int .i64 1, .int .u64 6, .int .u64 0, .slice none 0 0, .int .i64 0, .int .i64 0, .int .i64 0, .int .i64 0, .string ⟨#[46, 100, 101, 98, 117, 103, 95, 105, 110, 102, 111]⟩, .int .i64 1, .int .u64 0, .int .u64 0, .slice (some ⟨H, 0, none⟩) 8 8, .int .i64 0, .int .i64 0, .int .i64 0, .int .i64 0] 39)) := rfl
  have h2 := secs_lit (w := w1) (L := exL9 H) (fun x hx => by
    simp only [exL9, List.mem_cons, List.not_mem_nil, or_false] at hx
    rcases hx with rfl | rfl | rfl
    · exact ⟨Rd.nil_, Nat.le_refl _, Nat.zero_le _, fits_small _ (by unfold InI zeroS; refine ⟨?_, ?_, ?_, ?_, ?_, ?_, ?_, ?_, ?_⟩ <;> decide)⟩
    · exact ⟨Rd.nil_, Nat.le_refl _, Nat.zero_le _, fits_small _ (by unfold InI; refine ⟨?_, ?_, ?_, ?_, ?_, ?_, ?_, ?_, ?_⟩ <;> decide)⟩
    · exact ⟨hd, Nat.le_refl _, (by decide : 8 ≤ maxLen), ex9_dbg⟩)
  rw [e1] at h2
  have z2 : (w1.alloc (.cells #[.string ⟨#[]⟩, .int .i64 0, .int .u64 0, .int .u64 0, .slice none 0 0, .int .i64 0, .int .i64 0, .int .i64 0, .int .i64 0, .string ⟨#[46, 116, 101, 120, 116]⟩, .int .i64 1, .int .u64 6, .int .u64 0, .slice none 0 0, .int .i64 0, .int .i64 0, .int .i64 0, .int .i64 0, .string ⟨#[46, 100, 101, 98, 117, 103, 95, 105, 110, 102, 111]⟩, .int .i64 1, .int .u64 0, .int .u64 0, .slice (some ⟨H, 0, none⟩) 8 8, .int .i64 0, .int .i64 0, .int .i64 0, .int .i64 0] 39)).heap.size = w1.heap.size + 1 := by simp
  rw [← z2] at h2
  generalize hW2 : (w1.alloc (.cells #[.string ⟨#[]⟩, .int .i64 0, .int .u64 0, .int .u64 0, .slice none 0 0, .int .i64 0, .int .i64 0, .int .i64 0, .int .i64 0, .string ⟨#[46, 116, 101, 120, 116]⟩, .int .i64 1, .int .u64 6, .int .u64 0, .slice none 0 0, .int .i64 0, .int .i64 0, .int .i64 0, .int .i64 0, .string ⟨#[46, 100, 101, 98, 117, 103, 95, 105, 110, 102, 111]⟩, .int .i64 1, .int .u64 0, .int .u64 0, .slice (some ⟨H, 0, none⟩) 8 8, .int .i64 0, .int .i64 0, .int .i64 0, .int .i64 0] 39)) = w2 at *
  have z3 : (w2.alloc (.cells #[.string ⟨#[]⟩, .int .i64 0, .int .i64 0, .int .i64 0, .int .u64 0, .int .u64 0, .string ⟨#[102]⟩, .int .i64 0, .int .i64 0, .int .i64 1, .int .u64 0, .int .u64 0] 51)).heap.size = w2.heap.size + 1 := by simp
  have h3 := lit_row sym_six w2 51 exY9
  rw [show (cellsF Sym.cells exY9).toArray = #[.string ⟨#[]⟩, .int .i64 0, .int .i64 0, .int .i64 0, .int .u64 0, .int .u64 0, .string ⟨#[102]⟩, .int .i64 0, .int .i64 0, .int .i64 1, .int .u64 0, .int .u64 0] from rfl] at h3
  have b3 : Below w2.heap.size w2 (w2.alloc (.cells #[.string ⟨#[]⟩, .int .i64 0, .int .i64 0, .int .i64 0, .int .u64 0, .int .u64 0, .string ⟨#[102]⟩, .int .i64 0, .int .i64 0, .int .i64 1, .int .u64 0, .int .u64 0] 51)) := (Below.refl _ _).alloc (Nat.le_refl _) _
  generalize hW3 : (w2.alloc (.cells #[.string ⟨#[]⟩, .int .i64 0, .int .i64 0, .int .i64 0, .int .u64 0, .int .u64 0, .string ⟨#[102]⟩, .int .i64 0, .int .i64 0, .int .i64 1, .int .u64 0, .int .u64 0] 51)) = w3 at *
  have z4 : (w3.alloc (.cells #[.int .u64 0, .int .i64 1, .int .i64 1, .int .i64 0] 53)).heap.size = w3.heap.size + 1 := by simp
  have h4 := lit_row rel_four w3 53 exR9
  rw [show (cellsF Rel.cells exR9).toArray = #[.int .u64 0, .int .i64 1, .int .i64 1, .int .i64 0] from rfl] at h4
  have b4 : Below w3.heap.size w3 (w3.alloc (.cells #[.int .u64 0, .int .i64 1, .int .i64 1, .int .i64 0] 53)) := (Below.refl _ _).alloc (Nat.le_refl _) _
  generalize hW4 : (w3.alloc (.cells #[.int .u64 0, .int .i64 1, .int .i64 1, .int .i64 0] 53)) = w4 at *
  have z5 : (w4.alloc (.cells #[.slice none 0 0, .slice none 0 0, .slice (some ⟨w1.heap.size + 1 + 1, 0, none⟩) 1 1] 49)).heap.size = w4.heap.size + 1 := by simp
  have h5 := lit_row rlay_one w4 49 (exQ9 (w1.heap.size + 1 + 1))
  rw [show (cellsF RLay.cells1 (exQ9 (w1.heap.size + 1 + 1))).toArray = #[.slice none 0 0, .slice none 0 0, .slice (some ⟨w1.heap.size + 1 + 1, 0, none⟩) 1 1] from rfl] at h5
  have b5 : Below w4.heap.size w4 (w4.alloc (.cells #[.slice none 0 0, .slice none 0 0, .slice (some ⟨w1.heap.size + 1 + 1, 0, none⟩) 1 1] 49)) := (Below.refl _ _).alloc (Nat.le_refl _) _
  generalize hW5 : (w4.alloc (.cells #[.slice none 0 0, .slice none 0 0, .slice (some ⟨w1.heap.size + 1 + 1, 0, none⟩) 1 1] 49)) = w5 at *
  have b6 : Below w5.heap.size w5 (w5.alloc (.cells #[.int .i64 1, .int .i64 62, .slice (some ⟨w1.heap.size, 0, none⟩) 3 3, .slice (some ⟨w1.heap.size + 1, 0, none⟩) 2 2, .slice (some ⟨w1.heap.size + 1 + 1 + 1, 0, none⟩) 3 3] 28)) := (Below.refl _ _).alloc (Nat.le_refl _) _
  generalize hW6 : (w5.alloc (.cells #[.int .i64 1, .int .i64 62, .slice (some ⟨w1.heap.size, 0, none⟩) 3 3, .slice (some ⟨w1.heap.size + 1, 0, none⟩) 2 2, .slice (some ⟨w1.heap.size + 1 + 1 + 1, 0, none⟩) 3 3] 28)) = w6 at *
  have c5 : Below w4.heap.size w4 w6 := b5.trans (b6.mono (by omega))
  have c4 : Below w3.heap.size w3 w6 := b4.trans (c5.mono (by omega))
  have c3 : Below w2.heap.size w2 w6 := b3.trans (c4.mono (by omega))
  have s6 := b6.size
  refine ⟨(h2.below c3).more (by omega), ?_, ⟨?_, ?_⟩, Nat.le_refl 3, Nat.le_refl 3⟩
  · have hy : Row 6 Sym.cells w3 w3.heap.size (some ⟨w2.heap.size, 0, none⟩) exY9 := by rw [z3]; exact h3
    rw [z2] at hy
    exact Row.more (Row.below hy c4) (by omega)
  · have hq : Row 1 RLay.cells1 w5 w5.heap.size (some ⟨w4.heap.size, 0, none⟩) (exQ9 (w1.heap.size + 1 + 1)) := by rw [z5]; exact h5
    rw [show w4.heap.size = w1.heap.size + 1 + 1 + 1 by omega] at hq
    exact Row.more (Row.below hq b6) (by omega)
  · intro q hq
    simp only [exO9, exQ9, List.mem_cons, List.not_mem_nil, or_false] at hq
    rcases hq with rfl | rfl | rfl
    · exact fun h => absurd h (by decide)
    · exact fun h => absurd h (by decide)
    · have hq : Row 4 Rel.cells w4 w4.heap.size (some ⟨w3.heap.size, 0, none⟩) exR9 := by rw [z4]; exact h4
      rw [show w3.heap.size = w1.heap.size + 1 + 1 by omega] at hq
      exact Row.more (Row.below hq c5) (by omega)
theorem ex9_dbgB : dbgB 1 0 ⟨#[46, 100, 101, 98, 117, 103, 95, 105, 110, 102, 111]⟩ = true := by kernel_rfl
theorem ex9_small : ∀ s ∈ exS9, s.flags < two64 ∧ s.addr < two64 ∧ s.data.length ≤ 6000 := by decide
theorem ex9_nums : ∀ x ∈ exY9, x.Nums := fun x hx => by
  simp only [exY9, List.mem_cons, List.not_mem_nil, or_false] at hx
  rcases hx with rfl | rfl
  · exact ⟨by unfold InI; decide, by unfold InI; decide, by unfold InI; decide, by decide, by decide⟩
  · exact ⟨by unfold InI; decide, by unfold InI; decide, by unfold InI; decide, by decide, by decide⟩
theorem ex9_numr : ∀ l ∈ [[], [], exR9], ∀ x ∈ l, x.Nums := fun l hl x hx => by
  simp only [List.mem_cons, List.not_mem_nil, or_false] at hl
  rcases hl with rfl | rfl | rfl
  · cases hx
  · cases hx
  · simp only [exR9, List.mem_cons, List.not_mem_nil, or_false] at hx
    subst hx
    exact ⟨by decide, by unfold InI; decide, by unfold InI; decide, by unfold InI; decide⟩
theorem ex9_bulk (H g : Nat) : (exO9 H g).Bulk :=
  ⟨(by decide : 3 ≤ 8000), fun x hx => by
    simp only [exO9, exL9, List.mem_cons, List.not_mem_nil, or_false] at hx
    rcases hx with rfl | rfl | rfl <;> simp [zeroS], (by decide : 2 ≤ 8000), (by decide : sumN exY9 ≤ 50000), (by decide : 3 ≤ 8000), fun q hq => by
    simp only [exO9, exQ9, List.mem_cons, List.not_mem_nil, or_false] at hq
    rcases hq with rfl | rfl | rfl <;> simp [exR9]⟩

set_option maxRecDepth 10000 in
set_option maxHeartbeats 6400000 in
theorem oworks_any {w : World} (hM : Mg w) : Calls Tryz.prog 6 #[] w fun r w' => r = .returned (.bool true) ∧ Below w.heap.size w w' := by
  obtain ⟨iu, hu, hu0, hu1, hu2⟩ := info_parts u8_info
  have hu3 : iu.bytes * 8 ≤ 281474976710656 := by rw [hu2]; decide
  have HM := Lib.hid hM
  have hMp := hM.pos
  clear hM
  go_enter Tryz.func6, Tryz.ntmps6
  go_upto_region 2 with (at_make; refine wpList_make_full _ rfl _ _ 22 rfl w.heap.size 5 iu _ 1 Tryz.underlying22 hu hu0 hu1 .i64 .i64 8 8 8 rfl rfl rfl rfl hu3 (by decide) (Nat.le_refl _) ?_; intro w1 hown1 hg1)
  have hb1 : Below w.heap.size w w1 := below_of_only hg1 (Nat.le_refl _) (by simp)
  have hOw : Own w1 w.heap.size (.slice (some ⟨w.heap.size, 0, none⟩) 8 8) [0, 0, 0, 0, 0, 0, 0, 0] := by
    have h := hown1
    rw [show (Value.int IntKind.u8 0).cells = #[Value.int IntKind.u8 0] from rfl, made_one] at h
    exact h
  obtain ⟨A1, c1, e1, _, _, hrd⟩ := own_slice hOw
  injection e1 with e11 e12 e13
  rw [← e11] at hrd
  have hOk := ex9_ok hrd
  have hB1 := hb1.size
  have hB6 : Below w1.heap.size w1 (((((w1.alloc (.cells #[.string ⟨#[]⟩, .int .i64 0, .int .u64 0, .int .u64 0, .slice none 0 0, .int .i64 0, .int .i64 0, .int .i64 0, .int .i64 0, .string ⟨#[46, 116, 101, 120, 116]⟩, .int .i64 1, .int .u64 6, .int .u64 0, .slice none 0 0, .int .i64 0, .int .i64 0, .int .i64 0, .int .i64 0, .string ⟨#[46, 100, 101, 98, 117, 103, 95, 105, 110, 102, 111]⟩, .int .i64 1, .int .u64 0, .int .u64 0, .slice (some ⟨w.heap.size, 0, none⟩) 8 8, .int .i64 0, .int .i64 0, .int .i64 0, .int .i64 0] 39)).alloc (.cells #[.string ⟨#[]⟩, .int .i64 0, .int .i64 0, .int .i64 0, .int .u64 0, .int .u64 0, .string ⟨#[102]⟩, .int .i64 0, .int .i64 0, .int .i64 1, .int .u64 0, .int .u64 0] 51)).alloc (.cells #[.int .u64 0, .int .i64 1, .int .i64 1, .int .i64 0] 53)).alloc (.cells #[.slice none 0 0, .slice none 0 0, .slice (some ⟨w1.heap.size + 1 + 1, 0, none⟩) 1 1] 49)).alloc (.cells #[.int .i64 1, .int .i64 62, .slice (some ⟨w1.heap.size, 0, none⟩) 3 3, .slice (some ⟨w1.heap.size + 1, 0, none⟩) 2 2, .slice (some ⟨w1.heap.size + 1 + 1 + 1, 0, none⟩) 3 3] 28)) := (((((Below.refl _ _).alloc (Nat.le_refl _) _).alloc (by simp) _).alloc (by simp; omega) _).alloc (by simp; omega) _).alloc (by simp; omega) _
  have HP := Lib.hid (oput_any (exO9 w.heap.size w1.heap.size) hOk (ex9_bulk _ _) ((HM.out.below hb1 hMp).below hB6 (by omega)))
  have hK : oputE 1 62 exS9 exY9 [[], [], exR9] = 0 ∧ oputR 1 62 exS9 exY9 [[], [], exR9] = fileB 1 62 (fileO exS9 exY9 [[], [], exR9]) := by
    unfold oputE oputR putE putR
    rw [ex9_right]
    simp only
    rw [if_pos ex9_may, if_pos ex9_may]
    exact ⟨rfl, rfl⟩
  obtain ⟨z, hz, f1, f2, f3, f4, f5, f6, f7⟩ := file_back ex9_right ex9_may (by decide) ex9_small ex9_nums ex9_numr
  rw [show oputE (exO9 w.heap.size w1.heap.size).kind (exO9 w.heap.size w1.heap.size).machine (secsOf (exO9 w.heap.size w1.heap.size).L) (exO9 w.heap.size w1.heap.size).Y ((exO9 w.heap.size w1.heap.size).Q.map (·.l)) = 0 from hK.1, show oputR (exO9 w.heap.size w1.heap.size).kind (exO9 w.heap.size w1.heap.size).machine (secsOf (exO9 w.heap.size w1.heap.size).L) (exO9 w.heap.size w1.heap.size).Y ((exO9 w.heap.size w1.heap.size).Q.map (·.l)) = fileB 1 62 (fileO exS9 exY9 [[], [], exR9]) from hK.2] at HP
  rw [show (exO9 w.heap.size w1.heap.size).val = .agg #[.int .i64 1, .int .i64 62, .slice (some ⟨w1.heap.size, 0, none⟩) 3 3, .slice (some ⟨w1.heap.size + 1, 0, none⟩) 2 2, .slice (some ⟨w1.heap.size + 1 + 1 + 1, 0, none⟩) 3 3] from rfl] at HP
  generalize fileB 1 62 (fileO exS9 exY9 [[], [], exR9]) = fb at *
  have HF := Lib.hid (And.intro f1 (And.intro f4 f6))
  have HL7 := Lib.hid f7
  have HB6 := Lib.hid (hb1.trans (hB6.mono hB1))
  have HM6 := Lib.hid ((HM.out.below hb1 hMp).below hB6 (by omega))
  have hX6 := Box.new ((((w1.alloc (.cells #[.string ⟨#[]⟩, .int .i64 0, .int .u64 0, .int .u64 0, .slice none 0 0, .int .i64 0, .int .i64 0, .int .i64 0, .int .i64 0, .string ⟨#[46, 116, 101, 120, 116]⟩, .int .i64 1, .int .u64 6, .int .u64 0, .slice none 0 0, .int .i64 0, .int .i64 0, .int .i64 0, .int .i64 0, .string ⟨#[46, 100, 101, 98, 117, 103, 95, 105, 110, 102, 111]⟩, .int .i64 1, .int .u64 0, .int .u64 0, .slice (some ⟨w.heap.size, 0, none⟩) 8 8, .int .i64 0, .int .i64 0, .int .i64 0, .int .i64 0] 39)).alloc (.cells #[.string ⟨#[]⟩, .int .i64 0, .int .i64 0, .int .i64 0, .int .u64 0, .int .u64 0, .string ⟨#[102]⟩, .int .i64 0, .int .i64 0, .int .i64 1, .int .u64 0, .int .u64 0] 51)).alloc (.cells #[.int .u64 0, .int .i64 1, .int .i64 1, .int .i64 0] 53)).alloc (.cells #[.slice none 0 0, .slice none 0 0, .slice (some ⟨w1.heap.size + 1 + 1, 0, none⟩) 1 1] 49)) 28 #[.int .i64 1, .int .i64 62, .slice (some ⟨w1.heap.size, 0, none⟩) 3 3, .slice (some ⟨w1.heap.size + 1, 0, none⟩) 2 2, .slice (some ⟨w1.heap.size + 1 + 1 + 1, 0, none⟩) 3 3]
  have hlt6 : ((((w1.alloc (.cells #[.string ⟨#[]⟩, .int .i64 0, .int .u64 0, .int .u64 0, .slice none 0 0, .int .i64 0, .int .i64 0, .int .i64 0, .int .i64 0, .string ⟨#[46, 116, 101, 120, 116]⟩, .int .i64 1, .int .u64 6, .int .u64 0, .slice none 0 0, .int .i64 0, .int .i64 0, .int .i64 0, .int .i64 0, .string ⟨#[46, 100, 101, 98, 117, 103, 95, 105, 110, 102, 111]⟩, .int .i64 1, .int .u64 0, .int .u64 0, .slice (some ⟨w.heap.size, 0, none⟩) 8 8, .int .i64 0, .int .i64 0, .int .i64 0, .int .i64 0] 39)).alloc (.cells #[.string ⟨#[]⟩, .int .i64 0, .int .i64 0, .int .i64 0, .int .u64 0, .int .u64 0, .string ⟨#[102]⟩, .int .i64 0, .int .i64 0, .int .i64 1, .int .u64 0, .int .u64 0] 51)).alloc (.cells #[.int .u64 0, .int .i64 1, .int .i64 1, .int .i64 0] 53)).alloc (.cells #[.slice none 0 0, .slice none 0 0, .slice (some ⟨w1.heap.size + 1 + 1, 0, none⟩) 1 1] 49)).heap.size < (((((w1.alloc (.cells #[.string ⟨#[]⟩, .int .i64 0, .int .u64 0, .int .u64 0, .slice none 0 0, .int .i64 0, .int .i64 0, .int .i64 0, .int .i64 0, .string ⟨#[46, 116, 101, 120, 116]⟩, .int .i64 1, .int .u64 6, .int .u64 0, .slice none 0 0, .int .i64 0, .int .i64 0, .int .i64 0, .int .i64 0, .string ⟨#[46, 100, 101, 98, 117, 103, 95, 105, 110, 102, 111]⟩, .int .i64 1, .int .u64 0, .int .u64 0, .slice (some ⟨w.heap.size, 0, none⟩) 8 8, .int .i64 0, .int .i64 0, .int .i64 0, .int .i64 0] 39)).alloc (.cells #[.string ⟨#[]⟩, .int .i64 0, .int .i64 0, .int .i64 0, .int .u64 0, .int .u64 0, .string ⟨#[102]⟩, .int .i64 0, .int .i64 0, .int .i64 1, .int .u64 0, .int .u64 0] 51)).alloc (.cells #[.int .u64 0, .int .i64 1, .int .i64 1, .int .i64 0] 53)).alloc (.cells #[.slice none 0 0, .slice none 0 0, .slice (some ⟨w1.heap.size + 1 + 1, 0, none⟩) 1 1] 49)).alloc (.cells #[.int .i64 1, .int .i64 62, .slice (some ⟨w1.heap.size, 0, none⟩) 3 3, .slice (some ⟨w1.heap.size + 1, 0, none⟩) 2 2, .slice (some ⟨w1.heap.size + 1 + 1 + 1, 0, none⟩) 3 3] 28)).heap.size := by simp
  clear f1 f2 f3 f4 f5 f6 f7 hK hOk hrd hOw hown1 hg1 hB6 e11 e12 e13
  go_wp2_with fail
  refine HP.out.mono ?_
  rintro r w7 ⟨v7, rfl, ho7, hb7⟩
  obtain ⟨A7, c7, rfl, hc7, _, hr7⟩ := own_slice ho7
  have HB7 := Lib.hid (HB6.out.trans (hb7.mono HB6.out.size))
  have HT := Lib.hid (otake_any hr7 c7 hc7 (by have := HL7.out; omega) (HM6.out.below hb7 HM6.out.pos))
  clear hb7 ho7 hc7 hr7 hX6 hlt6 HP HM6
  go_wp2_with fail
  refine HT.out.mono ?_
  rintro r w8 ⟨o, rfl, hOk, hb8, ho, -⟩
  obtain ⟨-, -, hL, -, hQ⟩ := ho HF.out.1
  obtain ⟨kd, mc, aS, cS, L, aY, cY, Y, aR, cR, Q⟩ := o
  simp only at hL hQ
  rw [HF.out.1, show ObjV.val ⟨kd, mc, aS, cS, L, aY, cY, Y, aR, cR, Q⟩ = .agg #[.int .i64 kd, .int .i64 mc, .slice aS L.length cS, .slice aY Y.length cY, .slice aR Q.length cR] from rfl]
  rw [HF.out.2.1] at hL hQ
  rw [HF.out.2.2, ex9_len] at hQ
  have hLl : L.length = 7 := by
    have := congrArg List.length hL
    rw [ex9_len] at this
    simpa [secsOf] using this
  have hQl : Q.length = 7 := by
    have := congrArg List.length hQ
    simpa using this
  have hg1 : ∃ x, L[1]? = some x ∧ x.s = ⟨[46, 116, 101, 120, 116], 1, 6, 0, [], 0, 0, 0, 0⟩ := by
    have hx : L[1]? = some (L[1]'(by omega)) := List.getElem?_eq_getElem _
    have h1 := get_secsOf hx
    rw [hL, ex9_one] at h1
    injection h1 with h1
    exact ⟨_, hx, h1.symm⟩
  have hg2 : ∃ x, L[2]? = some x ∧ x.s = ⟨[46, 100, 101, 98, 117, 103, 95, 105, 110, 102, 111], 1, 0, 0, [0, 0, 0, 0, 0, 0, 0, 0], 0, 0, 0, 0⟩ := by
    have hx : L[2]? = some (L[2]'(by omega)) := List.getElem?_eq_getElem _
    have h1 := get_secsOf hx
    rw [hL, ex9_two] at h1
    injection h1 with h1
    exact ⟨_, hx, h1.symm⟩
  have hg3 : ∃ q, Q[2]? = some q ∧ q.l = exR9 := by
    have hx : Q[2]? = some (Q[2]'(by omega)) := List.getElem?_eq_getElem _
    have h1 : (Q.map (·.l))[2]? = some (Q[2]'(by omega)).l := by rw [List.getElem?_map, hx]; rfl
    rw [hQ] at h1
    injection h1 with h1
    exact ⟨_, hx, h1.symm⟩
  obtain ⟨hs, hy, hl, -, -⟩ := hOk
  simp only at hs hy hl
  obtain ⟨⟨⟨nm1, k1, f1, a1, d1, l1, i1, g1, e1⟩, A1, c1⟩, hx1, hx1s⟩ := hg1
  obtain ⟨⟨⟨nm2, k2, f2, a2, d2, l2, i2, g2, e2⟩, A2, c2⟩, hx2, hx2s⟩ := hg2
  obtain ⟨⟨ra, rc, rl⟩, hx3, hx3s⟩ := hg3
  simp only [Sect.mk.injEq] at hx1s hx2s
  obtain ⟨rfl, rfl, rfl, rfl, rfl, rfl, rfl, rfl, rfl⟩ := hx1s
  obtain ⟨rfl, rfl, rfl, rfl, rfl, rfl, rfl, rfl, rfl⟩ := hx2s
  simp only at hx3s
  subst hx3s
  have hb9 : Below w8.heap.size w8 (w8.alloc (.cells #[.int .i64 kd, .int .i64 mc, .slice aS L.length cS, .slice aY Y.length cY, .slice aR Q.length cR] 28)) := (Below.refl _ _).alloc (Nat.le_refl _) _
  obtain ⟨b2, o2, rfl, hbl2, p0, p1, p2, p3, p4, p5, p6, p7, p8⟩ := (hs.below hb9).at_ hx2
  obtain ⟨b2', o2', e22, -, q0, q1, q2, q3, q4, q5, q6, q7, q8⟩ := (hs.below hb9).at_ hx1
  cases e22
  obtain ⟨b3, o3, rfl, hbl3, r0⟩ := (hl.below hb9).at_ hx3
  obtain ⟨b4, o4, h44, hbl4, s0, s1, s2, s3⟩ := rel_at (((hl.below hb9).rels _ (List.mem_of_getElem? hx3))) (i := 0) (x := ⟨0, 1, 1, 0⟩) rfl
  simp only at h44
  subst h44
  rw [show exR9.length = 1 from rfl] at r0
  rw [Nat.zero_mul, Nat.add_zero] at s1
  simp only [Nat.reduceMul] at p0 p1 p2 p3 p4 p5 p6 p7 p8 q0 q1 q2 q3 q4 q5 q6 q7 q8
  have HB9 := Lib.hid (HB7.out.trans ((hb8.trans (hb9.mono hb8.size)).mono HB7.out.size))
  rw [hLl, hQl] at HB9 p0 p1 p2 p3 p4 p5 p6 p7 p8 q0 q1 q2 q3 q4 q5 q6 q7 q8 r0 s1 ⊢
  rw [show ([0, 0, 0, 0, 0, 0, 0, 0] : List UInt8).length = 8 from rfl] at p4
  rw [show ([] : List UInt8).length = 0 from rfl] at q4
  have hD := fun W => (show Calls Tryz.prog 15 #[.agg #[.string ⟨#[46, 100, 101, 98, 117, 103, 95, 105, 110, 102, 111]⟩, .int .i64 1, .int .u64 0, .int .u64 0, .slice A2 8 c2, .int .i64 0, .int .i64 0, .int .i64 0, .int .i64 0]] W (fun r w' => r = .returned (.bool true) ∧ Below W.heap.size W w') from (debug_any ⟨#[46, 100, 101, 98, 117, 103, 95, 105, 110, 102, 111]⟩ 1 0 (.int .u64 0) (.slice A2 8 c2) (.int .i64 0) (.int .i64 0) (.int .i64 0) (.int .i64 0) (by decide) W).mono fun r w' h => ⟨by rw [h.1, ex9_dbgB], h.2⟩)
  have hA := fun W => (show Calls Tryz.prog 17 #[.agg #[.string ⟨#[46, 116, 101, 120, 116]⟩, .int .i64 1, .int .u64 6, .int .u64 0, .slice A1 0 c1, .int .i64 0, .int .i64 0, .int .i64 0, .int .i64 0]] W (fun r w' => r = .returned (.bool true) ∧ Below W.heap.size W w') from (alloc_any (.string ⟨#[46, 116, 101, 120, 116]⟩) 1 6 (.int .u64 0) (.slice A1 0 c1) (.int .i64 0) (.int .i64 0) (.int .i64 0) (.int .i64 0) (by decide) W).mono fun r w' h => ⟨by rw [h.1]; rfl, h.2⟩)
  have HDD := Lib.hid hD
  have HAA := Lib.hid hA
  have hx9 := Box.new w8 28 #[.int .i64 kd, .int .i64 mc, .slice (some ⟨b2, o2, none⟩) 7 cS, .slice aY Y.length cY, .slice (some ⟨b3, o3, none⟩) 7 cR]
  have hl9 : w8.heap.size < (w8.alloc (.cells #[.int .i64 kd, .int .i64 mc, .slice (some ⟨b2, o2, none⟩) 7 cS, .slice aY Y.length cY, .slice (some ⟨b3, o3, none⟩) 7 cR] 28)).heap.size := by simp
  have KQ := Lib.hid (fun W (hW : Below (w8.alloc (.cells #[.int .i64 kd, .int .i64 mc, .slice (some ⟨b2, o2, none⟩) 7 cS, .slice aY Y.length cY, .slice (some ⟨b3, o3, none⟩) 7 cR] 28)).heap.size (w8.alloc (.cells #[.int .i64 kd, .int .i64 mc, .slice (some ⟨b2, o2, none⟩) 7 cS, .slice aY Y.length cY, .slice (some ⟨b3, o3, none⟩) 7 cR] 28)) W) => And.intro (five_cells (hx9.below hW hl9)).2.2.1 (And.intro ((hW.cell (p := ⟨b2, o2 + 9, none⟩) (by show b2 < _; omega)).trans q0) (And.intro ((hW.cell (p := ⟨b2, o2 + 9 + 1, none⟩) (by show b2 < _; omega)).trans q1) (And.intro ((hW.cell (p := ⟨b2, o2 + 9 + 2, none⟩) (by show b2 < _; omega)).trans q2) (And.intro ((hW.cell (p := ⟨b2, o2 + 9 + 3, none⟩) (by show b2 < _; omega)).trans q3) (And.intro ((hW.cell (p := ⟨b2, o2 + 9 + 4, none⟩) (by show b2 < _; omega)).trans q4) (And.intro ((hW.cell (p := ⟨b2, o2 + 9 + 5, none⟩) (by show b2 < _; omega)).trans q5) (And.intro ((hW.cell (p := ⟨b2, o2 + 9 + 6, none⟩) (by show b2 < _; omega)).trans q6) (And.intro ((hW.cell (p := ⟨b2, o2 + 9 + 7, none⟩) (by show b2 < _; omega)).trans q7) ((hW.cell (p := ⟨b2, o2 + 9 + 8, none⟩) (by show b2 < _; omega)).trans q8))))))))))
  clear hD hA hx9 hl9 hl hs hy hx1 hx2 hx3 hL hQ hLl hQl hb9 hb8 HT s0 s2 s3 q0 q1 q2 q3 q4 q5 q6 q7 q8 ho
  go_wp2_with (go_at_call 15; refine (HDD.out _).mono ?_; rintro r w10 ⟨rfl, hb10⟩; obtain ⟨y2, q0, q1, q2, q3, q4, q5, q6, q7, q8⟩ := KQ.out _ hb10; have HB10 := Lib.hid (HB9.out.trans (hb10.mono HB9.out.size)); clear hb10)
  refine (HAA.out _).mono ?_
  rintro r w11 ⟨rfl, hb11⟩
  have HB11 := Lib.hid (HB10.out.trans (hb11.mono HB10.out.size))
  clear hb11
  go_wp2_with fail
  go_ret
  exact ⟨rfl, HB11.out⟩

end Go.Proofs.YtldmjnbmjfnfeaaGreatDoor

namespace Go.Proofs.YtldmjnbmjfnfeaaGreatDoor
open Go Go.RowKit Go.ChangeShapes Go.WideShapes Go.Deep

theorem each_of {α : Type} {P : Nat → α → Prop} : ∀ (n : Nat), (∀ i, i < n → ∃ x, P i x) → ∃ L : List α, L.length = n ∧ ∀ (i : Nat) (x : α), L[i]? = some x → P i x
  | 0, _ => ⟨[], rfl, fun i x h => by simp at h⟩
  | n + 1, h => by
    obtain ⟨L, h1, h2⟩ := each_of n (fun i hi => h i (by omega))
    obtain ⟨y, hy⟩ := h n (by omega)
    refine ⟨L ++ [y], by simp [h1], fun i x hx => ?_⟩
    rcases Nat.lt_or_ge i n with hi | hi
    · rw [List.getElem?_append_left (by omega)] at hx
      exact h2 i x hx
    · have hil : i < (L ++ [y]).length := (List.getElem?_eq_some_iff.1 hx).1
      have : i = n := by simp at hil; omega
      subst this
      rw [List.getElem?_append_right (by omega), h1, Nat.sub_self] at hx
      injection hx with hx
      exact hx ▸ hy

theorem y_six : Tryz.prog.cellsOf 51 = 6 := by kernel_rfl
theorem y_four : Tryz.prog.cellsOf 53 = 4 := by kernel_rfl
theorem y_str : Tryz.prog.cellsOf 9 = 1 := by kernel_rfl
theorem y_int : Tryz.prog.cellsOf 3 = 1 := by kernel_rfl
theorem y_i64 : Tryz.prog.cellsOf 2 = 1 := by kernel_rfl
theorem y_u64 : Tryz.prog.cellsOf 37 = 1 := by kernel_rfl

section
variable {H : Type} {enc : TypeId × Value → H} {w : World} {held : Bool} {fuel : Nat}
theorem y_int_of {c : Value} {y : DataW H × List MemPlace} (hy : DataW.trod enc Tryz.prog w 0 (fun _ => true) held fuel 3 [c] = some y) : ∃ z, c = .int .i64 z ∧ InI z := by
  obtain ⟨z, hz, _, hw⟩ := DataW.trod_int Tryz.underlying3 hy
  injection hz with hz
  exact ⟨z, hz, i64_of hw⟩
theorem y_i64_of {c : Value} {y : DataW H × List MemPlace} (hy : DataW.trod enc Tryz.prog w 0 (fun _ => true) held fuel 2 [c] = some y) : ∃ z, c = .int .i64 z ∧ InI z := by
  obtain ⟨z, hz, _, hw⟩ := DataW.trod_int Tryz.underlying2 hy
  injection hz with hz
  exact ⟨z, hz, i64_of hw⟩
theorem y_nat_of {c : Value} {y : DataW H × List MemPlace} (hy : DataW.trod enc Tryz.prog w 0 (fun _ => true) held fuel 37 [c] = some y) : ∃ z : Nat, c = .int .u64 (z : Int) ∧ z < two64 := by
  obtain ⟨z, hz, _, hw⟩ := DataW.trod_int Tryz.underlying37 hy
  injection hz with hz
  obtain ⟨n, rfl, hn⟩ := nat_of_u64 hw
  exact ⟨n, hz, hn⟩

set_option maxRecDepth 20000 in
/-- One symbol out of its six cells. -/
theorem sym_of {cs : List Value} {x : DataW H × List MemPlace}
    (h : DataW.trod enc Tryz.prog w 0 (fun _ => true) held fuel 51 cs = some x) : ∃ y : Sym, cs = y.cells ∧ y.Nums := by
  obtain ⟨xs, k, _, _, hcl, hlen, hg⟩ := DataW.trod_struct Tryz.underlying51 h
  rw [y_six] at hcl
  match cs, hcl, xs, hlen with
  | [c0, c1, c2, c3, c4, c5], _, [y0, y1, y2, y3, y4, y5], _ =>
    have g0 := hg 0 _ rfl
    have g1 := hg 1 _ rfl
    have g2 := hg 2 _ rfl
    have g3 := hg 3 _ rfl
    have g4 := hg 4 _ rfl
    have g5 := hg 5 _ rfl
    simp [y_str, y_int, y_u64] at g0 g1 g2 g3 g4 g5
    obtain ⟨s, hs, _, _⟩ := DataW.trod_string Tryz.underlying9 g0
    injection hs with hs
    obtain ⟨z1, rfl, i1⟩ := y_int_of g1
    obtain ⟨z2, rfl, i2⟩ := y_int_of g2
    obtain ⟨z3, rfl, i3⟩ := y_int_of g3
    obtain ⟨z4, rfl, i4⟩ := y_nat_of g4
    obtain ⟨z5, rfl, i5⟩ := y_nat_of g5
    refine ⟨⟨s.data.toList, z1, z2, z3, z4, z5⟩, ?_, ⟨i1, i2, i3, i4, i5⟩⟩
    rw [hs]
    show _ = [Value.string ⟨s.data.toList.toArray⟩, _, _, _, _, _]
    simp
set_option maxRecDepth 20000 in
/-- One relocation out of its four cells. -/
theorem rel_of {cs : List Value} {x : DataW H × List MemPlace}
    (h : DataW.trod enc Tryz.prog w 0 (fun _ => true) held fuel 53 cs = some x) : ∃ y : Rel, cs = y.cells ∧ y.Nums := by
  obtain ⟨xs, k, _, _, hcl, hlen, hg⟩ := DataW.trod_struct Tryz.underlying53 h
  rw [y_four] at hcl
  match cs, hcl, xs, hlen with
  | [c0, c1, c2, c3], _, [y0, y1, y2, y3], _ =>
    have g0 := hg 0 _ rfl
    have g1 := hg 1 _ rfl
    have g2 := hg 2 _ rfl
    have g3 := hg 3 _ rfl
    simp [y_int, y_u64, y_i64] at g0 g1 g2 g3
    obtain ⟨z0, rfl, i0⟩ := y_nat_of g0
    obtain ⟨z1, rfl, i1⟩ := y_int_of g1
    obtain ⟨z2, rfl, i2⟩ := y_int_of g2
    obtain ⟨z3, rfl, i3⟩ := y_i64_of g3
    exact ⟨⟨z0, z1, z2, z3⟩, rfl, ⟨i0, i1, i2, i3⟩⟩

/-- Items that lie at their places. -/
theorem row_of {α : Type} {n : Nat} {f : α → List Value} {P : α → Prop} (hn : ∀ x, (f x).length = n) (hpos : 0 < n) {a : Addr} {L : List α} (hP : ∀ (i : Nat) (y : α), L[i]? = some y → (∀ (j : Nat) (v : Value), (f y)[j]? = some v → w.cell? ((a.add (i * n)).add j) = some v) ∧ P y) :
    Row n f w w.heap.size (some a) L ∧ ∀ y ∈ L, P y := by
  refine ⟨fun h0 => ?_, fun y hy => ?_⟩
  · have hx0 : L[0]? = some (L[0]'h0) := List.getElem?_eq_getElem _
    have hz : 0 < (f (L[0]'h0)).length := by rw [hn]; exact hpos
    have hc0 := (hP 0 _ hx0).1 0 _ (List.getElem?_eq_getElem hz)
    obtain ⟨b, o, spot⟩ := a
    have hspot : spot = none := by simpa [Addr.add] using World.cell?_spot hc0
    subst hspot
    refine ⟨b, o, rfl, ?_, fun i y hy j v hv => ?_⟩
    · have := World.block_lt_of_cell? w _ hc0
      simpa [addr_add] using this
    · have := (hP i y hy).1 j v hv
      rwa [addr_add, addr_add] at this
  · obtain ⟨i, hi', e⟩ := List.getElem_of_mem hy
    exact (hP i y (by rw [← e]; exact List.getElem?_eq_getElem hi')).2

set_option maxRecDepth 20000 in
theorem syms_of {a1 : Option Addr} {len1 cap1 : Nat} {x : DataW H × List MemPlace}
    (h : DataW.trod enc Tryz.prog w 0 (fun _ => true) held fuel 25 (Value.slice a1 len1 cap1).cells.toList = some x) : ∃ L : List Sym, L.length = len1 ∧ len1 ≤ cap1 ∧ Syms w w.heap.size a1 L ∧ ∀ y ∈ L, y.Nums := by
  rcases open_slice Tryz.underlying25 h with ⟨hcs, _⟩ | ⟨a, len, cap, m, n, D, Pl, hcs, _, hl, _, hmm, _, hi⟩
  · simp [Value.cells] at hcs
    obtain ⟨rfl, rfl, rfl⟩ := hcs
    exact ⟨[], rfl, Nat.le_refl _, fun h0 => absurd h0 (by simp), fun x hx => by cases hx⟩
  · simp [Value.cells] at hcs
    obtain ⟨rfl, rfl, rfl⟩ := hcs
    have hlm : len1 ≤ m := by rw [hmm]; simp; omega
    rw [y_six] at hi
    obtain ⟨L, hL, hP⟩ := each_of (P := fun i (y : Sym) => (∀ (j : Nat) (v : Value), y.cells[j]? = some v → w.cell? ((a.add (i * 6)).add j) = some v) ∧ y.Nums) len1 (fun i hi1 => by
      obtain ⟨cs', hc, ht⟩ := hi i (by omega)
      obtain ⟨_, hcl, hat⟩ := World.cells?_some hc
      obtain ⟨y, rfl, g1⟩ := sym_of ht
      exact ⟨y, fun j v hv => by
        have hj : j < 6 := (List.getElem?_eq_some_iff.1 hv).1
        rw [hat j hj, hv], g1⟩)
    exact ⟨L, hL, hl, row_of sym_six (by decide) hP⟩

set_option maxRecDepth 20000 in
theorem rels_of {a1 : Option Addr} {len1 cap1 : Nat} {x : DataW H × List MemPlace}
    (h : DataW.trod enc Tryz.prog w 0 (fun _ => true) held fuel 49 (Value.slice a1 len1 cap1).cells.toList = some x) : ∃ L : List Rel, L.length = len1 ∧ len1 ≤ cap1 ∧ Rels w w.heap.size a1 L ∧ ∀ y ∈ L, y.Nums := by
  rcases open_slice Tryz.underlying49 h with ⟨hcs, _⟩ | ⟨a, len, cap, m, n, D, Pl, hcs, _, hl, _, hmm, _, hi⟩
  · simp [Value.cells] at hcs
    obtain ⟨rfl, rfl, rfl⟩ := hcs
    exact ⟨[], rfl, Nat.le_refl _, fun h0 => absurd h0 (by simp), fun x hx => by cases hx⟩
  · simp [Value.cells] at hcs
    obtain ⟨rfl, rfl, rfl⟩ := hcs
    have hlm : len1 ≤ m := by rw [hmm]; simp; omega
    rw [y_four] at hi
    obtain ⟨L, hL, hP⟩ := each_of (P := fun i (y : Rel) => (∀ (j : Nat) (v : Value), y.cells[j]? = some v → w.cell? ((a.add (i * 4)).add j) = some v) ∧ y.Nums) len1 (fun i hi1 => by
      obtain ⟨cs', hc, ht⟩ := hi i (by omega)
      obtain ⟨_, hcl, hat⟩ := World.cells?_some hc
      obtain ⟨y, rfl, g1⟩ := rel_of ht
      exact ⟨y, fun j v hv => by
        have hj : j < 4 := (List.getElem?_eq_some_iff.1 hv).1
        rw [hat j hj, hv], g1⟩)
    exact ⟨L, hL, hl, row_of rel_four (by decide) hP⟩
end

end Go.Proofs.YtldmjnbmjfnfeaaGreatDoor

namespace Go.Proofs.YtldmjnbmjfnfeaaGreatDoor
open Go Go.RowKit

def Bulk6 (L : List Lay) (k : Nat) : Prop := ∀ (j : Nat) (x : Lay), j < k → L[j]? = some x → x.s.data.length ≤ 6000 ∧ x.s.name.length ≤ 6000
theorem Bulk6.next {L : List Lay} {k : Nat} {x : Lay} (h : Bulk6 L k) (hx : L[k]? = some x) (h1 : x.s.data.length ≤ 6000) (h2 : x.s.name.length ≤ 6000) : Bulk6 L (k + 1) := fun j y hj hy => by
  rcases Nat.lt_or_ge j k with h3 | h3
  · exact h j y h3 hy
  · rw [show j = k by omega, hx] at hy
    injection hy with hy
    exact hy ▸ ⟨h1, h2⟩
theorem Bulk6.all {L : List Lay} (h : Bulk6 L L.length) : ∀ x ∈ L, x.s.data.length ≤ 6000 ∧ x.s.name.length ≤ 6000 := fun x hx => by
  obtain ⟨i, hi, e⟩ := List.getElem_of_mem hx
  exact h i x hi (by rw [← e]; exact List.getElem?_eq_getElem hi)

set_option maxRecDepth 10000 in
set_option maxHeartbeats 1600000 in
theorem bulk6_any {w : World} {B : Nat} {a : Option Addr} {L : List Lay} (h : SecsIn w B a L) (c : Nat) :
    Calls Tryz.prog 30 #[.slice a L.length c, .int .i64 6000] w fun r w' => ∃ n : Int, r = .returned (.int .i64 n) ∧ 0 ≤ n ∧ n ≤ 20000 ∧ (n ≤ 6000 → L.length ≤ 6000 ∧ ∀ x ∈ L, x.s.data.length ≤ 6000 ∧ x.s.name.length ≤ 6000) ∧ ∃ q, w' = w.drewN q := by
  have HH := Lib.hid h
  generalize hN : L.length = N at *
  have HN := Lib.hid hN
  clear h hN
  go_enter Tryz.func30, Tryz.ntmps30
  by_cases hbig : 6000 < N
  · have hd : decide ((6000 : Int) < (N : Int)) = true := decide_eq_true (by omega)
    clear hbig
    go_wp2_with fail
    go_ret
    exact ⟨6001, rfl, by decide, by decide, fun h => absurd h (by decide), 0, rfl⟩
  · have hd : decide ((6000 : Int) < (N : Int)) = false := decide_eq_false (by omega)
    have HNB := Lib.hid hbig
    have hNb : N ≤ 6000 := by omega
    clear hbig
    go_wp2_with fail
    clear hd
    go_loopw [5, 6] (fun n i wr => ∃ k q z : Nat, k ≤ N ∧ q ≤ 18000 ∧ n = .int .i64 q ∧ i = .int .i64 k ∧ wr = w.drewN z ∧ Hid (Bulk6 L k)) (fun _ i _ => N - (intOf i).toNat)
    case atStart => exact ⟨0, N, 0, Nat.zero_le _, by omega, rfl, rfl, rfl, Lib.hid (fun _ _ hj => by omega)⟩
    case round =>
      obtain ⟨k, q, z, hk, hq, rfl, rfl, rfl, HBk⟩ := hrel
      by_cases hlt : k < N
      · obtain ⟨x, hx⟩ : ∃ x, L[k]? = some x := ⟨L[k]'(by rw [HN.out]; exact hlt), List.getElem?_eq_getElem _⟩
        obtain ⟨b, o, rfl, _, hc⟩ := HH.out.row (by rw [HN.out]; omega)
        have c0 := hc k x hx 0 _ rfl
        have c4 := hc k x hx 4 _ rfl
        rw [show x.dv = .slice x.A x.s.data.length x.c from rfl] at c4
        rw [Nat.add_zero] at c0
        have hsz : (ByteArray.mk x.s.name.toArray).size = x.s.name.length := rfl
        by_cases h1 : 6000 < q
        · have d1 : decide ((6000 : Int) < (q : Int)) = true := decide_eq_true (by omega)
          clear h1 hc hx
          go_wp2_with fail
          go_ret
          exact ⟨6001, rfl, by decide, by decide, fun h => absurd h (by decide), z, rfl⟩
        · have d1 : decide ((6000 : Int) < (q : Int)) = false := decide_eq_false (by omega)
          have hq8 : q ≤ 6000 := by omega
          by_cases h2 : 6000 < x.s.data.length
          · have d2 : decide ((6000 : Int) < (x.s.data.length : Int)) = true := decide_eq_true (by omega)
            clear h1 h2 hc hx hq8
            generalize ByteArray.mk x.s.name.toArray = sb at *
            go_wp2_with fail
            go_ret
            exact ⟨6001, rfl, by decide, by decide, fun h => absurd h (by decide), z, rfl⟩
          · have d2 : decide ((6000 : Int) < (x.s.data.length : Int)) = false := decide_eq_false (by omega)
            by_cases h3 : 6000 < x.s.name.length
            · have d3 : decide ((6000 : Int) < (x.s.name.length : Int)) = true := decide_eq_true (by omega)
              clear h1 h2 h3 hc hx hq8
              generalize ByteArray.mk x.s.name.toArray = sb at *
              go_wp2_with fail
              go_ret
              exact ⟨6001, rfl, by decide, by decide, fun h => absurd h (by decide), z, rfl⟩
            · have d3 : decide ((6000 : Int) < (x.s.name.length : Int)) = false := decide_eq_false (by omega)
              have HB1 := Lib.hid (HBk.out.next hx (by omega) (by omega))
              have hdl : x.s.data.length ≤ 6000 := by omega
              have hnl : x.s.name.length ≤ 6000 := by omega
              clear h1 h2 h3 hc hx hq
              generalize ByteArray.mk x.s.name.toArray = sb at *
              generalize x.s.data.length = dl at *
              generalize x.s.name.length = nl at *
              go_wp2_with fail
              go_quiet (fail)
              go_wp2_with fail
              go_roundw
              case rel => exact ⟨k + 1, q + dl + nl, _, by omega, by omega, by go_num, by go_num, by first | rfl | (simp; rfl), HB1⟩
              case measure => simp [intOf]; omega
      · have hkN : k = N := by omega
        subst hkN
        have HA := Lib.hid (show ∀ x ∈ L, x.s.data.length ≤ 6000 ∧ x.s.name.length ≤ 6000 from by have := HBk.out; rw [← HN.out] at this; exact this.all)
        go_wp2_with fail
        go_ret
        exact ⟨q, rfl, by omega, by omega, fun _ => ⟨hNb, HA.out⟩, z, rfl⟩

set_option maxRecDepth 10000 in
set_option maxHeartbeats 11800000 in
theorem ybulk6_any {w : World} {B : Nat} {a : Option Addr} {L : List Sym} (h : Syms w B a L) (c : Nat) :
    Calls Tryz.prog 31 #[.slice a L.length c, .int .i64 6000] w fun r w' => ∃ n : Int, r = .returned (.int .i64 n) ∧ 0 ≤ n ∧ n ≤ 20000 ∧ (n ≤ 6000 → L.length + sumN L ≤ 6000) ∧ ∃ q, w' = w.drewN q := by
  have HH := Lib.hid h
  generalize hN : L.length = N at *
  have HN := Lib.hid hN
  clear h hN
  go_enter Tryz.func31, Tryz.ntmps31
  by_cases hbig : 6000 < N
  · have hd : decide ((6000 : Int) < (N : Int)) = true := decide_eq_true (by omega)
    clear hbig
    go_wp2_with fail
    go_ret
    exact ⟨6001, rfl, by decide, by decide, fun h => absurd h (by decide), 0, rfl⟩
  · have hd : decide ((6000 : Int) < (N : Int)) = false := decide_eq_false (by omega)
    have HNB := Lib.hid hbig
    have hNb : N ≤ 6000 := by omega
    clear hbig
    go_wp2_with fail
    clear hd
    go_loopw [5, 6] (fun n i wr => ∃ k q z : Nat, k ≤ N ∧ q ≤ 18000 ∧ n = .int .i64 q ∧ i = .int .i64 k ∧ wr = w.drewN z ∧ Hid (q = N + sumN (L.take k))) (fun _ i _ => N - (intOf i).toNat)
    case atStart => exact ⟨0, N, 0, Nat.zero_le _, by omega, rfl, rfl, rfl, Lib.hid rfl⟩
    case round =>
      obtain ⟨k, q, z, hk, hq, rfl, rfl, rfl, HBk⟩ := hrel
      by_cases hlt : k < N
      · obtain ⟨x, hx⟩ : ∃ x, L[k]? = some x := ⟨L[k]'(by rw [HN.out]; exact hlt), List.getElem?_eq_getElem _⟩
        obtain ⟨b, o, rfl, hb, c0, -⟩ := sym_at HH.out hx
        have hsz : (ByteArray.mk x.name.toArray).size = x.name.length := rfl
        have HBn := Lib.hid (show q + x.name.length = N + sumN (L.take (k + 1)) by rw [sumN_next hx, HBk.out]; omega)
        by_cases h1 : 6000 < q
        · have d1 : decide ((6000 : Int) < (q : Int)) = true := decide_eq_true (by omega)
          clear h1 hx
          go_wp2_with fail
          go_ret
          exact ⟨6001, rfl, by decide, by decide, fun h => absurd h (by decide), z, rfl⟩
        · have d1 : decide ((6000 : Int) < (q : Int)) = false := decide_eq_false (by omega)
          have hq8 : q ≤ 6000 := by omega
          by_cases h3 : 6000 < x.name.length
          · have d3 : decide ((6000 : Int) < (x.name.length : Int)) = true := decide_eq_true (by omega)
            clear h1 h3 hx hq8
            generalize ByteArray.mk x.name.toArray = sb at *
            go_wp2_with fail
            go_ret
            exact ⟨6001, rfl, by decide, by decide, fun h => absurd h (by decide), z, rfl⟩
          · have d3 : decide ((6000 : Int) < (x.name.length : Int)) = false := decide_eq_false (by omega)
            have hnl : x.name.length ≤ 6000 := by omega
            have HLT := Lib.hid hlt
            clear h1 h3 hx hq
            generalize ByteArray.mk x.name.toArray = sb at *
            generalize x.name.length = nl at *
            go_wp2_with fail
            exact ⟨⟨k + 1, q + nl, z, HLT.out, by omega, by go_num, by go_num, rfl, HBn⟩, by have := HLT.out; simp [intOf]; omega⟩
      · have hkN : k = N := by omega
        subst hkN
        have HA := Lib.hid (show q = k + sumN L by have := HBk.out; rwa [List.take_of_length_le (by rw [HN.out]; omega)] at this)
        go_wp2_with fail
        go_ret
        exact ⟨q, rfl, by omega, by omega, fun hh => by have := HA.out; omega, z, rfl⟩

/-- An object that came in: nothing is said of how much it has. -/
structure ObjV.In (w : World) (B : Nat) (o : ObjV) : Prop where
  secs : SecsIn w B o.aS o.L
  syms : Syms w B o.aY o.Y
  lists : Lists w B o.aR o.Q
  capS : o.L.length ≤ o.cS
  capR : o.Q.length ≤ o.cR
  numY : ∀ y ∈ o.Y, y.Nums
  numQ : ∀ q ∈ o.Q, ∀ r ∈ q.l, r.Nums
structure ObjV.Small (o : ObjV) : Prop where
  S : o.L.length ≤ 6000
  s : ∀ x ∈ o.L, x.s.data.length ≤ 6000 ∧ x.s.name.length ≤ 6000
  Y : o.Y.length + sumN o.Y ≤ 6000
  Q : o.Q.length ≤ 6000
  q : ∀ q ∈ o.Q, q.l.length ≤ 6000

set_option maxRecDepth 10000 in
set_option maxHeartbeats 3200000 in
theorem obulk_any {w : World} (o : ObjV) (h : o.In w w.heap.size) (hb : ∀ (w w' : World) (B : Nat) (a : Option Addr) (L : List Lay), SecsIn w B a L → Below B w w' → SecsIn w' B a L) :
    Calls Tryz.prog 10 #[o.val, .int .i64 6000] w fun r w' => ∃ n : Int, r = .returned (.int .i64 n) ∧ (n ≤ 6000 → o.Small) ∧ Below w.heap.size w w' := by
  obtain ⟨kd, mc, aS, cS, L, aY, cY, Y, aR, cR, Q⟩ := o
  rw [show ObjV.val ⟨kd, mc, aS, cS, L, aY, cY, Y, aR, cR, Q⟩ = .agg #[.int .i64 kd, .int .i64 mc, .slice aS L.length cS, .slice aY Y.length cY, .slice aR Q.length cR] from rfl]
  obtain ⟨hs, hy, hl, -, -, -, -⟩ := h
  simp only at hs hy hl ⊢
  have hb0 : Below w.heap.size w (w.alloc (.cells #[.int .i64 kd, .int .i64 mc, .slice aS L.length cS, .slice aY Y.length cY, .slice aR Q.length cR] 32)) := (Below.refl _ _).alloc (Nat.le_refl _) _
  have hX0 := Box.new w 32 #[.int .i64 kd, .int .i64 mc, .slice aS L.length cS, .slice aY Y.length cY, .slice aR Q.length cR]
  have hlt0 : w.heap.size < (w.alloc (.cells #[.int .i64 kd, .int .i64 mc, .slice aS L.length cS, .slice aY Y.length cY, .slice aR Q.length cR] 32)).heap.size := by simp
  have HB7 := Lib.hid (bulk6_any (hb _ _ _ _ _ hs hb0) cS)
  have HY0 := Lib.hid hy
  have HL := Lib.hid hl
  have HB0 := Lib.hid hb0
  have HSM := Lib.hid (show ∀ n7 n8 : Int, 0 ≤ n7 → 0 ≤ n8 → (n7 ≤ 6000 → L.length ≤ 6000 ∧ ∀ x ∈ L, x.s.data.length ≤ 6000 ∧ x.s.name.length ≤ 6000) → (n8 ≤ 6000 → Y.length + sumN Y ≤ 6000) → n7 + n8 ≤ 6000 → (L.length ≤ 6000 ∧ ∀ x ∈ L, x.s.data.length ≤ 6000 ∧ x.s.name.length ≤ 6000) ∧ Y.length + sumN Y ≤ 6000 from fun n7 n8 h1 h2 h3 h4 h5 => ⟨h3 (by omega), h4 (by omega)⟩)
  have HFI := Lib.hid (show (L.length ≤ 6000 ∧ ∀ x ∈ L, x.s.data.length ≤ 6000 ∧ x.s.name.length ≤ 6000) ∧ Y.length + sumN Y ≤ 6000 → Q.length ≤ 6000 → (∀ j q, j < Q.length → Q[j]? = some q → q.l.length ≤ 6000) → (⟨kd, mc, aS, cS, L, aY, cY, Y, aR, cR, Q⟩ : ObjV).Small from fun h1 h2 h3 => ⟨h1.1.1, h1.1.2, h1.2, h2, fun q hq => by
    obtain ⟨i, hi, e⟩ := List.getElem_of_mem hq
    exact h3 i q hi (by rw [← e]; exact List.getElem?_eq_getElem hi)⟩)
  clear hs hy hl hb0 hb
  generalize ObjV.Small ⟨kd, mc, aS, cS, L, aY, cY, Y, aR, cR, Q⟩ = SM at *
  generalize hP : ((L.length ≤ 6000 ∧ ∀ x ∈ L, x.s.data.length ≤ 6000 ∧ x.s.name.length ≤ 6000) ∧ Y.length + sumN Y ≤ 6000) = P6 at *
  clear hP
  generalize L.length = N at *
  have HYB := Lib.hid (fun W (hW : Below w.heap.size w W) => ybulk6_any (w := W) (Row.below HY0.out hW) cY)
  generalize hny : Y.length = ny at *
  generalize hnr : Q.length = nr at *
  have HNR := Lib.hid hnr
  clear hny hnr
  have KX := Lib.hid (fun W (hW : Below (w.alloc (.cells #[.int .i64 kd, .int .i64 mc, .slice aS N cS, .slice aY ny cY, .slice aR nr cR] 32)).heap.size (w.alloc (.cells #[.int .i64 kd, .int .i64 mc, .slice aS N cS, .slice aY ny cY, .slice aR nr cR] 32)) W) => five_cells (hX0.below hW hlt0))
  have HX := Lib.hid hX0
  clear hX0
  obtain ⟨x0, x1, x2, x3, x4⟩ := KX.out _ (Below.refl _ _)
  go_enter Tryz.func10, Tryz.ntmps10
  go_wp2_with fail
  refine HB7.out.mono ?_
  rintro r w1 ⟨n7, rfl, h70, h71, h72, q7, rfl⟩
  have HB1 := Lib.hid (below_drewN (Below.refl (w.alloc (.cells #[.int .i64 kd, .int .i64 mc, .slice aS N cS, .slice aY ny cY, .slice aR nr cR] 32)).heap.size (w.alloc (.cells #[.int .i64 kd, .int .i64 mc, .slice aS N cS, .slice aY ny cY, .slice aR nr cR] 32))) q7)
  generalize hw1 : (w.alloc (.cells #[.int .i64 kd, .int .i64 mc, .slice aS N cS, .slice aY ny cY, .slice aR nr cR] 32)).drewN q7 = w1 at *
  clear hw1
  generalize w.alloc (.cells #[.int .i64 kd, .int .i64 mc, .slice aS N cS, .slice aY ny cY, .slice aR nr cR] 32) = w0 at *
  have H72 := Lib.hid h72
  clear x0 x1 x2 x3 x4 HB7 HX h72
  obtain ⟨x0, x1, x2, x3, x4⟩ := KX.out _ HB1.out
  go_upto_if 13 with fail
  go_cut [5] (fun v wx => ∃ n0 : Int, v = .int .i64 n0 ∧ 0 ≤ n0 ∧ n0 ≤ 40000 ∧ Below w0.heap.size w0 wx ∧ Hid (n0 ≤ 6000 → P6))
  case first =>
    by_cases h7 : n7 ≤ 6000
    · have d1 : decide (n7 ≤ 6000) = true := decide_eq_true h7
      have HYB1 := Lib.hid (HYB.out _ (HB0.out.trans (HB1.out.mono HB0.out.size)))
      go_wp2_with fail
      refine HYB1.out.mono ?_
      rintro r w2 ⟨n8, rfl, h80, h81, h82, q8, rfl⟩
      have HB2 := Lib.hid (below_drewN HB1.out q8)
      have HP := Lib.hid (HSM.out n7 n8 h70 h80 H72.out h82)
      clear h82 HYB1
      go_wp2_with fail
      go_meet
      case rel => exact ⟨n7 + n8, by go_num, by omega, by omega, HB2.out, Lib.hid HP.out⟩
    · have d1 : decide (n7 ≤ 6000) = false := decide_eq_false h7
      go_wp2_with fail
      go_meet
      case rel => exact ⟨n7, rfl, h70, by omega, HB1.out, Lib.hid (fun h => absurd h (by omega))⟩
  case rest =>
    obtain ⟨n0, rfl, hn0, hn1, hb2, HP0⟩ := hcut
    have HB2 := Lib.hid hb2
    clear x0 x1 x2 x3 x4 h70 h71 H72 HSM HYB HB1 hb2
    obtain ⟨x0, x1, x2, x3, x4⟩ := KX.out _ HB2.out
    by_cases hq : 6000 < nr
    · have d1 : decide ((6000 : Int) < (nr : Int)) = true := decide_eq_true (by omega)
      clear hq
      go_wp2_with fail
      go_ret
      exact ⟨6001, rfl, fun h => absurd h (by decide), HB0.out.trans (HB2.out.mono HB0.out.size)⟩
    · have d1 : decide ((6000 : Int) < (nr : Int)) = false := decide_eq_false (by omega)
      have HQ6 := Lib.hid (show nr ≤ 6000 by omega)
      have hnr6 : nr ≤ 6000 := HQ6.out
      clear hq
      go_wp2_with fail
      clear d1
      go_loopg [5, 6] nr (fun gk v i wx => ∃ (k : Nat) (m : Int), k ≤ nr ∧ gk = nr - k ∧ i = .int .i64 k ∧ v = .int .i64 m ∧ n0 ≤ m ∧ m ≤ 200000 ∧ Below w0.heap.size w0 wx ∧ Hid (∀ j q, j < k → Q[j]? = some q → q.l.length ≤ 6000))
      case atStart => exact ⟨0, n0, Nat.zero_le _, rfl, rfl, rfl, Int.le_refl _, by omega, HB2.out, Lib.hid (fun j q hj => by omega)⟩
      case round =>
        obtain ⟨k, m, hk, rfl, rfl, rfl, hm0, hm1, hb3, HQk⟩ := hrel
        have HB3 := Lib.hid hb3
        clear x0 x1 x2 x3 x4
        obtain ⟨x0, x1, x2, x3, x4⟩ := KX.out _ hb3
        by_cases hlt : k < nr
        · obtain ⟨q, hq⟩ : ∃ q, Q[k]? = some q := ⟨Q[k]'(by rw [HNR.out]; exact hlt), List.getElem?_eq_getElem _⟩
          obtain ⟨b2, o2, rfl, hb2, c0⟩ := (HL.out.below (HB0.out.trans (hb3.mono HB0.out.size))).at_ hq
          have HLT := Lib.hid hlt
          by_cases hm6 : m ≤ 6000
          · have e1 : decide (m ≤ 6000) = true := decide_eq_true hm6
            by_cases hql : 6000 < q.l.length
            · have e2 : decide ((6000 : Int) < (q.l.length : Int)) = true := decide_eq_true (by omega)
              clear hq hb3 hm6 hql
              go_wp2_with fail
              go_ret
              exact ⟨6001, rfl, fun h => absurd h (by decide), HB0.out.trans (HB3.out.mono HB0.out.size)⟩
            · have e2 : decide ((6000 : Int) < (q.l.length : Int)) = false := decide_eq_false (by omega)
              have hq6 : q.l.length ≤ 6000 := by omega
              have HQ1 := Lib.hid (show ∀ j q', j < k + 1 → Q[j]? = some q' → q'.l.length ≤ 6000 from fun j q' hj h' => by
                rcases Nat.lt_or_ge j k with h3 | h3
                · exact HQk.out j q' h3 h'
                · rw [show j = k by omega, hq] at h'
                  injection h' with h'
                  exact h' ▸ hq6)
              clear hq hb3 hql
              generalize q.l.length = ql at *
              go_wp2_with fail
              go_roundg (nr - (k + 1))
              case measure => have := HLT.out; omega
              case rel => exact ⟨k + 1, m + 24 * (ql : Int), HLT.out, rfl, by go_num, by go_num, by omega, by omega, HB3.out, HQ1⟩
          · have e1 : decide (m ≤ 6000) = false := decide_eq_false hm6
            have HN6 := Lib.hid (show ¬ m ≤ 6000 from hm6)
            clear hq hb3 c0
            go_wp2_with fail
            go_ret
            exact ⟨m, rfl, fun h => absurd h (by have := HN6.out; omega), HB0.out.trans (HB3.out.mono HB0.out.size)⟩
        · have HF := Lib.hid (show m ≤ 6000 → SM from fun h => HFI.out (HP0.out (by omega)) HQ6.out (fun j q hj hq => HQk.out j q (by omega) hq))
          clear hb3
          go_wp2_with fail
          go_ret
          exact ⟨m, rfl, HF.out, HB0.out.trans (HB3.out.mono HB0.out.size)⟩

end Go.Proofs.YtldmjnbmjfnfeaaGreatDoor
