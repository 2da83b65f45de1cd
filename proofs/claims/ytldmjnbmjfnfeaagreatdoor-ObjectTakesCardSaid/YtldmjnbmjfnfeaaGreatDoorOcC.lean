/-
  The chapter's example: works.
-/
import Derived.Test.YtldmjnbmjfnfeaaGreatDoorOcB
import Derived.Test.YtldmjnbmjfnfeaaGreatDoorObX
import Derived.Test.YtldmjnbmjfnfeaaGreatDoorSeBd
import Derived.Test.YtldmjnbmjfnfeaaGreatDoorObB
namespace Go.Proofs.YtldmjnbmjfnfeaaGreatDoor
open Go Go.RowKit

def exS9 : List Sect := [zeroS, ⟨[46, 116, 101, 120, 116], 1, 6, 0, [], 0, 0, 0, 0⟩, ⟨[46, 100, 101, 98, 117, 103, 95, 105, 110, 102, 111], 1, 0, 0, [0, 0, 0, 0, 0, 0, 0, 0], 0, 0, 0, 0⟩]
def exY9 : List Sym := [⟨[], 0, 0, 0, 0, 0⟩, ⟨[102], 0, 0, 1, 0, 0⟩]
def exR9 : List Rel := [⟨0, 1, 1, 0⟩]
def exL9 (H : Nat) : List Lay := [⟨zeroS, none, 0⟩, ⟨⟨[46, 116, 101, 120, 116], 1, 6, 0, [], 0, 0, 0, 0⟩, none, 0⟩, ⟨⟨[46, 100, 101, 98, 117, 103, 95, 105, 110, 102, 111], 1, 0, 0, [0, 0, 0, 0, 0, 0, 0, 0], 0, 0, 0, 0⟩, some ⟨H, 0, none⟩, 8⟩]
def exQ9 (g : Nat) : List RLay := [⟨none, 0, []⟩, ⟨none, 0, []⟩, ⟨some ⟨g, 0, none⟩, 1, exR9⟩]
def exO9 (H g : Nat) : ObjV := ⟨1, 62, some ⟨g, 0, none⟩, 3, exL9 H, some ⟨g + 1, 0, none⟩, 2, exY9, some ⟨g + 1 + 1 + 1, 0, none⟩, 3, exQ9 (g + 1 + 1)⟩
theorem ex9_right : rightO exS9 exY9 [[], [], exR9] = true := by kernel_rfl
theorem ex9_may : mayPut 1 62 (fileO exS9 exY9 [[], [], exR9]) = true := by kernel_rfl
theorem ex9_len (z : Sect) : (backF exS9 exY9 [[], [], exR9] z).length = 7 := rfl
theorem ex9_one (z : Sect) : (backF exS9 exY9 [[], [], exR9] z)[1]? = some ⟨[46, 116, 101, 120, 116], 1, 6, 0, [], 0, 0, 0, 0⟩ := rfl
theorem ex9_two (z : Sect) : (backF exS9 exY9 [[], [], exR9] z)[2]? = some ⟨[46, 100, 101, 98, 117, 103, 95, 105, 110, 102, 111], 1, 0, 0, [0, 0, 0, 0, 0, 0, 0, 0], 0, 0, 0, 0⟩ := rfl
theorem secs_lit {w : World} {L : List Lay} (h : ∀ x ∈ L, x.Ok w w.heap.size) : Secs (w.alloc (.cells (cellsL L).toArray 39)) (w.heap.size + 1) (some ⟨w.heap.size, 0, none⟩) L :=
  ⟨fun _ => ⟨w.heap.size, 0, rfl, by omega, fun i y hy j v hv => by
    rw [(Box.new w 39 (cellsL L).toArray).cell, Nat.zero_add]
    simpa using cellsL_at L i y j v hy hv⟩, fun y hy => ((h y hy).below ((Below.refl _ _).alloc (Nat.le_refl _) _)).more (by omega)⟩
theorem fits_small (s : Sect) (h : InI s.kind ∧ InI s.link ∧ InI s.inf ∧ InI s.algn ∧ InI s.ent ∧ s.flags < two64 ∧ s.addr < two64 ∧ s.data.length ≤ 100000 ∧ s.name.length ≤ 100000) : s.Fits := ⟨h.1, h.2.1, h.2.2.1, h.2.2.2.1, h.2.2.2.2.1, h.2.2.2.2.2.1, h.2.2.2.2.2.2.1, h.2.2.2.2.2.2.2.1, h.2.2.2.2.2.2.2.2⟩

theorem ex9_dbg : (⟨[46, 100, 101, 98, 117, 103, 95, 105, 110, 102, 111], 1, 0, 0, [0, 0, 0, 0, 0, 0, 0, 0], 0, 0, 0, 0⟩ : Sect).Fits := fits_small _ (by unfold InI; refine ⟨?_, ?_, ?_, ?_, ?_, ?_, ?_, ?_, ?_⟩ <;> decide)
theorem ex9_ok {w1 : World} {H : Nat} (hd : Rd w1 w1.heap.size (some ⟨H, 0, none⟩) [0, 0, 0, 0, 0, 0, 0, 0]) : (exO9 H w1.heap.size).Ok (((((w1.alloc (.cells #[.string ⟨#[]⟩, .int .i64 0, .int .u64 0, .int .u64 0, .slice none 0 0, .int .i64 0, .int .i64 0, .int .i64 0, .int .i64 0, .string ⟨#[46, 116, 101, 120, 116]⟩, .int .i64 1, .int .u64 6, .int .u64 0, .slice none 0 0, .int .i64 0, .int .i64 0, .int .i64 0, .int .i64 0, .string ⟨#[46, 100, 101, 98, 117, 103, 95, 105, 110, 102, 111]⟩, .int .i64 1, .int .u64 0, .int .u64 0, .slice (some ⟨H, 0, none⟩) 8 8, .int .i64 0, .int .i64 0, .int .i64 0, .int .i64 0] 39)).alloc (.cells #[.string ⟨#[]⟩, .int .i64 0, .int .i64 0, .int .i64 0, .int .u64 0, .int .u64 0, .string ⟨#[102]⟩, .int .i64 0, .int .i64 0, .int .i64 1, .int .u64 0, .int .u64 0] 51)).alloc (.cells #[.int .u64 0, .int .i64 1, .int .i64 1, .int .i64 0] 53)).alloc (.cells #[.slice none 0 0, .slice none 0 0, .slice (some ⟨w1.heap.size + 1 + 1, 0, none⟩) 1 1] 49)).alloc (.cells #[.int .i64 1, .int .i64 62, .slice (some ⟨w1.heap.size, 0, none⟩) 3 3, .slice (some ⟨w1.heap.size + 1, 0, none⟩) 2 2, .slice (some ⟨w1.heap.size + 1 + 1 + 1, 0, none⟩) 3 3] 28)) (((((w1.alloc (.cells #[.string ⟨#[]⟩, .int .i64 0, .int .u64 0, .int .u64 0, .slice none 0 0, .int .i64 0, .int .i64 0, .int .i64 0, .int .i64 0, .string ⟨#[46, 116, 101, 120, 116]⟩, .int .i64 1, .int .u64 6, .int .u64 0, .slice none 0 0, .int .i64 0, .int .i64 0, .int .i64 0, .int .i64 0, .string ⟨#[46, 100, 101, 98, 117, 103, 95, 105, 110, 102, 111]⟩, .int .i64 1, .int .u64 0, .int .u64 0, .slice (some ⟨H, 0, none⟩) 8 8, .int .i64 0, .int .i64 0, .int .i64 0, .int .i64 0] 39)).alloc (.cells #[.string ⟨#[]⟩, .int .i64 0, .int .i64 0, .int .i64 0, .int .u64 0, .int .u64 0, .string ⟨#[102]⟩, .int .i64 0, .int .i64 0, .int .i64 1, .int .u64 0, .int .u64 0] 51)).alloc (.cells #[.int .u64 0, .int .i64 1, .int .i64 1, .int .i64 0] 53)).alloc (.cells #[.slice none 0 0, .slice none 0 0, .slice (some ⟨w1.heap.size + 1 + 1, 0, none⟩) 1 1] 49)).alloc (.cells #[.int .i64 1, .int .i64 62, .slice (some ⟨w1.heap.size, 0, none⟩) 3 3, .slice (some ⟨w1.heap.size + 1, 0, none⟩) 2 2, .slice (some ⟨w1.heap.size + 1 + 1 + 1, 0, none⟩) 3 3] 28)).heap.size := by
  have e1 : (w1.alloc (.cells (cellsL (exL9 H)).toArray 39)) = (w1.alloc (.cells #[.string ⟨#[]⟩, .int .i64 0, .int .u64 0, .int .u64 0, .slice none 0 0, .int .i64 0, .int .i64 0, .int .i64 0, .int .i64 0, .string ⟨#[46, 116, 101, 120, 116]⟩, .int .i64 1, .int .u64 6, .int .u64 0, .slice none 0 0, .int .i64 0, .int .i64 0, .int .i64 0, .int .i64 0, .string ⟨#[46, 100, 101, 98, 117, 103, 95, 105, 110, 102, 111]⟩, .int .i64 1, .int .u64 0, .int .u64 0, .slice (some ⟨H, 0, none⟩) 8 8, .int .i64 0, .int .i64 0, .int .i64 0, .int .i64 0] 39)) := rfl
  have h2 := secs_lit (w := w1) (L := exL9 H) (fun x hx => by
    simp only [exL9, List.mem_cons, List.not_mem_nil, or_false] at hx
    rcases hx with rfl | rfl | rfl
    · exact ⟨Rd.nil_, Nat.le_refl _, Nat.zero_le _, fits_small _ (by unfold InI zeroS; refine ⟨?_, ?_, ?_, ?_, ?_, ?_, ?_, ?_, ?_⟩ <;> decide)⟩
    · exact ⟨Rd.nil_, Nat.le_refl _, Nat.zero_le _, fits_small _ (by unfold InI; refine ⟨?_, ?_, ?_, ?_, ?_, ?_, ?_, ?_, ?_⟩ <;> decide)⟩
    · exact ⟨hd, Nat.le_refl _, (by decide : 8 ≤ maxLen), ex9_dbg⟩)
  rw [e1] at h2
  have z2 : (w1.alloc (.cells #[.string ⟨#[]⟩, .int .i64 0, .int .u64 0, .int .u64 0, .slice none 0 0, .int .i64 0, .int .i64 0, .int .i64 0, .int .i64 0, .string ⟨#[46, 116, 101, 120, 116]⟩, .int .i64 1, .int .u64 6, .int .u64 0, .slice none 0 0, .int .i64 0, .int .i64 0, .int .i64 0, .int .i64 0, .string ⟨#[46, 100, 101, 98, 117, 103, 95, 105, 110, 102, 111]⟩, .int .i64 1, .int .u64 0, .int .u64 0, .slice (some ⟨H, 0, none⟩) 8 8, .int .i64 0, .int .i64 0, .int .i64 0, .int .i64 0] 39)).heap.size = w1.heap.size + 1 := by simp
  rw [← z2] at h2
  generalize hW2 : (w1.alloc (.cells #[.string ⟨#[]⟩, .int .i64 0, .int .u64 0, .int .u64 0, .slice none 0 0, .int .i64 0, .int .i64 0, .int .i64 0, .int .i64 0, .string ⟨#[46, 116, 101, 120, 116]⟩, .int .i64 1, .int .u64 6, .int .u64 0, .slice none 0 0, .int .i64 0, .int .i64 0, .int .i64 0, .int .i64 0, .string ⟨#[46, 100, 101, 98, 117, 103, 95, 105, 110, 102, 111]⟩, .int .i64 1, .int .u64 0, .int .u64 0, .slice (some ⟨H, 0, none⟩) 8 8, .int .i64 0, .int .i64 0, .int .i64 0, .int .i64 0] 39)) = w2 at *
  have z3 : (w2.alloc (.cells #[.string ⟨#[]⟩, .int .i64 0, .int .i64 0, .int .i64 0, .int .u64 0, .int .u64 0, .string ⟨#[102]⟩, .int .i64 0, .int .i64 0, .int .i64 1, .int .u64 0, .int .u64 0] 51)).heap.size = w2.heap.size + 1 := by simp
  have h3 := lit_row sym_six w2 51 exY9
  rw [show (cellsF Sym.cells exY9).toArray = #[.string ⟨#[]⟩, .int .i64 0, .int .i64 0, .int .i64 0, .int .u64 0, .int .u64 0, .string ⟨#[102]⟩, .int .i64 0, .int .i64 0, .int .i64 1, .int .u64 0, .int .u64 0] from rfl] at h3
  have b3 : Below w2.heap.size w2 (w2.alloc (.cells #[.string ⟨#[]⟩, .int .i64 0, .int .i64 0, .int .i64 0, .int .u64 0, .int .u64 0, .string ⟨#[102]⟩, .int .i64 0, .int .i64 0, .int .i64 1, .int .u64 0, .int .u64 0] 51)) := (Below.refl _ _).alloc (Nat.le_refl _) _
  generalize hW3 : (w2.alloc (.cells #[.string ⟨#[]⟩, .int .i64 0, .int .i64 0, .int .i64 0, .int .u64 0, .int .u64 0, .string ⟨#[102]⟩, .int .i64 0, .int .i64 0, .int .i64 1, .int .u64 0, .int .u64 0] 51)) = w3 at *
  have z4 : (w3.alloc (.cells #[.int .u64 0, .int .i64 1, .int .i64 1, .int .i64 0] 53)).heap.size = w3.heap.size + 1 := by simp
  have h4 := lit_row rel_four w3 53 exR9
  rw [show (cellsF Rel.cells exR9).toArray = #[.int .u64 0, .int .i64 1, .int .i64 1, .int .i64 0] from rfl] at h4
  have b4 : Below w3.heap.size w3 (w3.alloc (.cells #[.int .u64 0, .int .i64 1, .int .i64 1, .int .i64 0] 53)) := (Below.refl _ _).alloc (Nat.le_refl _) _
  generalize hW4 : (w3.alloc (.cells #[.int .u64 0, .int .i64 1, .int .i64 1, .int .i64 0] 53)) = w4 at *
  have z5 : (w4.alloc (.cells #[.slice none 0 0, .slice none 0 0, .slice (some ⟨w1.heap.size + 1 + 1, 0, none⟩) 1 1] 49)).heap.size = w4.heap.size + 1 := by simp
  have h5 := lit_row rlay_one w4 49 (exQ9 (w1.heap.size + 1 + 1))
  rw [show (cellsF RLay.cells1 (exQ9 (w1.heap.size + 1 + 1))).toArray = #[.slice none 0 0, .slice none 0 0, .slice (some ⟨w1.heap.size + 1 + 1, 0, none⟩) 1 1] from rfl] at h5
  have b5 : Below w4.heap.size w4 (w4.alloc (.cells #[.slice none 0 0, .slice none 0 0, .slice (some ⟨w1.heap.size + 1 + 1, 0, none⟩) 1 1] 49)) := (Below.refl _ _).alloc (Nat.le_refl _) _
  generalize hW5 : (w4.alloc (.cells #[.slice none 0 0, .slice none 0 0, .slice (some ⟨w1.heap.size + 1 + 1, 0, none⟩) 1 1] 49)) = w5 at *
  have b6 : Below w5.heap.size w5 (w5.alloc (.cells #[.int .i64 1, .int .i64 62, .slice (some ⟨w1.heap.size, 0, none⟩) 3 3, .slice (some ⟨w1.heap.size + 1, 0, none⟩) 2 2, .slice (some ⟨w1.heap.size + 1 + 1 + 1, 0, none⟩) 3 3] 28)) := (Below.refl _ _).alloc (Nat.le_refl _) _
  generalize hW6 : (w5.alloc (.cells #[.int .i64 1, .int .i64 62, .slice (some ⟨w1.heap.size, 0, none⟩) 3 3, .slice (some ⟨w1.heap.size + 1, 0, none⟩) 2 2, .slice (some ⟨w1.heap.size + 1 + 1 + 1, 0, none⟩) 3 3] 28)) = w6 at *
  have c5 : Below w4.heap.size w4 w6 := b5.trans (b6.mono (by omega))
  have c4 : Below w3.heap.size w3 w6 := b4.trans (c5.mono (by omega))
  have c3 : Below w2.heap.size w2 w6 := b3.trans (c4.mono (by omega))
  have s6 := b6.size
  refine ⟨(h2.below c3).more (by omega), ?_, ⟨?_, ?_⟩, Nat.le_refl 3, Nat.le_refl 3⟩
  · have hy : Row 6 Sym.cells w3 w3.heap.size (some ⟨w2.heap.size, 0, none⟩) exY9 := by rw [z3]; exact h3
    rw [z2] at hy
    exact Row.more (Row.below hy c4) (by omega)
  · have hq : Row 1 RLay.cells1 w5 w5.heap.size (some ⟨w4.heap.size, 0, none⟩) (exQ9 (w1.heap.size + 1 + 1)) := by rw [z5]; exact h5
    rw [show w4.heap.size = w1.heap.size + 1 + 1 + 1 by omega] at hq
    exact Row.more (Row.below hq b6) (by omega)
  · intro q hq
    simp only [exO9, exQ9, List.mem_cons, List.not_mem_nil, or_false] at hq
    rcases hq with rfl | rfl | rfl
    · exact fun h => absurd h (by decide)
    · exact fun h => absurd h (by decide)
    · have hq : Row 4 Rel.cells w4 w4.heap.size (some ⟨w3.heap.size, 0, none⟩) exR9 := by rw [z4]; exact h4
      rw [show w3.heap.size = w1.heap.size + 1 + 1 by omega] at hq
      exact Row.more (Row.below hq c5) (by omega)
theorem ex9_dbgB : dbgB 1 0 ⟨#[46, 100, 101, 98, 117, 103, 95, 105, 110, 102, 111]⟩ = true := by kernel_rfl
theorem ex9_small : ∀ s ∈ exS9, s.flags < two64 ∧ s.addr < two64 ∧ s.data.length ≤ 6000 := by decide
theorem ex9_nums : ∀ x ∈ exY9, x.Nums := fun x hx => by
  simp only [exY9, List.mem_cons, List.not_mem_nil, or_false] at hx
  rcases hx with rfl | rfl
  · exact ⟨by unfold InI; decide, by unfold InI; decide, by unfold InI; decide, by decide, by decide⟩
  · exact ⟨by unfold InI; decide, by unfold InI; decide, by unfold InI; decide, by decide, by decide⟩
theorem ex9_numr : ∀ l ∈ [[], [], exR9], ∀ x ∈ l, x.Nums := fun l hl x hx => by
  simp only [List.mem_cons, List.not_mem_nil, or_false] at hl
  rcases hl with rfl | rfl | rfl
  · cases hx
  · cases hx
  · simp only [exR9, List.mem_cons, List.not_mem_nil, or_false] at hx
    subst hx
    exact ⟨by decide, by unfold InI; decide, by unfold InI; decide, by unfold InI; decide⟩
theorem ex9_bulk (H g : Nat) : (exO9 H g).Bulk :=
  ⟨(by decide : 3 ≤ 8000), fun x hx => by
    simp only [exO9, exL9, List.mem_cons, List.not_mem_nil, or_false] at hx
    rcases hx with rfl | rfl | rfl <;> simp [zeroS], (by decide : 2 ≤ 8000), (by decide : sumN exY9 ≤ 50000), (by decide : 3 ≤ 8000), fun q hq => by
    simp only [exO9, exQ9, List.mem_cons, List.not_mem_nil, or_false] at hq
    rcases hq with rfl | rfl | rfl <;> simp [exR9]⟩

set_option maxRecDepth 10000 in
set_option maxHeartbeats 6400000 in
theorem oworks_any {w : World} (hM : Mg w) : Calls Tryz.prog 6 #[] w fun r w' => r = .returned (.bool true) ∧ Below w.heap.size w w' := by
  obtain ⟨iu, hu, hu0, hu1, hu2⟩ := info_parts u8_info
  have hu3 : iu.bytes * 8 ≤ 281474976710656 := by rw [hu2]; decide
  have HM := Lib.hid hM
  have hMp := hM.pos
  clear hM
  go_enter Tryz.func6, Tryz.ntmps6
  go_upto_region 2 with (at_make; refine wpList_make_full _ rfl _ _ 22 rfl w.heap.size 5 iu _ 1 Tryz.underlying22 hu hu0 hu1 .i64 .i64 8 8 8 rfl rfl rfl rfl hu3 (by decide) (Nat.le_refl _) ?_; intro w1 hown1 hg1)
  have hb1 : Below w.heap.size w w1 := below_of_only hg1 (Nat.le_refl _) (by simp)
  have hOw : Own w1 w.heap.size (.slice (some ⟨w.heap.size, 0, none⟩) 8 8) [0, 0, 0, 0, 0, 0, 0, 0] := by
    have h := hown1
    rw [show (Value.int IntKind.u8 0).cells = #[Value.int IntKind.u8 0] from rfl, made_one] at h
    exact h
  obtain ⟨A1, c1, e1, _, _, hrd⟩ := own_slice hOw
  injection e1 with e11 e12 e13
  rw [← e11] at hrd
  have hOk := ex9_ok hrd
  have hB1 := hb1.size
  have hB6 : Below w1.heap.size w1 (((((w1.alloc (.cells #[.string ⟨#[]⟩, .int .i64 0, .int .u64 0, .int .u64 0, .slice none 0 0, .int .i64 0, .int .i64 0, .int .i64 0, .int .i64 0, .string ⟨#[46, 116, 101, 120, 116]⟩, .int .i64 1, .int .u64 6, .int .u64 0, .slice none 0 0, .int .i64 0, .int .i64 0, .int .i64 0, .int .i64 0, .string ⟨#[46, 100, 101, 98, 117, 103, 95, 105, 110, 102, 111]⟩, .int .i64 1, .int .u64 0, .int .u64 0, .slice (some ⟨w.heap.size, 0, none⟩) 8 8, .int .i64 0, .int .i64 0, .int .i64 0, .int .i64 0] 39)).alloc (.cells #[.string ⟨#[]⟩, .int .i64 0, .int .i64 0, .int .i64 0, .int .u64 0, .int .u64 0, .string ⟨#[102]⟩, .int .i64 0, .int .i64 0, .int .i64 1, .int .u64 0, .int .u64 0] 51)).alloc (.cells #[.int .u64 0, .int .i64 1, .int .i64 1, .int .i64 0] 53)).alloc (.cells #[.slice none 0 0, .slice none 0 0, .slice (some ⟨w1.heap.size + 1 + 1, 0, none⟩) 1 1] 49)).alloc (.cells #[.int .i64 1, .int .i64 62, .slice (some ⟨w1.heap.size, 0, none⟩) 3 3, .slice (some ⟨w1.heap.size + 1, 0, none⟩) 2 2, .slice (some ⟨w1.heap.size + 1 + 1 + 1, 0, none⟩) 3 3] 28)) := (((((Below.refl _ _).alloc (Nat.le_refl _) _).alloc (by simp) _).alloc (by simp; omega) _).alloc (by simp; omega) _).alloc (by simp; omega) _
  have HP := Lib.hid (oput_any (exO9 w.heap.size w1.heap.size) hOk (ex9_bulk _ _) ((HM.out.below hb1 hMp).below hB6 (by omega)))
  have hK : oputE 1 62 exS9 exY9 [[], [], exR9] = 0 ∧ oputR 1 62 exS9 exY9 [[], [], exR9] = fileB 1 62 (fileO exS9 exY9 [[], [], exR9]) := by
    unfold oputE oputR putE putR
    rw [ex9_right]
    simp only
    rw [if_pos ex9_may, if_pos ex9_may]
    exact ⟨rfl, rfl⟩
  obtain ⟨z, hz, f1, f2, f3, f4, f5, f6, f7⟩ := file_back ex9_right ex9_may (by decide) ex9_small ex9_nums ex9_numr
  rw [show oputE (exO9 w.heap.size w1.heap.size).kind (exO9 w.heap.size w1.heap.size).machine (secsOf (exO9 w.heap.size w1.heap.size).L) (exO9 w.heap.size w1.heap.size).Y ((exO9 w.heap.size w1.heap.size).Q.map (·.l)) = 0 from hK.1, show oputR (exO9 w.heap.size w1.heap.size).kind (exO9 w.heap.size w1.heap.size).machine (secsOf (exO9 w.heap.size w1.heap.size).L) (exO9 w.heap.size w1.heap.size).Y ((exO9 w.heap.size w1.heap.size).Q.map (·.l)) = fileB 1 62 (fileO exS9 exY9 [[], [], exR9]) from hK.2] at HP
  rw [show (exO9 w.heap.size w1.heap.size).val = .agg #[.int .i64 1, .int .i64 62, .slice (some ⟨w1.heap.size, 0, none⟩) 3 3, .slice (some ⟨w1.heap.size + 1, 0, none⟩) 2 2, .slice (some ⟨w1.heap.size + 1 + 1 + 1, 0, none⟩) 3 3] from rfl] at HP
  generalize fileB 1 62 (fileO exS9 exY9 [[], [], exR9]) = fb at *
  have HF := Lib.hid (And.intro f1 (And.intro f4 f6))
  have HL7 := Lib.hid f7
  have HB6 := Lib.hid (hb1.trans (hB6.mono hB1))
  have HM6 := Lib.hid ((HM.out.below hb1 hMp).below hB6 (by omega))
  have hX6 := Box.new ((((w1.alloc (.cells #[.string ⟨#[]⟩, .int .i64 0, .int .u64 0, .int .u64 0, .slice none 0 0, .int .i64 0, .int .i64 0, .int .i64 0, .int .i64 0, .string ⟨#[46, 116, 101, 120, 116]⟩, .int .i64 1, .int .u64 6, .int .u64 0, .slice none 0 0, .int .i64 0, .int .i64 0, .int .i64 0, .int .i64 0, .string ⟨#[46, 100, 101, 98, 117, 103, 95, 105, 110, 102, 111]⟩, .int .i64 1, .int .u64 0, .int .u64 0, .slice (some ⟨w.heap.size, 0, none⟩) 8 8, .int .i64 0, .int .i64 0, .int .i64 0, .int .i64 0] 39)).alloc (.cells #[.string ⟨#[]⟩, .int .i64 0, .int .i64 0, .int .i64 0, .int .u64 0, .int .u64 0, .string ⟨#[102]⟩, .int .i64 0, .int .i64 0, .int .i64 1, .int .u64 0, .int .u64 0] 51)).alloc (.cells #[.int .u64 0, .int .i64 1, .int .i64 1, .int .i64 0] 53)).alloc (.cells #[.slice none 0 0, .slice none 0 0, .slice (some ⟨w1.heap.size + 1 + 1, 0, none⟩) 1 1] 49)) 28 #[.int .i64 1, .int .i64 62, .slice (some ⟨w1.heap.size, 0, none⟩) 3 3, .slice (some ⟨w1.heap.size + 1, 0, none⟩) 2 2, .slice (some ⟨w1.heap.size + 1 + 1 + 1, 0, none⟩) 3 3]
  have hlt6 : ((((w1.alloc (.cells #[.string ⟨#[]⟩, .int .i64 0, .int .u64 0, .int .u64 0, .slice none 0 0, .int .i64 0, .int .i64 0, .int .i64 0, .int .i64 0, .string ⟨#[46, 116, 101, 120, 116]⟩, .int .i64 1, .int .u64 6, .int .u64 0, .slice none 0 0, .int .i64 0, .int .i64 0, .int .i64 0, .int .i64 0, .string ⟨#[46, 100, 101, 98, 117, 103, 95, 105, 110, 102, 111]⟩, .int .i64 1, .int .u64 0, .int .u64 0, .slice (some ⟨w.heap.size, 0, none⟩) 8 8, .int .i64 0, .int .i64 0, .int .i64 0, .int .i64 0] 39)).alloc (.cells #[.string ⟨#[]⟩, .int .i64 0, .int .i64 0, .int .i64 0, .int .u64 0, .int .u64 0, .string ⟨#[102]⟩, .int .i64 0, .int .i64 0, .int .i64 1, .int .u64 0, .int .u64 0] 51)).alloc (.cells #[.int .u64 0, .int .i64 1, .int .i64 1, .int .i64 0] 53)).alloc (.cells #[.slice none 0 0, .slice none 0 0, .slice (some ⟨w1.heap.size + 1 + 1, 0, none⟩) 1 1] 49)).heap.size < (((((w1.alloc (.cells #[.string ⟨#[]⟩, .int .i64 0, .int .u64 0, .int .u64 0, .slice none 0 0, .int .i64 0, .int .i64 0, .int .i64 0, .int .i64 0, .string ⟨#[46, 116, 101, 120, 116]⟩, .int .i64 1, .int .u64 6, .int .u64 0, .slice none 0 0, .int .i64 0, .int .i64 0, .int .i64 0, .int .i64 0, .string ⟨#[46, 100, 101, 98, 117, 103, 95, 105, 110, 102, 111]⟩, .int .i64 1, .int .u64 0, .int .u64 0, .slice (some ⟨w.heap.size, 0, none⟩) 8 8, .int .i64 0, .int .i64 0, .int .i64 0, .int .i64 0] 39)).alloc (.cells #[.string ⟨#[]⟩, .int .i64 0, .int .i64 0, .int .i64 0, .int .u64 0, .int .u64 0, .string ⟨#[102]⟩, .int .i64 0, .int .i64 0, .int .i64 1, .int .u64 0, .int .u64 0] 51)).alloc (.cells #[.int .u64 0, .int .i64 1, .int .i64 1, .int .i64 0] 53)).alloc (.cells #[.slice none 0 0, .slice none 0 0, .slice (some ⟨w1.heap.size + 1 + 1, 0, none⟩) 1 1] 49)).alloc (.cells #[.int .i64 1, .int .i64 62, .slice (some ⟨w1.heap.size, 0, none⟩) 3 3, .slice (some ⟨w1.heap.size + 1, 0, none⟩) 2 2, .slice (some ⟨w1.heap.size + 1 + 1 + 1, 0, none⟩) 3 3] 28)).heap.size := by simp
  clear f1 f2 f3 f4 f5 f6 f7 hK hOk hrd hOw hown1 hg1 hB6 e11 e12 e13
  go_wp2_with fail
  refine HP.out.mono ?_
  rintro r w7 ⟨v7, rfl, ho7, hb7⟩
  obtain ⟨A7, c7, rfl, hc7, _, hr7⟩ := own_slice ho7
  have HB7 := Lib.hid (HB6.out.trans (hb7.mono HB6.out.size))
  have HT := Lib.hid (otake_any hr7 c7 hc7 (by have := HL7.out; omega) (HM6.out.below hb7 HM6.out.pos))
  clear hb7 ho7 hc7 hr7 hX6 hlt6 HP HM6
  go_wp2_with fail
  refine HT.out.mono ?_
  rintro r w8 ⟨o, rfl, hOk, hb8, ho, -⟩
  obtain ⟨-, -, hL, -, hQ⟩ := ho HF.out.1
  obtain ⟨kd, mc, aS, cS, L, aY, cY, Y, aR, cR, Q⟩ := o
  simp only at hL hQ
  rw [HF.out.1, show ObjV.val ⟨kd, mc, aS, cS, L, aY, cY, Y, aR, cR, Q⟩ = .agg #[.int .i64 kd, .int .i64 mc, .slice aS L.length cS, .slice aY Y.length cY, .slice aR Q.length cR] from rfl]
  rw [HF.out.2.1] at hL hQ
  rw [HF.out.2.2, ex9_len] at hQ
  have hLl : L.length = 7 := by
    have := congrArg List.length hL
    rw [ex9_len] at this
    simpa [secsOf] using this
  have hQl : Q.length = 7 := by
    have := congrArg List.length hQ
    simpa using this
  have hg1 : ∃ x, L[1]? = some x ∧ x.s = ⟨[46, 116, 101, 120, 116], 1, 6, 0, [], 0, 0, 0, 0⟩ := by
    have hx : L[1]? = some (L[1]'(by omega)) := List.getElem?_eq_getElem _
    have h1 := get_secsOf hx
    rw [hL, ex9_one] at h1
    injection h1 with h1
    exact ⟨_, hx, h1.symm⟩
  have hg2 : ∃ x, L[2]? = some x ∧ x.s = ⟨[46, 100, 101, 98, 117, 103, 95, 105, 110, 102, 111], 1, 0, 0, [0, 0, 0, 0, 0, 0, 0, 0], 0, 0, 0, 0⟩ := by
    have hx : L[2]? = some (L[2]'(by omega)) := List.getElem?_eq_getElem _
    have h1 := get_secsOf hx
    rw [hL, ex9_two] at h1
    injection h1 with h1
    exact ⟨_, hx, h1.symm⟩
  have hg3 : ∃ q, Q[2]? = some q ∧ q.l = exR9 := by
    have hx : Q[2]? = some (Q[2]'(by omega)) := List.getElem?_eq_getElem _
    have h1 : (Q.map (·.l))[2]? = some (Q[2]'(by omega)).l := by rw [List.getElem?_map, hx]; rfl
    rw [hQ] at h1
    injection h1 with h1
    exact ⟨_, hx, h1.symm⟩
  obtain ⟨hs, hy, hl, -, -⟩ := hOk
  simp only at hs hy hl
  obtain ⟨⟨⟨nm1, k1, f1, a1, d1, l1, i1, g1, e1⟩, A1, c1⟩, hx1, hx1s⟩ := hg1
  obtain ⟨⟨⟨nm2, k2, f2, a2, d2, l2, i2, g2, e2⟩, A2, c2⟩, hx2, hx2s⟩ := hg2
  obtain ⟨⟨ra, rc, rl⟩, hx3, hx3s⟩ := hg3
  simp only [Sect.mk.injEq] at hx1s hx2s
  obtain ⟨rfl, rfl, rfl, rfl, rfl, rfl, rfl, rfl, rfl⟩ := hx1s
  obtain ⟨rfl, rfl, rfl, rfl, rfl, rfl, rfl, rfl, rfl⟩ := hx2s
  simp only at hx3s
  subst hx3s
  have hb9 : Below w8.heap.size w8 (w8.alloc (.cells #[.int .i64 kd, .int .i64 mc, .slice aS L.length cS, .slice aY Y.length cY, .slice aR Q.length cR] 28)) := (Below.refl _ _).alloc (Nat.le_refl _) _
  obtain ⟨b2, o2, rfl, hbl2, p0, p1, p2, p3, p4, p5, p6, p7, p8⟩ := (hs.below hb9).at_ hx2
  obtain ⟨b2', o2', e22, -, q0, q1, q2, q3, q4, q5, q6, q7, q8⟩ := (hs.below hb9).at_ hx1
  cases e22
  obtain ⟨b3, o3, rfl, hbl3, r0⟩ := (hl.below hb9).at_ hx3
  obtain ⟨b4, o4, h44, hbl4, s0, s1, s2, s3⟩ := rel_at (((hl.below hb9).rels _ (List.mem_of_getElem? hx3))) (i := 0) (x := ⟨0, 1, 1, 0⟩) rfl
  simp only at h44
  subst h44
  rw [show exR9.length = 1 from rfl] at r0
  rw [Nat.zero_mul, Nat.add_zero] at s1
  simp only [Nat.reduceMul] at p0 p1 p2 p3 p4 p5 p6 p7 p8 q0 q1 q2 q3 q4 q5 q6 q7 q8
  have HB9 := Lib.hid (HB7.out.trans ((hb8.trans (hb9.mono hb8.size)).mono HB7.out.size))
  rw [hLl, hQl] at HB9 p0 p1 p2 p3 p4 p5 p6 p7 p8 q0 q1 q2 q3 q4 q5 q6 q7 q8 r0 s1 ⊢
  rw [show ([0, 0, 0, 0, 0, 0, 0, 0] : List UInt8).length = 8 from rfl] at p4
  rw [show ([] : List UInt8).length = 0 from rfl] at q4
  have hD := fun W => (show Calls Tryz.prog 15 #[.agg #[.string ⟨#[46, 100, 101, 98, 117, 103, 95, 105, 110, 102, 111]⟩, .int .i64 1, .int .u64 0, .int .u64 0, .slice A2 8 c2, .int .i64 0, .int .i64 0, .int .i64 0, .int .i64 0]] W (fun r w' => r = .returned (.bool true) ∧ Below W.heap.size W w') from (debug_any ⟨#[46, 100, 101, 98, 117, 103, 95, 105, 110, 102, 111]⟩ 1 0 (.int .u64 0) (.slice A2 8 c2) (.int .i64 0) (.int .i64 0) (.int .i64 0) (.int .i64 0) (by decide) W).mono fun r w' h => ⟨by rw [h.1, ex9_dbgB], h.2⟩)
  have hA := fun W => (show Calls Tryz.prog 17 #[.agg #[.string ⟨#[46, 116, 101, 120, 116]⟩, .int .i64 1, .int .u64 6, .int .u64 0, .slice A1 0 c1, .int .i64 0, .int .i64 0, .int .i64 0, .int .i64 0]] W (fun r w' => r = .returned (.bool true) ∧ Below W.heap.size W w') from (alloc_any (.string ⟨#[46, 116, 101, 120, 116]⟩) 1 6 (.int .u64 0) (.slice A1 0 c1) (.int .i64 0) (.int .i64 0) (.int .i64 0) (.int .i64 0) (by decide) W).mono fun r w' h => ⟨by rw [h.1]; rfl, h.2⟩)
  have HDD := Lib.hid hD
  have HAA := Lib.hid hA
  have hx9 := Box.new w8 28 #[.int .i64 kd, .int .i64 mc, .slice (some ⟨b2, o2, none⟩) 7 cS, .slice aY Y.length cY, .slice (some ⟨b3, o3, none⟩) 7 cR]
  have hl9 : w8.heap.size < (w8.alloc (.cells #[.int .i64 kd, .int .i64 mc, .slice (some ⟨b2, o2, none⟩) 7 cS, .slice aY Y.length cY, .slice (some ⟨b3, o3, none⟩) 7 cR] 28)).heap.size := by simp
  have KQ := Lib.hid (fun W (hW : Below (w8.alloc (.cells #[.int .i64 kd, .int .i64 mc, .slice (some ⟨b2, o2, none⟩) 7 cS, .slice aY Y.length cY, .slice (some ⟨b3, o3, none⟩) 7 cR] 28)).heap.size (w8.alloc (.cells #[.int .i64 kd, .int .i64 mc, .slice (some ⟨b2, o2, none⟩) 7 cS, .slice aY Y.length cY, .slice (some ⟨b3, o3, none⟩) 7 cR] 28)) W) => And.intro (five_cells (hx9.below hW hl9)).2.2.1 (And.intro ((hW.cell (p := ⟨b2, o2 + 9, none⟩) (by show b2 < _; omega)).trans q0) (And.intro ((hW.cell (p := ⟨b2, o2 + 9 + 1, none⟩) (by show b2 < _; omega)).trans q1) (And.intro ((hW.cell (p := ⟨b2, o2 + 9 + 2, none⟩) (by show b2 < _; omega)).trans q2) (And.intro ((hW.cell (p := ⟨b2, o2 + 9 + 3, none⟩) (by show b2 < _; omega)).trans q3) (And.intro ((hW.cell (p := ⟨b2, o2 + 9 + 4, none⟩) (by show b2 < _; omega)).trans q4) (And.intro ((hW.cell (p := ⟨b2, o2 + 9 + 5, none⟩) (by show b2 < _; omega)).trans q5) (And.intro ((hW.cell (p := ⟨b2, o2 + 9 + 6, none⟩) (by show b2 < _; omega)).trans q6) (And.intro ((hW.cell (p := ⟨b2, o2 + 9 + 7, none⟩) (by show b2 < _; omega)).trans q7) ((hW.cell (p := ⟨b2, o2 + 9 + 8, none⟩) (by show b2 < _; omega)).trans q8))))))))))
  clear hD hA hx9 hl9 hl hs hy hx1 hx2 hx3 hL hQ hLl hQl hb9 hb8 HT s0 s2 s3 q0 q1 q2 q3 q4 q5 q6 q7 q8 ho
  go_wp2_with (go_at_call 15; refine (HDD.out _).mono ?_; rintro r w10 ⟨rfl, hb10⟩; obtain ⟨y2, q0, q1, q2, q3, q4, q5, q6, q7, q8⟩ := KQ.out _ hb10; have HB10 := Lib.hid (HB9.out.trans (hb10.mono HB9.out.size)); clear hb10)
  refine (HAA.out _).mono ?_
  rintro r w11 ⟨rfl, hb11⟩
  have HB11 := Lib.hid (HB10.out.trans (hb11.mono HB10.out.size))
  clear hb11
  go_wp2_with fail
  go_ret
  exact ⟨rfl, HB11.out⟩

end Go.Proofs.YtldmjnbmjfnfeaaGreatDoor
