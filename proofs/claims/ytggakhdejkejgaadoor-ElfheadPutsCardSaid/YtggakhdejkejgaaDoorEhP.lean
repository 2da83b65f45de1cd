/-
  The walk of ElfheadPuts: whether any header may be, and what it is put as, is as the document has it.
-/
import Derived.Test.YtggakhdejkejgaaDoorEhW
import Derived.Test.YtggakhdejkejgaaDoorEhB
import Derived.Test.YtggakhdejkejgaaDoorEhH
namespace Go.Proofs.YtggakhdejkejgaaDoor
open Go Go.RowKit

set_option maxHeartbeats 4000000 in
set_option maxRecDepth 10000 in
theorem ehputs_walk (t m a2 n s size : Int) (w : World) (hM : Mg w) (w2 : (Lit.int .u64 a2).wf = true) (wz : (Lit.int .i64 size).wf = true) :
    Calls Tryd.prog 4 #[.agg #[.int .i64 t, .int .i64 m, .int .u64 a2, .int .i64 n, .int .i64 s], .int .i64 size] w fun e w' => e = .returned (.bool true) ∧ Below w.heap.size w w' := by
  obtain ⟨o, rfl, ho⟩ := nat_of_u64 w2
  have hz := (i64_of wz).2
  clear w2 wz
  have hpos := hM.pos
  obtain ⟨sP, hsP⟩ : ∃ x : ByteArray, x = ⟨(headB t m o n s).toArray⟩ := ⟨_, rfl⟩
  have ES := Lib.hid hsP
  have HR := Lib.hid (fun W => right_any t m o n s size W ho hz)
  have HQ := Lib.hid (fun W => rright_any t m o n s size W ho hz)
  have hb0 : Below w.heap.size w (w.alloc (.cells #[.int .i64 t, .int .i64 m, .int .u64 (o : Int), .int .i64 n, .int .i64 s] 29)) := (Below.refl _ _).alloc (Nat.le_refl _) _
  have hX := Box.new w 29 #[.int .i64 t, .int .i64 m, .int .u64 (o : Int), .int .i64 n, .int .i64 s]
  have hM1 := hM.below hb0 hpos
  have HO := Lib.hid (fun W => rputh_any t m o n s W ho)
  clear hsP ho hz hM hpos
  generalize rightOf t m o n s size = rt at *
  go_enter Tryd.func4, Tryd.ntmps4
  go_wp2_with fail
  generalize (w.alloc (.cells #[.int .i64 t, .int .i64 m, .int .u64 (o : Int), .int .i64 n, .int .i64 s] 29)) = w1 at *
  have HP := Lib.hid (fun W (hW : Below w1.heap.size w1 W) => puth_any t m o n s (hM1.below hW hM1.pos))
  have HW := Lib.hid (fun W (hW : Below w1.heap.size w1 W) => ehworks_any (hM1.below hW hM1.pos))
  have hlt := hX.lt
  have HB0 := Lib.hid hb0
  have KS := Lib.hid (fun (W : World) (hW : Below w1.heap.size w1 W) => (⟨hW, (hX.below hW hlt).cell 0, (hX.below hW hlt).cell 1, (hX.below hW hlt).cell 2, (hX.below hW hlt).cell 3, (hX.below hW hlt).cell 4⟩ :
    Below w1.heap.size w1 W ∧ W.cell? ⟨w.heap.size, 0, none⟩ = some (.int .i64 t) ∧ W.cell? ⟨w.heap.size, 1, none⟩ = some (.int .i64 m) ∧ W.cell? ⟨w.heap.size, 2, none⟩ = some (.int .u64 (o : Int)) ∧ W.cell? ⟨w.heap.size, 3, none⟩ = some (.int .i64 n) ∧ W.cell? ⟨w.heap.size, 4, none⟩ = some (.int .i64 s)))
  clear hX hM1 hlt hb0
  have hb1 := (Below.refl w1.heap.size w1).drew
  go_region_held_law (fun W => Below w1.heap.size w1 W ∧ W.cell? ⟨w.heap.size, 0, none⟩ = some (.int .i64 t) ∧ W.cell? ⟨w.heap.size, 1, none⟩ = some (.int .i64 m) ∧ W.cell? ⟨w.heap.size, 2, none⟩ = some (.int .u64 (o : Int)) ∧ W.cell? ⟨w.heap.size, 3, none⟩ = some (.int .i64 n) ∧ W.cell? ⟨w.heap.size, 4, none⟩ = some (.int .i64 s)) ((refine KS.out _ ?_; go_grown)) (first
    | (go_at_call 9; refine (HR.out _).mono ?_; rintro r w2 ⟨rfl, hb⟩; have hb2 := hb1.trans (hb.mono hb1.size); clear hb)
    | (go_at_call 10; refine (HQ.out _).mono ?_; rintro r w3 ⟨rfl, hb⟩; have hb3 := hb2.trans (hb.mono hb2.size); clear hb)
    | (go_at_call 11; refine (HP.out _ hb3).mono ?_; rintro r w4 ⟨v4, rfl, hown4, hb⟩; have hb4 := hb3.trans (hb.mono hb3.size); have hc4 := conv_as ES.out (conv_own hown4); clear hb)
    | (go_at_call 12; refine (HO.out _).mono ?_; rintro r w5 ⟨v5, rfl, hown5, hb⟩; have hb5 := hb4.trans (hb.mono hb4.size); have hc5 := conv_as ES.out (conv_own (own_below hown4 hb)); have hc6 := conv_as ES.out (conv_own hown5); clear hb)
    | (go_at_call 8; refine (HW.out _ hb5).mono ?_; rintro r w6 ⟨rfl, hb⟩; have hb6 := hb5.trans (hb.mono hb5.size); clear hb))
  all_goals go_wp2
  all_goals go_ret
  all_goals exact ⟨rfl, HB0.out.trans (hb6.mono HB0.out.size)⟩

end Go.Proofs.YtggakhdejkejgaaDoor
