/-
  Stage 12: are objects, or a map, too great to be asked of?
-/
import Derived.Test.YteadabmlleipiaaLpA
import Derived.Test.YteadabmlleipiaaLmP
import Derived.Test.YteadabmlleipiaaGpT
namespace Go.Proofs.Yteadabmlleipiaa
open Go Go.RowKit

set_option maxRecDepth 10000 in
set_option maxHeartbeats 800000 in
theorem great12_any {w : World} {aP aY aO : Option Addr} {cP cY : Nat} {P : List Place} {Y : List Named} {O : List ObjV} (hY : Row 2 Named.cells w w.heap.size aY Y) (hO : ObjsIn w w.heap.size aO O) (cO : Nat) :
    Calls Try.prog 9 #[.slice aO O.length cO, .agg #[.slice aP P.length cP, .slice aY Y.length cY]] w fun r w' => ∃ b : Bool, r = .returned (.bool b) ∧ (b = false → (O.length ≤ 10 ∧ ∀ o ∈ O, o.Small) ∧ P.length ≤ 250 ∧ Y.length ≤ 250 ∧ ∀ s ∈ Y, s.name.length ≤ 300) ∧ Below w.heap.size w w' := by
  generalize hw0 : w.alloc (.cells #[.slice aP P.length cP, .slice aY Y.length cY] 26) = w0 at *
  have hb0 : Below w.heap.size w w0 := hw0 ▸ (Below.refl _ _).alloc (Nat.le_refl _) _
  have hs0 : w.heap.size < w0.heap.size := by rw [← hw0]; simp
  have hX := Box.new w 26 #[.slice aP P.length cP, .slice aY Y.length cY]
  rw [hw0] at hX
  have HB0 := Lib.hid hb0
  have HX := Lib.hid (fun W (hW : Below w0.heap.size w0 W) => (⟨by rw [(hX.below hW hs0).cell]; rfl, by rw [(hX.below hW hs0).cell]; rfl⟩ : W.cell? ⟨w.heap.size, 0, none⟩ = some (.slice aP P.length cP) ∧ W.cell? ⟨w.heap.size, 1, none⟩ = some (.slice aY Y.length cY)))
  have HGR := Lib.hid (great_any ((hO.below hb0).more (Nat.le_of_lt hs0)) cO)
  have HLO := Lib.hid (fun W (hW : Below w0.heap.size w0 W) => long_any (w := W) (aP := aP) (P := P) cP cY (Row.below (Row.below hY hb0) (hW.mono (by omega))) (by have := hW.size; omega))
  clear hY hO hX hb0
  go_enter Try.func9, Try.ntmps9
  go_upto_region 1 with fail
  try rw [hw0]
  clear hw0
  go_wp2_with fail
  refine HGR.out.mono ?_
  rintro r w2 ⟨b, rfl, hsm, hb2⟩
  have HB2 := Lib.hid hb2
  have HSM := Lib.hid hsm
  obtain ⟨x0, x1⟩ := HX.out _ HB2.out
  clear hb2 hsm HGR
  cases b with
  | true =>
    go_wp2_with fail
    go_ret
    exact ⟨true, rfl, (fun h => by cases h), HB0.out.trans (HB2.out.mono HB0.out.size)⟩
  | false =>
    have HS1 := Lib.hid (HSM.out rfl)
    clear HSM
    go_wp2_with fail
    refine (HLO.out _ HB2.out).mono ?_
    rintro r w3 ⟨b3, rfl, hlg, hb3⟩
    have HB3 := Lib.hid (HB2.out.trans (hb3.mono HB2.out.size))
    have HLG := Lib.hid hlg
    clear hb3 hlg HLO
    go_wp2_with fail
    go_ret
    exact ⟨b3, rfl, fun h => ⟨HS1.out, HLG.out h⟩, HB0.out.trans (HB3.out.mono HB0.out.size)⟩

end Go.Proofs.Yteadabmlleipiaa
