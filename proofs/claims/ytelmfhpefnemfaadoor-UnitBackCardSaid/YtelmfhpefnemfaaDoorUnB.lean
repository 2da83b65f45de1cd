/-
  Package unit: known, the reader of an offset (take$1), numbers: by methods that are handed on as values.
-/
import Derived.Test.YtelmfhpefnemfaaDoorUnA
import Derived.Test.YtelmfhpefnemfaaDoorSeB
import Derived.Deep.DeepCutAuto
import Derived.Deep.LoopGhost
import Derived.Deep.RegionHeldLaw
namespace Go.Proofs.YtelmfhpefnemfaaDoor
open Go Go.RowKit

theorem known_any (k : Int) (w : World) : Calls Tryd.prog 90 #[.int .i64 k] w fun r w' => r = .returned (.bool (kindOk k)) ∧ w = w' := by
  have H := Lib.hid (show kindOk k = (decide (1 ≤ k) && decide (k ≤ 3)) from rfl)
  by_cases h1 : 1 ≤ k
  · have d : decide ((1 : Int) ≤ k) = true := by simpa using h1
    by_cases h3 : k ≤ 3
    · have d2 : decide (k ≤ (3 : Int)) = true := by simpa using h3
      rw [d, d2] at H
      go_enter Tryd.func90, Tryd.ntmps90
      go_wp2
      go_ret
      exact ⟨by rw [H.out]; rfl, rfl⟩
    · have d2 : decide (k ≤ (3 : Int)) = false := by simpa using h3
      rw [d, d2] at H
      go_enter Tryd.func90, Tryd.ntmps90
      go_wp2
      go_ret
      exact ⟨by rw [H.out]; rfl, rfl⟩
  · have d : decide ((1 : Int) ≤ k) = false := by simpa using h1
    rw [d] at H
    go_enter Tryd.func90, Tryd.ntmps90
    go_wp2
    go_ret
    exact ⟨by rw [H.out]; rfl, rfl⟩

/-- What the readers of a unit's numbers lean on: the body's cursor, the variables of the cursor and of the form, the table of sizes. -/
structure UIn (w : World) (g pb pw : Nat) (v : Value) (l : List UInt8) (wide : Bool) (s : UCt) : Prop where
  c : Cur w g v l s.1 s.2
  b : Box w pb 120 #[.pointer (some ⟨g, 0, none⟩)]
  d : Box w pw 4 #[.bool wide]
  z : Sz w
section
variable {w0 w w' : World} {g pb pw : Nat} {v : Value} {l : List UInt8} {wide : Bool} {s s' : UCt}
theorem UIn.call (h : UIn w g pb pw v l wide s) (hC : Cur w' g v l s'.1 s'.2) (hG : w.grownBy w' (some g)) : UIn w' g pb pw v l wide s' :=
  ⟨hC, h.b.grown hG (fun e => by injection e with e; exact (h.b.other h.c.1 (by decide)) e), h.d.grown hG (fun e => by injection e with e; exact (h.d.other h.c.1 (by decide)) e), h.z.grown hG (h.z.cur h.c)⟩
theorem UIn.drewN (h : UIn w g pb pw v l wide s) (n : Nat) : UIn (w.drewN n) g pb pw v l wide s := ⟨h.c, h.b, h.d, h.z⟩
theorem UIn.below (h : UIn w g pb pw v l wide s) (hb : Below w.heap.size w w') : UIn w' g pb pw v l wide s :=
  ⟨h.c.below hb, h.b.below hb h.b.lt, h.d.below hb h.d.lt, h.z.below hb h.z.pos⟩
theorem UIn.past (h : UIn w g pb pw v l wide s) {H : Nat} {T : TypeId} {cs : Array Value} (hX : Box w H T cs) (h8 : 5 ≠ T) (hg : g ≠ H) (hb : pb ≠ H) (hw : pw ≠ H) (hz : 0 ≠ H) (hG : w.grownBy w' (some H)) : UIn w' g pb pw v l wide s :=
  ⟨h.c.grown hG (by simpa using hg) (.inr (own_other h.c.2.1 hX h8)), h.b.grown hG (by simpa using hb), h.d.grown hG (by simpa using hw), h.z.grown hG (fun e => by injection e with e; exact hz e.symm)⟩
end

section
variable {w : World} {g pb pw : Nat} {v : Value} {l : List UInt8} {wide : Bool} {s : UCt}
theorem u8_un (h : UIn w g pb pw v l wide s) (hlen : l.length ≤ 140737488355328) :
    Calls Tryd.prog 84 #[.pointer (some ⟨g, 0, none⟩)] w fun r w' => r = .returned (.int .u64 (vU l s 1 : Int)) ∧ UIn w' g pb pw v l wide (nU l s 1) ∧ w.grownBy w' (some g) :=
  (u8_cur h.c hlen).mono fun _ _ ⟨h1, h2, h3⟩ => ⟨h1, h.call h2 h3, h3⟩
theorem u16_un (h : UIn w g pb pw v l wide s) (hlen : l.length ≤ 140737488355328) :
    Calls Tryd.prog 85 #[.pointer (some ⟨g, 0, none⟩)] w fun r w' => r = .returned (.int .u64 (vU l s 2 : Int)) ∧ UIn w' g pb pw v l wide (nU l s 2) ∧ w.grownBy w' (some g) :=
  (u16_cur h.c hlen).mono fun _ _ ⟨h1, h2, h3⟩ => ⟨h1, h.call h2 h3, h3⟩
theorem u64_un (h : UIn w g pb pw v l wide s) (hlen : l.length ≤ 140737488355328) :
    Calls Tryd.prog 86 #[.pointer (some ⟨g, 0, none⟩)] w fun r w' => r = .returned (.int .u64 (vU l s 8 : Int)) ∧ UIn w' g pb pw v l wide (nU l s 8) ∧ w.grownBy w' (some g) :=
  (u64_cur h.c hlen).mono fun _ _ ⟨h1, h2, h3⟩ => ⟨h1, h.call h2 h3, h3⟩
theorem fail_un (h : UIn w g pb pw v l wide s) :
    Calls Tryd.prog 51 #[.pointer (some ⟨g, 0, none⟩), .int .i64 42] w fun r w' => r = .returned (.tuple #[]) ∧ UIn w' g pb pw v l wide (fU true s) ∧ w.grownBy w' (some g) :=
  (fail_cur h.c 42).mono fun _ _ ⟨h1, h2, h3⟩ => ⟨h1, h.call (s' := fU true s) h2 h3, h3⟩

set_option maxRecDepth 10000 in
theorem off_un (h : UIn w g pb pw v l wide s) (hlen : l.length ≤ 140737488355328) :
    Calls Tryd.prog 81 #[.pointer (some ⟨pb, 0, none⟩), .pointer (some ⟨pw, 0, none⟩)] w fun r w' => r = .returned (.int .u64 (vU l s (offN wide) : Int)) ∧ UIn w' g pb pw v l wide (nU l s (offN wide)) ∧ w.grownBy w' (some g) := by
  have k0 := h.b.cell 0
  have k1 := h.d.cell 0
  simp at k0 k1
  have HO := Lib.hid (fun (W : World) (hW : UIn W g pb pw v l wide s ∧ w.grownBy W (some g)) => off_len wide (w := W) hW.1.z)
  have HU := Lib.hid (fun (W : World) (hW : UIn W g pb pw v l wide s ∧ w.grownBy W (some g)) => (by
    have := uint_cur (w := W) hW.1.c (lenO wide) (by unfold lenO; split <;> omega) hlen
    rw [clamp_off] at this
    exact this.mono fun _ _ ⟨h1, h2, h3⟩ => ⟨h1, hW.1.call (s' := nU l s (offN wide)) h2 h3, hW.2.trans h3⟩ :
    Calls Tryd.prog 82 #[.pointer (some ⟨g, 0, none⟩), .int .i64 (lenO wide)] W fun r w' => r = .returned (.int .u64 (vU l s (offN wide) : Int)) ∧ UIn w' g pb pw v l wide (nU l s (offN wide)) ∧ w.grownBy w' (some g)))
  have KS := Lib.hid (fun (W : World) (hW : UIn W g pb pw v l wide (nU l s (offN wide))) => (by
    have k0 := hW.b.cell 0
    have k1 := hW.d.cell 0
    simp at k0 k1
    exact ⟨k0, k1⟩ : W.cell? ⟨pb, 0, none⟩ = some (.pointer (some ⟨g, 0, none⟩)) ∧ W.cell? ⟨pw, 0, none⟩ = some (.bool wide)))
  have KS0 := Lib.hid (And.intro k0 k1)
  have HI := Lib.hid (fun n => And.intro (h.drewN n) (only_drewN (only_refl w (some g)) n))
  clear h hlen
  generalize vU l s (offN wide) = n at *
  generalize nU l s (offN wide) = s' at *
  go_enter Tryd.func81, Tryd.ntmps81
  go_upto_region 1 with fail
  go_region_held_law (fun W => W.cell? ⟨pb, 0, none⟩ = some (.pointer (some ⟨g, 0, none⟩)) ∧ W.cell? ⟨pw, 0, none⟩ = some (.bool wide)) ((first | exact KS0.out | exact KS.out _ HC.out)) (first
    | (go_at_call 57; refine (HO.out _ (by first | exact HI.out 0 | exact HI.out _)).mono ?_; rintro r w1 ⟨rfl, rfl⟩)
    | (go_at_call 82; refine (HU.out _ (by first | exact HI.out 0 | exact HI.out _)).mono ?_; rintro r w2 ⟨rfl, hC, hG⟩; have HC := Lib.hid hC; have HG := Lib.hid hG; clear hC hG))
  go_wp2_with fail
  go_ret
  exact ⟨rfl, HC.out, HG.out⟩
end

end Go.Proofs.YtelmfhpefnemfaaDoor
