/-
  A slice of structs of two integers that came in, opened to its cells.
-/
import Derived.Test.YtphnifkmcppflaaLawF
import Derived.ProofKit
import Derived.OpenShut
import Derived.Deep.Slices
import Derived.Deep.Fields
namespace Go.Proofs.Ytphnifkmcppflaa
open Go Go.RowKit Go.Deep Go.ChangeShapes Go.WideShapes

theorem asks_of {H : Type} {enc : TypeId × Value → H} {w : World} {spare : Nat → Bool} {held : Bool} {fuel : Nat} {a1 : Option Addr} {len1 cap1 : Nat} {x : DataW H × List MemPlace}
    (h : DataW.trod enc Try.prog w 0 spare held fuel 23 (Value.slice a1 len1 cap1).cells.toList = some x) : Asks w a1 len1 ∧ len1 ≤ maxLen := by
  have hC : Try.prog.cellsOf 33 = 2 := by kernel_rfl
  rcases open_slice Try.underlying23 h with ⟨hcs, _⟩ | ⟨a, len, cap, m, n, D, Pl, hcs, _, hl, hm, hmm, _, hi⟩
  · simp [Value.cells] at hcs
    obtain ⟨rfl, rfl, rfl⟩ := hcs
    exact ⟨fun h0 => absurd h0 (by omega), by simp⟩
  · simp [Value.cells] at hcs
    obtain ⟨rfl, rfl, rfl⟩ := hcs
    have hmle : len1 ≤ m := by rw [hmm]; split <;> omega
    have hel : ∀ i, i < len1 → ∃ (kind : Int) (q : Nat), (Lit.int .i64 kind).wf = true ∧ q < two64 ∧ w.cell? (a.add (i * 2)) = some (.int .i64 kind) ∧ w.cell? ((a.add (i * 2)).add 1) = some (.int .u64 (q : Int)) := by
      intro i hil
      obtain ⟨cs', hc, ht⟩ := hi i (by omega)
      rw [hC] at hc
      obtain ⟨ys, n', _, _, _, hyl, hf⟩ := DataW.trod_struct Try.underlying33 ht
      obtain ⟨_, hcl, hat⟩ := World.cells?_some hc
      match cs', hcl with
      | [c0, c1], _ =>
        have f0 := hf 0 _ rfl
        have f1 := hf 1 _ rfl
        have e0 : ys[0]? = some (ys[0]'(by rw [hyl]; decide)) := List.getElem?_eq_getElem _
        have e1 : ys[1]? = some (ys[1]'(by rw [hyl]; decide)) := List.getElem?_eq_getElem _
        have n0 : Try.prog.cellsOf 3 = 1 := by kernel_rfl
        have n1 : Try.prog.cellsOf 31 = 1 := by kernel_rfl
        rw [e0] at f0
        rw [e1] at f1
        obtain ⟨kind, hk, _, hkw⟩ := DataW.trod_int Try.underlying3 f0
        obtain ⟨q, hq, _, hqw⟩ := DataW.trod_int Try.underlying31 f1
        simp [n0] at hk
        simp [n1] at hq
        subst hk hq
        obtain ⟨q', rfl, hq'⟩ := nat_of_u64 hqw
        have a0 := hat 0 (by omega)
        have a1 := hat 1 (by omega)
        exact ⟨kind, q', hkw, hq', by simpa [Addr.add] using a0, by simpa using a1⟩
    refine ⟨fun h0 => ?_, by omega⟩
    obtain ⟨b, o, spot⟩ := a
    obtain ⟨_, _, _, _, hc0, _⟩ := hel 0 h0
    have hspot : spot = none := by simpa [Addr.add] using World.cell?_spot hc0
    subst hspot
    refine ⟨b, o, rfl, ?_, fun i hil => ?_⟩
    · have := World.block_lt_of_cell? w _ hc0
      simpa [addr_add] using this
    · obtain ⟨kind, q, h1, h2, h3, h4⟩ := hel i hil
      rw [addr_add] at h3 h4
      rw [addr_add] at h4
      exact ⟨kind, q, h1, h2, h3, h4⟩

end Go.Proofs.Ytphnifkmcppflaa
