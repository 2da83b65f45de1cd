/-
  The document's comparisons, of what is alike: rows of truths (Flags), groups (Same).
-/
import Derived.Test.YtbpemehhbeejcaaGpS
import Derived.Deep.DeepCutAuto
import Derived.Deep.LoopGhost
namespace Go.Proofs.Ytbpemehhbeejcaa
open Go Go.RowKit

theorem map_at {α β : Type} {f : α → β} {L L' : List α} (h : L.map f = L'.map f) {i : Nat} {x : α} (hx : L[i]? = some x) : ∃ y, L'[i]? = some y ∧ f y = f x := by
  have h1 : (L.map f)[i]? = some (f x) := by rw [List.getElem?_map, hx]; rfl
  rw [h, List.getElem?_map] at h1
  cases hy : L'[i]? with
  | none => rw [hy] at h1; cases h1
  | some y => rw [hy] at h1; exact ⟨y, rfl, by simpa using h1⟩
theorem map_length {α β : Type} {f : α → β} {L L' : List α} (h : L.map f = L'.map f) : L'.length = L.length := by
  have := congrArg List.length h
  simpa using this.symm

set_option maxRecDepth 10000 in
set_option maxHeartbeats 3200000 in
theorem rgsame_any {w : World} {B B' : Nat} {a a' : Option Addr} {L L' : List GLay} (h : Grps w B a L) (h' : Grps w B' a' L') (c c' : Nat) (he : L.map (·.g) = L'.map (·.g)) (hl : L.length ≤ 100000) (hb : ∀ x ∈ L, x.g.mem.length ≤ 100000) :
    Calls Try.prog 10 #[.slice a L.length c, .slice a' L'.length c'] w fun r w' => r = .returned (.bool true) ∧ Below w.heap.size w w' := by
  have HH := Lib.hid h
  have HH' := Lib.hid h'
  have HE := Lib.hid he
  have HBL := Lib.hid hb
  rw [map_length he]
  generalize hN : L.length = N at *
  have HN := Lib.hid hN
  clear h h' he hb hN
  go_enter Try.func10, Try.ntmps10
  go_wp2_with fail
  go_loopg [5] N (fun gk i wr => ∃ k z : Nat, k ≤ N ∧ gk = N - k ∧ i = .int .i64 k ∧ wr = w.drewN z)
  case atStart => exact ⟨0, 0, Nat.zero_le _, rfl, rfl, rfl⟩
  case round =>
    obtain ⟨k, z, hk, rfl, rfl, rfl⟩ := hrel
    by_cases hlt : k < N
    · have HLT := Lib.hid hlt
      obtain ⟨x, hx⟩ : ∃ x, L[k]? = some x := ⟨L[k]'(by rw [HN.out]; exact hlt), List.getElem?_eq_getElem _⟩
      obtain ⟨y, hy, hye⟩ := map_at HE.out hx
      obtain ⟨b, o, rfl, -, c0, c1, c2, c3⟩ := HH.out.at_ hx
      obtain ⟨b', o', rfl, -, d0, d1, d2, d3⟩ := HH'.out.at_ hy
      have HT := Lib.hid (HH.out.ok x (List.mem_of_getElem? hx)).mem
      have HT' := Lib.hid (HH'.out.ok y (List.mem_of_getElem? hy)).mem
      have hm := HBL.out x (List.mem_of_getElem? hx)
      rw [hye] at d0 d1 d2 d3 HT'
      clear hx hy hye
      generalize hM : x.g.mem.length = M at *
      have HM := Lib.hid hM
      clear hM
      generalize ByteArray.mk x.g.name.toArray = sb at *
      generalize x.g.one = on at *
      cases on
      all_goals
        go_wp2_with fail
        go_quiet (fail)
        go_wp2_with fail
        go_loopg [6] M (fun gk i wr => ∃ j z : Nat, j ≤ M ∧ gk = M - j ∧ i = .int .i64 j ∧ wr = w.drewN z)
        case atStart => exact ⟨0, _, Nat.zero_le _, rfl, rfl, by first | rfl | (simp; rfl)⟩
        case round =>
          obtain ⟨j, z2, hj, rfl, rfl, rfl⟩ := hrel
          by_cases hltj : j < M
          · have HLJ := Lib.hid hltj
            obtain ⟨mm, hmm⟩ : ∃ mm, x.g.mem[j]? = some mm := ⟨x.g.mem[j]'(by rw [HM.out]; exact hltj), List.getElem?_eq_getElem _⟩
            obtain ⟨b2, o2, e2, -, f0⟩ := Mems.at_ HT.out hmm
            obtain ⟨b3, o3, e3, -, f1⟩ := Mems.at_ HT'.out hmm
            rw [e2] at c3
            rw [e3] at d3
            clear hmm
            go_wp2_with fail
            go_quiet (fail)
            go_wp2_with fail
            go_roundg (M - (j + 1))
            case measure => have := HLJ.out; omega
            case rel => exact ⟨j + 1, _, HLJ.out, rfl, by go_num, by first | rfl | (simp; rfl)⟩
          · have hjn : j = M := by omega
            subst hjn
            go_wp2_with fail
            go_roundg (N - (k + 1))
            case measure => have := HLT.out; omega
            case rel => exact ⟨k + 1, _, HLT.out, rfl, by go_num, by first | rfl | (simp; rfl)⟩
    · go_wp2_with fail
      go_ret
      exact ⟨rfl, below_drewN (Below.refl _ _) _⟩

end Go.Proofs.Ytbpemehhbeejcaa
