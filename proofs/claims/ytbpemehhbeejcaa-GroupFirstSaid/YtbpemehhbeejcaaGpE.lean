/-
  Where the section of symbols stands: the program's search, by a function of its own, and the document's.
-/
import Derived.Test.YtbpemehhbeejcaaGpA
import Derived.Test.YtbpemehhbeejcaaObA
namespace Go.Proofs.Ytbpemehhbeejcaa
open Go Go.RowKit

set_option maxRecDepth 10000 in
set_option maxHeartbeats 1600000 in
theorem is2_any {w : World} (x : Lay) : Calls Try.prog 20 #[x.val] w fun r w' => r = .returned (.bool (decide (x.s.kind = 2))) ∧ Below w.heap.size w w' := by
  rw [lay_cells]
  have e2 := int_eq_beq x.s.kind 2
  generalize decide (x.s.kind = 2) = b2 at *
  generalize x.A = dA at *
  generalize x.s.data.length = dn at *
  generalize x.c = dc at *
  generalize ByteArray.mk x.s.name.toArray = sb at *
  generalize x.s.kind = i1 at *
  generalize x.s.link = i2 at *
  generalize x.s.inf = i3 at *
  generalize x.s.algn = i4 at *
  generalize x.s.ent = i5 at *
  generalize x.s.flags = n1 at *
  generalize x.s.addr = n2 at *
  have HB0 := Lib.hid ((Below.refl w.heap.size w).alloc (Nat.le_refl _) (.cells #[.string sb, .int .i64 i1, .int .u64 (n1 : Int), .int .u64 (n2 : Int), .slice dA dn dc, .int .i64 i2, .int .i64 i3, .int .i64 i4, .int .i64 i5] 61))
  go_enter Try.func20, Try.ntmps20
  go_wp2_with fail
  go_ret
  exact ⟨by rw [← e2]; rfl, HB0.out⟩

/-- No section of the first k is one of symbols. -/
def NoTab (S : List Sect) (k : Nat) : Prop := ∀ (j : Nat) (t : Sect), j < k → S[j]? = some t → t.kind ≠ 2
theorem NoTab.next {S : List Sect} {k : Nat} {s : Sect} (h : NoTab S k) (hs : S[k]? = some s) (hk : s.kind ≠ 2) : NoTab S (k + 1) := fun j t hj ht => by
  rcases Nat.lt_or_ge j k with h1 | h1
  · exact h j t h1 ht
  · rw [show j = k by omega, hs] at ht
    injection ht with ht
    exact ht ▸ hk
theorem NoTab.all {S : List Sect} (h : NoTab S S.length) : tabG S = -1 := tabG_none fun j t ht => h j t (List.getElem?_eq_some_iff.1 ht).1 ht

set_option maxRecDepth 10000 in
set_option maxHeartbeats 1600000 in
theorem index_tab {w : World} {a : Option Addr} {L : List Lay} (h : Secs w w.heap.size a L) (c : Nat) (hl : L.length ≤ 100000) :
    Calls Try.prog 19 #[.slice a L.length c, .func (.func 20) #[] #[]] w fun r w' => r = .returned (.int .i64 (tabG (secsOf L))) ∧ Below w.heap.size w w' := by
  obtain ⟨N, hN⟩ : ∃ N, L.length = N := ⟨_, rfl⟩
  have HH := Lib.hid h
  have HN := Lib.hid hN
  rw [hN] at hl ⊢
  clear h hN
  go_enter Try.func19, Try.ntmps19
  go_wp2_with fail
  go_loopw [8] (fun i wr => ∃ k : Nat, k ≤ N ∧ i = .int .i64 k ∧ Below w.heap.size w wr ∧ Hid (NoTab (secsOf L) k)) (fun i _ => N - (intOf i).toNat)
  case atStart => exact ⟨0, Nat.zero_le _, rfl, Below.refl _ _, Lib.hid (fun _ _ hj => by omega)⟩
  case round =>
    obtain ⟨k, hk, rfl, hB, HY⟩ := hrel
    have HB := Lib.hid hB
    by_cases hlt : k < N
    · obtain ⟨x, hx⟩ : ∃ x, L[k]? = some x := ⟨L[k]'(by rw [HN.out]; exact hlt), List.getElem?_eq_getElem _⟩
      obtain ⟨b, o, rfl, hb, c0, c1, c2, c3, c4, c5, c6, c7, c8⟩ := (HH.out.below hB).at_ hx
      have HW := Lib.hid (is2_any (w := wr) x)
      rw [lay_cells] at HW
      by_cases hst : x.s.kind = 2
      · have HF := Lib.hid (tabG_at HY.out (get_secsOf hx) hst)
        rw [decide_eq_true hst] at HW
        clear hx hst hB
        generalize x.A = dA at *
        generalize x.s.data.length = dn at *
        generalize x.c = dc at *
        generalize x.s.kind = kd at *
        generalize ByteArray.mk x.s.name.toArray = sb at *
        go_wp2_with (go_at_call 20; refine HW.out.mono ?_; rintro r w1 ⟨rfl, hb1⟩)
        have HB1 := Lib.hid (HB.out.trans (hb1.mono HB.out.size))
        go_ret
        exact ⟨by rw [HF.out]; rfl, HB1.out⟩
      · have HF := Lib.hid (HY.out.next (get_secsOf hx) hst)
        rw [decide_eq_false hst] at HW
        clear hx hst hB
        generalize x.A = dA at *
        generalize x.s.data.length = dn at *
        generalize x.c = dc at *
        generalize x.s.kind = kd at *
        generalize ByteArray.mk x.s.name.toArray = sb at *
        go_wp2_with (go_at_call 20; refine HW.out.mono ?_; rintro r w1 ⟨rfl, hb1⟩)
        have HB1 := Lib.hid (HB.out.trans (hb1.mono HB.out.size))
        go_roundw
        case rel => exact ⟨k + 1, by omega, by go_num, HB1.out, HF⟩
        case measure => simp [intOf]; omega
    · have HF := Lib.hid (show tabG (secsOf L) = -1 from NoTab.all (by
        have := HY.out
        rwa [show k = (secsOf L).length by simp only [secsOf, List.length_map]; rw [HN.out]; omega] at this))
      clear hB
      go_wp2_with fail
      go_ret
      exact ⟨by rw [HF.out]; rfl, HB.out⟩

end Go.Proofs.Ytbpemehhbeejcaa
