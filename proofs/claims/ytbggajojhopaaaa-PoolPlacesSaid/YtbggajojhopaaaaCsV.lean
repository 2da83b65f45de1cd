/-
  The document's Same of layer 3, at two rows of the same texts; and the chapter's example.
-/
import Derived.Test.YtbggajojhopaaaaCsS
import Derived.Lib.SlBytesConst
namespace Go.Proofs.Ytbggajojhopaaaa
open Go Go.RowKit

theorem owns_cell {w : World} {base : Nat} {u : Value} {ts : List (List UInt8)} (h : OwnS w base u ts) (h0 : 0 < ts.length) :
    ∃ g cap, u = .slice (some ⟨g, 0, none⟩) ts.length cap ∧ ts.length ≤ cap ∧ cap ≤ maxLen ∧ ∀ (j : Nat) (t : List UInt8), ts[j]? = some t → w.cell? ⟨g, j, none⟩ = some (.string ⟨t.toArray⟩) := by
  rcases h.2 with ⟨rfl, h1⟩ | ⟨g, cap, cur, rfl, hb, hg, hnc, hcm, hcs, htake⟩
  · omega
  · refine ⟨g, cap, rfl, hnc, hcm, fun j t hj => ?_⟩
    have hjl : j < ts.length := (List.getElem?_eq_some_iff.1 hj).1
    have h1 := World.ownsRow.cellAt (g := g) (cap := cap) h j (by omega)
    rw [h1]
    simp [strV, hj]

theorem owns_slice {w : World} {base : Nat} {u : Value} {ts : List (List UInt8)} (h : OwnS w base u ts) : ∃ A cap, u = .slice A ts.length cap := by
  rcases h.2 with ⟨rfl, h1⟩ | ⟨g, cap, cur, rfl, _⟩
  · rw [h1]; exact ⟨_, _, rfl⟩
  · exact ⟨_, _, rfl⟩

set_option maxHeartbeats 800000 in
theorem same_any {w : World} {b1 b2 : Nat} {u v : Value} {ts : List (List UInt8)} (h1 : OwnS w b1 u ts) (h2 : OwnS w b2 v ts) (hn : ts.length ≤ 2000000) :
    Calls Try.prog 47 #[u, v] w fun r w' => r = .returned (.bool true) ∧ ∃ n, w' = w.drewN n := by
  obtain ⟨A1, c1, rfl⟩ := owns_slice h1
  obtain ⟨A2, c2, rfl⟩ := owns_slice h2
  have H1 := Lib.hid (fun h0 => owns_cell h1 h0)
  have H2 := Lib.hid (fun h0 => owns_cell h2 h0)
  clear h1 h2
  generalize hN : ts.length = N at *
  have HN := Lib.hid hN
  clear hN
  go_enter Try.func47, Try.ntmps47
  go_wp2_with fail
  go_loopw [5] (fun i wr => ∃ k q : Nat, i = .int .i64 k ∧ k ≤ N ∧ wr = w.drewN q) (fun i _ => N - (intOf i).toNat)
  case atStart => exact ⟨0, 0, rfl, Nat.zero_le _, rfl⟩
  case round =>
    obtain ⟨k, q, rfl, hk, rfl⟩ := hrel
    by_cases hlt : k < N
    · obtain ⟨g1, d1, e1, hc1, hm1, hx1⟩ := H1.out (by omega)
      obtain ⟨g2, d2, e2, hc2, hm2, hx2⟩ := H2.out (by omega)
      obtain ⟨t, ht⟩ : ∃ t, ts[k]? = some t := ⟨ts[k]'(by rw [HN.out]; exact hlt), List.getElem?_eq_getElem _⟩
      have x1 := hx1 k t ht
      have x2 := hx2 k t ht
      injection e1 with e1 _ e1'
      injection e2 with e2 _ e2'
      subst e1 e2 e1' e2'
      generalize ByteArray.mk t.toArray = y at *
      clear ht
      clear hx1 hx2 H1 H2
      go_wp2_with fail
      go_quiet (fail)
      go_wp2
      exact ⟨⟨k + 1, _, by go_num, by omega, rfl⟩, by simp [intOf]; omega⟩
    · have hkn : k = N := by omega
      subst hkn
      go_wp2_with fail
      go_ret
      exact ⟨rfl, _, rfl⟩

theorem rd_marked (w : World) (l : List UInt8) (f : Nat × Nat) : Rd (w.alloc (.cells (u8s l).toArray 5 f)) (w.heap.size + 1) (some ⟨w.heap.size, 0, none⟩) l := fun _ =>
  ⟨w.heap.size, 0, rfl, by omega, fun j u hu => by
    have h : (w.alloc (.cells (u8s l).toArray 5 f)).heap[w.heap.size]? = some (.cells (u8s l).toArray 5 f) := heap_alloc_new w _
    rw [Nat.zero_add]
    simp only [World.cell?, h, List.getElem?_toArray, u8s_get, hu]
    rfl⟩

set_option maxHeartbeats 1600000 in
theorem works3_any (w : World) :
    Calls Try.prog 39 #[] w fun r w' => r = .returned (.bool true) ∧ Below w.heap.size w w' := by
  have hb0 : Below w.heap.size w (w.alloc (.cells #[.int .u8 97, .int .u8 98, .int .u8 0, .int .u8 99, .int .u8 0] 5 (5, 6))) := (Below.refl _ _).alloc (Nat.le_refl _) _
  have hr0 : Rd (w.alloc (.cells #[.int .u8 97, .int .u8 98, .int .u8 0, .int .u8 99, .int .u8 0] 5 (5, 6))) (w.heap.size + 1) (some ⟨w.heap.size, 0, none⟩) [97, 98, 0, 99, 0] := rd_marked w [97, 98, 0, 99, 0] (5, 6)
  have hcv : (convert 22 22 (.slice (some ⟨w.heap.size, 0, none⟩) 5 5)).run Try.prog (w.alloc (.cells #[.int .u8 97, .int .u8 98, .int .u8 0, .int .u8 99, .int .u8 0] 5)) = .ok (.slice (some ⟨w.heap.size, 0, none⟩) 5 5) (w.alloc (.cells #[.int .u8 97, .int .u8 98, .int .u8 0, .int .u8 99, .int .u8 0] 5 (5, 6))) :=
    Lib.run_convert_bytes_const w _ _ _ 5 5 Try.underlying22 Try.underlying5
  obtain ⟨w1, hw1⟩ : ∃ w1, w.alloc (.cells #[.int .u8 97, .int .u8 98, .int .u8 0, .int .u8 99, .int .u8 0] 5 (5, 6)) = w1 := ⟨_, rfl⟩
  have hs1 : w1.heap.size = w.heap.size + 1 := by rw [← hw1]; simp
  rw [hw1] at hb0 hr0 hcv
  have hA := at_any hr0 (by omega) 5 (by decide) (by decide) 1 (by decide)
  rw [show atT [97, 98, 0, 99, 0] 1 = ([98], 0) by decide] at hA
  have hL := Lib.hid (fun W (hW : Below w1.heap.size w1 W) => (by
    have h1 := all_any (w := W) (hr0.below (by rwa [hs1] at hW)) (by have := hW.size; omega) 5 (by decide)
    have e : allT [97, 98, 0, 99, 0] = ([[97, 98], [99]], 0) := allT_puts [[97, 98], [99]] (by decide)
    have e2 : resT [97, 98, 0, 99, 0] = [[97, 98], [99]] := by unfold resT; rw [e]; rfl
    rw [e, e2] at h1
    exact h1 : Calls Try.prog 45 #[.slice (some ⟨w.heap.size, 0, none⟩) 5 5] W fun r w' => ∃ u, r = .returned (.tuple #[u, .int .i64 0]) ∧ OwnS w' W.heap.size u [[97, 98], [99]] ∧ Below W.heap.size W w'))
  have hT := fun W => take_nil W
  have hR := fun W => right_any [97] W (by decide)
  rw [show rightT [97] = true by decide] at hR
  have HB := Lib.hid hb0
  clear hb0 hr0 hw1
  go_enter Try.func39, Try.ntmps39
  go_wp2_with (first
    | (go_at_call 43; refine hA.mono ?_; rintro r w2 ⟨rfl, hb2⟩; have hL2 := hL.out _ hb2)
    | (go_at_call 45; refine hL2.mono ?_; rintro r w3 ⟨u, rfl, hO3, hb3⟩; (obtain ⟨gu, cu, rfl, hcu, hmu, hxu⟩ := owns_cell hO3 (by decide)); have x0 := hxu 0 _ rfl; have x1 := hxu 1 _ rfl; have HB3 := Lib.hid (HB.out.trans ((hb2.mono (by omega)).trans (hb3.mono (by have := hb2.size; omega)))); clear hxu hO3 hb3 hb2)
    | (go_at_call 41; refine (hT _).mono ?_; rintro r w4 ⟨rfl, rfl⟩)
    | (go_at_call 48; refine (hR _).mono ?_; rintro r w4 ⟨rfl, rfl⟩))
  go_ret
  exact ⟨rfl, HB3.out⟩

end Go.Proofs.Ytbggajojhopaaaa
