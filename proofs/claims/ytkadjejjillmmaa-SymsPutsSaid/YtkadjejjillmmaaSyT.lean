/-
  The document's PutRelas.
-/

import Derived.Test.YtkadjejjillmmaaSyS
import Derived.Test.YtkadjejjillmmaaPutR
namespace Go.Proofs.Ytkadjejjillmmaa
open Go Go.RowKit

theorem rput_num (w : World) (x s : Nat) (hx : x < two64) (hs : s ≤ 8) :
    Calls Try.prog 36 #[.int .u64 (x : Int), .int .i64 (s : Int)] w fun r w' => ∃ A c, r = .returned (.slice A s c) ∧ Rd w' w'.heap.size A (leBytes x s) ∧ Below w.heap.size w w' := by
  refine (rput_any w x hx (s : Int) (by omega)).mono fun r w' ⟨v, e, ho, hb⟩ => ?_
  rw [show clampOf (s : Int) = s by unfold clampOf; omega] at ho
  obtain ⟨A, c, rfl, _, _, hr⟩ := own_slice ho
  rw [leBytes_length] at e
  exact ⟨A, c, e, hr, hb⟩
theorem wrapN_lt (t : Int) : wrapN t < two64 := by unfold wrapN two64; rw [IntKind.wrap_u64]; omega
/-- Bytes behind the row. -/
theorem RelSt.more {w wr w2 w3 : World} {u u' : Value} {T T' : List UInt8} (h : RelSt w wr u T) (hb : Below wr.heap.size wr w2) (ho : Own w3 w.heap.size u' T') (hg : w2.grownBy w3 u.ownBlock) : RelSt w w3 u' T' :=
  ⟨ho, (h.below.trans (hb.mono h.below.size)).grown hg (Nat.le_trans h.below.size hb.size) (fun x hx => (own_ge h.row x hx).1)⟩
theorem rel_cells {w wr : World} {b o : Nat} {L : List Rel} (h : Rels w w.heap.size (some ⟨b, o, none⟩) L) (hb : Below w.heap.size w wr) {i : Nat} {x : Rel} (hx : L[i]? = some x) :
    wr.cell? ⟨b, o + i * 4, none⟩ = some (.int .u64 (x.off : Int)) ∧ wr.cell? ⟨b, o + i * 4 + 1, none⟩ = some (.int .i64 x.sym) ∧ wr.cell? ⟨b, o + i * 4 + 2, none⟩ = some (.int .i64 x.kind) ∧ wr.cell? ⟨b, o + i * 4 + 3, none⟩ = some (.int .i64 x.add) := by
  obtain ⟨b', o', e, _, k⟩ := rel_at (h.below hb) hx
  cases e
  exact k

set_option maxRecDepth 10000 in
set_option maxHeartbeats 1600000 in
theorem ryputr_any {w : World} {a : Option Addr} {L : List Rel} (h : Rels w w.heap.size a L) (c : Nat) (hl : L.length ≤ 100000) (hn : ∀ x ∈ L, x.off < two64) :
    Calls Try.prog 19 #[.slice a L.length c] w fun r w' => ∃ u, r = .returned u ∧ Own w' w.heap.size u (relB L L.length) ∧ Below w.heap.size w w' := by
  obtain ⟨i0, hi, hz0, hz1, hz2⟩ := info_parts u8_info
  have HH := Lib.hid h
  generalize hN : L.length = N at *
  have HN := Lib.hid hN
  have HNL := Lib.hid hl
  have HOF := Lib.hid hn
  have HR1 := Lib.hid (show RelSt w w (.slice none 0 0) (relB L 0) from ⟨World.ownsRow_nil _ _ _ _, Below.refl _ _⟩)
  clear h hN hn
  go_enter Try.func19, Try.ntmps19
  go_wp2_with fail
  go_loopw [3, 4] (fun u i wr => ∃ k : Nat, k ≤ N ∧ i = .int .i64 k ∧ RelSt w wr u (relB L k)) (fun _ i _ => N - (intOf i).toNat)
  case atStart => exact ⟨0, Nat.zero_le _, rfl, HR1.out⟩
  case round =>
    obtain ⟨k, hk, rfl, hR⟩ := hrel
    clear HR1
    by_cases hlt : k < N
    · have HLT := Lib.hid hlt
      obtain ⟨x, hx⟩ : ∃ x, L[k]? = some x := ⟨L[k]'(by rw [HN.out]; exact hlt), List.getElem?_eq_getElem _⟩
      obtain ⟨b, o, rfl, hb, c0, c1, c2, c3⟩ := rel_at (HH.out.below hR.below) hx
      have HC := Lib.hid (fun W (hW : Below w.heap.size w W) => rel_cells HH.out hW hx)
      have HB := Lib.hid (relB_next hx)
      have e1 := wrapN_eq x.kind
      have e2 := wrapN_eq x.sym
      have e3 := wrapN_eq x.add
      have HLB := Lib.hid (relB_length L k)
      have hlen : (relB L k).length ≤ 140737488350000 := by have := HLB.out; have := HNL.out; omega
      have hxo := HOF.out x (List.mem_of_getElem? hx)
      have hw1 := wrapN_lt x.kind
      have hw2 := wrapN_lt x.sym
      have hw3 := wrapN_lt x.add
      generalize x.off = y0 at *
      generalize wrapN x.kind = y1 at *
      generalize wrapN x.sym = y2 at *
      generalize wrapN x.add = y3 at *
      generalize x.kind = x1 at *
      generalize x.sym = x2 at *
      generalize x.add = x3 at *
      generalize hT : relB L k = T at *
      have P0 := Lib.hid (fun W => rput_num W y0 8 hxo (by decide))
      have P1 := Lib.hid (fun W => rput_num W y1 4 hw1 (by decide))
      have P2 := Lib.hid (fun W => rput_num W y2 4 hw2 (by decide))
      have P3 := Lib.hid (fun W => rput_num W y3 8 hw3 (by decide))
      have HS0 := Lib.hid hR
      have s0 : T.length + (leBytes y0 8).length ≤ 140737488355328 := by rw [leBytes_length]; omega
      have s1 : (T ++ leBytes y0 8).length + (leBytes y1 4).length ≤ 140737488355328 := by simp only [List.length_append, leBytes_length]; omega
      have s2 : (T ++ leBytes y0 8 ++ leBytes y1 4).length + (leBytes y2 4).length ≤ 140737488355328 := by simp only [List.length_append, leBytes_length]; omega
      have s3 : (T ++ leBytes y0 8 ++ leBytes y1 4 ++ leBytes y2 4).length + (leBytes y3 8).length ≤ 140737488355328 := by simp only [List.length_append, leBytes_length]; omega
      have S0 := Lib.hid s0
      have S1 := Lib.hid s1
      have S2 := Lib.hid s2
      have S3 := Lib.hid s3
      clear hR hx hb hT hlen hxo hw1 hw2 hw3 s0 s1 s2 s3
      go_wp2_with fail
      refine (P0.out _).mono ?_
      rintro r w2 ⟨A2, d2, rfl, hr2, hb2⟩
      have ho2 := own_below HS0.out.row hb2
      have hz2' : w.heap.size ≤ w2.heap.size := Nat.le_trans HS0.out.below.size hb2.size
      go_wp2_with (at_builtin; refine wpList_append_bytes (by rfl) (.tmp 11) (.tmp 17) _ (by rfl) w.heap.size i0 Try.underlying22 hi hz0 hz1 hz2 u3 T (by rfl) ho2 w2.heap.size A2 8 d2 (leBytes y0 8) (leBytes_length _ _) (by rfl) hr2 S0.out hz2' ?_; intro v3 w3 hown3 hg3 hat3; have HS1 := Lib.hid (HS0.out.more hb2 hown3 hg3); (obtain ⟨k0, k1, k2, k3⟩ := HC.out _ HS1.out.below); clear hown3 hg3 hat3 hr2 hb2 ho2 hz2' c0 c1 c2 c3 HS0)
      refine (P1.out _).mono ?_
      rintro r w4 ⟨A4, d4, rfl, hr4, hb4⟩
      have ho4 := own_below HS1.out.row hb4
      have hz4 : w.heap.size ≤ w4.heap.size := Nat.le_trans HS1.out.below.size hb4.size
      go_wp2_with (at_builtin; refine wpList_append_bytes (by rfl) (.tmp 19) (.tmp 26) _ (by rfl) w.heap.size i0 Try.underlying22 hi hz0 hz1 hz2 v3 (T ++ leBytes y0 8) (by rfl) ho4 w4.heap.size A4 4 d4 (leBytes y1 4) (leBytes_length _ _) (by rfl) hr4 S1.out hz4 ?_; intro v5 w5 hown5 hg5 hat5; have HS2 := Lib.hid (HS1.out.more hb4 hown5 hg5); (obtain ⟨l0, l1, l2, l3⟩ := HC.out _ HS2.out.below); clear hown5 hg5 hat5 hr4 hb4 ho4 hz4 k0 k1 k2 k3 HS1)
      refine (P2.out _).mono ?_
      rintro r w6 ⟨A6, d6, rfl, hr6, hb6⟩
      have ho6 := own_below HS2.out.row hb6
      have hz6 : w.heap.size ≤ w6.heap.size := Nat.le_trans HS2.out.below.size hb6.size
      go_wp2_with (at_builtin; refine wpList_append_bytes (by rfl) (.tmp 28) (.tmp 35) _ (by rfl) w.heap.size i0 Try.underlying22 hi hz0 hz1 hz2 v5 (T ++ leBytes y0 8 ++ leBytes y1 4) (by rfl) ho6 w6.heap.size A6 4 d6 (leBytes y2 4) (leBytes_length _ _) (by rfl) hr6 S2.out hz6 ?_; intro v7 w7 hown7 hg7 hat7; have HS3 := Lib.hid (HS2.out.more hb6 hown7 hg7); (obtain ⟨m0, m1, m2, m3⟩ := HC.out _ HS3.out.below); clear hown7 hg7 hat7 hr6 hb6 ho6 hz6 l0 l1 l2 l3 HS2)
      refine (P3.out _).mono ?_
      rintro r w8 ⟨A8, d8, rfl, hr8, hb8⟩
      have ho8 := own_below HS3.out.row hb8
      have hz8 : w.heap.size ≤ w8.heap.size := Nat.le_trans HS3.out.below.size hb8.size
      go_wp2_with (at_builtin; refine wpList_append_bytes (by rfl) (.tmp 37) (.tmp 44) _ (by rfl) w.heap.size i0 Try.underlying22 hi hz0 hz1 hz2 v7 (T ++ leBytes y0 8 ++ leBytes y1 4 ++ leBytes y2 4) (by rfl) ho8 w8.heap.size A8 8 d8 (leBytes y3 8) (leBytes_length _ _) (by rfl) hr8 S3.out hz8 ?_; intro v9 w9 hown9 hg9 hat9; have HS4 := Lib.hid (HS3.out.more hb8 hown9 hg9); clear hown9 hg9 hat9 hr8 hb8 ho8 hz8 m0 m1 m2 m3 HS3)
      first
        | exact ⟨⟨k + 1, HLT.out, rfl, by rw [HB.out]; exact HS4.out⟩, step_less HLT.out⟩
        | (have h3 := wrap_next (k := k) (by have := HLT.out; have := HNL.out; omega)
           rw [h3]
           exact ⟨⟨k + 1, HLT.out, rfl, by rw [HB.out]; exact HS4.out⟩, step_less HLT.out⟩)
    · have hkN : k = N := by omega
      subst hkN
      have HR := Lib.hid hR
      clear hR
      go_wp2_with fail
      go_ret
      exact ⟨_, rfl, HR.out.row, HR.out.below⟩

end Go.Proofs.Ytkadjejjillmmaa
