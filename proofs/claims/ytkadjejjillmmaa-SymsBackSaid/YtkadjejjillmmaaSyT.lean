/-
  The document's PutRelas.
-/

import Derived.Test.YtkadjejjillmmaaSyA
import Derived.Test.YtkadjejjillmmaaEhG
import Derived.Test.YtkadjejjillmmaaPut
import Derived.Test.YtkadjejjillmmaaPutR
import Derived.Test.YtkadjejjillmmaaParts
import Derived.Test.YtkadjejjillmmaaSyE
import Derived.Test.YtkadjejjillmmaaSyQ
namespace Go.Proofs.Ytkadjejjillmmaa
open Go Go.RowKit

/-- A relocation's numbers, with how many bytes each has. -/
def itsR (x : Rel) : List (Nat × Nat) := [(x.off, 8), (wrapN x.kind, 4), (wrapN x.sym, 4), (wrapN x.add, 8)]
def relB (L : List Rel) (k : Nat) : List UInt8 := (L.take k).flatMap fun x => itsB (itsR x)
theorem relB_next {L : List Rel} {k : Nat} {x : Rel} (h : L[k]? = some x) : relB L (k + 1) = relB L k ++ leBytes x.off 8 ++ leBytes (wrapN x.kind) 4 ++ leBytes (wrapN x.sym) 4 ++ leBytes (wrapN x.add) 8 := by
  unfold relB
  rw [List.take_add_one, h]
  simp [itsR, itsB]
theorem relB_length (L : List Rel) : ∀ k, (relB L k).length ≤ 24 * k
  | 0 => by simp [relB]
  | k + 1 => by
    have ih := relB_length L k
    rcases hx : L[k]? with _ | x
    · unfold relB at ih ⊢
      rw [List.take_add_one, hx]
      simp at ih ⊢
      omega
    · rw [relB_next hx]
      simp
      omega

/-- A row of bytes, and relocations that lie further down. -/
structure RelSt (w wr : World) (u : Value) (T : List UInt8) : Prop where
  row : Own wr w.heap.size u T
  below : Below w.heap.size w wr
theorem RelSt.laid {w wr w' : World} {u u' : Value} {T T' : List UInt8} (h : RelSt w wr u T) (hL : Laid wr w' w.heap.size u u' T') : RelSt w w' u' T' :=
  ⟨hL.1, h.below.grown hL.2.1 h.below.size (fun x hx => (own_ge h.row x hx).1)⟩
theorem RelSt.alloc {w wr : World} {u : Value} {T : List UInt8} (h : RelSt w wr u T) (o : Obj) : RelSt w (wr.alloc o) u T :=
  have hA : Below wr.heap.size wr (wr.alloc o) := (Below.refl _ _).alloc (Nat.le_refl _) _
  ⟨own_below h.row hA, h.below.trans (hA.mono h.below.size)⟩
/-- A number put behind the row, and a struct in memory still there. -/
theorem RelSt.num {w wr : World} {u : Value} {T : List UInt8} {H : Nat} {cs : Array Value} (h : RelSt w wr u T) (hX : Box wr H 48 cs) (x s : Nat) (hs : s ≤ 8) (hlen : T.length ≤ 140737488355000) :
    Calls Try.prog 33 #[u, .int .u64 (x : Int), .int .i64 (s : Int)] wr fun r w' => ∃ u', r = .returned u' ∧ RelSt w w' u' (T ++ leBytes x s) ∧ Box w' H 48 cs := by
  have hP := put_any h.row h.below.size x s (by omega) hlen
  rw [show clampOf (s : Int) = s by unfold clampOf; omega] at hP
  exact hP.mono fun r w' ⟨u', e, hL⟩ => ⟨u', e, h.laid hL, hX.grown hL.2.1 (by have := own_other h.row hX (by decide); exact fun e => this e.symm)⟩

set_option maxRecDepth 10000 in
set_option maxHeartbeats 1600000 in
theorem yputr_any {w : World} {a : Option Addr} {L : List Rel} (h : Rels w w.heap.size a L) (c : Nat) (hl : L.length ≤ 100000) :
    Calls Try.prog 18 #[.slice a L.length c] w fun r w' => ∃ u, r = .returned u ∧ Own w' w.heap.size u (relB L L.length) ∧ Below w.heap.size w w' := by
  obtain ⟨i0, hi, hz0, hz1, hz2⟩ := info_parts u8_info
  have HH := Lib.hid h
  generalize hN : L.length = N at *
  have HN := Lib.hid hN
  have HNL := Lib.hid hl
  obtain ⟨m, hm⟩ : ∃ m, N * 24 = m := ⟨_, rfl⟩
  have hmm : (N : Int) * 24 = (m : Int) := by omega
  have hm2 : m ≤ 2400000 := by omega
  have hmw : IntKind.i64.wrap (m : Int) = (m : Int) := by rw [IntWalk.i64_in _ (by omega)]
  have hml : m ≤ maxLen := by unfold maxLen; omega
  clear h hN hm
  go_enter Try.func18, Try.ntmps18
  go_wp2_with (at_make; refine wpList_make_own _ rfl _ _ 22 rfl w.heap.size 5 i0 (.int .u8 0) 1 Try.underlying22 hi hz0 hz1 .i64 .i64 (m : Int) m rfl rfl rfl (by rw [hz2]; omega) hml (by simp) ?_; intro w1 hown1 hg1)
  have HR1 := Lib.hid (show RelSt w w1 (.slice (some ⟨w.heap.size, 0, none⟩) 0 m) (relB L 0) from ⟨hown1, below_of_only hg1 (Nat.le_refl _) (by simp)⟩)
  clear hown1 hg1
  go_loopw [3, 12] (fun u i wr => ∃ k : Nat, k ≤ N ∧ i = .int .i64 k ∧ RelSt w wr u (relB L k)) (fun _ i _ => N - (intOf i).toNat)
  case atStart => exact ⟨0, Nat.zero_le _, rfl, HR1.out⟩
  case round =>
    obtain ⟨k, hk, rfl, hR⟩ := hrel
    clear HR1
    by_cases hlt : k < N
    · have HLT := Lib.hid hlt
      obtain ⟨x, hx⟩ : ∃ x, L[k]? = some x := ⟨L[k]'(by rw [HN.out]; exact hlt), List.getElem?_eq_getElem _⟩
      obtain ⟨b, o, rfl, hb, c0, c1, c2, c3⟩ := rel_at (HH.out.below hR.below) hx
      have HB := Lib.hid (relB_next hx)
      have e1 := wrapN_eq x.kind
      have e2 := wrapN_eq x.sym
      have e3 := wrapN_eq x.add
      have HLB := Lib.hid (relB_length L k)
      have hX := Box.new wr 48 #[.int .u64 (x.off : Int), .int .i64 x.sym, .int .i64 x.kind, .int .i64 x.add]
      have hR0 := hR.alloc (.cells #[.int .u64 (x.off : Int), .int .i64 x.sym, .int .i64 x.kind, .int .i64 x.add] 48)
      have hlen : (relB L k).length ≤ 140737488350000 := by have := HLB.out; have := HNL.out; omega
      generalize x.off = y0 at *
      generalize wrapN x.kind = y1 at *
      generalize wrapN x.sym = y2 at *
      generalize wrapN x.add = y3 at *
      generalize x.kind = x1 at *
      generalize x.sym = x2 at *
      generalize x.add = x3 at *
      generalize hT : relB L k = T at *
      have C0 := Lib.hid (hR0.num hX y0 8 (by decide) (by omega))
      have C1 := Lib.hid (fun W u (h : RelSt w W u (T ++ leBytes y0 8)) (hX : Box W wr.heap.size 48 #[.int .u64 (y0 : Int), .int .i64 x2, .int .i64 x1, .int .i64 x3]) => h.num hX y1 4 (by decide) (by rw [List.length_append, leBytes_length]; omega))
      have C2 := Lib.hid (fun W u (h : RelSt w W u (T ++ leBytes y0 8 ++ leBytes y1 4)) (hX : Box W wr.heap.size 48 #[.int .u64 (y0 : Int), .int .i64 x2, .int .i64 x1, .int .i64 x3]) => h.num hX y2 4 (by decide) (by simp only [List.length_append, leBytes_length]; omega))
      have C3 := Lib.hid (fun W u (h : RelSt w W u (T ++ leBytes y0 8 ++ leBytes y1 4 ++ leBytes y2 4)) (hX : Box W wr.heap.size 48 #[.int .u64 (y0 : Int), .int .i64 x2, .int .i64 x1, .int .i64 x3]) => h.num hX y3 8 (by decide) (by simp only [List.length_append, leBytes_length]; omega))
      clear hX hR0 hR hx hb hT hlen
      go_wp2_with fail
      refine C0.out.mono ?_
      rintro r w2 ⟨u2, rfl, h2, hX2⟩
      have HS2 := Lib.hid h2
      have HX2 := Lib.hid hX2
      obtain ⟨k0, k1, k2, k3⟩ := four_cells hX2
      clear h2 hX2 C0
      go_wp2_with fail
      refine (C1.out _ _ HS2.out HX2.out).mono ?_
      rintro r w3 ⟨u3, rfl, h3, hX3⟩
      have HS3 := Lib.hid h3
      have HX3 := Lib.hid hX3
      obtain ⟨l0, l1, l2, l3⟩ := four_cells hX3
      clear h3 hX3 C1 HS2 HX2 k0 k1 k2 k3
      go_wp2_with fail
      refine (C2.out _ _ HS3.out HX3.out).mono ?_
      rintro r w4 ⟨u4, rfl, h4, hX4⟩
      have HS4 := Lib.hid h4
      have HX4 := Lib.hid hX4
      obtain ⟨m0, m1, m2, m3⟩ := four_cells hX4
      clear h4 hX4 C2 HS3 HX3 l0 l1 l2 l3
      go_wp2_with fail
      refine (C3.out _ _ HS4.out HX4.out).mono ?_
      rintro r w5 ⟨u5, rfl, h5, hX5⟩
      have HS5 := Lib.hid h5
      clear h5 hX5 C3 HS4 HX4 m0 m1 m2 m3
      go_wp2_with fail
      have h3 := wrap_next (k := k) (by have := HLT.out; have := HNL.out; omega)
      first
        | (rw [h3]; exact ⟨⟨k + 1, HLT.out, rfl, by rw [HB.out]; exact HS5.out⟩, step_less HLT.out⟩)
        | exact ⟨⟨k + 1, HLT.out, rfl, by rw [HB.out]; exact HS5.out⟩, step_less HLT.out⟩
    · have hkN : k = N := by omega
      subst hkN
      have HR := Lib.hid hR
      clear hR
      go_wp2_with fail
      go_ret
      exact ⟨_, rfl, HR.out.row, HR.out.below⟩

end Go.Proofs.Ytkadjejjillmmaa

namespace Go.Proofs.Ytkadjejjillmmaa
open Go Go.RowKit

theorem wrapN_lt (t : Int) : wrapN t < two64 := by unfold wrapN two64; rw [IntKind.wrap_u64]; omega
/-- Bytes behind the row. -/
theorem RelSt.more {w wr w2 w3 : World} {u u' : Value} {T T' : List UInt8} (h : RelSt w wr u T) (hb : Below wr.heap.size wr w2) (ho : Own w3 w.heap.size u' T') (hg : w2.grownBy w3 u.ownBlock) : RelSt w w3 u' T' :=
  ⟨ho, (h.below.trans (hb.mono h.below.size)).grown hg (Nat.le_trans h.below.size hb.size) (fun x hx => (own_ge h.row x hx).1)⟩
end Go.Proofs.Ytkadjejjillmmaa
