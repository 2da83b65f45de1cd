/-
  The document's Take of symbols.
-/
import Derived.Test.YtldmjnbmjfnfeaaGreatDoorSyP
import Derived.Test.YtldmjnbmjfnfeaaGreatDoorSeV
import Derived.Test.YtldmjnbmjfnfeaaGreatDoorEhG
import Derived.Test.YtldmjnbmjfnfeaaGreatDoorObB
import Derived.Test.YtldmjnbmjfnfeaaGreatDoorPut
import Derived.Test.YtldmjnbmjfnfeaaGreatDoorPutR
import Derived.Test.YtldmjnbmjfnfeaaGreatDoorCsL
import Derived.Test.YtldmjnbmjfnfeaaGreatDoorSeR
import Derived.Test.YtldmjnbmjfnfeaaGreatDoorPoR
import Derived.Laws.Concat
import Derived.Test.YtldmjnbmjfnfeaaGreatDoorRefR
import Derived.Test.YtldmjnbmjfnfeaaGreatDoorCsA
import Derived.Test.YtldmjnbmjfnfeaaGreatDoorCsQ
import Derived.Test.YtldmjnbmjfnfeaaGreatDoorPoX
namespace Go.Proofs.YtldmjnbmjfnfeaaGreatDoor
open Go Go.RowKit

/-- The names, the empty one first; the texts behind k symbols. -/
def namesY (L : List Sym) : List (List UInt8) := [] :: L.map fun x => x.name
def texK (L : List Sym) (k : Nat) : List (List UInt8) := (gat ((namesY L).take (k + 1))).1
/-- A symbol's numbers, with how many bytes each has. -/
def itsY (p : Nat) (x : Sym) : List (Nat × Nat) := [(p, 4), (wrapN (x.bind * 16 + x.kind), 1), (0, 1), (wrapN x.sect, 2), (x.value, 8), (x.size, 8)]
/-- The table of the first k. -/
def tabK (L : List Sym) : Nat → List UInt8
  | 0 => []
  | k + 1 => tabK L k ++ (match L[k]? with | none => [] | some x => itsB (itsY (addT (texK L k) x.name).2.1 x))
def tabY (L : List Sym) : List UInt8 := match rightY L with | true => tabK L L.length | false => []
def txtY (L : List Sym) : List UInt8 := match rightY L with | true => putsT (texK L L.length) | false => []
section
variable {L : List Sym} {k : Nat} {x : Sym}
theorem texK_zero : texK L 0 = (addT [] []).1 := rfl
theorem texK_next (h : L[k]? = some x) : texK L (k + 1) = (addT (texK L k) x.name).1 := by
  unfold texK
  rw [gat_take (ns := namesY L) (k := k + 1) (t := x.name) (by simp [namesY, h])]
theorem tabK_next (h : L[k]? = some x) : tabK L (k + 1) = tabK L k ++ itsB (itsY (addT (texK L k) x.name).2.1 x) := by
  rw [tabK, h]
theorem addT_span (l : List (List UInt8)) (t : List UInt8) : spanT (addT l t).1 ≤ spanT l + t.length + 1 := by
  rcases addT_cases l t with ⟨_, e⟩ | ⟨q, _, _, e⟩ | ⟨_, _, _, e⟩ | ⟨_, _, _, e⟩ <;> rw [e] <;> simp only [spanT_append, spanT] <;> omega
theorem texK_span (L : List Sym) : ∀ k, k ≤ L.length → spanT (texK L k) ≤ 1 + k + sumN (L.take k)
  | 0, _ => by
    have := addT_span [] []
    rw [texK_zero]
    simpa [spanT, sumN] using this
  | k + 1, hk => by
    have hx : L[k]? = some (L[k]'(by omega)) := List.getElem?_eq_getElem _
    have ih := texK_span L k (by omega)
    have h1 := addT_span (texK L k) (L[k]'(by omega)).name
    rw [texK_next hx, sumN_next hx]
    omega
theorem sumN_take (L : List Sym) (k : Nat) : sumN (L.take k) ≤ sumN L := by
  have h := congrArg sumN (List.take_append_drop k L)
  unfold sumN at h ⊢
  rw [List.map_append, List.sum_append] at h
  omega
theorem tabK_length (L : List Sym) : ∀ k, (tabK L k).length ≤ 24 * k
  | 0 => Nat.le_refl _
  | k + 1 => by
    have ih := tabK_length L k
    rcases hx : L[k]? with _ | x
    · rw [tabK, hx]; simp; omega
    · rw [tabK_next hx]; simp [itsY, itsB]; omega
theorem okY_facts (h : okY x = true) : rightT x.name = true ∧ (0 ≤ x.bind ∧ x.bind ≤ 15) ∧ (0 ≤ x.kind ∧ x.kind ≤ 15) ∧ (0 ≤ x.sect ∧ x.sect ≤ 65534) := by
  unfold okY inTo at h
  simp only [Bool.and_eq_true, decide_eq_true_eq] at h
  exact ⟨h.1, h.2.1, h.2.2.1, h.2.2.2⟩
theorem rightY_all (h : rightY L = true) : L.length ≤ 400 ∧ ∀ x ∈ L, okY x = true := by
  unfold rightY at h
  rw [Bool.and_eq_true, decide_eq_true_eq, List.all_eq_true] at h
  exact h
end
theorem wrap_next {k : Nat} (h : k ≤ 1000000) : wrap64 ((k : Int) + 1) = (k : Int) + 1 := by unfold wrap64; omega
theorem step_less {k N : Nat} (h : k < N) : N - (intOf (Value.int .i64 ((k : Int) + 1))).toNat < N - (intOf (Value.int .i64 (k : Int))).toNat := by simp [intOf]; omega
theorem or_low (a b : Nat) (ha : a ≤ 15) (hb : b ≤ 15) : bits .or .i64 ((a * 16 : Nat) : Int) (b : Int) = ((a * 16 + b : Nat) : Int) := by
  have key : ∀ a b : Fin 16, bits .or .i64 ((a.val * 16 : Nat) : Int) (b.val : Int) = ((a.val * 16 + b.val : Nat) : Int) := by decide +kernel
  exact key ⟨a, by omega⟩ ⟨b, by omega⟩

end Go.Proofs.YtldmjnbmjfnfeaaGreatDoor

namespace Go.Proofs.YtldmjnbmjfnfeaaGreatDoor
open Go Go.RowKit

/-- A relocation's numbers, with how many bytes each has. -/
def itsR (x : Rel) : List (Nat × Nat) := [(x.off, 8), (wrapN x.kind, 4), (wrapN x.sym, 4), (wrapN x.add, 8)]
def relB (L : List Rel) (k : Nat) : List UInt8 := (L.take k).flatMap fun x => itsB (itsR x)
theorem relB_next {L : List Rel} {k : Nat} {x : Rel} (h : L[k]? = some x) : relB L (k + 1) = relB L k ++ leBytes x.off 8 ++ leBytes (wrapN x.kind) 4 ++ leBytes (wrapN x.sym) 4 ++ leBytes (wrapN x.add) 8 := by
  unfold relB
  rw [List.take_add_one, h]
  simp [itsR, itsB]
theorem relB_length (L : List Rel) : ∀ k, (relB L k).length ≤ 24 * k
  | 0 => by simp [relB]
  | k + 1 => by
    have ih := relB_length L k
    rcases hx : L[k]? with _ | x
    · unfold relB at ih ⊢
      rw [List.take_add_one, hx]
      simp at ih ⊢
      omega
    · rw [relB_next hx]
      simp
      omega

/-- A row of bytes, and relocations that lie further down. -/
structure RelSt (w wr : World) (u : Value) (T : List UInt8) : Prop where
  row : Own wr w.heap.size u T
  below : Below w.heap.size w wr
theorem RelSt.laid {w wr w' : World} {u u' : Value} {T T' : List UInt8} (h : RelSt w wr u T) (hL : Laid wr w' w.heap.size u u' T') : RelSt w w' u' T' :=
  ⟨hL.1, h.below.grown hL.2.1 h.below.size (fun x hx => (own_ge h.row x hx).1)⟩
theorem RelSt.alloc {w wr : World} {u : Value} {T : List UInt8} (h : RelSt w wr u T) (o : Obj) : RelSt w (wr.alloc o) u T :=
  have hA : Below wr.heap.size wr (wr.alloc o) := (Below.refl _ _).alloc (Nat.le_refl _) _
  ⟨own_below h.row hA, h.below.trans (hA.mono h.below.size)⟩
/-- A number put behind the row, and a struct in memory still there. -/
theorem RelSt.num {w wr : World} {u : Value} {T : List UInt8} {H : Nat} {cs : Array Value} (h : RelSt w wr u T) (hX : Box wr H 53 cs) (x s : Nat) (hs : s ≤ 8) (hlen : T.length ≤ 140737488355000) :
    Calls Tryz.prog 63 #[u, .int .u64 (x : Int), .int .i64 (s : Int)] wr fun r w' => ∃ u', r = .returned u' ∧ RelSt w w' u' (T ++ leBytes x s) ∧ Box w' H 53 cs := by
  have hP := put_any h.row h.below.size x s (by omega) hlen
  rw [show clampOf (s : Int) = s by unfold clampOf; omega] at hP
  exact hP.mono fun r w' ⟨u', e, hL⟩ => ⟨u', e, h.laid hL, hX.grown hL.2.1 (by have := own_other h.row hX (by decide); exact fun e => this e.symm)⟩

set_option maxRecDepth 10000 in
set_option maxHeartbeats 1600000 in
theorem yputr_any {w : World} {a : Option Addr} {L : List Rel} (h : Rels w w.heap.size a L) (c : Nat) (hl : L.length ≤ 100000) :
    Calls Tryz.prog 59 #[.slice a L.length c] w fun r w' => ∃ u, r = .returned u ∧ Own w' w.heap.size u (relB L L.length) ∧ Below w.heap.size w w' := by
  obtain ⟨i0, hi, hz0, hz1, hz2⟩ := info_parts u8_info
  have HH := Lib.hid h
  generalize hN : L.length = N at *
  have HN := Lib.hid hN
  have HNL := Lib.hid hl
  obtain ⟨m, hm⟩ : ∃ m, N * 24 = m := ⟨_, rfl⟩
  have hmm : (N : Int) * 24 = (m : Int) := by omega
  have hm2 : m ≤ 2400000 := by omega
  have hmw : IntKind.i64.wrap (m : Int) = (m : Int) := by rw [IntWalk.i64_in _ (by omega)]
  have hml : m ≤ maxLen := by unfold maxLen; omega
  clear h hN hm
  go_enter Tryz.func59, Tryz.ntmps59
  go_wp2_with (at_make; refine wpList_make_own _ rfl _ _ 22 rfl w.heap.size 5 i0 (.int .u8 0) 1 Tryz.underlying22 hi hz0 hz1 .i64 .i64 (m : Int) m rfl rfl rfl (by rw [hz2]; omega) hml (by simp) ?_; intro w1 hown1 hg1)
  have HR1 := Lib.hid (show RelSt w w1 (.slice (some ⟨w.heap.size, 0, none⟩) 0 m) (relB L 0) from ⟨hown1, below_of_only hg1 (Nat.le_refl _) (by simp)⟩)
  clear hown1 hg1
  go_loopw [3, 12] (fun u i wr => ∃ k : Nat, k ≤ N ∧ i = .int .i64 k ∧ RelSt w wr u (relB L k)) (fun _ i _ => N - (intOf i).toNat)
  case atStart => exact ⟨0, Nat.zero_le _, rfl, HR1.out⟩
  case round =>
    obtain ⟨k, hk, rfl, hR⟩ := hrel
    clear HR1
    by_cases hlt : k < N
    · have HLT := Lib.hid hlt
      obtain ⟨x, hx⟩ : ∃ x, L[k]? = some x := ⟨L[k]'(by rw [HN.out]; exact hlt), List.getElem?_eq_getElem _⟩
      obtain ⟨b, o, rfl, hb, c0, c1, c2, c3⟩ := rel_at (HH.out.below hR.below) hx
      have HB := Lib.hid (relB_next hx)
      have e1 := wrapN_eq x.kind
      have e2 := wrapN_eq x.sym
      have e3 := wrapN_eq x.add
      have HLB := Lib.hid (relB_length L k)
      have hX := Box.new wr 53 #[.int .u64 (x.off : Int), .int .i64 x.sym, .int .i64 x.kind, .int .i64 x.add]
      have hR0 := hR.alloc (.cells #[.int .u64 (x.off : Int), .int .i64 x.sym, .int .i64 x.kind, .int .i64 x.add] 53)
      have hlen : (relB L k).length ≤ 140737488350000 := by have := HLB.out; have := HNL.out; omega
      generalize x.off = y0 at *
      generalize wrapN x.kind = y1 at *
      generalize wrapN x.sym = y2 at *
      generalize wrapN x.add = y3 at *
      generalize x.kind = x1 at *
      generalize x.sym = x2 at *
      generalize x.add = x3 at *
      generalize hT : relB L k = T at *
      have C0 := Lib.hid (hR0.num hX y0 8 (by decide) (by omega))
      have C1 := Lib.hid (fun W u (h : RelSt w W u (T ++ leBytes y0 8)) (hX : Box W wr.heap.size 53 #[.int .u64 (y0 : Int), .int .i64 x2, .int .i64 x1, .int .i64 x3]) => h.num hX y1 4 (by decide) (by rw [List.length_append, leBytes_length]; omega))
      have C2 := Lib.hid (fun W u (h : RelSt w W u (T ++ leBytes y0 8 ++ leBytes y1 4)) (hX : Box W wr.heap.size 53 #[.int .u64 (y0 : Int), .int .i64 x2, .int .i64 x1, .int .i64 x3]) => h.num hX y2 4 (by decide) (by simp only [List.length_append, leBytes_length]; omega))
      have C3 := Lib.hid (fun W u (h : RelSt w W u (T ++ leBytes y0 8 ++ leBytes y1 4 ++ leBytes y2 4)) (hX : Box W wr.heap.size 53 #[.int .u64 (y0 : Int), .int .i64 x2, .int .i64 x1, .int .i64 x3]) => h.num hX y3 8 (by decide) (by simp only [List.length_append, leBytes_length]; omega))
      clear hX hR0 hR hx hb hT hlen
      go_wp2_with fail
      refine C0.out.mono ?_
      rintro r w2 ⟨u2, rfl, h2, hX2⟩
      have HS2 := Lib.hid h2
      have HX2 := Lib.hid hX2
      obtain ⟨k0, k1, k2, k3⟩ := four_cells hX2
      clear h2 hX2 C0
      go_wp2_with fail
      refine (C1.out _ _ HS2.out HX2.out).mono ?_
      rintro r w3 ⟨u3, rfl, h3, hX3⟩
      have HS3 := Lib.hid h3
      have HX3 := Lib.hid hX3
      obtain ⟨l0, l1, l2, l3⟩ := four_cells hX3
      clear h3 hX3 C1 HS2 HX2 k0 k1 k2 k3
      go_wp2_with fail
      refine (C2.out _ _ HS3.out HX3.out).mono ?_
      rintro r w4 ⟨u4, rfl, h4, hX4⟩
      have HS4 := Lib.hid h4
      have HX4 := Lib.hid hX4
      obtain ⟨m0, m1, m2, m3⟩ := four_cells hX4
      clear h4 hX4 C2 HS3 HX3 l0 l1 l2 l3
      go_wp2_with fail
      refine (C3.out _ _ HS4.out HX4.out).mono ?_
      rintro r w5 ⟨u5, rfl, h5, hX5⟩
      have HS5 := Lib.hid h5
      clear h5 hX5 C3 HS4 HX4 m0 m1 m2 m3
      go_wp2_with fail
      have h3 := wrap_next (k := k) (by have := HLT.out; have := HNL.out; omega)
      first
        | (rw [h3]; exact ⟨⟨k + 1, HLT.out, rfl, by rw [HB.out]; exact HS5.out⟩, step_less HLT.out⟩)
        | exact ⟨⟨k + 1, HLT.out, rfl, by rw [HB.out]; exact HS5.out⟩, step_less HLT.out⟩
    · have hkN : k = N := by omega
      subst hkN
      have HR := Lib.hid hR
      clear hR
      go_wp2_with fail
      go_ret
      exact ⟨_, rfl, HR.out.row, HR.out.below⟩

end Go.Proofs.YtldmjnbmjfnfeaaGreatDoor

namespace Go.Proofs.YtldmjnbmjfnfeaaGreatDoor
open Go Go.RowKit

theorem rput_num (w : World) (x s : Nat) (hx : x < two64) (hs : s ≤ 8) :
    Calls Tryz.prog 67 #[.int .u64 (x : Int), .int .i64 (s : Int)] w fun r w' => ∃ A c, r = .returned (.slice A s c) ∧ Rd w' w'.heap.size A (leBytes x s) ∧ Below w.heap.size w w' := by
  refine (rput_any w x hx (s : Int) (by omega)).mono fun r w' ⟨v, e, ho, hb⟩ => ?_
  rw [show clampOf (s : Int) = s by unfold clampOf; omega] at ho
  obtain ⟨A, c, rfl, _, _, hr⟩ := own_slice ho
  rw [leBytes_length] at e
  exact ⟨A, c, e, hr, hb⟩
theorem wrapN_lt (t : Int) : wrapN t < two64 := by unfold wrapN two64; rw [IntKind.wrap_u64]; omega
/-- Bytes behind the row. -/
theorem RelSt.more {w wr w2 w3 : World} {u u' : Value} {T T' : List UInt8} (h : RelSt w wr u T) (hb : Below wr.heap.size wr w2) (ho : Own w3 w.heap.size u' T') (hg : w2.grownBy w3 u.ownBlock) : RelSt w w3 u' T' :=
  ⟨ho, (h.below.trans (hb.mono h.below.size)).grown hg (Nat.le_trans h.below.size hb.size) (fun x hx => (own_ge h.row x hx).1)⟩
theorem rel_cells {w wr : World} {b o : Nat} {L : List Rel} (h : Rels w w.heap.size (some ⟨b, o, none⟩) L) (hb : Below w.heap.size w wr) {i : Nat} {x : Rel} (hx : L[i]? = some x) :
    wr.cell? ⟨b, o + i * 4, none⟩ = some (.int .u64 (x.off : Int)) ∧ wr.cell? ⟨b, o + i * 4 + 1, none⟩ = some (.int .i64 x.sym) ∧ wr.cell? ⟨b, o + i * 4 + 2, none⟩ = some (.int .i64 x.kind) ∧ wr.cell? ⟨b, o + i * 4 + 3, none⟩ = some (.int .i64 x.add) := by
  obtain ⟨b', o', e, _, k⟩ := rel_at (h.below hb) hx
  cases e
  exact k

set_option maxRecDepth 10000 in
set_option maxHeartbeats 1600000 in
theorem ryputr_any {w : World} {a : Option Addr} {L : List Rel} (h : Rels w w.heap.size a L) (c : Nat) (hl : L.length ≤ 100000) (hn : ∀ x ∈ L, x.off < two64) :
    Calls Tryz.prog 35 #[.slice a L.length c] w fun r w' => ∃ u, r = .returned u ∧ Own w' w.heap.size u (relB L L.length) ∧ Below w.heap.size w w' := by
  obtain ⟨i0, hi, hz0, hz1, hz2⟩ := info_parts u8_info
  have HH := Lib.hid h
  generalize hN : L.length = N at *
  have HN := Lib.hid hN
  have HNL := Lib.hid hl
  have HOF := Lib.hid hn
  have HR1 := Lib.hid (show RelSt w w (.slice none 0 0) (relB L 0) from ⟨World.ownsRow_nil _ _ _ _, Below.refl _ _⟩)
  clear h hN hn
  go_enter Tryz.func35, Tryz.ntmps35
  go_wp2_with fail
  go_loopw [3, 4] (fun u i wr => ∃ k : Nat, k ≤ N ∧ i = .int .i64 k ∧ RelSt w wr u (relB L k)) (fun _ i _ => N - (intOf i).toNat)
  case atStart => exact ⟨0, Nat.zero_le _, rfl, HR1.out⟩
  case round =>
    obtain ⟨k, hk, rfl, hR⟩ := hrel
    clear HR1
    by_cases hlt : k < N
    · have HLT := Lib.hid hlt
      obtain ⟨x, hx⟩ : ∃ x, L[k]? = some x := ⟨L[k]'(by rw [HN.out]; exact hlt), List.getElem?_eq_getElem _⟩
      obtain ⟨b, o, rfl, hb, c0, c1, c2, c3⟩ := rel_at (HH.out.below hR.below) hx
      have HC := Lib.hid (fun W (hW : Below w.heap.size w W) => rel_cells HH.out hW hx)
      have HB := Lib.hid (relB_next hx)
      have e1 := wrapN_eq x.kind
      have e2 := wrapN_eq x.sym
      have e3 := wrapN_eq x.add
      have HLB := Lib.hid (relB_length L k)
      have hlen : (relB L k).length ≤ 140737488350000 := by have := HLB.out; have := HNL.out; omega
      have hxo := HOF.out x (List.mem_of_getElem? hx)
      have hw1 := wrapN_lt x.kind
      have hw2 := wrapN_lt x.sym
      have hw3 := wrapN_lt x.add
      generalize x.off = y0 at *
      generalize wrapN x.kind = y1 at *
      generalize wrapN x.sym = y2 at *
      generalize wrapN x.add = y3 at *
      generalize x.kind = x1 at *
      generalize x.sym = x2 at *
      generalize x.add = x3 at *
      generalize hT : relB L k = T at *
      have P0 := Lib.hid (fun W => rput_num W y0 8 hxo (by decide))
      have P1 := Lib.hid (fun W => rput_num W y1 4 hw1 (by decide))
      have P2 := Lib.hid (fun W => rput_num W y2 4 hw2 (by decide))
      have P3 := Lib.hid (fun W => rput_num W y3 8 hw3 (by decide))
      have HS0 := Lib.hid hR
      have s0 : T.length + (leBytes y0 8).length ≤ 140737488355328 := by rw [leBytes_length]; omega
      have s1 : (T ++ leBytes y0 8).length + (leBytes y1 4).length ≤ 140737488355328 := by simp only [List.length_append, leBytes_length]; omega
      have s2 : (T ++ leBytes y0 8 ++ leBytes y1 4).length + (leBytes y2 4).length ≤ 140737488355328 := by simp only [List.length_append, leBytes_length]; omega
      have s3 : (T ++ leBytes y0 8 ++ leBytes y1 4 ++ leBytes y2 4).length + (leBytes y3 8).length ≤ 140737488355328 := by simp only [List.length_append, leBytes_length]; omega
      have S0 := Lib.hid s0
      have S1 := Lib.hid s1
      have S2 := Lib.hid s2
      have S3 := Lib.hid s3
      clear hR hx hb hT hlen hxo hw1 hw2 hw3 s0 s1 s2 s3
      go_wp2_with fail
      refine (P0.out _).mono ?_
      rintro r w2 ⟨A2, d2, rfl, hr2, hb2⟩
      have ho2 := own_below HS0.out.row hb2
      have hz2' : w.heap.size ≤ w2.heap.size := Nat.le_trans HS0.out.below.size hb2.size
      go_wp2_with (at_builtin; refine wpList_append_bytes (by rfl) (.tmp 11) (.tmp 17) _ (by rfl) w.heap.size i0 Tryz.underlying22 hi hz0 hz1 hz2 u3 T (by rfl) ho2 w2.heap.size A2 8 d2 (leBytes y0 8) (leBytes_length _ _) (by rfl) hr2 S0.out hz2' ?_; intro v3 w3 hown3 hg3 hat3; have HS1 := Lib.hid (HS0.out.more hb2 hown3 hg3); (obtain ⟨k0, k1, k2, k3⟩ := HC.out _ HS1.out.below); clear hown3 hg3 hat3 hr2 hb2 ho2 hz2' c0 c1 c2 c3 HS0)
      refine (P1.out _).mono ?_
      rintro r w4 ⟨A4, d4, rfl, hr4, hb4⟩
      have ho4 := own_below HS1.out.row hb4
      have hz4 : w.heap.size ≤ w4.heap.size := Nat.le_trans HS1.out.below.size hb4.size
      go_wp2_with (at_builtin; refine wpList_append_bytes (by rfl) (.tmp 19) (.tmp 26) _ (by rfl) w.heap.size i0 Tryz.underlying22 hi hz0 hz1 hz2 v3 (T ++ leBytes y0 8) (by rfl) ho4 w4.heap.size A4 4 d4 (leBytes y1 4) (leBytes_length _ _) (by rfl) hr4 S1.out hz4 ?_; intro v5 w5 hown5 hg5 hat5; have HS2 := Lib.hid (HS1.out.more hb4 hown5 hg5); (obtain ⟨l0, l1, l2, l3⟩ := HC.out _ HS2.out.below); clear hown5 hg5 hat5 hr4 hb4 ho4 hz4 k0 k1 k2 k3 HS1)
      refine (P2.out _).mono ?_
      rintro r w6 ⟨A6, d6, rfl, hr6, hb6⟩
      have ho6 := own_below HS2.out.row hb6
      have hz6 : w.heap.size ≤ w6.heap.size := Nat.le_trans HS2.out.below.size hb6.size
      go_wp2_with (at_builtin; refine wpList_append_bytes (by rfl) (.tmp 28) (.tmp 35) _ (by rfl) w.heap.size i0 Tryz.underlying22 hi hz0 hz1 hz2 v5 (T ++ leBytes y0 8 ++ leBytes y1 4) (by rfl) ho6 w6.heap.size A6 4 d6 (leBytes y2 4) (leBytes_length _ _) (by rfl) hr6 S2.out hz6 ?_; intro v7 w7 hown7 hg7 hat7; have HS3 := Lib.hid (HS2.out.more hb6 hown7 hg7); (obtain ⟨m0, m1, m2, m3⟩ := HC.out _ HS3.out.below); clear hown7 hg7 hat7 hr6 hb6 ho6 hz6 l0 l1 l2 l3 HS2)
      refine (P3.out _).mono ?_
      rintro r w8 ⟨A8, d8, rfl, hr8, hb8⟩
      have ho8 := own_below HS3.out.row hb8
      have hz8 : w.heap.size ≤ w8.heap.size := Nat.le_trans HS3.out.below.size hb8.size
      go_wp2_with (at_builtin; refine wpList_append_bytes (by rfl) (.tmp 37) (.tmp 44) _ (by rfl) w.heap.size i0 Tryz.underlying22 hi hz0 hz1 hz2 v7 (T ++ leBytes y0 8 ++ leBytes y1 4 ++ leBytes y2 4) (by rfl) ho8 w8.heap.size A8 8 d8 (leBytes y3 8) (leBytes_length _ _) (by rfl) hr8 S3.out hz8 ?_; intro v9 w9 hown9 hg9 hat9; have HS4 := Lib.hid (HS3.out.more hb8 hown9 hg9); clear hown9 hg9 hat9 hr8 hb8 ho8 hz8 m0 m1 m2 m3 HS3)
      first
        | exact ⟨⟨k + 1, HLT.out, rfl, by rw [HB.out]; exact HS4.out⟩, step_less HLT.out⟩
        | (have h3 := wrap_next (k := k) (by have := HLT.out; have := HNL.out; omega)
           rw [h3]
           exact ⟨⟨k + 1, HLT.out, rfl, by rw [HB.out]; exact HS4.out⟩, step_less HLT.out⟩)
    · have hkN : k = N := by omega
      subst hkN
      have HR := Lib.hid hR
      clear hR
      go_wp2_with fail
      go_ret
      exact ⟨_, rfl, HR.out.row, HR.out.below⟩

end Go.Proofs.YtldmjnbmjfnfeaaGreatDoor

namespace Go.Proofs.YtldmjnbmjfnfeaaGreatDoor
open Go Go.RowKit

theorem yput_wrong {w : World} {a : Option Addr} {L : List Sym} (h : Syms w w.heap.size a L) (c : Nat) (hl : L.length ≤ 100000) (hr : rightY L = false) :
    Calls Tryz.prog 58 #[.slice a L.length c] w fun r w' => r = .returned (.tuple #[.slice none 0 0, .slice none 0 0, .int .i64 2]) ∧ Below w.heap.size w w' := by
  have HR := Lib.hid (yright_any h c hl)
  rw [hr] at HR
  clear h hl hr
  generalize L.length = n at *
  go_enter Tryz.func58, Tryz.ntmps58
  go_wp2_with (go_at_call 40; refine HR.out.mono ?_; rintro r w1 ⟨rfl, hb1⟩)
  go_ret3
  exact ⟨rfl, hb1⟩

set_option maxRecDepth 10000 in
set_option maxHeartbeats 3200000 in
theorem yput_right {w : World} {a : Option Addr} {L : List Sym} (h : Syms w w.heap.size a L) (c : Nat) (hr : rightY L = true) (hs : sumN L ≤ 50000) :
    Calls Tryz.prog 58 #[.slice a L.length c] w fun r w' => ∃ u v, r = .returned (.tuple #[u, v, .int .i64 0]) ∧ Own w' w.heap.size u (tabK L L.length) ∧ Own w' w.heap.size v (putsT (texK L L.length)) ∧ (∀ x, u.ownBlock = some x → v.ownBlock ≠ some x) ∧ Below w.heap.size w w' := by
  obtain ⟨hl4, hok⟩ := rightY_all hr
  have HR := Lib.hid (yright_any h c (by omega))
  rw [hr] at HR
  have HH := Lib.hid h
  have HOK := Lib.hid hok
  have HSU := Lib.hid hs
  have HL4 := Lib.hid hl4
  generalize hN : L.length = N at *
  have HN := Lib.hid hN
  have HNW := Lib.hid (fun W => pnew_any W)
  clear h hl4 hok hr hs hN
  go_enter Tryz.func58, Tryz.ntmps58
  go_wp2_with (first
    | (go_at_call 40; refine HR.out.mono ?_; rintro r w1 ⟨rfl, hb1⟩; have HB1 := Lib.hid hb1; clear hb1)
    | (go_at_call 101; refine (HNW.out _).mono ?_; rintro r w2 ⟨g, mb, rfl, hp2, hb2⟩; have HP2 := Lib.hid (hp2.base_le HB1.out.size); have HB2 := Lib.hid (HB1.out.trans (hb2.mono HB1.out.size)); have HA := Lib.hid (add_ap HP2.out [] (by decide)); clear hp2 hb2)
    | (go_at_call 102; refine HA.out.mono ?_; rintro r w3 ⟨rfl, v3, hp3, ho3, hf3⟩; have HT3 := Lib.hid (TabSt.added (u := .slice none 0 0) (T := []) ⟨World.ownsRow_nil _ _ _ _, HP2.out, (fun x hx => by simp [Value.ownBlock] at hx), HB2.out⟩ hp3 ho3 hf3); clear hp3 ho3 hf3 HA))
  rw [show (addT [] []).1 = texK L 0 from rfl] at HT3
  clear HR HNW HP2 HB2
  go_loopw [2, 20] (fun u i wr => ∃ (k : Nat) (v : Value), k ≤ N ∧ i = .int .i64 k ∧ TabSt w wr g mb u v (tabK L k) (texK L k)) (fun _ i _ => N - (intOf i).toNat)
  case atStart => exact ⟨0, v3, Nat.zero_le _, rfl, HT3.out⟩
  case round =>
    obtain ⟨k, v, hk, rfl, hT⟩ := hrel
    clear HT3
    by_cases hlt : k < N
    · have HLT := Lib.hid hlt
      obtain ⟨x, hx⟩ : ∃ x, L[k]? = some x := ⟨L[k]'(by rw [HN.out]; exact hlt), List.getElem?_eq_getElem _⟩
      obtain ⟨b, o, rfl, hb, c0, c1, c2, c3, c4, c5⟩ := sym_at (HH.out.below hT.below) hx
      obtain ⟨hrt, ⟨hb0, hb1⟩, ⟨hk0, hk1⟩, hs0, hs1⟩ := okY_facts (HOK.out x (List.mem_of_getElem? hx))
      have hspan : spanT (texK L k) ≤ 60000 := by
        have h1 := texK_span L k (by rw [HN.out]; omega)
        have h2 := sumN_take L k
        have h3 := HSU.out
        have h4 := HL4.out
        omega
      have HADD := Lib.hid (addT_ok hrt hspan).1
      have HTX := Lib.hid (texK_next hx)
      have HTB := Lib.hid (tabK_next hx)
      have HTL := Lib.hid (tabK_length L k)
      have HA := Lib.hid (add_ap (hT.alloc (.cells #[.string ⟨x.name.toArray⟩, .int .i64 x.bind, .int .i64 x.kind, .int .i64 x.sect, .int .u64 (x.value : Int), .int .u64 (x.size : Int)] 51)).pool x.name (by have := (rightT_spec hrt).1; omega))
      have HX := Lib.hid (Box.new wr 51 #[.string ⟨x.name.toArray⟩, .int .i64 x.bind, .int .i64 x.kind, .int .i64 x.sect, .int .u64 (x.value : Int), .int .u64 (x.size : Int)])
      have HT := Lib.hid (hT.alloc (.cells #[.string ⟨x.name.toArray⟩, .int .i64 x.bind, .int .i64 x.kind, .int .i64 x.sect, .int .u64 (x.value : Int), .int .u64 (x.size : Int)] 51))
      obtain ⟨bi, hbi⟩ : ∃ n : Nat, x.bind = (n : Int) := ⟨x.bind.toNat, by omega⟩
      obtain ⟨ki, hki⟩ : ∃ n : Nat, x.kind = (n : Int) := ⟨x.kind.toNat, by omega⟩
      obtain ⟨se, hse⟩ : ∃ n : Nat, x.sect = (n : Int) := ⟨x.sect.toNat, by omega⟩
      have hor := or_low bi ki (by omega) (by omega)
      have HIT := Lib.hid (show itsY (addT (texK L k) x.name).2.1 x = [((addT (texK L k) x.name).2.1, 4), (bi * 16 + ki, 1), (0, 1), (se, 2), (x.value, 8), (x.size, 8)] by
        unfold itsY
        rw [hbi, hki, hse, show ((bi : Int) * 16 + (ki : Int)) = ((bi * 16 + ki : Nat) : Int) by omega]
        have e1 : wrapN ((bi * 16 + ki : Nat) : Int) = bi * 16 + ki := by unfold wrapN; rw [IntKind.wrap_u64]; omega
        have e2 : wrapN (se : Int) = se := by unfold wrapN; rw [IntKind.wrap_u64]; omega
        rw [e1, e2])
      rw [hbi, hki, hse] at HA HX HT
      rw [hbi] at c1
      rw [hki] at c2
      rw [hse] at c3
      have hbi5 : bi ≤ 15 := by omega
      have hki5 : ki ≤ 15 := by omega
      have hse5 : se ≤ 65534 := by omega
      clear hT hx hb hrt hb0 hb1 hk0 hk1 hs0 hs1 hspan hbi hki hse
      rw [HADD.out] at HA
      generalize (addT (texK L k) x.name).2.1 = p at *
      generalize itsY p x = its at *
      generalize (addT (texK L k) x.name).1 = tx at *
      generalize x.value = x4 at *
      generalize x.size = x5 at *
      generalize ByteArray.mk x.name.toArray = sb at *
      obtain ⟨bm, hbm⟩ : ∃ m, bi * 16 = m := ⟨_, rfl⟩
      have e1 : (bi : Int) * 16 = (bm : Int) := by omega
      rw [hbm] at hor HIT
      obtain ⟨bo, hbo⟩ : ∃ m, bm + ki = m := ⟨_, rfl⟩
      rw [hbo] at hor HIT
      have hbm2 : bm ≤ 240 := by omega
      have hbo2 : bo ≤ 255 := by omega
      have e2 : IntKind.i64.wrap (bm : Int) = (bm : Int) := by rw [IntWalk.i64_in _ (by omega)]
      have e3 : IntKind.u64.wrap (bo : Int) = (bo : Int) := by rw [IntWalk.u64_in _ (by omega)]
      have e4 : IntKind.u64.wrap (se : Int) = (se : Int) := by rw [IntWalk.u64_in _ (by omega)]
      clear hbm hbo
      go_wp2_with (first
        | (go_at_call 102; refine HA.out.mono ?_; rintro r w4 ⟨rfl, v4, hp4, ho4, hf4⟩; have HT4 := Lib.hid (HT.out.added hp4 ho4 hf4); (obtain ⟨q0, q1, q2, q3, q4, q5⟩ := six_cells (box_pool HX.out (by decide) (by decide) ho4)); clear hp4 ho4 hf4 HA HT HX))
      have HBX := Lib.hid (show Box (w4.alloc (.cells #[.int .u64 (p : Int), .int .i64 4, .int .u64 (bo : Int), .int .i64 1, .int .u64 0, .int .i64 1, .int .u64 (se : Int), .int .i64 2, .int .u64 (x4 : Int), .int .i64 8, .int .u64 (x5 : Int), .int .i64 8] 175)) w4.heap.size 175 #[.int .u64 (p : Int), .int .i64 4, .int .u64 (bo : Int), .int .i64 1, .int .u64 0, .int .i64 1, .int .u64 (se : Int), .int .i64 2, .int .u64 (x4 : Int), .int .i64 8, .int .u64 (x5 : Int), .int .i64 8] from Box.new _ _ _)
      have HT5 := Lib.hid (HT4.out.alloc (.cells #[.int .u64 (p : Int), .int .i64 4, .int .u64 (bo : Int), .int .i64 1, .int .u64 0, .int .i64 1, .int .u64 (se : Int), .int .i64 2, .int .u64 (x4 : Int), .int .i64 8, .int .u64 (x5 : Int), .int .i64 8] 175))
      have HL6 := Lib.hid (show its.length = 6 ∧ (∀ y ∈ its, y.2 ≤ 8) by rw [HIT.out]; exact ⟨rfl, by simp⟩)
      have HIV := Lib.hid (show (itsV its).toArray = #[.int .u64 (p : Int), .int .i64 4, .int .u64 (bo : Int), .int .i64 1, .int .u64 0, .int .i64 1, .int .u64 (se : Int), .int .i64 2, .int .u64 (x4 : Int), .int .i64 8, .int .u64 (x5 : Int), .int .i64 8] by rw [HIT.out]; rfl)
      clear q0 q1 q2 q3 q4 q5 HT4 hlt
      generalize w4.heap.size = H at *
      generalize hWX : w4.alloc (.cells #[.int .u64 (p : Int), .int .i64 4, .int .u64 (bo : Int), .int .i64 1, .int .u64 0, .int .i64 1, .int .u64 (se : Int), .int .i64 2, .int .u64 (x4 : Int), .int .i64 8, .int .u64 (x5 : Int), .int .i64 8] 175) = w5 at *
      clear hWX
      generalize wr = wx at *
      go_loopw [2, 56] (fun u i wr => ∃ (j : Nat) (v : Value), j ≤ 6 ∧ i = .int .i64 j ∧ TabSt w wr g mb u v (tabK L k ++ itsB (its.take j)) tx ∧ Box wr H 175 (itsV its).toArray) (fun _ i _ => 6 - (intOf i).toNat)
      case atStart => exact ⟨0, v4, Nat.zero_le _, rfl, by rw [List.take_zero, show itsB [] = [] from rfl, List.append_nil]; exact HT5.out, by rw [HIV.out]; exact HBX.out⟩
      case round =>
        obtain ⟨j, v, hj, rfl, hT, hX⟩ := hrel
        clear HT5 HBX
        by_cases hjl : j < 6
        · obtain ⟨y, q, hyq⟩ : ∃ y q, its[j]? = some (y, q) := ⟨_, _, List.getElem?_eq_getElem (show j < its.length by rw [HL6.out.1]; exact hjl)⟩
          obtain ⟨hd0, hd1⟩ := itsV_at _ j y q hyq
          have HS := Lib.hid (itsB_step _ j y q hyq)
          have hq : q ≤ 8 := HL6.out.2 _ (List.mem_of_getElem? hyq)
          have hlen := itsB_le its j HL6.out.2
          have hlen2 : (tabK L k ++ itsB (its.take j)).length ≤ 140737488355000 := by
            have h1 := HTL.out
            have h2 := HL6.out.1
            have h3 := HLT.out
            have h4 := HL4.out
            rw [List.length_append]
            omega
          have d0 : wr.cell? ⟨H, j * 2, none⟩ = some (.int .u64 (y : Int)) := by rw [hX.cell]; simpa using hd0
          have d1 : wr.cell? ⟨H, j * 2 + 1, none⟩ = some (.int .i64 (q : Int)) := by rw [hX.cell]; simpa using hd1
          have hclamp : clampOf (q : Int) = q := by unfold clampOf; omega
          have hT0 := hT.alloc (.cells #[.int .u64 (y : Int), .int .i64 (q : Int)] 175)
          have hP := put_any hT0.row hT0.below.size y q (by omega) hlen2
          rw [hclamp] at hP
          have HP := Lib.hid hP
          have HT0 := Lib.hid hT0
          have HX := Lib.hid hX
          have hGl := hX.lt
          have hb0 : Below wr.heap.size wr (wr.alloc (.cells #[.int .u64 (y : Int), .int .i64 (q : Int)] 175)) := (Below.refl _ _).alloc (Nat.le_refl _) _
          have HB0 := Lib.hid hb0
          clear hd0 hd1 hyq hlen hlen2 hclamp hP hT0 hT hX hb0 hq
          go_wp2_with (go_at_call 63; refine HP.out.mono ?_; rintro r w7 ⟨v7, rfl, hL⟩)
          have HT7 := Lib.hid (HT0.out.laid hL)
          have HX7 := Lib.hid ((HX.out.below HB0.out HX.out.lt).grown hL.2.1 (by have := own_other HT0.out.row (HX.out.below HB0.out HX.out.lt) (by decide); exact fun e => this e.symm))
          clear hL HP HT0 HX HB0 d0 d1
          go_roundw
          case rel => exact ⟨j + 1, v, by omega, by go_num, by rw [HS.out, ← List.append_assoc]; exact HT7.out, HX7.out⟩
          case measure => simp [intOf]; omega
        · have HT7 := Lib.hid (show TabSt w wr g mb u2 v (tabK L (k + 1)) (texK L (k + 1)) by
            rw [show j = 6 by omega, List.take_of_length_le (by rw [HL6.out.1]; exact Nat.le_refl _)] at hT
            rw [HTB.out, HTX.out]
            exact hT)
          clear hT hX
          go_wp2_with fail
          have h3 := wrap_next (Nat.le_trans (Nat.le_of_lt HLT.out) (Nat.le_trans HL4.out (by decide)))
          rw [h3]
          exact ⟨⟨k + 1, v, HLT.out, rfl, HT7.out⟩, step_less HLT.out⟩
    · have hkN : k = N := by omega
      subst hkN
      have HT := Lib.hid hT
      have HY := Lib.hid (bytes_at hT.pool)
      clear hT
      go_wp2_with (go_at_call 103; refine HY.out.mono ?_; rintro r w9 ⟨v9, rfl, ho9, hb9⟩)
      go_ret3
      exact ⟨_, _, rfl, own_below HT.out.row hb9, own_up ho9 HT.out.below.size, fun x hx hv => by
        have h1 := (own_ge HT.out.row x hx).2
        have h2 := (own_ge ho9 x hv).1
        omega, HT.out.below.trans (hb9.mono HT.out.below.size)⟩

/-- Put, of whatever symbols. -/
theorem yput_any {w : World} {a : Option Addr} {L : List Sym} (h : Syms w w.heap.size a L) (c : Nat) (hl : L.length ≤ 100000) (hs : sumN L ≤ 50000) :
    Calls Tryz.prog 58 #[.slice a L.length c] w fun r w' => ∃ u v, r = .returned (.tuple #[u, v, .int .i64 (errOf (rightY L) 2)]) ∧ Own w' w.heap.size u (tabY L) ∧ Own w' w.heap.size v (txtY L) ∧ (∀ x, u.ownBlock = some x → v.ownBlock ≠ some x) ∧ Below w.heap.size w w' := by
  unfold tabY txtY
  cases hr : rightY L with
  | true => exact yput_right h c hr hs
  | false => exact (yput_wrong h c hl hr).mono fun r w' ⟨e, hb⟩ => ⟨_, _, e, World.ownsRow_nil _ _ _ _, World.ownsRow_nil _ _ _ _, (fun x hx => by simp [Value.ownBlock] at hx), hb⟩

end Go.Proofs.YtldmjnbmjfnfeaaGreatDoor

namespace Go.Proofs.YtldmjnbmjfnfeaaGreatDoor
open Go Go.RowKit

theorem ref_rows {w w' : World} {base b g : Nat} {t : Value} {T : List (List UInt8)} (h : RefAt w base g t T) (hb : Only b (CellsOf 5) w w') : RefAt w' base g t T :=
  h.kept hb (fun cs f hh => absurd (show 132 = 5 from hh) (by decide)) (fun cs f hh => absurd (show 9 = 5 from hh) (by decide))
/-- A row of bytes of the call's own, and the document's pool. -/
structure DocSt (w wr : World) (g : Nat) (u : Value) (T : List UInt8) (ls : List (List UInt8)) : Prop where
  st : RelSt w wr u T
  pool : ∃ t, RefAt wr w.heap.size g t ls
section
variable {w wr w' w2 w3 : World} {g : Nat} {u u' : Value} {T T' : List UInt8} {ls ls' : List (List UInt8)}
theorem DocSt.more (h : DocSt w wr g u T ls) (hb : Below wr.heap.size wr w2) (ho : Own w3 w.heap.size u' T') (hg : w2.grownBy w3 u.ownBlock) : DocSt w w3 g u' T' ls := by
  refine ⟨h.st.more hb ho hg, ?_⟩
  obtain ⟨t, ht⟩ := h.pool
  exact ⟨t, ref_rows (ht.below hb) (row_turns (own_below h.st.row hb) hg (Nat.le_trans h.st.below.size hb.size))⟩
theorem DocSt.added (h : DocSt w wr g u T ls) (hp : ∃ t, RefAt w' w.heap.size g t ls') (ho : Only w.heap.size RefObj wr w') : DocSt w w' g u T ls' :=
  ⟨⟨row_only h.st.row ho (fun cs f hh => by rcases hh with hh | hh <;> revert hh <;> decide), h.st.below.trans ho.1⟩, hp⟩
end
theorem sym_cells {w wr : World} {b o : Nat} {L : List Sym} (h : Syms w w.heap.size (some ⟨b, o, none⟩) L) (hb : Below w.heap.size w wr) {i : Nat} {x : Sym} (hx : L[i]? = some x) :
    wr.cell? ⟨b, o + i * 6, none⟩ = some (.string ⟨x.name.toArray⟩) ∧ wr.cell? ⟨b, o + i * 6 + 1, none⟩ = some (.int .i64 x.bind) ∧ wr.cell? ⟨b, o + i * 6 + 2, none⟩ = some (.int .i64 x.kind) ∧
    wr.cell? ⟨b, o + i * 6 + 3, none⟩ = some (.int .i64 x.sect) ∧ wr.cell? ⟨b, o + i * 6 + 4, none⟩ = some (.int .u64 (x.value : Int)) ∧ wr.cell? ⟨b, o + i * 6 + 5, none⟩ = some (.int .u64 (x.size : Int)) := by
  obtain ⟨b', o', e, _, k⟩ := sym_at (h.below hb) hx
  cases e
  exact k
theorem texK_one (L : List Sym) : texK L 0 = [[]] := by rw [texK_zero]; rfl
theorem texK_good (L : List Sym) (k : Nat) : GoodT (texK L k) := gat_good _
theorem ref_one (w : World) : RefAt ((w.alloc (.cells #[.string ⟨#[]⟩] 9)).alloc (.cells #[.slice (some ⟨w.heap.size, 0, none⟩) 1 1] 132)) w.heap.size (w.heap.size + 1) (.slice (some ⟨w.heap.size, 0, none⟩) 1 1) [[]] :=
  ⟨by have := Box.new (w.alloc (.cells #[.string ⟨#[]⟩] 9)) 132 #[.slice (some ⟨w.heap.size, 0, none⟩) 1 1]; simpa using this, by omega, (World.ownsRow_lit (e := 9) (size := 1) w #[.string ⟨#[]⟩] 1 (Nat.le_refl _) (by unfold maxLen; decide) rfl).alloc _⟩

theorem ryput_wrong {w : World} {a : Option Addr} {L : List Sym} (h : Syms w w.heap.size a L) (c : Nat) (hl : L.length ≤ 100000) (hn : ∀ x ∈ L, x.name.length ≤ 100000) (hr : rightY L = false) :
    Calls Tryz.prog 34 #[.slice a L.length c] w fun r w' => r = .returned (.tuple #[.slice none 0 0, .slice none 0 0, .int .i64 2]) ∧ Below w.heap.size w w' := by
  have HR := Lib.hid (ryright_any h c hl hn)
  rw [hr] at HR
  clear h hl hr hn
  generalize L.length = n at *
  go_enter Tryz.func34, Tryz.ntmps34
  go_wp2_with (go_at_call 45; refine HR.out.mono ?_; rintro r w1 ⟨rfl, hb1⟩)
  go_ret3
  exact ⟨rfl, hb1⟩

set_option maxRecDepth 10000 in
set_option maxHeartbeats 3200000 in
theorem ryput_right {w : World} {a : Option Addr} {L : List Sym} (h : Syms w w.heap.size a L) (c : Nat) (hn : ∀ x ∈ L, x.name.length ≤ 100000 ∧ x.value < two64 ∧ x.size < two64) (hr : rightY L = true) (hs : sumN L ≤ 50000) :
    Calls Tryz.prog 34 #[.slice a L.length c] w fun r w' => ∃ u v, r = .returned (.tuple #[u, v, .int .i64 0]) ∧ Own w' w.heap.size u (tabK L L.length) ∧ Own w' w.heap.size v (putsT (texK L L.length)) ∧ Below w.heap.size w w' := by
  obtain ⟨i0, hi, hz0, hz1, hz2⟩ := info_parts u8_info
  obtain ⟨hl4, hok⟩ := rightY_all hr
  have HR := Lib.hid (ryright_any h c (by omega) (fun x hx => (hn x hx).1))
  rw [hr] at HR
  have HH := Lib.hid h
  have HOK := Lib.hid hok
  have HSU := Lib.hid hs
  have HL4 := Lib.hid hl4
  have HNM := Lib.hid hn
  generalize hN : L.length = N at *
  have HN := Lib.hid hN
  clear h hl4 hok hr hs hN hn
  go_enter Tryz.func34, Tryz.ntmps34
  go_wp2_with (go_at_call 45; refine HR.out.mono ?_; rintro r w1 ⟨rfl, hb1⟩; have HB1 := Lib.hid hb1; clear hb1)
  have hA := ((Below.refl w1.heap.size w1).alloc (Nat.le_refl _) (.cells #[.string ⟨#[]⟩] 9)).alloc (by simp) (.cells #[.slice (some ⟨w1.heap.size, 0, none⟩) 1 1] 132)
  have HD := Lib.hid (show DocSt w ((w1.alloc (.cells #[.string ⟨#[]⟩] 9)).alloc (.cells #[.slice (some ⟨w1.heap.size, 0, none⟩) 1 1] 132)) (w1.heap.size + 1) (.slice none 0 0) (tabK L 0) (texK L 0) from
    ⟨⟨World.ownsRow_nil _ _ _ _, HB1.out.trans (hA.mono HB1.out.size)⟩, _, by
      have := ref_one w1
      rw [texK_one]
      exact ⟨this.1, Nat.le_trans HB1.out.size this.2.1, row_base this.2.2 HB1.out.size⟩⟩)
  clear hA HR
  generalize hg : w1.heap.size + 1 = g at *
  go_loopw [6, 7] (fun u i wr => ∃ k : Nat, k ≤ N ∧ i = .int .i64 k ∧ DocSt w wr g u (tabK L k) (texK L k)) (fun _ i _ => N - (intOf i).toNat)
  case atStart => exact ⟨0, Nat.zero_le _, rfl, HD.out⟩
  case round =>
    obtain ⟨k, hk, rfl, hT⟩ := hrel
    clear HD
    by_cases hlt : k < N
    · have HLT := Lib.hid hlt
      obtain ⟨x, hx⟩ : ∃ x, L[k]? = some x := ⟨L[k]'(by rw [HN.out]; exact hlt), List.getElem?_eq_getElem _⟩
      obtain ⟨b, o, rfl, hb, c0, c1, c2, c3, c4, c5⟩ := sym_at (HH.out.below hT.st.below) hx
      obtain ⟨hrt, ⟨hb0, hb1⟩, ⟨hk0, hk1⟩, hs0, hs1⟩ := okY_facts (HOK.out x (List.mem_of_getElem? hx))
      obtain ⟨hnl, hv4, hv5⟩ := HNM.out x (List.mem_of_getElem? hx)
      have hspan : spanT (texK L k) ≤ 60000 := by
        have h1 := texK_span L k (by rw [HN.out]; omega)
        have h2 := sumN_take L k
        have h3 := HSU.out
        have h4 := HL4.out
        omega
      have HC := Lib.hid (fun W (hW : Below w.heap.size w W) => sym_cells HH.out hW hx)
      have HADD := Lib.hid (addT_ok hrt hspan).1
      have HTX := Lib.hid (texK_next hx)
      have HTB := Lib.hid (tabK_next hx)
      have HTL := Lib.hid (tabK_length L k)
      obtain ⟨tv, htv⟩ := hT.pool
      have HA := Lib.hid (radd_at htv (texK_good L k) x.name (by omega))
      have HAT := addT_at (texK_good L k) x.name
      obtain ⟨bi, hbi⟩ : ∃ n : Nat, x.bind = (n : Int) := ⟨x.bind.toNat, by omega⟩
      obtain ⟨ki, hki⟩ : ∃ n : Nat, x.kind = (n : Int) := ⟨x.kind.toNat, by omega⟩
      obtain ⟨se, hse⟩ : ∃ n : Nat, x.sect = (n : Int) := ⟨x.sect.toNat, by omega⟩
      obtain ⟨bm, hbm⟩ : ∃ m, bi * 16 = m := ⟨_, rfl⟩
      obtain ⟨bo, hbo⟩ : ∃ m, bm + ki = m := ⟨_, rfl⟩
      have HIT := Lib.hid (show itsB (itsY (addT (texK L k) x.name).2.1 x) = leBytes (addT (texK L k) x.name).2.1 4 ++ ([UInt8.ofNat bo] ++ ([0] ++ (leBytes se 2 ++ (leBytes x.value 8 ++ leBytes x.size 8)))) by
        unfold itsY
        rw [hbi, hki, hse, show ((bi : Int) * 16 + (ki : Int)) = (bo : Int) by omega]
        have e1 : wrapN (bo : Int) = bo := by unfold wrapN; rw [IntKind.wrap_u64]; omega
        have e2 : wrapN (se : Int) = se := by unfold wrapN; rw [IntKind.wrap_u64]; omega
        rw [e1, e2]
        have e3 : leBytes bo 1 = [UInt8.ofNat bo] := by
          have : bo < 256 := by omega
          simp [leBytes, Nat.mod_eq_of_lt this]
        have e4 : leBytes 0 1 = [0] := rfl
        simp only [itsB, List.flatMap_cons, List.flatMap_nil, e3, e4, List.append_nil])
      rw [hbi] at c1 HC
      rw [hki] at c2 HC
      rw [hse] at c3 HC
      have hbi5 : bi ≤ 15 := by omega
      have hki5 : ki ≤ 15 := by omega
      have hse5 : se ≤ 65534 := by omega
      have e1 : (bi : Int) * 16 = (bm : Int) := by omega
      have e6 : (bm : Int) + (ki : Int) = (bo : Int) := by omega
      have hbm2 : bm ≤ 240 := by omega
      have hbo2 : bo ≤ 255 := by omega
      have e2 : IntKind.i64.wrap (bm : Int) = (bm : Int) := by rw [IntWalk.i64_in _ (by omega)]
      have e5 : IntKind.i64.wrap (bo : Int) = (bo : Int) := by rw [IntWalk.i64_in _ (by omega)]
      have e3 : IntKind.u8.wrap (bo : Int) = (bo : Int) := by rw [IntKind.wrap_u8]; omega
      have e4 : IntKind.u64.wrap (se : Int) = (se : Int) := by rw [IntWalk.u64_in _ (by omega)]
      have HT := Lib.hid hT
      clear hT hx hb hrt hb0 hb1 hk0 hk1 hs0 hs1 hspan hbi hki hse hbm hbo hnl htv
      rw [HADD.out] at HA
      generalize (addT (texK L k) x.name).2.1 = p at *
      generalize (addT (texK L k) x.name).1 = tx at *
      generalize itsY p x = its at *
      generalize x.value = x4 at *
      generalize x.size = x5 at *
      generalize ByteArray.mk x.name.toArray = sb at *
      have P0 := Lib.hid (fun W => rput_num W p 4 (by unfold two64; omega) (by decide))
      have P3 := Lib.hid (fun W => rput_num W se 2 (by unfold two64; omega) (by decide))
      have P4 := Lib.hid (fun W => rput_num W x4 8 hv4 (by decide))
      have P5 := Lib.hid (fun W => rput_num W x5 8 hv5 (by decide))
      clear hv4 hv5 HAT
      go_wp2_with (go_at_call 66; refine HA.out.mono ?_; rintro r w2 ⟨rfl, hp2, ho2⟩; have HS0 := Lib.hid (HT.out.added hp2 ho2); (obtain ⟨d0, d1, d2, d3, d4, d5⟩ := HC.out _ HS0.out.st.below); clear hp2 ho2 HA HT c0 c1 c2 c3 c4 c5)
      refine (P0.out _).mono ?_
      rintro r w3 ⟨A3, b3, rfl, hr3, hb3⟩
      have ho3 := own_below HS0.out.st.row hb3
      have hz3 : w.heap.size ≤ w3.heap.size := Nat.le_trans HS0.out.st.below.size hb3.size
      have hTl : (tabK L k).length ≤ 9600 := by have h1 := HTL.out; have h2 := HLT.out; have h3 := HL4.out; omega
      generalize hT : tabK L k = T at *
      have s0 : T.length + (leBytes p 4).length ≤ 140737488355328 := by rw [leBytes_length]; omega
      have s1 : (T ++ leBytes p 4).length + [UInt8.ofNat bo].length ≤ 140737488355328 := by simp only [List.length_append, leBytes_length, List.length_singleton]; omega
      have s2 : (T ++ leBytes p 4 ++ [UInt8.ofNat bo]).length + [(0 : UInt8)].length ≤ 140737488355328 := by simp only [List.length_append, leBytes_length, List.length_singleton]; omega
      have s3 : (T ++ leBytes p 4 ++ [UInt8.ofNat bo] ++ [0]).length + (leBytes se 2).length ≤ 140737488355328 := by simp only [List.length_append, leBytes_length, List.length_singleton]; omega
      have s4 : (T ++ leBytes p 4 ++ [UInt8.ofNat bo] ++ [0] ++ leBytes se 2).length + (leBytes x4 8).length ≤ 140737488355328 := by simp only [List.length_append, leBytes_length, List.length_singleton]; omega
      have s5 : (T ++ leBytes p 4 ++ [UInt8.ofNat bo] ++ [0] ++ leBytes se 2 ++ leBytes x4 8).length + (leBytes x5 8).length ≤ 140737488355328 := by simp only [List.length_append, leBytes_length, List.length_singleton]; omega
      have S0 := Lib.hid s0
      have S1 := Lib.hid s1
      have S2 := Lib.hid s2
      have S3 := Lib.hid s3
      have S4 := Lib.hid s4
      have S5 := Lib.hid s5
      have HBT := Lib.hid (show (bo : Int) = ((UInt8.ofNat bo).toNat : Int) by simp; omega)
      clear s0 s1 s2 s3 s4 s5 hTl hT
      go_wp2_with (at_builtin; refine wpList_append_bytes (by rfl) (.tmp 34) (.tmp 36) _ (by rfl) w.heap.size i0 Tryz.underlying22 hi hz0 hz1 hz2 u6 T (by rfl) ho3 w3.heap.size A3 4 b3 (leBytes p 4) (leBytes_length _ _) (by rfl) hr3 S0.out hz3 ?_; intro v4 w4 hown4 hg4 hat4; have HS1 := Lib.hid (HS0.out.more hb3 hown4 hg4); (obtain ⟨f0, f1, f2, f3, f4, f5⟩ := HC.out _ HS1.out.st.below); clear hown4 hg4 hat4 hr3 hb3 ho3 hz3 d0 d1 d2 d3 d4 d5 HS0)
      have HRO := Lib.hid (rd_one w4 (bo : Int) _ HBT.out)
      have HBA := Lib.hid (((Below.refl w4.heap.size w4).alloc (Nat.le_refl _) (.cells #[.int .u8 (bo : Int)] 5)).drew)
      have hz4 : w.heap.size ≤ (w4.alloc (.cells #[.int .u8 (bo : Int)] 5)).heap.size := by have := HS1.out.st.below.size; simp; omega
      obtain ⟨-, g1, g2, -⟩ := HC.out _ (HS1.out.st.below.trans (HBA.out.mono HS1.out.st.below.size))
      go_region_held_law (fun W => W.cell? ⟨b, o + k * 6 + 1, none⟩ = some (.int .i64 (bi : Int)) ∧ W.cell? ⟨b, o + k * 6 + 2, none⟩ = some (.int .i64 (ki : Int))) (first | exact ⟨f1, f2⟩ | exact ⟨g1, g2⟩ | (refine ⟨?_, ?_⟩ <;> assumption))
        (first
          | (refine step_append_bytes (by rfl) (.tmp 38) (.tmp 52) _ (by rfl) w.heap.size i0 Tryz.underlying22 hi hz0 hz1 hz2 v4 (T ++ leBytes p 4) (by rfl) (by exact (HS1.out.st.row.alloc _)) (w4.heap.size + 1) (some ⟨w4.heap.size, 0, none⟩) 1 1 [UInt8.ofNat bo] rfl (by rfl) (by exact HRO.out) S1.out (by exact hz4) ?_; intro v5 w5 hown5 hg5 hat5; have HS2 := Lib.hid (HS1.out.more HBA.out hown5 hg5); (obtain ⟨m0, m1, m2, m3, m4, m5⟩ := HC.out _ HS2.out.st.below)))
      clear hown5 hg5 hat5 hz4 HRO HBA g1 g2 f0 f1 f2 f3 f4 f5 HS1
      have HR0 := Lib.hid (rd_one w5 0 (0 : UInt8) rfl)
      have hz5 : w.heap.size ≤ (w5.alloc (.cells #[.int .u8 0] 5)).heap.size := by have := HS2.out.st.below.size; simp; omega
      have ho5 := HS2.out.st.row.alloc (.cells #[.int .u8 0] 5)
      have HBA := Lib.hid ((Below.refl w5.heap.size w5).alloc (Nat.le_refl _) (.cells #[.int .u8 0] 5))
      go_wp2_with (at_builtin; refine wpList_append_bytes (by rfl) (.tmp 54) (.tmp 55) _ (by rfl) w.heap.size i0 Tryz.underlying22 hi hz0 hz1 hz2 v5 (T ++ leBytes p 4 ++ [UInt8.ofNat bo]) (by rfl) ho5 (w5.heap.size + 1) (some ⟨w5.heap.size, 0, none⟩) 1 1 [0] rfl (by rfl) HR0.out S2.out hz5 ?_; intro v6 w6 hown6 hg6 hat6; have HS3 := Lib.hid (HS2.out.more HBA.out hown6 hg6); (obtain ⟨n0, n1, n2, n3, n4, n5⟩ := HC.out _ HS3.out.st.below); clear hown6 hg6 hat6 ho5 hz5 m0 m1 m2 m3 m4 m5 HS2)
      refine (P3.out _).mono ?_
      rintro r w7 ⟨A7, b7, rfl, hr7, hb7⟩
      have ho7 := own_below HS3.out.st.row hb7
      have hz7 : w.heap.size ≤ w7.heap.size := Nat.le_trans HS3.out.st.below.size hb7.size
      go_wp2_with (at_builtin; refine wpList_append_bytes (by rfl) (.tmp 57) (.tmp 64) _ (by rfl) w.heap.size i0 Tryz.underlying22 hi hz0 hz1 hz2 v6 (T ++ leBytes p 4 ++ [UInt8.ofNat bo] ++ [0]) (by rfl) ho7 w7.heap.size A7 2 b7 (leBytes se 2) (leBytes_length _ _) (by rfl) hr7 S3.out hz7 ?_; intro v8 w8 hown8 hg8 hat8; have HS4 := Lib.hid (HS3.out.more hb7 hown8 hg8); (obtain ⟨m0, m1, m2, m3, m4, m5⟩ := HC.out _ HS4.out.st.below); clear hown8 hg8 hat8 hr7 hb7 ho7 hz7 n0 n1 n2 n3 n4 n5 HS3)
      refine (P4.out _).mono ?_
      rintro r w9 ⟨A9, b9, rfl, hr9, hb9⟩
      have ho9 := own_below HS4.out.st.row hb9
      have hz9 : w.heap.size ≤ w9.heap.size := Nat.le_trans HS4.out.st.below.size hb9.size
      go_wp2_with (at_builtin; refine wpList_append_bytes (by rfl) (.tmp 66) (.tmp 72) _ (by rfl) w.heap.size i0 Tryz.underlying22 hi hz0 hz1 hz2 v8 (T ++ leBytes p 4 ++ [UInt8.ofNat bo] ++ [0] ++ leBytes se 2) (by rfl) ho9 w9.heap.size A9 8 b9 (leBytes x4 8) (leBytes_length _ _) (by rfl) hr9 S4.out hz9 ?_; intro v10 w10 hown10 hg10 hat10; have HS5 := Lib.hid (HS4.out.more hb9 hown10 hg10); (obtain ⟨n0, n1, n2, n3, n4, n5⟩ := HC.out _ HS5.out.st.below); clear hown10 hg10 hat10 hr9 hb9 ho9 hz9 m0 m1 m2 m3 m4 m5 HS4)
      refine (P5.out _).mono ?_
      rintro r w11 ⟨A11, b11, rfl, hr11, hb11⟩
      have ho11 := own_below HS5.out.st.row hb11
      have hz11 : w.heap.size ≤ w11.heap.size := Nat.le_trans HS5.out.st.below.size hb11.size
      go_wp2_with (at_builtin; refine wpList_append_bytes (by rfl) (.tmp 74) (.tmp 80) _ (by rfl) w.heap.size i0 Tryz.underlying22 hi hz0 hz1 hz2 v10 (T ++ leBytes p 4 ++ [UInt8.ofNat bo] ++ [0] ++ leBytes se 2 ++ leBytes x4 8) (by rfl) ho11 w11.heap.size A11 8 b11 (leBytes x5 8) (leBytes_length _ _) (by rfl) hr11 S5.out hz11 ?_; intro v12 w12 hown12 hg12 hat12; have HS6 := Lib.hid (HS5.out.more hb11 hown12 hg12); clear hown12 hg12 hat12 hr11 hb11 ho11 hz11 n0 n1 n2 n3 n4 n5 HS5)
      have HEND := Lib.hid (show DocSt w w12 g v12 (tabK L (k + 1)) (texK L (k + 1)) by
        rw [HTB.out, HTX.out, HIT.out]
        have := HS6.out
        simp only [List.append_assoc] at this
        exact this)
      first
        | exact ⟨⟨k + 1, HLT.out, rfl, HEND.out⟩, step_less HLT.out⟩
        | (have h3 := wrap_next (k := k) (Nat.le_trans (Nat.le_of_lt HLT.out) (Nat.le_trans HL4.out (by decide)))
           rw [h3]
           exact ⟨⟨k + 1, HLT.out, rfl, HEND.out⟩, step_less HLT.out⟩)
    · have hkN : k = N := by omega
      subst hkN
      have HT := Lib.hid hT
      obtain ⟨tv, htv⟩ := hT.pool
      have HY := Lib.hid (rbytes_at htv (Nat.le_trans (texK_good L k).2.1 (by decide)))
      clear hT htv
      go_wp2_with (go_at_call 68; refine HY.out.mono ?_; rintro r w9 ⟨v9, rfl, ho9, hb9⟩)
      go_ret3
      exact ⟨_, _, rfl, own_below HT.out.st.row hb9, own_up ho9 HT.out.st.below.size, HT.out.st.below.trans (hb9.mono HT.out.st.below.size)⟩

/-- The document's Put, of whatever symbols. -/
theorem ryput_any {w : World} {a : Option Addr} {L : List Sym} (h : Syms w w.heap.size a L) (c : Nat) (hl : L.length ≤ 100000) (hn : ∀ x ∈ L, x.name.length ≤ 100000 ∧ x.value < two64 ∧ x.size < two64) (hs : sumN L ≤ 50000) :
    Calls Tryz.prog 34 #[.slice a L.length c] w fun r w' => ∃ u v, r = .returned (.tuple #[u, v, .int .i64 (errOf (rightY L) 2)]) ∧ Own w' w.heap.size u (tabY L) ∧ Own w' w.heap.size v (txtY L) ∧ Below w.heap.size w w' := by
  unfold tabY txtY
  cases hr : rightY L with
  | true => exact ryput_right h c hn hr hs
  | false => exact (ryput_wrong h c hl (fun x hx => (hn x hx).1) hr).mono fun r w' ⟨e, hb⟩ => ⟨_, _, e, World.ownsRow_nil _ _ _ _, World.ownsRow_nil _ _ _ _, hb⟩

end Go.Proofs.YtldmjnbmjfnfeaaGreatDoor

namespace Go.Proofs.YtldmjnbmjfnfeaaGreatDoor
open Go Go.RowKit

def relaN : List UInt8 := [46, 114, 101, 108, 97]
theorem cat_bytes (l m : List UInt8) : (ByteArray.mk l.toArray) ++ (ByteArray.mk m.toArray) = ⟨(l ++ m).toArray⟩ := by
  apply ByteArray.ext
  simp [ByteArray.data_append]
theorem cat_rela (nm : List UInt8) (h : nm.length ≤ 100000) (W : World) : (Op.stringOp .add (ByteArray.mk #[46, 114, 101, 108, 97]) (ByteArray.mk nm.toArray)).run Tryz.prog W = .ok (.string ⟨(relaN ++ nm).toArray⟩) W := by
  rw [← cat_bytes]
  exact run_string_add_sum (P := Tryz.prog) W (ByteArray.mk #[46, 114, 101, 108, 97]) (ByteArray.mk nm.toArray) (by
    show 5 + nm.length ≤ _
    omega)

def symtabS (n : Nat) (d : List UInt8) : Sect := ⟨symtabN, 2, 0, 0, d, (n : Int) + 1, 0, 0, 24⟩
def strtabS (d : List UInt8) : Sect := ⟨strtabN, 3, 0, 0, d, 0, 0, 0, 0⟩
def relaS (n i : Nat) (nm : List UInt8) (l : List Rel) : Sect := ⟨relaN ++ nm, 4, 0, 0, relB l l.length, (n : Int), (i : Int), 0, 24⟩
/-- The sections, and those that have the symbols. -/
def headF (S : List Sect) (Y : List Sym) : List Sect := S ++ (if Y.length = 0 then [] else [symtabS S.length (tabY Y), strtabS (txtY Y)])
/-- The relocations of the first k sections. -/
def relF (S : List Sect) (R : List (List Rel)) : Nat → List Sect
  | 0 => []
  | k + 1 => relF S R k ++ (match S[k]?, R[k]? with
    | some s, some l => if l.length = 0 then [] else [relaS S.length k s.name l]
    | _, _ => [])
def fileO (S : List Sect) (Y : List Sym) (R : List (List Rel)) : List Sect := headF S Y ++ (relF S R R.length ++ [tabS])
variable {S : List Sect} {Y : List Sym} {R : List (List Rel)} {k : Nat} {s : Sect} {l : List Rel}
theorem relF_none (hs : S[k]? = some s) (hl : R[k]? = some l) (h : l.length = 0) : relF S R (k + 1) = relF S R k := by simp [relF, hs, hl, h]
theorem relF_some (hs : S[k]? = some s) (hl : R[k]? = some l) (h : l.length ≠ 0) : relF S R (k + 1) = relF S R k ++ [relaS S.length k s.name l] := by simp [relF, hs, hl, h]
theorem relF_length (S : List Sect) (R : List (List Rel)) : ∀ k, (relF S R k).length ≤ k
  | 0 => Nat.le_refl _
  | k + 1 => by
    have ih := relF_length S R k
    rw [relF, List.length_append]
    split
    · split <;> simp <;> omega
    · simp; omega

/-- What is put, or why not. -/
def oputE (kind machine : Int) (S : List Sect) (Y : List Sym) (R : List (List Rel)) : Int := match rightO S Y R with | true => putE kind machine (fileO S Y R) | false => 2
def oputR (kind machine : Int) (S : List Sect) (Y : List Sym) (R : List (List Rel)) : List UInt8 := match rightO S Y R with | true => putR kind machine (fileO S Y R) | false => []

/-- What is true of an object that may be put. -/
structure RightOb (S : List Sect) (Y : List Sym) (R : List (List Rel)) : Prop where
  first : ∃ s, S[0]? = some s ∧ sameS s zeroS = true
  made : anyMade S = false
  syms : rightY Y = true
  placed : placedY Y S.length = true
  len : R.length = 0 ∨ R.length = S.length
  none_ : R.length ≠ 0 → (R.headD []).length = 0
  lists : ∀ l ∈ R, badL Y.length l = false
theorem right_iso (h : rightO S Y R = true) : RightOb S Y R := by
  unfold rightO at h
  simp only [Bool.and_eq_true, decide_eq_true_eq, Bool.not_eq_true'] at h
  obtain ⟨h1, h2, h3, h4, h5, h6⟩ := h
  have hs : S[0]? = some (S[0]'h1) := List.getElem?_eq_getElem _
  rw [hs, Option.any_some] at h2
  unfold rightRest at h6
  simp only [Bool.or_eq_true, Bool.and_eq_true, decide_eq_true_eq, Bool.not_eq_true'] at h6
  refine ⟨⟨_, hs, h2⟩, h3, h4, h5, ?_, ?_, ?_⟩
  · rcases h6 with h | ⟨h, _⟩
    · exact .inl h
    · exact .inr h
  · rcases h6 with h | ⟨_, h, _⟩
    · exact fun h0 => absurd h h0
    · exact fun _ => h
  · intro l hl
    rcases h6 with h | ⟨_, _, h⟩
    · have : R = [] := by simpa using h
      rw [this] at hl; cases hl
    · rw [List.any_eq_false] at h
      simpa using h l hl
theorem RightOb.fit (h : RightOb S Y R) (hl : l ∈ R) : l.length ≤ 400 ∧ fitR l Y.length = true := by
  have := h.lists l hl
  unfold badL at this
  simp only [Bool.or_eq_false_iff, decide_eq_false_iff_not, Bool.not_eq_false'] at this
  exact ⟨by omega, this.2⟩
theorem RightOb.pos (h : RightOb S Y R) : 0 < S.length := by
  obtain ⟨s, hs, _⟩ := h.first
  exact (List.getElem?_eq_some_iff.1 hs).1

theorem tabY_size (h : rightY Y = true) : (tabY Y).length ≤ 9600 := by
  have h1 := tabK_length Y Y.length
  have h2 := (rightY_all h).1
  unfold tabY
  rw [h]
  show (tabK Y Y.length).length ≤ _
  omega
theorem txtY_size (h : rightY Y = true) (hs : sumN Y ≤ 50000) : (txtY Y).length ≤ 50500 := by
  have h1 := texK_span Y Y.length (Nat.le_refl _)
  have h2 := (rightY_all h).1
  have h3 := sumN_take Y Y.length
  unfold txtY
  rw [h]
  show (putsT (texK Y Y.length)).length ≤ _
  rw [(show (putsT (texK Y Y.length)).length = spanT (texK Y Y.length) from spanT_puts (texK_good Y Y.length).1)]
  omega
theorem symtab_fits (n : Nat) (hn : n ≤ 100000) (d : List UInt8) (hd : d.length ≤ 100000) : (symtabS n d).Fits :=
  ⟨by unfold InI symtabS; simp only; omega, by unfold InI symtabS; simp only; omega, by unfold InI symtabS; simp only; omega, by unfold InI symtabS; simp only; omega, by unfold InI symtabS; simp only; omega, by show (0 : Nat) < two64; decide, by show (0 : Nat) < two64; decide, hd, by show (7 : Nat) ≤ 100000; decide⟩
theorem strtab_fits (d : List UInt8) (hd : d.length ≤ 100000) : (strtabS d).Fits :=
  ⟨by unfold InI strtabS; simp only; omega, by unfold InI strtabS; simp only; omega, by unfold InI strtabS; simp only; omega, by unfold InI strtabS; simp only; omega, by unfold InI strtabS; simp only; omega, by show (0 : Nat) < two64; decide, by show (0 : Nat) < two64; decide, hd, by show (7 : Nat) ≤ 100000; decide⟩
theorem rela_fits (n i : Nat) (hn : n ≤ 100000) (hi : i ≤ 100000) (nm : List UInt8) (hnm : nm.length ≤ 8000) (l : List Rel) (hl : l.length ≤ 400) : (relaS n i nm l).Fits :=
  ⟨by unfold InI relaS; simp only; omega, by unfold InI relaS; simp only; omega, by unfold InI relaS; simp only; omega, by unfold InI relaS; simp only; omega, by unfold InI relaS; simp only; omega, by show (0 : Nat) < two64; decide, by show (0 : Nat) < two64; decide, by have := relB_length l l.length; show (relB l l.length).length ≤ _; omega, by show (relaN ++ nm).length ≤ _; rw [List.length_append]; show 5 + nm.length ≤ _; omega⟩

/-! ### The row that grows -/
/-- Sections laid one behind the other in a row of the call's own. -/
structure FileSt (w wr : World) (v : Value) (L : List Lay) : Prop where
  row : OwnL wr w.heap.size v L
  keep : KeepL wr w.heap.size L
  fits : ∀ x ∈ L, x.s.Fits
  below : Below w.heap.size w wr
theorem FileSt.later {w wr w' : World} {v : Value} {L : List Lay} (h : FileSt w wr v L) (hb : Below wr.heap.size wr w') : FileSt w w' v L :=
  ⟨row_below h.row hb, h.keep.only (Only.below (bad := fun _ => False) hb h.below.size) (fun _ _ x => x), h.fits, h.below.trans (hb.mono h.below.size)⟩
theorem FileSt.alloc {w wr : World} {v : Value} {L : List Lay} (h : FileSt w wr v L) (o : Obj) : FileSt w (wr.alloc o) v L := h.later ((Below.refl _ _).alloc (Nat.le_refl _) o)
theorem FileSt.more {w wr w' : World} {v : Value} {L M : List Lay} {g c : Nat} (h : FileSt w wr v L) (hM : ∀ x ∈ M, Own wr w.heap.size x.dv x.s.data ∧ x.s.Fits) (hr : w'.ownsRow w.heap.size 39 9 (.slice (some ⟨g, 0, none⟩) (L.length + M.length) c) (L.length + M.length) (cellsL L ++ cellsL M)) (hg : wr.grownBy w' v.ownBlock) :
    FileSt w w' (.slice (some ⟨g, 0, none⟩) (L ++ M).length c) (L ++ M) := by
  have ho := row_turns h.row hg h.below.size
  refine ⟨by rw [OwnL, List.length_append, cellsL_append]; exact hr, fun x hx => ?_, fun x hx => ?_, h.below.trans ho.1⟩
  · rcases List.mem_append.1 hx with hx | hx
    · exact (h.keep.only ho (fun cs f hh => absurd (show 5 = 39 from hh) (by decide))) x hx
    · have h1 : Own w' w.heap.size x.dv x.s.data := row_only (hM x hx).1 ho (fun cs f hh => absurd (show 5 = 39 from hh) (by decide))
      obtain ⟨A, c', e, hle, hcm, _⟩ := own_slice h1
      unfold Lay.dv at e
      injection e with e1 e2 e3
      exact ⟨.inr h1, by rw [e3]; exact hle, by rw [e3]; exact hcm⟩
  · rcases List.mem_append.1 hx with hx | hx
    · exact h.fits x hx
    · exact (hM x hx).2
/-- The row, as sections that lie. -/
theorem FileSt.secs {w wr : World} {v : Value} {L : List Lay} (h : FileSt w wr v L) : ∃ A c, v = .slice A L.length c ∧ L.length ≤ c ∧ c ≤ maxLen ∧ Secs wr wr.heap.size A L :=
  ownl_secs h.row (fun x hx => by
    obtain ⟨h1, h2, h3⟩ := h.keep.rd h.below.size hx
    exact ⟨h1, h2, h3, h.fits x hx⟩)

end Go.Proofs.YtldmjnbmjfnfeaaGreatDoor

namespace Go.Proofs.YtldmjnbmjfnfeaaGreatDoor
open Go Go.RowKit

/-- The document's cursor, a struct in memory beside it, and what has not turned since w0. -/
def StQ (T : TypeId) (B : Nat) (w0 w : World) (g : Nat) (v : Value) (l : List UInt8) (a : Nat) (H : Nat) (cs : Array Value) : Prop :=
  RR B w g v l a 0 ∧ Box w H T cs ∧ w0.grownBy w (some g)
theorem clamp_small (s : Nat) (h : s ≤ 8) : clampOf (s : Int) = s := by unfold clampOf; omega
theorem q_num {B : Nat} {w : World} {g : Nat} {v : Value} {l : List UInt8} {a : Nat} (h : RR B w g v l a 0) (s : Nat) (hs : s ≤ 8) (hlen : l.length ≤ 140737488355328) (hin : a + s ≤ l.length) :
    Calls Tryz.prog 56 #[.pointer (some ⟨g, 0, none⟩), .int .i64 (s : Int)] w fun r w' => r = .returned (.int .u64 (numT l a s : Int)) ∧ RR B w' g v l (a + s) 0 ∧ w.grownBy w' (some g) := by
  have hc := clamp_small s hs
  have := quint_ok h (s : Int) (by omega) hlen (by rw [hc]; omega)
  rw [hc] at this
  exact this
section
variable {T : TypeId} {B : Nat} {w0 w w' : World} {g : Nat} {v : Value} {l : List UInt8} {a b H : Nat} {cs : Array Value}
theorem StQ.call (h : StQ T B w0 w g v l a H cs) (hne : g ≠ H) (hC : RR B w' g v l b 0) (hG : w.grownBy w' (some g)) : StQ T B w0 w' g v l b H cs :=
  ⟨hC, h.2.1.grown hG (by simpa using fun e => hne e.symm), h.2.2.trans hG⟩
theorem StQ.set (h : StQ T B w0 w g v l a H cs) (hne : g ≠ H) (hB : B ≤ H) (hH : w0.heap.size ≤ H) (i : Nat) (u : Value) : StQ T B w0 (w.setCell ⟨H, i, none⟩ u) g v l a H (cs.setIfInBounds i u) :=
  have G : w.grownBy (w.setCell ⟨H, i, none⟩ u) (some H) := only_set (only_refl w (some H)) i u
  ⟨h.1.grown G (by simpa using hne) (fun x hx => by injection hx with hx; omega), h.2.1.set i u, only_trans h.2.2 G (.inr fun x hx => by injection hx with hx; omega)⟩
theorem StQ.num (h : StQ T B w0 w g v l a H cs) (hne : g ≠ H) (s : Nat) (hs : s ≤ 8) (hlen : l.length ≤ 140737488355328) (hin : a + s ≤ l.length) :
    Calls Tryz.prog 56 #[.pointer (some ⟨g, 0, none⟩), .int .i64 (s : Int)] w fun r w' => r = .returned (.int .u64 (numT l a s : Int)) ∧ StQ T B w0 w' g v l (a + s) H cs :=
  (q_num h.1 s hs hlen hin).mono fun _ _ ⟨h1, h2, h3⟩ => ⟨h1, h.call hne h2 h3⟩
end

/-- An item that was just laid. -/
theorem cells_new (w : World) (cs : List Value) (t : TypeId) : ∀ j u, cs[j]? = some u → (w.alloc (.cells cs.toArray t)).cell? ((⟨w.heap.size, 0, none⟩ : Addr).add j) = some u := by
  intro j u hj
  rw [addr_add, Nat.zero_add, (Box.new w t cs.toArray).cell]
  simpa using hj
end Go.Proofs.YtldmjnbmjfnfeaaGreatDoor
