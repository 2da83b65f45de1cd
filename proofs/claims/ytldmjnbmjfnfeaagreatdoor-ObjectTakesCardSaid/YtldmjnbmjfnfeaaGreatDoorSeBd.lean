/-
  Sections that are put are taken as they were (plain facts): the theorem.
-/
import Derived.Test.YtldmjnbmjfnfeaaGreatDoorSyP
import Derived.Test.YtldmjnbmjfnfeaaGreatDoorSeN
import Derived.Test.YtldmjnbmjfnfeaaGreatDoorEhG
import Derived.Test.YtldmjnbmjfnfeaaGreatDoorObB
import Derived.Test.YtldmjnbmjfnfeaaGreatDoorPut
import Derived.Test.YtldmjnbmjfnfeaaGreatDoorPutR
import Derived.Test.YtldmjnbmjfnfeaaGreatDoorCsL
import Derived.Test.YtldmjnbmjfnfeaaGreatDoorSeR
import Derived.Test.YtldmjnbmjfnfeaaGreatDoorSyDa
import Derived.Test.YtldmjnbmjfnfeaaGreatDoorPoR
import Derived.Test.YtldmjnbmjfnfeaaGreatDoorObR
import Derived.Laws.Concat
import Derived.Test.YtldmjnbmjfnfeaaGreatDoorRefR
import Derived.Test.YtldmjnbmjfnfeaaGreatDoorCsS
import Derived.Deep.RegionHeldLaw
namespace Go.Proofs.YtldmjnbmjfnfeaaGreatDoor
open Go Go.RowKit

/-- The names, the empty one first; the texts behind k symbols. -/
def namesY (L : List Sym) : List (List UInt8) := [] :: L.map fun x => x.name
def texK (L : List Sym) (k : Nat) : List (List UInt8) := (gat ((namesY L).take (k + 1))).1
/-- A symbol's numbers, with how many bytes each has. -/
def itsY (p : Nat) (x : Sym) : List (Nat × Nat) := [(p, 4), (wrapN (x.bind * 16 + x.kind), 1), (0, 1), (wrapN x.sect, 2), (x.value, 8), (x.size, 8)]
/-- The table of the first k. -/
def tabK (L : List Sym) : Nat → List UInt8
  | 0 => []
  | k + 1 => tabK L k ++ (match L[k]? with | none => [] | some x => itsB (itsY (addT (texK L k) x.name).2.1 x))
def tabY (L : List Sym) : List UInt8 := match rightY L with | true => tabK L L.length | false => []
def txtY (L : List Sym) : List UInt8 := match rightY L with | true => putsT (texK L L.length) | false => []
section
variable {L : List Sym} {k : Nat} {x : Sym}
theorem texK_zero : texK L 0 = (addT [] []).1 := rfl
theorem texK_next (h : L[k]? = some x) : texK L (k + 1) = (addT (texK L k) x.name).1 := by
  unfold texK
  rw [gat_take (ns := namesY L) (k := k + 1) (t := x.name) (by simp [namesY, h])]
theorem tabK_next (h : L[k]? = some x) : tabK L (k + 1) = tabK L k ++ itsB (itsY (addT (texK L k) x.name).2.1 x) := by
  rw [tabK, h]
theorem addT_span (l : List (List UInt8)) (t : List UInt8) : spanT (addT l t).1 ≤ spanT l + t.length + 1 := by
  rcases addT_cases l t with ⟨_, e⟩ | ⟨q, _, _, e⟩ | ⟨_, _, _, e⟩ | ⟨_, _, _, e⟩ <;> rw [e] <;> simp only [spanT_append, spanT] <;> omega
theorem texK_span (L : List Sym) : ∀ k, k ≤ L.length → spanT (texK L k) ≤ 1 + k + sumN (L.take k)
  | 0, _ => by
    have := addT_span [] []
    rw [texK_zero]
    simpa [spanT, sumN] using this
  | k + 1, hk => by
    have hx : L[k]? = some (L[k]'(by omega)) := List.getElem?_eq_getElem _
    have ih := texK_span L k (by omega)
    have h1 := addT_span (texK L k) (L[k]'(by omega)).name
    rw [texK_next hx, sumN_next hx]
    omega
theorem sumN_take (L : List Sym) (k : Nat) : sumN (L.take k) ≤ sumN L := by
  have h := congrArg sumN (List.take_append_drop k L)
  unfold sumN at h ⊢
  rw [List.map_append, List.sum_append] at h
  omega
theorem tabK_length (L : List Sym) : ∀ k, (tabK L k).length ≤ 24 * k
  | 0 => Nat.le_refl _
  | k + 1 => by
    have ih := tabK_length L k
    rcases hx : L[k]? with _ | x
    · rw [tabK, hx]; simp; omega
    · rw [tabK_next hx]; simp [itsY, itsB]; omega
theorem okY_facts (h : okY x = true) : rightT x.name = true ∧ (0 ≤ x.bind ∧ x.bind ≤ 15) ∧ (0 ≤ x.kind ∧ x.kind ≤ 15) ∧ (0 ≤ x.sect ∧ x.sect ≤ 65534) := by
  unfold okY inTo at h
  simp only [Bool.and_eq_true, decide_eq_true_eq] at h
  exact ⟨h.1, h.2.1, h.2.2.1, h.2.2.2⟩
theorem rightY_all (h : rightY L = true) : L.length ≤ 400 ∧ ∀ x ∈ L, okY x = true := by
  unfold rightY at h
  rw [Bool.and_eq_true, decide_eq_true_eq, List.all_eq_true] at h
  exact h
end
theorem wrap_next {k : Nat} (h : k ≤ 1000000) : wrap64 ((k : Int) + 1) = (k : Int) + 1 := by unfold wrap64; omega
theorem step_less {k N : Nat} (h : k < N) : N - (intOf (Value.int .i64 ((k : Int) + 1))).toNat < N - (intOf (Value.int .i64 (k : Int))).toNat := by simp [intOf]; omega
theorem or_low (a b : Nat) (ha : a ≤ 15) (hb : b ≤ 15) : bits .or .i64 ((a * 16 : Nat) : Int) (b : Int) = ((a * 16 + b : Nat) : Int) := by
  have key : ∀ a b : Fin 16, bits .or .i64 ((a.val * 16 : Nat) : Int) (b.val : Int) = ((a.val * 16 + b.val : Nat) : Int) := by decide +kernel
  exact key ⟨a, by omega⟩ ⟨b, by omega⟩

end Go.Proofs.YtldmjnbmjfnfeaaGreatDoor

namespace Go.Proofs.YtldmjnbmjfnfeaaGreatDoor
open Go Go.RowKit

/-- A relocation's numbers, with how many bytes each has. -/
def itsR (x : Rel) : List (Nat × Nat) := [(x.off, 8), (wrapN x.kind, 4), (wrapN x.sym, 4), (wrapN x.add, 8)]
def relB (L : List Rel) (k : Nat) : List UInt8 := (L.take k).flatMap fun x => itsB (itsR x)
theorem relB_next {L : List Rel} {k : Nat} {x : Rel} (h : L[k]? = some x) : relB L (k + 1) = relB L k ++ leBytes x.off 8 ++ leBytes (wrapN x.kind) 4 ++ leBytes (wrapN x.sym) 4 ++ leBytes (wrapN x.add) 8 := by
  unfold relB
  rw [List.take_add_one, h]
  simp [itsR, itsB]
theorem relB_length (L : List Rel) : ∀ k, (relB L k).length ≤ 24 * k
  | 0 => by simp [relB]
  | k + 1 => by
    have ih := relB_length L k
    rcases hx : L[k]? with _ | x
    · unfold relB at ih ⊢
      rw [List.take_add_one, hx]
      simp at ih ⊢
      omega
    · rw [relB_next hx]
      simp
      omega

/-- A row of bytes, and relocations that lie further down. -/
structure RelSt (w wr : World) (u : Value) (T : List UInt8) : Prop where
  row : Own wr w.heap.size u T
  below : Below w.heap.size w wr
theorem RelSt.laid {w wr w' : World} {u u' : Value} {T T' : List UInt8} (h : RelSt w wr u T) (hL : Laid wr w' w.heap.size u u' T') : RelSt w w' u' T' :=
  ⟨hL.1, h.below.grown hL.2.1 h.below.size (fun x hx => (own_ge h.row x hx).1)⟩
theorem RelSt.alloc {w wr : World} {u : Value} {T : List UInt8} (h : RelSt w wr u T) (o : Obj) : RelSt w (wr.alloc o) u T :=
  have hA : Below wr.heap.size wr (wr.alloc o) := (Below.refl _ _).alloc (Nat.le_refl _) _
  ⟨own_below h.row hA, h.below.trans (hA.mono h.below.size)⟩
/-- A number put behind the row, and a struct in memory still there. -/
theorem RelSt.num {w wr : World} {u : Value} {T : List UInt8} {H : Nat} {cs : Array Value} (h : RelSt w wr u T) (hX : Box wr H 53 cs) (x s : Nat) (hs : s ≤ 8) (hlen : T.length ≤ 140737488355000) :
    Calls Tryz.prog 63 #[u, .int .u64 (x : Int), .int .i64 (s : Int)] wr fun r w' => ∃ u', r = .returned u' ∧ RelSt w w' u' (T ++ leBytes x s) ∧ Box w' H 53 cs := by
  have hP := put_any h.row h.below.size x s (by omega) hlen
  rw [show clampOf (s : Int) = s by unfold clampOf; omega] at hP
  exact hP.mono fun r w' ⟨u', e, hL⟩ => ⟨u', e, h.laid hL, hX.grown hL.2.1 (by have := own_other h.row hX (by decide); exact fun e => this e.symm)⟩

set_option maxRecDepth 10000 in
set_option maxHeartbeats 1600000 in
theorem yputr_any {w : World} {a : Option Addr} {L : List Rel} (h : Rels w w.heap.size a L) (c : Nat) (hl : L.length ≤ 100000) :
    Calls Tryz.prog 59 #[.slice a L.length c] w fun r w' => ∃ u, r = .returned u ∧ Own w' w.heap.size u (relB L L.length) ∧ Below w.heap.size w w' := by
  obtain ⟨i0, hi, hz0, hz1, hz2⟩ := info_parts u8_info
  have HH := Lib.hid h
  generalize hN : L.length = N at *
  have HN := Lib.hid hN
  have HNL := Lib.hid hl
  obtain ⟨m, hm⟩ : ∃ m, N * 24 = m := ⟨_, rfl⟩
  have hmm : (N : Int) * 24 = (m : Int) := by omega
  have hm2 : m ≤ 2400000 := by omega
  have hmw : IntKind.i64.wrap (m : Int) = (m : Int) := by rw [IntWalk.i64_in _ (by omega)]
  have hml : m ≤ maxLen := by unfold maxLen; omega
  clear h hN hm
  go_enter Tryz.func59, Tryz.ntmps59
  go_wp2_with (at_make; refine wpList_make_own _ rfl _ _ 22 rfl w.heap.size 5 i0 (.int .u8 0) 1 Tryz.underlying22 hi hz0 hz1 .i64 .i64 (m : Int) m rfl rfl rfl (by rw [hz2]; omega) hml (by simp) ?_; intro w1 hown1 hg1)
  have HR1 := Lib.hid (show RelSt w w1 (.slice (some ⟨w.heap.size, 0, none⟩) 0 m) (relB L 0) from ⟨hown1, below_of_only hg1 (Nat.le_refl _) (by simp)⟩)
  clear hown1 hg1
  go_loopw [3, 12] (fun u i wr => ∃ k : Nat, k ≤ N ∧ i = .int .i64 k ∧ RelSt w wr u (relB L k)) (fun _ i _ => N - (intOf i).toNat)
  case atStart => exact ⟨0, Nat.zero_le _, rfl, HR1.out⟩
  case round =>
    obtain ⟨k, hk, rfl, hR⟩ := hrel
    clear HR1
    by_cases hlt : k < N
    · have HLT := Lib.hid hlt
      obtain ⟨x, hx⟩ : ∃ x, L[k]? = some x := ⟨L[k]'(by rw [HN.out]; exact hlt), List.getElem?_eq_getElem _⟩
      obtain ⟨b, o, rfl, hb, c0, c1, c2, c3⟩ := rel_at (HH.out.below hR.below) hx
      have HB := Lib.hid (relB_next hx)
      have e1 := wrapN_eq x.kind
      have e2 := wrapN_eq x.sym
      have e3 := wrapN_eq x.add
      have HLB := Lib.hid (relB_length L k)
      have hX := Box.new wr 53 #[.int .u64 (x.off : Int), .int .i64 x.sym, .int .i64 x.kind, .int .i64 x.add]
      have hR0 := hR.alloc (.cells #[.int .u64 (x.off : Int), .int .i64 x.sym, .int .i64 x.kind, .int .i64 x.add] 53)
      have hlen : (relB L k).length ≤ 140737488350000 := by have := HLB.out; have := HNL.out; omega
      generalize x.off = y0 at *
      generalize wrapN x.kind = y1 at *
      generalize wrapN x.sym = y2 at *
      generalize wrapN x.add = y3 at *
      generalize x.kind = x1 at *
      generalize x.sym = x2 at *
      generalize x.add = x3 at *
      generalize hT : relB L k = T at *
      have C0 := Lib.hid (hR0.num hX y0 8 (by decide) (by omega))
      have C1 := Lib.hid (fun W u (h : RelSt w W u (T ++ leBytes y0 8)) (hX : Box W wr.heap.size 53 #[.int .u64 (y0 : Int), .int .i64 x2, .int .i64 x1, .int .i64 x3]) => h.num hX y1 4 (by decide) (by rw [List.length_append, leBytes_length]; omega))
      have C2 := Lib.hid (fun W u (h : RelSt w W u (T ++ leBytes y0 8 ++ leBytes y1 4)) (hX : Box W wr.heap.size 53 #[.int .u64 (y0 : Int), .int .i64 x2, .int .i64 x1, .int .i64 x3]) => h.num hX y2 4 (by decide) (by simp only [List.length_append, leBytes_length]; omega))
      have C3 := Lib.hid (fun W u (h : RelSt w W u (T ++ leBytes y0 8 ++ leBytes y1 4 ++ leBytes y2 4)) (hX : Box W wr.heap.size 53 #[.int .u64 (y0 : Int), .int .i64 x2, .int .i64 x1, .int .i64 x3]) => h.num hX y3 8 (by decide) (by simp only [List.length_append, leBytes_length]; omega))
      clear hX hR0 hR hx hb hT hlen
      go_wp2_with fail
      refine C0.out.mono ?_
      rintro r w2 ⟨u2, rfl, h2, hX2⟩
      have HS2 := Lib.hid h2
      have HX2 := Lib.hid hX2
      obtain ⟨k0, k1, k2, k3⟩ := four_cells hX2
      clear h2 hX2 C0
      go_wp2_with fail
      refine (C1.out _ _ HS2.out HX2.out).mono ?_
      rintro r w3 ⟨u3, rfl, h3, hX3⟩
      have HS3 := Lib.hid h3
      have HX3 := Lib.hid hX3
      obtain ⟨l0, l1, l2, l3⟩ := four_cells hX3
      clear h3 hX3 C1 HS2 HX2 k0 k1 k2 k3
      go_wp2_with fail
      refine (C2.out _ _ HS3.out HX3.out).mono ?_
      rintro r w4 ⟨u4, rfl, h4, hX4⟩
      have HS4 := Lib.hid h4
      have HX4 := Lib.hid hX4
      obtain ⟨m0, m1, m2, m3⟩ := four_cells hX4
      clear h4 hX4 C2 HS3 HX3 l0 l1 l2 l3
      go_wp2_with fail
      refine (C3.out _ _ HS4.out HX4.out).mono ?_
      rintro r w5 ⟨u5, rfl, h5, hX5⟩
      have HS5 := Lib.hid h5
      clear h5 hX5 C3 HS4 HX4 m0 m1 m2 m3
      go_wp2_with fail
      have h3 := wrap_next (k := k) (by have := HLT.out; have := HNL.out; omega)
      first
        | (rw [h3]; exact ⟨⟨k + 1, HLT.out, rfl, by rw [HB.out]; exact HS5.out⟩, step_less HLT.out⟩)
        | exact ⟨⟨k + 1, HLT.out, rfl, by rw [HB.out]; exact HS5.out⟩, step_less HLT.out⟩
    · have hkN : k = N := by omega
      subst hkN
      have HR := Lib.hid hR
      clear hR
      go_wp2_with fail
      go_ret
      exact ⟨_, rfl, HR.out.row, HR.out.below⟩

end Go.Proofs.YtldmjnbmjfnfeaaGreatDoor

namespace Go.Proofs.YtldmjnbmjfnfeaaGreatDoor
open Go Go.RowKit

theorem wrapN_lt (t : Int) : wrapN t < two64 := by unfold wrapN two64; rw [IntKind.wrap_u64]; omega
/-- Bytes behind the row. -/
theorem RelSt.more {w wr w2 w3 : World} {u u' : Value} {T T' : List UInt8} (h : RelSt w wr u T) (hb : Below wr.heap.size wr w2) (ho : Own w3 w.heap.size u' T') (hg : w2.grownBy w3 u.ownBlock) : RelSt w w3 u' T' :=
  ⟨ho, (h.below.trans (hb.mono h.below.size)).grown hg (Nat.le_trans h.below.size hb.size) (fun x hx => (own_ge h.row x hx).1)⟩
end Go.Proofs.YtldmjnbmjfnfeaaGreatDoor

namespace Go.Proofs.YtldmjnbmjfnfeaaGreatDoor
open Go Go.RowKit

theorem yput_wrong {w : World} {a : Option Addr} {L : List Sym} (h : Syms w w.heap.size a L) (c : Nat) (hl : L.length ≤ 100000) (hr : rightY L = false) :
    Calls Tryz.prog 58 #[.slice a L.length c] w fun r w' => r = .returned (.tuple #[.slice none 0 0, .slice none 0 0, .int .i64 2]) ∧ Below w.heap.size w w' := by
  have HR := Lib.hid (yright_any h c hl)
  rw [hr] at HR
  clear h hl hr
  generalize L.length = n at *
  go_enter Tryz.func58, Tryz.ntmps58
  go_wp2_with (go_at_call 40; refine HR.out.mono ?_; rintro r w1 ⟨rfl, hb1⟩)
  go_ret3
  exact ⟨rfl, hb1⟩

set_option maxRecDepth 10000 in
set_option maxHeartbeats 3200000 in
theorem yput_right {w : World} {a : Option Addr} {L : List Sym} (h : Syms w w.heap.size a L) (c : Nat) (hr : rightY L = true) (hs : sumN L ≤ 50000) :
    Calls Tryz.prog 58 #[.slice a L.length c] w fun r w' => ∃ u v, r = .returned (.tuple #[u, v, .int .i64 0]) ∧ Own w' w.heap.size u (tabK L L.length) ∧ Own w' w.heap.size v (putsT (texK L L.length)) ∧ (∀ x, u.ownBlock = some x → v.ownBlock ≠ some x) ∧ Below w.heap.size w w' := by
  obtain ⟨hl4, hok⟩ := rightY_all hr
  have HR := Lib.hid (yright_any h c (by omega))
  rw [hr] at HR
  have HH := Lib.hid h
  have HOK := Lib.hid hok
  have HSU := Lib.hid hs
  have HL4 := Lib.hid hl4
  generalize hN : L.length = N at *
  have HN := Lib.hid hN
  have HNW := Lib.hid (fun W => pnew_any W)
  clear h hl4 hok hr hs hN
  go_enter Tryz.func58, Tryz.ntmps58
  go_wp2_with (first
    | (go_at_call 40; refine HR.out.mono ?_; rintro r w1 ⟨rfl, hb1⟩; have HB1 := Lib.hid hb1; clear hb1)
    | (go_at_call 101; refine (HNW.out _).mono ?_; rintro r w2 ⟨g, mb, rfl, hp2, hb2⟩; have HP2 := Lib.hid (hp2.base_le HB1.out.size); have HB2 := Lib.hid (HB1.out.trans (hb2.mono HB1.out.size)); have HA := Lib.hid (add_ap HP2.out [] (by decide)); clear hp2 hb2)
    | (go_at_call 102; refine HA.out.mono ?_; rintro r w3 ⟨rfl, v3, hp3, ho3, hf3⟩; have HT3 := Lib.hid (TabSt.added (u := .slice none 0 0) (T := []) ⟨World.ownsRow_nil _ _ _ _, HP2.out, (fun x hx => by simp [Value.ownBlock] at hx), HB2.out⟩ hp3 ho3 hf3); clear hp3 ho3 hf3 HA))
  rw [show (addT [] []).1 = texK L 0 from rfl] at HT3
  clear HR HNW HP2 HB2
  go_loopw [2, 20] (fun u i wr => ∃ (k : Nat) (v : Value), k ≤ N ∧ i = .int .i64 k ∧ TabSt w wr g mb u v (tabK L k) (texK L k)) (fun _ i _ => N - (intOf i).toNat)
  case atStart => exact ⟨0, v3, Nat.zero_le _, rfl, HT3.out⟩
  case round =>
    obtain ⟨k, v, hk, rfl, hT⟩ := hrel
    clear HT3
    by_cases hlt : k < N
    · have HLT := Lib.hid hlt
      obtain ⟨x, hx⟩ : ∃ x, L[k]? = some x := ⟨L[k]'(by rw [HN.out]; exact hlt), List.getElem?_eq_getElem _⟩
      obtain ⟨b, o, rfl, hb, c0, c1, c2, c3, c4, c5⟩ := sym_at (HH.out.below hT.below) hx
      obtain ⟨hrt, ⟨hb0, hb1⟩, ⟨hk0, hk1⟩, hs0, hs1⟩ := okY_facts (HOK.out x (List.mem_of_getElem? hx))
      have hspan : spanT (texK L k) ≤ 60000 := by
        have h1 := texK_span L k (by rw [HN.out]; omega)
        have h2 := sumN_take L k
        have h3 := HSU.out
        have h4 := HL4.out
        omega
      have HADD := Lib.hid (addT_ok hrt hspan).1
      have HTX := Lib.hid (texK_next hx)
      have HTB := Lib.hid (tabK_next hx)
      have HTL := Lib.hid (tabK_length L k)
      have HA := Lib.hid (add_ap (hT.alloc (.cells #[.string ⟨x.name.toArray⟩, .int .i64 x.bind, .int .i64 x.kind, .int .i64 x.sect, .int .u64 (x.value : Int), .int .u64 (x.size : Int)] 51)).pool x.name (by have := (rightT_spec hrt).1; omega))
      have HX := Lib.hid (Box.new wr 51 #[.string ⟨x.name.toArray⟩, .int .i64 x.bind, .int .i64 x.kind, .int .i64 x.sect, .int .u64 (x.value : Int), .int .u64 (x.size : Int)])
      have HT := Lib.hid (hT.alloc (.cells #[.string ⟨x.name.toArray⟩, .int .i64 x.bind, .int .i64 x.kind, .int .i64 x.sect, .int .u64 (x.value : Int), .int .u64 (x.size : Int)] 51))
      obtain ⟨bi, hbi⟩ : ∃ n : Nat, x.bind = (n : Int) := ⟨x.bind.toNat, by omega⟩
      obtain ⟨ki, hki⟩ : ∃ n : Nat, x.kind = (n : Int) := ⟨x.kind.toNat, by omega⟩
      obtain ⟨se, hse⟩ : ∃ n : Nat, x.sect = (n : Int) := ⟨x.sect.toNat, by omega⟩
      have hor := or_low bi ki (by omega) (by omega)
      have HIT := Lib.hid (show itsY (addT (texK L k) x.name).2.1 x = [((addT (texK L k) x.name).2.1, 4), (bi * 16 + ki, 1), (0, 1), (se, 2), (x.value, 8), (x.size, 8)] by
        unfold itsY
        rw [hbi, hki, hse, show ((bi : Int) * 16 + (ki : Int)) = ((bi * 16 + ki : Nat) : Int) by omega]
        have e1 : wrapN ((bi * 16 + ki : Nat) : Int) = bi * 16 + ki := by unfold wrapN; rw [IntKind.wrap_u64]; omega
        have e2 : wrapN (se : Int) = se := by unfold wrapN; rw [IntKind.wrap_u64]; omega
        rw [e1, e2])
      rw [hbi, hki, hse] at HA HX HT
      rw [hbi] at c1
      rw [hki] at c2
      rw [hse] at c3
      have hbi5 : bi ≤ 15 := by omega
      have hki5 : ki ≤ 15 := by omega
      have hse5 : se ≤ 65534 := by omega
      clear hT hx hb hrt hb0 hb1 hk0 hk1 hs0 hs1 hspan hbi hki hse
      rw [HADD.out] at HA
      generalize (addT (texK L k) x.name).2.1 = p at *
      generalize itsY p x = its at *
      generalize (addT (texK L k) x.name).1 = tx at *
      generalize x.value = x4 at *
      generalize x.size = x5 at *
      generalize ByteArray.mk x.name.toArray = sb at *
      obtain ⟨bm, hbm⟩ : ∃ m, bi * 16 = m := ⟨_, rfl⟩
      have e1 : (bi : Int) * 16 = (bm : Int) := by omega
      rw [hbm] at hor HIT
      obtain ⟨bo, hbo⟩ : ∃ m, bm + ki = m := ⟨_, rfl⟩
      rw [hbo] at hor HIT
      have hbm2 : bm ≤ 240 := by omega
      have hbo2 : bo ≤ 255 := by omega
      have e2 : IntKind.i64.wrap (bm : Int) = (bm : Int) := by rw [IntWalk.i64_in _ (by omega)]
      have e3 : IntKind.u64.wrap (bo : Int) = (bo : Int) := by rw [IntWalk.u64_in _ (by omega)]
      have e4 : IntKind.u64.wrap (se : Int) = (se : Int) := by rw [IntWalk.u64_in _ (by omega)]
      clear hbm hbo
      go_wp2_with (first
        | (go_at_call 102; refine HA.out.mono ?_; rintro r w4 ⟨rfl, v4, hp4, ho4, hf4⟩; have HT4 := Lib.hid (HT.out.added hp4 ho4 hf4); (obtain ⟨q0, q1, q2, q3, q4, q5⟩ := six_cells (box_pool HX.out (by decide) (by decide) ho4)); clear hp4 ho4 hf4 HA HT HX))
      have HBX := Lib.hid (show Box (w4.alloc (.cells #[.int .u64 (p : Int), .int .i64 4, .int .u64 (bo : Int), .int .i64 1, .int .u64 0, .int .i64 1, .int .u64 (se : Int), .int .i64 2, .int .u64 (x4 : Int), .int .i64 8, .int .u64 (x5 : Int), .int .i64 8] 175)) w4.heap.size 175 #[.int .u64 (p : Int), .int .i64 4, .int .u64 (bo : Int), .int .i64 1, .int .u64 0, .int .i64 1, .int .u64 (se : Int), .int .i64 2, .int .u64 (x4 : Int), .int .i64 8, .int .u64 (x5 : Int), .int .i64 8] from Box.new _ _ _)
      have HT5 := Lib.hid (HT4.out.alloc (.cells #[.int .u64 (p : Int), .int .i64 4, .int .u64 (bo : Int), .int .i64 1, .int .u64 0, .int .i64 1, .int .u64 (se : Int), .int .i64 2, .int .u64 (x4 : Int), .int .i64 8, .int .u64 (x5 : Int), .int .i64 8] 175))
      have HL6 := Lib.hid (show its.length = 6 ∧ (∀ y ∈ its, y.2 ≤ 8) by rw [HIT.out]; exact ⟨rfl, by simp⟩)
      have HIV := Lib.hid (show (itsV its).toArray = #[.int .u64 (p : Int), .int .i64 4, .int .u64 (bo : Int), .int .i64 1, .int .u64 0, .int .i64 1, .int .u64 (se : Int), .int .i64 2, .int .u64 (x4 : Int), .int .i64 8, .int .u64 (x5 : Int), .int .i64 8] by rw [HIT.out]; rfl)
      clear q0 q1 q2 q3 q4 q5 HT4 hlt
      generalize w4.heap.size = H at *
      generalize hWX : w4.alloc (.cells #[.int .u64 (p : Int), .int .i64 4, .int .u64 (bo : Int), .int .i64 1, .int .u64 0, .int .i64 1, .int .u64 (se : Int), .int .i64 2, .int .u64 (x4 : Int), .int .i64 8, .int .u64 (x5 : Int), .int .i64 8] 175) = w5 at *
      clear hWX
      generalize wr = wx at *
      go_loopw [2, 56] (fun u i wr => ∃ (j : Nat) (v : Value), j ≤ 6 ∧ i = .int .i64 j ∧ TabSt w wr g mb u v (tabK L k ++ itsB (its.take j)) tx ∧ Box wr H 175 (itsV its).toArray) (fun _ i _ => 6 - (intOf i).toNat)
      case atStart => exact ⟨0, v4, Nat.zero_le _, rfl, by rw [List.take_zero, show itsB [] = [] from rfl, List.append_nil]; exact HT5.out, by rw [HIV.out]; exact HBX.out⟩
      case round =>
        obtain ⟨j, v, hj, rfl, hT, hX⟩ := hrel
        clear HT5 HBX
        by_cases hjl : j < 6
        · obtain ⟨y, q, hyq⟩ : ∃ y q, its[j]? = some (y, q) := ⟨_, _, List.getElem?_eq_getElem (show j < its.length by rw [HL6.out.1]; exact hjl)⟩
          obtain ⟨hd0, hd1⟩ := itsV_at _ j y q hyq
          have HS := Lib.hid (itsB_step _ j y q hyq)
          have hq : q ≤ 8 := HL6.out.2 _ (List.mem_of_getElem? hyq)
          have hlen := itsB_le its j HL6.out.2
          have hlen2 : (tabK L k ++ itsB (its.take j)).length ≤ 140737488355000 := by
            have h1 := HTL.out
            have h2 := HL6.out.1
            have h3 := HLT.out
            have h4 := HL4.out
            rw [List.length_append]
            omega
          have d0 : wr.cell? ⟨H, j * 2, none⟩ = some (.int .u64 (y : Int)) := by rw [hX.cell]; simpa using hd0
          have d1 : wr.cell? ⟨H, j * 2 + 1, none⟩ = some (.int .i64 (q : Int)) := by rw [hX.cell]; simpa using hd1
          have hclamp : clampOf (q : Int) = q := by unfold clampOf; omega
          have hT0 := hT.alloc (.cells #[.int .u64 (y : Int), .int .i64 (q : Int)] 175)
          have hP := put_any hT0.row hT0.below.size y q (by omega) hlen2
          rw [hclamp] at hP
          have HP := Lib.hid hP
          have HT0 := Lib.hid hT0
          have HX := Lib.hid hX
          have hGl := hX.lt
          have hb0 : Below wr.heap.size wr (wr.alloc (.cells #[.int .u64 (y : Int), .int .i64 (q : Int)] 175)) := (Below.refl _ _).alloc (Nat.le_refl _) _
          have HB0 := Lib.hid hb0
          clear hd0 hd1 hyq hlen hlen2 hclamp hP hT0 hT hX hb0 hq
          go_wp2_with (go_at_call 63; refine HP.out.mono ?_; rintro r w7 ⟨v7, rfl, hL⟩)
          have HT7 := Lib.hid (HT0.out.laid hL)
          have HX7 := Lib.hid ((HX.out.below HB0.out HX.out.lt).grown hL.2.1 (by have := own_other HT0.out.row (HX.out.below HB0.out HX.out.lt) (by decide); exact fun e => this e.symm))
          clear hL HP HT0 HX HB0 d0 d1
          go_roundw
          case rel => exact ⟨j + 1, v, by omega, by go_num, by rw [HS.out, ← List.append_assoc]; exact HT7.out, HX7.out⟩
          case measure => simp [intOf]; omega
        · have HT7 := Lib.hid (show TabSt w wr g mb u2 v (tabK L (k + 1)) (texK L (k + 1)) by
            rw [show j = 6 by omega, List.take_of_length_le (by rw [HL6.out.1]; exact Nat.le_refl _)] at hT
            rw [HTB.out, HTX.out]
            exact hT)
          clear hT hX
          go_wp2_with fail
          have h3 := wrap_next (Nat.le_trans (Nat.le_of_lt HLT.out) (Nat.le_trans HL4.out (by decide)))
          rw [h3]
          exact ⟨⟨k + 1, v, HLT.out, rfl, HT7.out⟩, step_less HLT.out⟩
    · have hkN : k = N := by omega
      subst hkN
      have HT := Lib.hid hT
      have HY := Lib.hid (bytes_at hT.pool)
      clear hT
      go_wp2_with (go_at_call 103; refine HY.out.mono ?_; rintro r w9 ⟨v9, rfl, ho9, hb9⟩)
      go_ret3
      exact ⟨_, _, rfl, own_below HT.out.row hb9, own_up ho9 HT.out.below.size, fun x hx hv => by
        have h1 := (own_ge HT.out.row x hx).2
        have h2 := (own_ge ho9 x hv).1
        omega, HT.out.below.trans (hb9.mono HT.out.below.size)⟩

/-- Put, of whatever symbols. -/
theorem yput_any {w : World} {a : Option Addr} {L : List Sym} (h : Syms w w.heap.size a L) (c : Nat) (hl : L.length ≤ 100000) (hs : sumN L ≤ 50000) :
    Calls Tryz.prog 58 #[.slice a L.length c] w fun r w' => ∃ u v, r = .returned (.tuple #[u, v, .int .i64 (errOf (rightY L) 2)]) ∧ Own w' w.heap.size u (tabY L) ∧ Own w' w.heap.size v (txtY L) ∧ (∀ x, u.ownBlock = some x → v.ownBlock ≠ some x) ∧ Below w.heap.size w w' := by
  unfold tabY txtY
  cases hr : rightY L with
  | true => exact yput_right h c hr hs
  | false => exact (yput_wrong h c hl hr).mono fun r w' ⟨e, hb⟩ => ⟨_, _, e, World.ownsRow_nil _ _ _ _, World.ownsRow_nil _ _ _ _, (fun x hx => by simp [Value.ownBlock] at hx), hb⟩

end Go.Proofs.YtldmjnbmjfnfeaaGreatDoor

namespace Go.Proofs.YtldmjnbmjfnfeaaGreatDoor
open Go Go.RowKit

theorem ref_rows {w w' : World} {base b g : Nat} {t : Value} {T : List (List UInt8)} (h : RefAt w base g t T) (hb : Only b (CellsOf 5) w w') : RefAt w' base g t T :=
  h.kept hb (fun cs f hh => absurd (show 132 = 5 from hh) (by decide)) (fun cs f hh => absurd (show 9 = 5 from hh) (by decide))
/-- A row of bytes of the call's own, and the document's pool. -/
structure DocSt (w wr : World) (g : Nat) (u : Value) (T : List UInt8) (ls : List (List UInt8)) : Prop where
  st : RelSt w wr u T
  pool : ∃ t, RefAt wr w.heap.size g t ls
section
variable {w wr w' w2 w3 : World} {g : Nat} {u u' : Value} {T T' : List UInt8} {ls ls' : List (List UInt8)}
theorem DocSt.more (h : DocSt w wr g u T ls) (hb : Below wr.heap.size wr w2) (ho : Own w3 w.heap.size u' T') (hg : w2.grownBy w3 u.ownBlock) : DocSt w w3 g u' T' ls := by
  refine ⟨h.st.more hb ho hg, ?_⟩
  obtain ⟨t, ht⟩ := h.pool
  exact ⟨t, ref_rows (ht.below hb) (row_turns (own_below h.st.row hb) hg (Nat.le_trans h.st.below.size hb.size))⟩
theorem DocSt.added (h : DocSt w wr g u T ls) (hp : ∃ t, RefAt w' w.heap.size g t ls') (ho : Only w.heap.size RefObj wr w') : DocSt w w' g u T ls' :=
  ⟨⟨row_only h.st.row ho (fun cs f hh => by rcases hh with hh | hh <;> revert hh <;> decide), h.st.below.trans ho.1⟩, hp⟩
end
theorem texK_good (L : List Sym) (k : Nat) : GoodT (texK L k) := gat_good _
end Go.Proofs.YtldmjnbmjfnfeaaGreatDoor

namespace Go.Proofs.YtldmjnbmjfnfeaaGreatDoor
open Go Go.RowKit

def relaN : List UInt8 := [46, 114, 101, 108, 97]
theorem cat_bytes (l m : List UInt8) : (ByteArray.mk l.toArray) ++ (ByteArray.mk m.toArray) = ⟨(l ++ m).toArray⟩ := by
  apply ByteArray.ext
  simp [ByteArray.data_append]
theorem cat_rela (nm : List UInt8) (h : nm.length ≤ 100000) (W : World) : (Op.stringOp .add (ByteArray.mk #[46, 114, 101, 108, 97]) (ByteArray.mk nm.toArray)).run Tryz.prog W = .ok (.string ⟨(relaN ++ nm).toArray⟩) W := by
  rw [← cat_bytes]
  exact run_string_add_sum (P := Tryz.prog) W (ByteArray.mk #[46, 114, 101, 108, 97]) (ByteArray.mk nm.toArray) (by
    show 5 + nm.length ≤ _
    omega)

def symtabS (n : Nat) (d : List UInt8) : Sect := ⟨symtabN, 2, 0, 0, d, (n : Int) + 1, 0, 0, 24⟩
def strtabS (d : List UInt8) : Sect := ⟨strtabN, 3, 0, 0, d, 0, 0, 0, 0⟩
def relaS (n i : Nat) (nm : List UInt8) (l : List Rel) : Sect := ⟨relaN ++ nm, 4, 0, 0, relB l l.length, (n : Int), (i : Int), 0, 24⟩
/-- The sections, and those that have the symbols. -/
def headF (S : List Sect) (Y : List Sym) : List Sect := S ++ (if Y.length = 0 then [] else [symtabS S.length (tabY Y), strtabS (txtY Y)])
/-- The relocations of the first k sections. -/
def relF (S : List Sect) (R : List (List Rel)) : Nat → List Sect
  | 0 => []
  | k + 1 => relF S R k ++ (match S[k]?, R[k]? with
    | some s, some l => if l.length = 0 then [] else [relaS S.length k s.name l]
    | _, _ => [])
def fileO (S : List Sect) (Y : List Sym) (R : List (List Rel)) : List Sect := headF S Y ++ (relF S R R.length ++ [tabS])
variable {S : List Sect} {Y : List Sym} {R : List (List Rel)} {k : Nat} {s : Sect} {l : List Rel}
theorem relF_none (hs : S[k]? = some s) (hl : R[k]? = some l) (h : l.length = 0) : relF S R (k + 1) = relF S R k := by simp [relF, hs, hl, h]
theorem relF_some (hs : S[k]? = some s) (hl : R[k]? = some l) (h : l.length ≠ 0) : relF S R (k + 1) = relF S R k ++ [relaS S.length k s.name l] := by simp [relF, hs, hl, h]
theorem relF_length (S : List Sect) (R : List (List Rel)) : ∀ k, (relF S R k).length ≤ k
  | 0 => Nat.le_refl _
  | k + 1 => by
    have ih := relF_length S R k
    rw [relF, List.length_append]
    split
    · split <;> simp <;> omega
    · simp; omega

/-- What is put, or why not. -/
def oputE (kind machine : Int) (S : List Sect) (Y : List Sym) (R : List (List Rel)) : Int := match rightO S Y R with | true => putE kind machine (fileO S Y R) | false => 2
def oputR (kind machine : Int) (S : List Sect) (Y : List Sym) (R : List (List Rel)) : List UInt8 := match rightO S Y R with | true => putR kind machine (fileO S Y R) | false => []

/-- What is true of an object that may be put. -/
structure RightOb (S : List Sect) (Y : List Sym) (R : List (List Rel)) : Prop where
  first : ∃ s, S[0]? = some s ∧ sameS s zeroS = true
  made : anyMade S = false
  syms : rightY Y = true
  placed : placedY Y S.length = true
  len : R.length = 0 ∨ R.length = S.length
  none_ : R.length ≠ 0 → (R.headD []).length = 0
  lists : ∀ l ∈ R, badL Y.length l = false
theorem right_iso (h : rightO S Y R = true) : RightOb S Y R := by
  unfold rightO at h
  simp only [Bool.and_eq_true, decide_eq_true_eq, Bool.not_eq_true'] at h
  obtain ⟨h1, h2, h3, h4, h5, h6⟩ := h
  have hs : S[0]? = some (S[0]'h1) := List.getElem?_eq_getElem _
  rw [hs, Option.any_some] at h2
  unfold rightRest at h6
  simp only [Bool.or_eq_true, Bool.and_eq_true, decide_eq_true_eq, Bool.not_eq_true'] at h6
  refine ⟨⟨_, hs, h2⟩, h3, h4, h5, ?_, ?_, ?_⟩
  · rcases h6 with h | ⟨h, _⟩
    · exact .inl h
    · exact .inr h
  · rcases h6 with h | ⟨_, h, _⟩
    · exact fun h0 => absurd h h0
    · exact fun _ => h
  · intro l hl
    rcases h6 with h | ⟨_, _, h⟩
    · have : R = [] := by simpa using h
      rw [this] at hl; cases hl
    · rw [List.any_eq_false] at h
      simpa using h l hl
theorem RightOb.fit (h : RightOb S Y R) (hl : l ∈ R) : l.length ≤ 400 ∧ fitR l Y.length = true := by
  have := h.lists l hl
  unfold badL at this
  simp only [Bool.or_eq_false_iff, decide_eq_false_iff_not, Bool.not_eq_false'] at this
  exact ⟨by omega, this.2⟩
theorem RightOb.pos (h : RightOb S Y R) : 0 < S.length := by
  obtain ⟨s, hs, _⟩ := h.first
  exact (List.getElem?_eq_some_iff.1 hs).1

theorem tabY_size (h : rightY Y = true) : (tabY Y).length ≤ 9600 := by
  have h1 := tabK_length Y Y.length
  have h2 := (rightY_all h).1
  unfold tabY
  rw [h]
  show (tabK Y Y.length).length ≤ _
  omega
theorem txtY_size (h : rightY Y = true) (hs : sumN Y ≤ 50000) : (txtY Y).length ≤ 50500 := by
  have h1 := texK_span Y Y.length (Nat.le_refl _)
  have h2 := (rightY_all h).1
  have h3 := sumN_take Y Y.length
  unfold txtY
  rw [h]
  show (putsT (texK Y Y.length)).length ≤ _
  rw [(show (putsT (texK Y Y.length)).length = spanT (texK Y Y.length) from spanT_puts (texK_good Y Y.length).1)]
  omega
theorem symtab_fits (n : Nat) (hn : n ≤ 100000) (d : List UInt8) (hd : d.length ≤ 100000) : (symtabS n d).Fits :=
  ⟨by unfold InI symtabS; simp only; omega, by unfold InI symtabS; simp only; omega, by unfold InI symtabS; simp only; omega, by unfold InI symtabS; simp only; omega, by unfold InI symtabS; simp only; omega, by show (0 : Nat) < two64; decide, by show (0 : Nat) < two64; decide, hd, by show (7 : Nat) ≤ 100000; decide⟩
theorem strtab_fits (d : List UInt8) (hd : d.length ≤ 100000) : (strtabS d).Fits :=
  ⟨by unfold InI strtabS; simp only; omega, by unfold InI strtabS; simp only; omega, by unfold InI strtabS; simp only; omega, by unfold InI strtabS; simp only; omega, by unfold InI strtabS; simp only; omega, by show (0 : Nat) < two64; decide, by show (0 : Nat) < two64; decide, hd, by show (7 : Nat) ≤ 100000; decide⟩
theorem rela_fits (n i : Nat) (hn : n ≤ 100000) (hi : i ≤ 100000) (nm : List UInt8) (hnm : nm.length ≤ 8000) (l : List Rel) (hl : l.length ≤ 400) : (relaS n i nm l).Fits :=
  ⟨by unfold InI relaS; simp only; omega, by unfold InI relaS; simp only; omega, by unfold InI relaS; simp only; omega, by unfold InI relaS; simp only; omega, by unfold InI relaS; simp only; omega, by show (0 : Nat) < two64; decide, by show (0 : Nat) < two64; decide, by have := relB_length l l.length; show (relB l l.length).length ≤ _; omega, by show (relaN ++ nm).length ≤ _; rw [List.length_append]; show 5 + nm.length ≤ _; omega⟩

/-! ### The row that grows -/
/-- Sections laid one behind the other in a row of the call's own. -/
structure FileSt (w wr : World) (v : Value) (L : List Lay) : Prop where
  row : OwnL wr w.heap.size v L
  keep : KeepL wr w.heap.size L
  fits : ∀ x ∈ L, x.s.Fits
  below : Below w.heap.size w wr
theorem FileSt.later {w wr w' : World} {v : Value} {L : List Lay} (h : FileSt w wr v L) (hb : Below wr.heap.size wr w') : FileSt w w' v L :=
  ⟨row_below h.row hb, h.keep.only (Only.below (bad := fun _ => False) hb h.below.size) (fun _ _ x => x), h.fits, h.below.trans (hb.mono h.below.size)⟩
theorem FileSt.alloc {w wr : World} {v : Value} {L : List Lay} (h : FileSt w wr v L) (o : Obj) : FileSt w (wr.alloc o) v L := h.later ((Below.refl _ _).alloc (Nat.le_refl _) o)
theorem FileSt.more {w wr w' : World} {v : Value} {L M : List Lay} {g c : Nat} (h : FileSt w wr v L) (hM : ∀ x ∈ M, Own wr w.heap.size x.dv x.s.data ∧ x.s.Fits) (hr : w'.ownsRow w.heap.size 39 9 (.slice (some ⟨g, 0, none⟩) (L.length + M.length) c) (L.length + M.length) (cellsL L ++ cellsL M)) (hg : wr.grownBy w' v.ownBlock) :
    FileSt w w' (.slice (some ⟨g, 0, none⟩) (L ++ M).length c) (L ++ M) := by
  have ho := row_turns h.row hg h.below.size
  refine ⟨by rw [OwnL, List.length_append, cellsL_append]; exact hr, fun x hx => ?_, fun x hx => ?_, h.below.trans ho.1⟩
  · rcases List.mem_append.1 hx with hx | hx
    · exact (h.keep.only ho (fun cs f hh => absurd (show 5 = 39 from hh) (by decide))) x hx
    · have h1 : Own w' w.heap.size x.dv x.s.data := row_only (hM x hx).1 ho (fun cs f hh => absurd (show 5 = 39 from hh) (by decide))
      obtain ⟨A, c', e, hle, hcm, _⟩ := own_slice h1
      unfold Lay.dv at e
      injection e with e1 e2 e3
      exact ⟨.inr h1, by rw [e3]; exact hle, by rw [e3]; exact hcm⟩
  · rcases List.mem_append.1 hx with hx | hx
    · exact h.fits x hx
    · exact (hM x hx).2
/-- The row, as sections that lie. -/
theorem FileSt.secs {w wr : World} {v : Value} {L : List Lay} (h : FileSt w wr v L) : ∃ A c, v = .slice A L.length c ∧ L.length ≤ c ∧ c ≤ maxLen ∧ Secs wr wr.heap.size A L :=
  ownl_secs h.row (fun x hx => by
    obtain ⟨h1, h2, h3⟩ := h.keep.rd h.below.size hx
    exact ⟨h1, h2, h3, h.fits x hx⟩)

end Go.Proofs.YtldmjnbmjfnfeaaGreatDoor

namespace Go.Proofs.YtldmjnbmjfnfeaaGreatDoor
open Go Go.RowKit

/-- The document's cursor, a struct in memory beside it, and what has not turned since w0. -/
def StQ (T : TypeId) (B : Nat) (w0 w : World) (g : Nat) (v : Value) (l : List UInt8) (a : Nat) (H : Nat) (cs : Array Value) : Prop :=
  RR B w g v l a 0 ∧ Box w H T cs ∧ w0.grownBy w (some g)
theorem clamp_small (s : Nat) (h : s ≤ 8) : clampOf (s : Int) = s := by unfold clampOf; omega
theorem q_num {B : Nat} {w : World} {g : Nat} {v : Value} {l : List UInt8} {a : Nat} (h : RR B w g v l a 0) (s : Nat) (hs : s ≤ 8) (hlen : l.length ≤ 140737488355328) (hin : a + s ≤ l.length) :
    Calls Tryz.prog 56 #[.pointer (some ⟨g, 0, none⟩), .int .i64 (s : Int)] w fun r w' => r = .returned (.int .u64 (numT l a s : Int)) ∧ RR B w' g v l (a + s) 0 ∧ w.grownBy w' (some g) := by
  have hc := clamp_small s hs
  have := quint_ok h (s : Int) (by omega) hlen (by rw [hc]; omega)
  rw [hc] at this
  exact this
section
variable {T : TypeId} {B : Nat} {w0 w w' : World} {g : Nat} {v : Value} {l : List UInt8} {a b H : Nat} {cs : Array Value}
theorem StQ.call (h : StQ T B w0 w g v l a H cs) (hne : g ≠ H) (hC : RR B w' g v l b 0) (hG : w.grownBy w' (some g)) : StQ T B w0 w' g v l b H cs :=
  ⟨hC, h.2.1.grown hG (by simpa using fun e => hne e.symm), h.2.2.trans hG⟩
theorem StQ.set (h : StQ T B w0 w g v l a H cs) (hne : g ≠ H) (hB : B ≤ H) (hH : w0.heap.size ≤ H) (i : Nat) (u : Value) : StQ T B w0 (w.setCell ⟨H, i, none⟩ u) g v l a H (cs.setIfInBounds i u) :=
  have G : w.grownBy (w.setCell ⟨H, i, none⟩ u) (some H) := only_set (only_refl w (some H)) i u
  ⟨h.1.grown G (by simpa using hne) (fun x hx => by injection hx with hx; omega), h.2.1.set i u, only_trans h.2.2 G (.inr fun x hx => by injection hx with hx; omega)⟩
theorem StQ.num (h : StQ T B w0 w g v l a H cs) (hne : g ≠ H) (s : Nat) (hs : s ≤ 8) (hlen : l.length ≤ 140737488355328) (hin : a + s ≤ l.length) :
    Calls Tryz.prog 56 #[.pointer (some ⟨g, 0, none⟩), .int .i64 (s : Int)] w fun r w' => r = .returned (.int .u64 (numT l a s : Int)) ∧ StQ T B w0 w' g v l (a + s) H cs :=
  (q_num h.1 s hs hlen hin).mono fun _ _ ⟨h1, h2, h3⟩ => ⟨h1, h.call hne h2 h3⟩
end

theorem rytake_odd {w : World} (A A' : Option Addr) (n n' c c' : Nat) (h : n % 24 ≠ 0) :
    Calls Tryz.prog 25 #[.slice A n c, .slice A' n' c'] w fun r w' => r = .returned (.tuple #[.slice none 0 0, .int .i64 23]) ∧ w = w' := by
  have hm := modI n
  have hm' : (n : Int) % 24 = ((n % 24 : Nat) : Int) := by omega
  have hz : decide (0 < n % 24) = true := decide_eq_true (by omega)
  generalize n % 24 = m at *
  clear h
  go_enter Tryz.func25, Tryz.ntmps25
  go_wp2_with fail
  go_ret2
  exact ⟨rfl, rfl⟩
theorem rytake_big {w : World} (A A' : Option Addr) (n n' c c' : Nat) (hl : n ≤ 1000000) (h : ¬ n % 24 ≠ 0) (h2 : 400 < n / 24) :
    Calls Tryz.prog 25 #[.slice A n c, .slice A' n' c'] w fun r w' => r = .returned (.tuple #[.slice none 0 0, .int .i64 3]) ∧ w = w' := by
  have hm := modI n
  have hd := divI n
  have hm' : (n : Int) % 24 = ((n % 24 : Nat) : Int) := by omega
  have hd' : (n : Int) / 24 = ((n / 24 : Nat) : Int) := by omega
  have hz : decide (0 < n % 24) = false := decide_eq_false (by omega)
  have hqb : n / 24 ≤ 1000000 := by omega
  have hq : decide ((400 : Int) < ((n / 24 : Nat) : Int)) = true := decide_eq_true (by omega)
  generalize n % 24 = m at *
  generalize n / 24 = q at *
  clear h h2
  go_enter Tryz.func25, Tryz.ntmps25
  go_wp2_with fail
  go_ret2
  exact ⟨rfl, rfl⟩

/-- An item that was just laid. -/
theorem cells_new (w : World) (cs : List Value) (t : TypeId) : ∀ j u, cs[j]? = some u → (w.alloc (.cells cs.toArray t)).cell? ((⟨w.heap.size, 0, none⟩ : Addr).add j) = some u := by
  intro j u hj
  rw [addr_add, Nat.zero_add, (Box.new w t cs.toArray).cell]
  simpa using hj
def lenW : Value → Nat
  | .slice _ n _ => n
  | _ => 0
theorem row_len {T : TypeId} {size n base : Nat} {w : World} {v : Value} {X : List Value} (h : w.ownsRow base T size v n X) : lenW v = n := by
  rcases h.2 with ⟨rfl, h0⟩ | ⟨g, cap, cur, rfl, _⟩
  · rw [h0]; rfl
  · rfl
theorem row_ge {T : TypeId} {size n base : Nat} {w : World} {v : Value} {X : List Value} (h : w.ownsRow base T size v n X) : ∀ x, v.ownBlock = some x → base ≤ x ∧ x < w.heap.size := fun x hx => h.lt x hx

set_option maxRecDepth 10000 in
set_option maxHeartbeats 1600000 in
theorem rytake_even {w : World} {A A' : Option Addr} {t ns : List UInt8} {n q : Nat} (hn : t.length = n) (hlq : n = 24 * q) (hq4 : q ≤ 400) (hr : Rd w w.heap.size A t) (hr' : Rd w w.heap.size A' ns) (c c' : Nat) (hlc : n ≤ c) (hcm : c ≤ maxLen) (hlc' : ns.length ≤ c') (hcm' : c' ≤ maxLen) (hl' : ns.length ≤ 1000000) :
    Calls Tryz.prog 25 #[.slice A n c, .slice A' ns.length c'] w fun r w' => ∃ u, r = .returned (.tuple #[u, .int .i64 (errOf (okTo (okK t ns) q) 23)]) ∧ (okTo (okK t ns) q = true → OwnY w' w.heap.size u (listTo (symK t ns) q)) ∧ (okTo (okK t ns) q = false → u = .slice none 0 0) ∧ Below w.heap.size w w' := by
  have hq : decide ((400 : Int) < (q : Int)) = false := decide_eq_false (by omega)
  have hlc0 : t.length ≤ c := by omega
  have HLQ := Lib.hid (show t.length = 24 * q by omega)
  have HNQ := Lib.hid (show n = 24 * q by omega)
  have HQ4 := Lib.hid hq4
  have hm := modI n
  have hd := divI n
  rw [show n % 24 = 0 by omega] at hm
  rw [show n / 24 = q by omega] at hd
  have hm' : (n : Int) % 24 = 0 := by omega
  have hd' : (n : Int) / 24 = (q : Int) := by omega
  have hqw : wrap64 (q : Int) = (q : Int) := by unfold wrap64; omega
  obtain ⟨i1, hj, hy0, hy1, hy2⟩ := info_parts sym_info
  have HA := Lib.hid (fun (W : World) (hW : Below w.heap.size w W) (off : Nat) (ho : off < two64) => rat_any ((hr'.below hW).more hW.size) c' hlc' hcm' hl' off ho)
  have hb0 : Below w.heap.size w (w.alloc (.cells #[.slice A n c, .int .i64 0, .int .i64 0] 105)) := (Below.refl _ _).alloc (Nat.le_refl _) _
  have hR0 : RR w.heap.size (w.alloc (.cells #[.slice A n c, .int .i64 0, .int .i64 0] 105)) w.heap.size (.slice A n c) t 0 0 :=
    ⟨Box.new _ _ _, ⟨A, c, by rw [hn], hlc0, hcm, hr.below hb0⟩, Nat.zero_le _, Nat.le_refl _⟩
  obtain ⟨w1, hw1⟩ : ∃ w1, w.alloc (.cells #[.slice A n c, .int .i64 0, .int .i64 0] 105) = w1 := ⟨_, rfl⟩
  have hg1 : w.heap.size < w1.heap.size := by rw [← hw1]; simp
  rw [hw1] at hb0 hR0
  have HW := Lib.hid hw1
  have HB0 := Lib.hid hb0
  have HR0 := Lib.hid hR0
  clear hr hr' hl' hlc' hcm' hn hlq hq4 hlc hlc0 hcm hb0 hR0 hw1
  generalize hn' : ns.length = n' at *
  clear hn'
  go_enter Tryz.func25, Tryz.ntmps25
  go_wp2_with fail
  rw [HW.out]
  clear hm hd hq hm' hd' hqw
  go_loopw [7] (fun u wr => ∃ k a : Nat, k ≤ q ∧ Hid (a = 24 * k) ∧ Hid (okTo (okK t ns) k = true) ∧ OwnY wr w1.heap.size u (listTo (symK t ns) k) ∧ RR w.heap.size wr w.heap.size (.slice A n c) t a 0 ∧ Below w.heap.size w wr ∧ w1.heap.size ≤ wr.heap.size) (fun u _ => q - lenW u)
  case atStart => exact ⟨0, 0, Nat.zero_le _, Lib.hid rfl, Lib.hid rfl, World.ownsRow_nil _ _ _ _, HR0.out, HB0.out, Nat.le_refl _⟩
  case round =>
    obtain ⟨k, a, hk, HAK, HOK, hO, hR, hB, hS⟩ := hrel
    have c1 := rr_cell_at hR
    by_cases hlt : k < q
    · have HLT := Lib.hid hlt
      have hltn : a < n := by have := HAK.out; have := HNQ.out; omega
      have hlen : t.length ≤ 140737488355328 := by rw [HLQ.out]; have := HQ4.out; omega
      have hin : a + 24 ≤ t.length := by rw [HLQ.out, HAK.out]; omega
      have HU := Lib.hid (q_num hR 4 (by decide) hlen (by omega))
      have HK := Lib.hid (show symK t ns k = ⟨(atT ns (numT t a 4)).1, ((numT t (a + 4) 1 / 16 : Nat) : Int), ((numT t (a + 4) 1 % 16 : Nat) : Int), (numT t (a + 6) 2 : Int), numT t (a + 8) 8, numT t (a + 16) 8⟩ by rw [HAK.out]; rfl)
      have HO := Lib.hid (show okK t ns k = (decide ((atT ns (numT t a 4)).2 = 0) && decide (numT t (a + 6) 2 ≤ 65534)) by rw [HAK.out]; rfl)
      have hn4 := num4 t a
      have hn1 := num1 t (a + 4)
      have hn2 := num2 t (a + 6)
      generalize numT t a 4 = m0 at *
      obtain ⟨nm, hnm⟩ : ∃ x, (atT ns m0).1 = x := ⟨_, rfl⟩
      obtain ⟨ev, hev⟩ : ∃ x, (atT ns m0).2 = x := ⟨_, rfl⟩
      have HAm := Lib.hid (fun (W : World) (hW : Below w.heap.size w W) => HA.out W hW m0 (by unfold two64; omega))
      rw [hnm, hev] at HAm
      rw [hnm] at HK
      rw [hev] at HO
      clear hnm hev HA
      have HX := Lib.hid hO
      have HB := Lib.hid hB
      have HRR := Lib.hid hR
      have FB := Lib.hid (fun (w2 : World) (hR2 : RR w.heap.size w2 w.heap.size (.slice A n c) t (a + 4) 0) (hG2 : wr.grownBy w2 (some w.heap.size)) => (by
        have hB2 : Below w.heap.size w w2 := below_only HB.out (Nat.le_refl _) hG2 (Nat.le_refl _)
        refine ⟨hB2, fun w3 hb3 => ?_⟩
        have hA3 : Below w3.heap.size w3 (w3.alloc (.cells #[.string ⟨nm.toArray⟩, .int .i64 0, .int .i64 0, .int .i64 0, .int .u64 0, .int .u64 0] 51)) := (Below.refl _ _).alloc (Nat.le_refl _) _
        have hb23 : Below w2.heap.size w2 (w3.alloc (.cells #[.string ⟨nm.toArray⟩, .int .i64 0, .int .i64 0, .int .i64 0, .int .u64 0, .int .u64 0] 51)) := hb3.trans (hA3.mono hb3.size)
        exact ⟨hR2.below hb23, Box.new _ _ _, only_trans hG2 (only_below hb23 (some w.heap.size)) (.inl rfl)⟩ :
        Below w.heap.size w w2 ∧ ∀ w3, Below w2.heap.size w2 w3 → StQ 51 w.heap.size wr (w3.alloc (.cells #[.string ⟨nm.toArray⟩, .int .i64 0, .int .i64 0, .int .i64 0, .int .u64 0, .int .u64 0] 51)) w.heap.size (.slice A n c) t (a + 4) w3.heap.size #[.string ⟨nm.toArray⟩, .int .i64 0, .int .i64 0, .int .i64 0, .int .u64 0, .int .u64 0]))
      clear hO hB hR
      go_wp2_with (first
        | (go_at_call 56; refine HU.out.mono ?_; rintro r w2 ⟨rfl, hR2, hG2⟩; (obtain ⟨hB2, hF2⟩ := FB.out _ hR2 hG2); have hS2 := hG2.size; clear hR2 hG2 HU FB)
        | (go_at_call 55; refine (HAm.out _ hB2).mono ?_; rintro r w3 ⟨rfl, hb3⟩; have HS3 := Lib.hid (hF2 _ hb3); have hS3 := hb3.size; clear hb3 hF2 hB2 HAm))
      have hne : w.heap.size ≠ w3.heap.size := by omega
      have hBH : w.heap.size ≤ w3.heap.size := by omega
      have hwH : wr.heap.size ≤ w3.heap.size := by omega
      have hlen : t.length ≤ 140737488355328 := by rw [HLQ.out]; have := HQ4.out; omega
      have hin : a + 24 ≤ t.length := by rw [HLQ.out, HAK.out]; have := HLT.out; omega
      generalize w3.heap.size = H at *
      have C1 := Lib.hid (fun W cs (hS : StQ 51 w.heap.size wr W w.heap.size (.slice A n c) t (a + 4) H cs) => hS.num hne 1 (by decide) hlen (by omega))
      have C2 := Lib.hid (fun W cs (hS : StQ 51 w.heap.size wr W w.heap.size (.slice A n c) t (a + 4 + 1) H cs) => hS.num hne 1 (by decide) hlen (by omega))
      have C3 := Lib.hid (fun W cs (hS : StQ 51 w.heap.size wr W w.heap.size (.slice A n c) t (a + 6) H cs) => hS.num hne 2 (by decide) hlen (by omega))
      have C4 := Lib.hid (fun W cs (hS : StQ 51 w.heap.size wr W w.heap.size (.slice A n c) t (a + 8) H cs) => hS.num hne 8 (by decide) hlen (by omega))
      have C5 := Lib.hid (fun W cs (hS : StQ 51 w.heap.size wr W w.heap.size (.slice A n c) t (a + 16) H cs) => hS.num hne 8 (by decide) hlen (by omega))
      clear hlen hin hS2 hS3
      generalize numT t (a + 4) 1 = m1 at *
      generalize numT t (a + 4 + 1) 1 = m9 at *
      generalize numT t (a + 6) 2 = m3 at *
      generalize numT t (a + 8) 8 = m4 at *
      generalize numT t (a + 16) 8 = m5 at *
      have e1 : (m1 : Int) / 16 = ((m1 / 16 : Nat) : Int) := by omega
      have e2 : (m1 : Int) % 16 = ((m1 % 16 : Nat) : Int) := by omega
      have e3 : IntKind.i64.wrap ((m1 / 16 : Nat) : Int) = ((m1 / 16 : Nat) : Int) := by rw [IntWalk.i64_in _ (by omega)]
      have e4 : IntKind.i64.wrap ((m1 % 16 : Nat) : Int) = ((m1 % 16 : Nat) : Int) := by rw [IntWalk.i64_in _ (by omega)]
      have e5 : IntKind.i64.wrap (m3 : Int) = (m3 : Int) := by rw [IntWalk.i64_in _ (by omega)]
      generalize m1 / 16 = p1 at *
      generalize m1 % 16 = p2 at *
      refine (C1.out _ _ HS3.out).mono ?_
      rintro r w4 ⟨rfl, h⟩
      have HS4 := Lib.hid (show StQ 51 w.heap.size wr w4 w.heap.size (.slice A n c) t (a + 4 + 1) H _ from h)
      clear h C1 HS3
      go_wp2_with fail
      refine (C2.out _ _ HS4.out).mono ?_
      rintro r w5 ⟨rfl, h⟩
      have c0 := h.2.1.cell 1
      have fr0 := h.2.1.free 1
      have c1 := h.2.1.cell 2
      have fr1 := h.2.1.free 2
      simp at c0 c1
      have HS5 := Lib.hid (show StQ 51 w.heap.size wr _ w.heap.size (.slice A n c) t (a + 6) H #[.string ⟨nm.toArray⟩, .int .i64 (p1 : Int), .int .i64 (p2 : Int), .int .i64 0, .int .u64 0, .int .u64 0] from (h.set hne hBH hwH 1 (.int .i64 (p1 : Int))).set hne hBH hwH 2 (.int .i64 (p2 : Int)))
      clear h C2 HS4
      go_wp2_with fail
      refine (C3.out _ _ HS5.out).mono ?_
      rintro r w6 ⟨rfl, h⟩
      clear c0 c1 fr0 fr1
      have c0 := h.2.1.cell 3
      have fr0 := h.2.1.free 3
      simp at c0
      have HS6 := Lib.hid (show StQ 51 w.heap.size wr _ w.heap.size (.slice A n c) t (a + 8) H #[.string ⟨nm.toArray⟩, .int .i64 (p1 : Int), .int .i64 (p2 : Int), .int .i64 (m3 : Int), .int .u64 0, .int .u64 0] from h.set hne hBH hwH 3 (.int .i64 (m3 : Int)))
      clear h C3 HS5
      go_wp2_with fail
      refine (C4.out _ _ HS6.out).mono ?_
      rintro r w7 ⟨rfl, h⟩
      clear c0 fr0
      have c0 := h.2.1.cell 4
      have fr0 := h.2.1.free 4
      simp at c0
      have HS7 := Lib.hid (show StQ 51 w.heap.size wr _ w.heap.size (.slice A n c) t (a + 16) H #[.string ⟨nm.toArray⟩, .int .i64 (p1 : Int), .int .i64 (p2 : Int), .int .i64 (m3 : Int), .int .u64 (m4 : Int), .int .u64 0] from h.set hne hBH hwH 4 (.int .u64 (m4 : Int)))
      clear h C4 HS6
      go_wp2_with fail
      refine (C5.out _ _ HS7.out).mono ?_
      rintro r w8 ⟨rfl, h⟩
      clear c0 fr0
      obtain ⟨k0, k1, k2, k3, k4, k5⟩ := six_cells h.2.1
      have fr0 := h.2.1.free 5
      have HS8 := Lib.hid (show StQ 51 w.heap.size wr _ w.heap.size (.slice A n c) t (a + 24) H #[.string ⟨nm.toArray⟩, .int .i64 (p1 : Int), .int .i64 (p2 : Int), .int .i64 (m3 : Int), .int .u64 (m4 : Int), .int .u64 (m5 : Int)] from h.set hne hBH hwH 5 (.int .u64 (m5 : Int)))
      clear h C5 HS7
      by_cases he : ev = 0
      · have q0 : (ev != 0) = false := by simp [he]
        rw [decide_eq_true he, Bool.true_and] at HO
        clear he
        by_cases h5 : m3 ≤ 65534
        · have q1 : ((m3 : Int) == 65535) = false := by simp; omega
          rw [decide_eq_true h5] at HO
          clear h5
          have hRow := World.ownsRow.kept (w := wr) HX.out HS8.out.2.2 (block_not (fun y hy => (row_ge HX.out y hy).1) hg1)
          have hlt7 : (listTo (symK t ns) k).length = k := listTo_length _ _
          rw [hlt7] at hRow
          have HRW := Lib.hid hRow
          have h63 : k + 1 ≤ maxLen := by have := HLT.out; have := HQ4.out; unfold maxLen; omega
          have hby : (k + 1) * 56 ≤ 140737488355328 := by have := HLT.out; have := HQ4.out; omega
          have H63 := Lib.hid h63
          have HBY := Lib.hid hby
          have HS := Lib.hid hS
          have HG9 := Lib.hid HS8.out.2.2
          clear hRow hlt7 h63 hby
          have HCN := Lib.hid (show ∀ j u, (Sym.cells ⟨nm, p1, p2, m3, m4, m5⟩)[j]? = some u → ((w8.setCell ⟨H, 5, none⟩ (.int .u64 (m5 : Int))).alloc (.cells (Sym.cells ⟨nm, p1, p2, m3, m4, m5⟩).toArray 51)).cell? ((⟨w8.heap.size, 0, none⟩ : Addr).add j) = some u from fun j u hj => by
            have := cells_new (w8.setCell ⟨H, 5, none⟩ (.int .u64 (m5 : Int))) _ 51 j u hj
            rwa [heap_size_set] at this)
          have hbs : w1.heap.size ≤ ((w8.setCell ⟨H, 5, none⟩ (.int .u64 (m5 : Int))).alloc (.cells (Sym.cells ⟨nm, p1, p2, m3, m4, m5⟩).toArray 51)).heap.size := by have := HS.out; have := HG9.out.size; simp at *; omega
          go_wp2_with (at_builtin; (refine wpList_append_own_at _ (by rfl) (.tmp 68) (.tmp 70) _ (by rfl) w1.heap.size 51 i1 _ 6 56 Tryz.underlying25 hj hy0 hy1 hy2 rfl (by decide) u7 k (cellsF Sym.cells (listTo (symK t ns) k)) (by rfl) (HRW.out.alloc _) ⟨w8.heap.size, 0, none⟩ 1 1 (Sym.cells ⟨nm, p1, p2, m3, m4, m5⟩) (by rfl) rfl (HCN.out) (sym_one _) H63.out HBY.out hbs ?_; intro v4 w4 hown4 hg4 hn4 hat4; clear hn4))
          have hge := row_ge HX.out
          have hA9 : Below (w8.setCell ⟨H, 5, none⟩ (.int .u64 (m5 : Int))).heap.size (w8.setCell ⟨H, 5, none⟩ (.int .u64 (m5 : Int))) ((w8.setCell ⟨H, 5, none⟩ (.int .u64 (m5 : Int))).alloc (.cells (Sym.cells ⟨nm, p1, p2, m3, m4, m5⟩).toArray 51)) := (Below.refl _ _).alloc (Nat.le_refl _) _
          have hB9 := below_only HB.out (Nat.le_refl _) HS8.out.2.2 (Nat.le_refl _)
          have hRR := (HS8.out.1.below hA9).grown hg4 (fun e => by have := (hge _ e.symm).1; omega) (fun x hx => by have := (hge x hx).1; omega)
          have hBB := (hB9.trans (hA9.mono hB9.size)).grown hg4 (Nat.le_trans hB9.size hA9.size) (fun x hx => by have := (hge x hx).1; omega)
          have hl1 := row_len hown4
          have hl2 := row_len HX.out
          rw [listTo_length] at hl2
          refine ⟨⟨k + 1, a + 24, HLT.out, Lib.hid (by rw [HAK.out]; omega), Lib.hid (by rw [okTo_next, HOK.out, HO.out]; rfl), ?_, hRR, hBB, ?_⟩, by rw [hl1, hl2]; have := HLT.out; omega⟩
          · rw [OwnY, listTo_length, listTo_next, cellsF_append, cellsF_one, HK.out]
            exact hown4
          · exact Nat.le_trans hbs hg4.size
        · have q1 : ((m3 : Int) == 65535) = true := by simp; omega
          rw [decide_eq_false h5] at HO
          have HF := Lib.hid (okTo_more HLT.out (show okK t ns k = false by rw [HO.out]))
          clear h5
          go_wp2_with fail
          go_ret2
          exact ⟨_, by rw [HF.out]; rfl, fun h => absurd (HF.out.symm.trans h) (by decide), fun _ => rfl, below_only HB.out (Nat.le_refl _) HS8.out.2.2 (Nat.le_refl _)⟩
      · have q0 : (ev != 0) = true := by simpa using he
        rw [decide_eq_false he, Bool.false_and] at HO
        have HF := Lib.hid (okTo_more HLT.out (show okK t ns k = false by rw [HO.out]))
        clear he
        go_wp2_with fail
        go_ret2
        exact ⟨_, by rw [HF.out]; rfl, fun h => absurd (HF.out.symm.trans h) (by decide), fun _ => rfl, below_only HB.out (Nat.le_refl _) HS8.out.2.2 (Nat.le_refl _)⟩
    · have hkq : k = q := by omega
      subst hkq
      have hltn : ¬ a < n := by have := HAK.out; have := HNQ.out; omega
      have HD := Lib.hid (show OwnY wr w.heap.size u7 (listTo (symK t ns) k) from row_base hO (by omega))
      have HB := Lib.hid hB
      clear hO hR hB
      go_wp2_with fail
      go_ret2
      exact ⟨_, by rw [HOK.out]; rfl, fun _ => HD.out, fun h => absurd (HOK.out.symm.trans h) (by decide), HB.out⟩

/-- The document's Take, of whatever bytes. -/
theorem rytake_any {w : World} {A A' : Option Addr} {t ns : List UInt8} (hr : Rd w w.heap.size A t) (hr' : Rd w w.heap.size A' ns) (c c' : Nat) (hlc : t.length ≤ c) (hcm : c ≤ maxLen) (hlc' : ns.length ≤ c') (hcm' : c' ≤ maxLen) (hl : t.length ≤ 1000000) (hl' : ns.length ≤ 1000000) :
    Calls Tryz.prog 25 #[.slice A t.length c, .slice A' ns.length c'] w fun r w' => ∃ u, r = .returned (.tuple #[u, .int .i64 (takeEY t.length (okK t ns) 23)]) ∧ OwnY w' w.heap.size u (takeLY t.length (okK t ns) (symK t ns)) ∧ Below w.heap.size w w' := by
  by_cases h1 : t.length % 24 ≠ 0
  · rw [takeEY_odd h1, takeLY_odd h1]
    exact (rytake_odd A A' _ _ c c' h1).mono fun r w' ⟨e, hw⟩ => ⟨_, e, World.ownsRow_nil _ _ _ _, hw ▸ Below.refl _ _⟩
  · by_cases h2 : 400 < t.length / 24
    · rw [takeEY_big h1 h2, takeLY_big h1 h2]
      exact (rytake_big A A' _ _ c c' hl h1 h2).mono fun r w' ⟨e, hw⟩ => ⟨_, e, World.ownsRow_nil _ _ _ _, hw ▸ Below.refl _ _⟩
    · have hq : t.length = 24 * (t.length / 24) := by omega
      refine (rytake_even rfl hq (by omega) hr hr' c c' hlc hcm hlc' hcm' hl').mono fun r w' ⟨u, e, g1, g2, hb⟩ => ⟨u, ?_, ?_, hb⟩
      · rw [e]
        cases ho : okTo (okK t ns) (t.length / 24) with
        | true => rw [takeEY_ok hq (by omega) ho]; rfl
        | false => rw [takeEY_bad hq (by omega) ho]; rfl
      · cases ho : okTo (okK t ns) (t.length / 24) with
        | true => rw [takeLY_ok hq (by omega) ho]; exact g1 ho
        | false => rw [takeLY_bad hq (by omega) ho, g2 ho]; exact World.ownsRow_nil _ _ _ _

end Go.Proofs.YtldmjnbmjfnfeaaGreatDoor

namespace Go.Proofs.YtldmjnbmjfnfeaaGreatDoor
open Go Go.RowKit

theorem ryrel_odd {w : World} (A : Option Addr) (n c : Nat) (h : n % 24 ≠ 0) :
    Calls Tryz.prog 26 #[.slice A n c] w fun r w' => r = .returned (.tuple #[.slice none 0 0, .int .i64 24]) ∧ w = w' := by
  have hm := modI n
  have hm' : (n : Int) % 24 = ((n % 24 : Nat) : Int) := by omega
  have hz : decide (0 < n % 24) = true := decide_eq_true (by omega)
  generalize n % 24 = m at *
  clear h
  go_enter Tryz.func26, Tryz.ntmps26
  go_wp2_with fail
  go_ret2
  exact ⟨rfl, rfl⟩
theorem ryrel_big {w : World} (A : Option Addr) (n c : Nat) (hl : n ≤ 1000000) (h : ¬ n % 24 ≠ 0) (h2 : 400 < n / 24) :
    Calls Tryz.prog 26 #[.slice A n c] w fun r w' => r = .returned (.tuple #[.slice none 0 0, .int .i64 3]) ∧ w = w' := by
  have hm := modI n
  have hd := divI n
  have hm' : (n : Int) % 24 = ((n % 24 : Nat) : Int) := by omega
  have hd' : (n : Int) / 24 = ((n / 24 : Nat) : Int) := by omega
  have hz : decide (0 < n % 24) = false := decide_eq_false (by omega)
  have hqb : n / 24 ≤ 1000000 := by omega
  have hq : decide ((400 : Int) < ((n / 24 : Nat) : Int)) = true := decide_eq_true (by omega)
  generalize n % 24 = m at *
  generalize n / 24 = q at *
  clear h h2
  go_enter Tryz.func26, Tryz.ntmps26
  go_wp2_with fail
  go_ret2
  exact ⟨rfl, rfl⟩

set_option maxRecDepth 10000 in
set_option maxHeartbeats 1600000 in
theorem ryrel_even {w : World} {A : Option Addr} {t : List UInt8} {n q : Nat} (hn : t.length = n) (hlq : n = 24 * q) (hq4 : q ≤ 400) (hr : Rd w w.heap.size A t) (c : Nat) (hlc : n ≤ c) (hcm : c ≤ maxLen) :
    Calls Tryz.prog 26 #[.slice A n c] w fun r w' => ∃ u, r = .returned (.tuple #[u, .int .i64 (errOf (okTo (okR t) q) 24)]) ∧ (okTo (okR t) q = true → OwnR w' w.heap.size u (listTo (relK t) q)) ∧ (okTo (okR t) q = false → u = .slice none 0 0) ∧ Below w.heap.size w w' := by
  have hq : decide ((400 : Int) < (q : Int)) = false := decide_eq_false (by omega)
  have hlc0 : t.length ≤ c := by omega
  have HLQ := Lib.hid (show t.length = 24 * q by omega)
  have HNQ := Lib.hid (show n = 24 * q by omega)
  have HQ4 := Lib.hid hq4
  have hm := modI n
  have hd := divI n
  rw [show n % 24 = 0 by omega] at hm
  rw [show n / 24 = q by omega] at hd
  have hm' : (n : Int) % 24 = 0 := by omega
  have hd' : (n : Int) / 24 = (q : Int) := by omega
  have hqw : wrap64 (q : Int) = (q : Int) := by unfold wrap64; omega
  obtain ⟨i1, hj, hy0, hy1, hy2⟩ := info_parts rel_info
  have hb0 : Below w.heap.size w (w.alloc (.cells #[.slice A n c, .int .i64 0, .int .i64 0] 105)) := (Below.refl _ _).alloc (Nat.le_refl _) _
  have hR0 : RR w.heap.size (w.alloc (.cells #[.slice A n c, .int .i64 0, .int .i64 0] 105)) w.heap.size (.slice A n c) t 0 0 :=
    ⟨Box.new _ _ _, ⟨A, c, by rw [hn], hlc0, hcm, hr.below hb0⟩, Nat.zero_le _, Nat.le_refl _⟩
  obtain ⟨w1, hw1⟩ : ∃ w1, w.alloc (.cells #[.slice A n c, .int .i64 0, .int .i64 0] 105) = w1 := ⟨_, rfl⟩
  have hg1 : w.heap.size < w1.heap.size := by rw [← hw1]; simp
  rw [hw1] at hb0 hR0
  have HW := Lib.hid hw1
  have HB0 := Lib.hid hb0
  have HR0 := Lib.hid hR0
  clear hr hn hlq hq4 hlc hlc0 hcm hb0 hR0 hw1
  go_enter Tryz.func26, Tryz.ntmps26
  go_wp2_with fail
  rw [HW.out]
  clear hm hd hq hm' hd' hqw
  go_loopw [5] (fun u wr => ∃ k a : Nat, k ≤ q ∧ Hid (a = 24 * k) ∧ Hid (okTo (okR t) k = true) ∧ OwnR wr w1.heap.size u (listTo (relK t) k) ∧ RR w.heap.size wr w.heap.size (.slice A n c) t a 0 ∧ Below w.heap.size w wr ∧ w1.heap.size ≤ wr.heap.size) (fun u _ => q - lenW u)
  case atStart => exact ⟨0, 0, Nat.zero_le _, Lib.hid rfl, Lib.hid rfl, World.ownsRow_nil _ _ _ _, HR0.out, HB0.out, Nat.le_refl _⟩
  case round =>
    obtain ⟨k, a, hk, HAK, HOK, hO, hR, hB, hS⟩ := hrel
    have c1 := rr_cell_at hR
    by_cases hlt : k < q
    · have HLT := Lib.hid hlt
      have hltn : a < n := by have := HAK.out; have := HNQ.out; omega
      have hlen : t.length ≤ 140737488355328 := by rw [HLQ.out]; have := HQ4.out; omega
      have hin : a + 24 ≤ t.length := by rw [HLQ.out, HAK.out]; omega
      have HU := Lib.hid (q_num hR 8 (by decide) hlen (by omega))
      have HK := Lib.hid (show relK t k = ⟨numT t a 8, (numT t (a + 12) 4 : Int), (numT t (a + 8) 4 : Int), IntKind.i64.wrap (numT t (a + 16) 8 : Int)⟩ by rw [HAK.out]; rfl)
      have HO := Lib.hid (show okR t k = (decide (numT t (a + 8) 4 ≤ 2147483647) && decide (numT t (a + 12) 4 ≤ 2147483647)) by rw [HAK.out]; rfl)
      have hn1 := num4 t (a + 8)
      have hn2 := num4 t (a + 12)
      generalize numT t a 8 = m0 at *
      have HX := Lib.hid hO
      have HB := Lib.hid hB
      have FB := Lib.hid (fun (w2 : World) (hR2 : RR w.heap.size w2 w.heap.size (.slice A n c) t (a + 8) 0) (hG2 : wr.grownBy w2 (some w.heap.size)) => (by
        have hA3 : Below w2.heap.size w2 (w2.alloc (.cells #[.int .u64 (m0 : Int), .int .i64 0, .int .i64 0, .int .i64 0] 53)) := (Below.refl _ _).alloc (Nat.le_refl _) _
        exact ⟨hR2.below hA3, Box.new _ _ _, only_trans hG2 (only_below hA3 (some w.heap.size)) (.inl rfl)⟩ :
        StQ 53 w.heap.size wr (w2.alloc (.cells #[.int .u64 (m0 : Int), .int .i64 0, .int .i64 0, .int .i64 0] 53)) w.heap.size (.slice A n c) t (a + 8) w2.heap.size #[.int .u64 (m0 : Int), .int .i64 0, .int .i64 0, .int .i64 0]))
      clear hO hB hR
      go_wp2_with fail
      refine HU.out.mono ?_
      rintro r w2 ⟨rfl, hR2, hG2⟩
      have HS3 := Lib.hid (FB.out _ hR2 hG2)
      have hS2 := hG2.size
      clear hR2 hG2 HU FB
      have hne : w.heap.size ≠ w2.heap.size := by omega
      have hBH : w.heap.size ≤ w2.heap.size := by omega
      have hwH : wr.heap.size ≤ w2.heap.size := hS2
      have hlen : t.length ≤ 140737488355328 := by rw [HLQ.out]; have := HQ4.out; omega
      have hin : a + 24 ≤ t.length := by rw [HLQ.out, HAK.out]; have := HLT.out; omega
      go_wp2_with fail
      generalize w2.heap.size = H at *
      have C1 := Lib.hid (fun W cs (hS : StQ 53 w.heap.size wr W w.heap.size (.slice A n c) t (a + 8) H cs) => hS.num hne 4 (by decide) hlen (by omega))
      have C2 := Lib.hid (fun W cs (hS : StQ 53 w.heap.size wr W w.heap.size (.slice A n c) t (a + 12) H cs) => hS.num hne 4 (by decide) hlen (by omega))
      have C3 := Lib.hid (fun W cs (hS : StQ 53 w.heap.size wr W w.heap.size (.slice A n c) t (a + 16) H cs) => hS.num hne 8 (by decide) hlen (by omega))
      clear hlen hin hS2
      generalize numT t (a + 8) 4 = m1 at *
      generalize numT t (a + 12) 4 = m2 at *
      generalize numT t (a + 16) 8 = m3 at *
      have e1 : IntKind.i64.wrap (m1 : Int) = (m1 : Int) := by rw [IntWalk.i64_in _ (by omega)]
      have e2 : IntKind.i64.wrap (m2 : Int) = (m2 : Int) := by rw [IntWalk.i64_in _ (by omega)]
      generalize hy : IntKind.i64.wrap (m3 : Int) = y at *
      refine (C1.out _ _ HS3.out).mono ?_
      rintro r w4 ⟨rfl, h⟩
      have HS4 := Lib.hid (show StQ 53 w.heap.size wr w4 w.heap.size (.slice A n c) t (a + 12) H _ from h)
      clear h C1 HS3
      go_wp2_with fail
      refine (C2.out _ _ HS4.out).mono ?_
      rintro r w5 ⟨rfl, h⟩
      have HS5 := Lib.hid (show StQ 53 w.heap.size wr w5 w.heap.size (.slice A n c) t (a + 16) H _ from h)
      clear h C2 HS4
      go_wp2_with fail
      refine (C3.out _ _ HS5.out).mono ?_
      rintro r w8 ⟨rfl, h⟩
      obtain ⟨k0, k1, k2, k3⟩ := four_cells h.2.1
      obtain ⟨f0, f1, f2, f3⟩ := four_free h.2.1
      have HS8 := Lib.hid (show StQ 53 w.heap.size wr _ w.heap.size (.slice A n c) t (a + 24) H #[.int .u64 (m0 : Int), .int .i64 0, .int .i64 0, .int .i64 y] from h.set hne hBH hwH 3 (.int .i64 y))
      clear h C3 HS5
      by_cases h5 : m1 ≤ 2147483647
      · have q1 : decide ((2147483647 : Int) < (m1 : Int)) = false := decide_eq_false (by omega)
        rw [decide_eq_true h5, Bool.true_and] at HO
        clear h5
        by_cases h6 : m2 ≤ 2147483647
        · have q2 : decide ((2147483647 : Int) < (m2 : Int)) = false := decide_eq_false (by omega)
          rw [decide_eq_true h6] at HO
          clear h6
          have HS9 := Lib.hid (show StQ 53 w.heap.size wr _ w.heap.size (.slice A n c) t (a + 24) H #[.int .u64 (m0 : Int), .int .i64 (m2 : Int), .int .i64 (m1 : Int), .int .i64 y] from (HS8.out.set hne hBH hwH 2 (.int .i64 (m1 : Int))).set hne hBH hwH 1 (.int .i64 (m2 : Int)))
          generalize hW9 : ((w8.setCell ⟨H, 3, none⟩ (.int .i64 y)).setCell ⟨H, 2, none⟩ (.int .i64 (m1 : Int))).setCell ⟨H, 1, none⟩ (.int .i64 (m2 : Int)) = w9 at *
          have HW9 := Lib.hid hW9
          have hz9 : w9.heap.size = w8.heap.size := by rw [← hW9]; simp only [heap_size_set]
          clear hW9
          have hRow := World.ownsRow.kept (w := wr) HX.out HS9.out.2.2 (block_not (fun y hy => (row_ge HX.out y hy).1) hg1)
          have hlt7 : (listTo (relK t) k).length = k := listTo_length _ _
          rw [hlt7] at hRow
          have HRW := Lib.hid hRow
          have H63 := Lib.hid (show k + 1 ≤ maxLen by have := HLT.out; have := HQ4.out; unfold maxLen; omega)
          have HBY := Lib.hid (show (k + 1) * 32 ≤ 140737488355328 by have := HLT.out; have := HQ4.out; omega)
          have HS := Lib.hid hS
          have HG9 := Lib.hid HS9.out.2.2
          clear hRow hlt7
          have HCN := Lib.hid (show ∀ j u, (Rel.cells ⟨m0, m2, m1, y⟩)[j]? = some u → (w9.alloc (.cells (Rel.cells ⟨m0, m2, m1, y⟩).toArray 53)).cell? ((⟨w8.heap.size, 0, none⟩ : Addr).add j) = some u from fun j u hj => by
            have := cells_new w9 _ 53 j u hj
            rwa [hz9] at this)
          have hbs : w1.heap.size ≤ (w9.alloc (.cells (Rel.cells ⟨m0, m2, m1, y⟩).toArray 53)).heap.size := by have := HS.out; have := HG9.out.size; simp at *; omega
          clear hz9
          have HRW' := Lib.hid (HRW.out.alloc (.cells (Rel.cells ⟨m0, m2, m1, y⟩).toArray 53))
          go_wp2_with (at_builtin; (rw [HW9.out]; refine wpList_append_own_at _ (by rfl) (.tmp 50) (.tmp 52) _ (by rfl) w1.heap.size 53 i1 _ 4 32 Tryz.underlying49 hj hy0 hy1 hy2 rfl (by decide) u5 k (cellsF Rel.cells (listTo (relK t) k)) (by rfl) HRW'.out ⟨w8.heap.size, 0, none⟩ 1 1 (Rel.cells ⟨m0, m2, m1, y⟩) (by rfl) rfl (HCN.out) (rel_one _) H63.out HBY.out hbs ?_; intro v4 w4 hown4 hg4 hn4 hat4; clear hn4))
          have hge := row_ge HX.out
          have hA9 : Below w9.heap.size w9 (w9.alloc (.cells (Rel.cells ⟨m0, m2, m1, y⟩).toArray 53)) := (Below.refl _ _).alloc (Nat.le_refl _) _
          have hB9 := below_only HB.out (Nat.le_refl _) HS9.out.2.2 (Nat.le_refl _)
          have hRR := (HS9.out.1.below hA9).grown hg4 (fun e => by have := (hge _ e.symm).1; omega) (fun x hx => by have := (hge x hx).1; omega)
          have hBB := (hB9.trans (hA9.mono hB9.size)).grown hg4 (Nat.le_trans hB9.size hA9.size) (fun x hx => by have := (hge x hx).1; omega)
          have hl1 := row_len hown4
          have hl2 := row_len HX.out
          rw [listTo_length] at hl2
          refine ⟨⟨k + 1, a + 24, HLT.out, Lib.hid (by rw [HAK.out]; omega), Lib.hid (by rw [okTo_next, HOK.out, HO.out]; rfl), ?_, hRR, hBB, ?_⟩, by rw [hl1, hl2]; have := HLT.out; omega⟩
          · rw [OwnR, listTo_length, listTo_next, cellsF_append, cellsF_one, HK.out]
            exact hown4
          · exact Nat.le_trans hbs hg4.size
        · have q2 : decide ((2147483647 : Int) < (m2 : Int)) = true := decide_eq_true (by omega)
          rw [decide_eq_false h6] at HO
          have HF := Lib.hid (okTo_more HLT.out (show okR t k = false by rw [HO.out]))
          clear h6
          go_wp2_with fail
          go_ret2
          exact ⟨_, by rw [HF.out]; rfl, fun h => absurd (HF.out.symm.trans h) (by decide), fun _ => rfl, below_only HB.out (Nat.le_refl _) HS8.out.2.2 (Nat.le_refl _)⟩
      · have q1 : decide ((2147483647 : Int) < (m1 : Int)) = true := decide_eq_true (by omega)
        rw [decide_eq_false h5, Bool.false_and] at HO
        have HF := Lib.hid (okTo_more HLT.out (show okR t k = false by rw [HO.out]))
        clear h5
        go_wp2_with fail
        go_ret2
        exact ⟨_, by rw [HF.out]; rfl, fun h => absurd (HF.out.symm.trans h) (by decide), fun _ => rfl, below_only HB.out (Nat.le_refl _) HS8.out.2.2 (Nat.le_refl _)⟩
    · have hkq : k = q := by omega
      subst hkq
      have hltn : ¬ a < n := by have := HAK.out; have := HNQ.out; omega
      have HD := Lib.hid (show OwnR wr w.heap.size u5 (listTo (relK t) k) from row_base hO (by omega))
      have HB := Lib.hid hB
      clear hO hR hB
      go_wp2_with fail
      go_ret2
      exact ⟨_, by rw [HOK.out]; rfl, fun _ => HD.out, fun h => absurd (HOK.out.symm.trans h) (by decide), HB.out⟩

/-- The document's TakeRelas, of whatever bytes. -/
theorem ryrel_any {w : World} {A : Option Addr} {t : List UInt8} (hr : Rd w w.heap.size A t) (c : Nat) (hlc : t.length ≤ c) (hcm : c ≤ maxLen) (hl : t.length ≤ 1000000) :
    Calls Tryz.prog 26 #[.slice A t.length c] w fun r w' => ∃ u, r = .returned (.tuple #[u, .int .i64 (takeEY t.length (okR t) 24)]) ∧ OwnR w' w.heap.size u (takeLY t.length (okR t) (relK t)) ∧ Below w.heap.size w w' := by
  by_cases h1 : t.length % 24 ≠ 0
  · rw [takeEY_odd h1, takeLY_odd h1]
    exact (ryrel_odd A _ c h1).mono fun r w' ⟨e, hw⟩ => ⟨_, e, World.ownsRow_nil _ _ _ _, hw ▸ Below.refl _ _⟩
  · by_cases h2 : 400 < t.length / 24
    · rw [takeEY_big h1 h2, takeLY_big h1 h2]
      exact (ryrel_big A _ c hl h1 h2).mono fun r w' ⟨e, hw⟩ => ⟨_, e, World.ownsRow_nil _ _ _ _, hw ▸ Below.refl _ _⟩
    · have hq : t.length = 24 * (t.length / 24) := by omega
      refine (ryrel_even rfl hq (by omega) hr c hlc hcm).mono fun r w' ⟨u, e, g1, g2, hb⟩ => ⟨u, ?_, ?_, hb⟩
      · rw [e]
        cases ho : okTo (okR t) (t.length / 24) with
        | true => rw [takeEY_ok hq (by omega) ho]; rfl
        | false => rw [takeEY_bad hq (by omega) ho]; rfl
      · cases ho : okTo (okR t) (t.length / 24) with
        | true => rw [takeLY_ok hq (by omega) ho]; exact g1 ho
        | false => rw [takeLY_bad hq (by omega) ho, g2 ho]; exact World.ownsRow_nil _ _ _ _

end Go.Proofs.YtldmjnbmjfnfeaaGreatDoor

namespace Go.Proofs.YtldmjnbmjfnfeaaGreatDoor
open Go Go.RowKit

/-- A symbol's, a relocation's numbers are what their types may be. -/
structure Sym.Nums (s : Sym) : Prop where
  bind : InI s.bind
  kind : InI s.kind
  sect : InI s.sect
  value : s.value < two64
  size : s.size < two64
structure Rel.Nums (s : Rel) : Prop where
  off : s.off < two64
  sym : InI s.sym
  kind : InI s.kind
  add : InI s.add
end Go.Proofs.YtldmjnbmjfnfeaaGreatDoor

namespace Go.Proofs.YtldmjnbmjfnfeaaGreatDoor
open Go Go.RowKit

theorem num_at {A C : List UInt8} {x w f : Nat} (hf : A.length = f) : numT (A ++ (leBytes x w ++ C)) f w = x % 256 ^ w := by
  unfold numT cutT
  subst hf
  rw [List.drop_left]
  have : (leBytes x w ++ C).take w = leBytes x w := by
    conv => lhs; rw [show w = (leBytes x w).length from (leBytes_length x w).symm]
    rw [leBytes_length]
    exact List.take_left' (leBytes_length x w)
  rw [this, leNat_leBytes]

/-! ### The table -/
section
variable {L : List Sym} {k : Nat} {x : Sym}
theorem tabK_len : ∀ (k : Nat), k ≤ L.length → (tabK L k).length = 24 * k
  | 0, _ => rfl
  | k + 1, hk => by
    have hx : L[k]? = some (L[k]'(by omega)) := List.getElem?_eq_getElem _
    rw [tabK_next hx, List.length_append, tabK_len k (by omega)]
    simp [itsY, itsB]
    omega
theorem tabK_split (hx : L[k]? = some x) : ∀ (n : Nat), k < n → ∃ R, tabK L n = tabK L k ++ (itsB (itsY (addT (texK L k) x.name).2.1 x) ++ R)
  | 0, h => by omega
  | n + 1, h => by
    rcases Nat.lt_or_ge k n with h1 | h1
    · obtain ⟨R, hR⟩ := tabK_split hx n h1
      obtain ⟨Z, hZ⟩ : ∃ Z, tabK L (n + 1) = tabK L n ++ Z := ⟨_, rfl⟩
      rw [hZ, hR]
      exact ⟨R ++ Z, by simp only [List.append_assoc]⟩
    · obtain rfl : k = n := by omega
      rw [tabK_next hx]
      exact ⟨[], by rw [List.append_nil]⟩
theorem texK_find (hx : L[k]? = some x) (hr : rightT x.name = true) (hs : spanT (texK L k) ≤ 60000) : ∀ (n : Nat), k < n → n ≤ L.length → findT (texK L n) x.name = some (addT (texK L k) x.name).2.1
  | 0, h, _ => by omega
  | n + 1, h, hn => by
    rcases Nat.lt_or_ge k n with h1 | h1
    · have ih := texK_find hx hr hs n h1 (by omega)
      have hy : L[n]? = some (L[n]'(by omega)) := List.getElem?_eq_getElem _
      rw [texK_next hy]
      exact findT_keep ih _
    · obtain rfl : k = n := by omega
      rw [texK_next hx]
      exact (addT_ok hr hs).2.1
end
theorem atT_more {ps : List (List UInt8)} {t tail : List UInt8} {p : Nat} (hg : ∀ s ∈ ps, rightT s = true) (hf : findT ps t = some p) : atT (putsT ps ++ tail) p = (t, 0) := by
  have key : ∀ (l : List (List UInt8)) (q : Nat), (∀ s ∈ l, rightT s = true) → findT l t = some q → q < (putsT l ++ tail).length ∧ readT ((putsT l ++ tail).drop q) = (t, t.length + 1, 0) := by
    intro l
    induction l with
    | nil => intro q _ h; simp [findT] at h
    | cons s l ih =>
      intro q hr h
      have hs := hr s (by simp)
      have hps := (rightT_spec hs).2.2
      have hl : (putT s).length = s.length + 1 := by rw [hps]; simp
      have e0 : putsT (s :: l) ++ tail = putT s ++ (putsT l ++ tail) := by simp [putsT]
      rw [e0]
      unfold findT at h
      split at h
      · rename_i e
        injection h with h
        subst h e
        refine ⟨by rw [List.length_append, hl]; omega, ?_⟩
        rw [List.drop_zero]
        exact readT_put hs _
      · obtain ⟨q', hq, rfl⟩ := Option.map_eq_some_iff.1 h
        obtain ⟨h1, h2⟩ := ih q' (fun x hx => hr x (by simp [hx])) hq
        refine ⟨by rw [List.length_append, hl]; omega, ?_⟩
        have e : (putT s ++ (putsT l ++ tail)).drop (q' + (s.length + 1)) = (putsT l ++ tail).drop q' := by
          rw [← hl, Nat.add_comm, ← List.drop_drop, List.drop_left]
        rw [e]
        exact h2
  obtain ⟨h1, h2⟩ := key ps p hg hf
  unfold atT
  rw [if_pos h1, h2]

theorem wrapN_nat {t : Int} {n : Nat} (h : t = (n : Int)) (hn : n < two64) : wrapN t = n := by
  subst h
  unfold wrapN
  unfold two64 at hn
  rw [IntKind.wrap_u64]
  omega

theorem sym_back {L : List Sym} {tail : List UInt8} (hr : rightY L = true) (hs : sumN L ≤ 50000) (hn : ∀ x ∈ L, x.Nums) {k : Nat} {x : Sym} (hx : L[k]? = some x) :
    symK (tabK L L.length) (putsT (texK L L.length) ++ tail) k = x ∧ okK (tabK L L.length) (putsT (texK L L.length) ++ tail) k = true := by
  obtain ⟨hl4, hok⟩ := rightY_all hr
  have hk : k < L.length := (List.getElem?_eq_some_iff.1 hx).1
  have hm := List.mem_of_getElem? hx
  obtain ⟨hrt, ⟨hb0, hb1⟩, ⟨hk0, hk1⟩, hs0, hs1⟩ := okY_facts (hok x hm)
  obtain ⟨R, hR⟩ := tabK_split hx L.length hk
  have hspan : spanT (texK L k) ≤ 60000 := by
    have h1 := texK_span L k (by omega)
    have h2 := sumN_take L k
    omega
  have hfind := texK_find hx hrt hspan L.length hk (Nat.le_refl _)
  have hat := atT_more (tail := tail) (gat_good ((namesY L).take (L.length + 1))).1 hfind
  have hat' : atT (putsT (texK L L.length) ++ tail) (addT (texK L k) x.name).2.1 = (x.name, 0) := hat
  have hp := addT_at (gat_good ((namesY L).take (k + 1))) x.name
  have hp' : (addT (texK L k) x.name).2.1 < 65536 := hp
  have hA := tabK_len (L := L) k (by omega)
  have hNm := hn x hm
  have hval := hNm.value
  have hsiz := hNm.size
  unfold two64 at hval hsiz
  clear hat hp hfind hspan hNm
  generalize (addT (texK L k) x.name).2.1 = p at *
  obtain ⟨bi, hbi⟩ : ∃ n : Nat, x.bind = (n : Int) := ⟨x.bind.toNat, by omega⟩
  obtain ⟨ki, hki⟩ : ∃ n : Nat, x.kind = (n : Int) := ⟨x.kind.toNat, by omega⟩
  obtain ⟨se, hse⟩ : ∃ n : Nat, x.sect = (n : Int) := ⟨x.sect.toNat, by omega⟩
  have e1 : wrapN (x.bind * 16 + x.kind) = bi * 16 + ki := wrapN_nat (by omega) (by unfold two64; omega)
  have e2 : wrapN x.sect = se := wrapN_nat hse (by unfold two64; omega)
  have hI : itsB (itsY p x) ++ R = leBytes p 4 ++ (leBytes (bi * 16 + ki) 1 ++ (leBytes 0 1 ++ (leBytes se 2 ++ (leBytes x.value 8 ++ (leBytes x.size 8 ++ R))))) := by
    unfold itsY
    rw [e1, e2]
    simp only [itsB, List.flatMap_cons, List.flatMap_nil, List.append_nil, List.append_assoc]
  rw [hI] at hR
  have n0 : numT (tabK L L.length) (24 * k) 4 = p := by
    rw [hR, num_at hA]
    omega
  have n1 : numT (tabK L L.length) (24 * k + 4) 1 = bi * 16 + ki := by
    rw [hR, ← List.append_assoc, num_at (by rw [List.length_append, hA, leBytes_length])]
    omega
  have n3 : numT (tabK L L.length) (24 * k + 6) 2 = se := by
    rw [hR, ← List.append_assoc, ← List.append_assoc, ← List.append_assoc, num_at (by simp only [List.length_append, hA, leBytes_length])]
    omega
  have n4 : numT (tabK L L.length) (24 * k + 8) 8 = x.value := by
    rw [hR, ← List.append_assoc, ← List.append_assoc, ← List.append_assoc, ← List.append_assoc, num_at (by simp only [List.length_append, hA, leBytes_length])]
    omega
  have n5 : numT (tabK L L.length) (24 * k + 16) 8 = x.size := by
    rw [hR, ← List.append_assoc, ← List.append_assoc, ← List.append_assoc, ← List.append_assoc, ← List.append_assoc, num_at (by simp only [List.length_append, hA, leBytes_length])]
    omega
  constructor
  · unfold symK nameAt
    rw [n0, n1, n3, n4, n5, hat']
    rcases x with ⟨nm, b, kd, sc, va, sz⟩
    simp only at *
    subst hbi hki hse
    congr 1
    · omega
    · omega
  · unfold okK nameAt
    rw [n0, n3, hat']
    simp
    omega

theorem okTo_all {ok : Nat → Bool} {n : Nat} (h : ∀ k, k < n → ok k = true) : okTo ok n = true := by
  rw [okTo, List.all_eq_true]
  intro k hk
  exact h k (by simpa using hk)
theorem listTo_eq {α : Type} {f : Nat → α} {L : List α} (h : ∀ k x, L[k]? = some x → f k = x) : listTo f L.length = L := by
  apply List.ext_getElem?
  intro k
  unfold listTo
  rcases Nat.lt_or_ge k L.length with hk | hk
  · have hx : L[k]? = some (L[k]'hk) := List.getElem?_eq_getElem hk
    rw [hx, List.getElem?_map, List.getElem?_range hk]
    simp [h k _ hx]
  · rw [List.getElem?_eq_none hk, List.getElem?_eq_none (by simpa using hk)]

/-- Symbols that may be, put and taken. -/
theorem syms_back {L : List Sym} {tail : List UInt8} (hr : rightY L = true) (hs : sumN L ≤ 50000) (hn : ∀ x ∈ L, x.Nums) :
    takeEY (tabY L).length (okK (tabY L) (txtY L ++ tail)) 23 = 0 ∧ takeLY (tabY L).length (okK (tabY L) (txtY L ++ tail)) (symK (tabY L) (txtY L ++ tail)) = L := by
  obtain ⟨hl4, _⟩ := rightY_all hr
  unfold tabY txtY
  rw [hr]
  simp only
  have hlen := tabK_len (L := L) L.length (Nat.le_refl _)
  have hok : okTo (okK (tabK L L.length) (putsT (texK L L.length) ++ tail)) L.length = true := okTo_all fun k hk => (sym_back hr hs hn (List.getElem?_eq_getElem hk)).2
  exact ⟨takeEY_ok hlen hl4 hok, by rw [takeLY_ok hlen hl4 hok]; exact listTo_eq fun k x hx => (sym_back hr hs hn hx).1⟩

/-! ### Relocations -/
def goodR (x : Rel) : Bool := inTo x.sym 2147483647 && inTo x.kind 2147483647
section
variable {M : List Rel} {k : Nat} {x : Rel}
theorem relB_len : ∀ (k : Nat), k ≤ M.length → (relB M k).length = 24 * k
  | 0, _ => by simp [relB]
  | k + 1, hk => by
    have hx : M[k]? = some (M[k]'(by omega)) := List.getElem?_eq_getElem _
    rw [relB_next hx]
    simp only [List.length_append, leBytes_length, relB_len k (by omega)]
    omega
theorem relB_split (hx : M[k]? = some x) : ∀ (n : Nat), k < n → n ≤ M.length → ∃ R, relB M n = relB M k ++ (leBytes x.off 8 ++ (leBytes (wrapN x.kind) 4 ++ (leBytes (wrapN x.sym) 4 ++ (leBytes (wrapN x.add) 8 ++ R))))
  | 0, h, _ => by omega
  | n + 1, h, hn => by
    rcases Nat.lt_or_ge k n with h1 | h1
    · obtain ⟨R, hR⟩ := relB_split hx n h1 (by omega)
      have hy : M[n]? = some (M[n]'(by omega)) := List.getElem?_eq_getElem _
      rw [relB_next hy, hR]
      exact ⟨R ++ (leBytes (M[n]'(by omega)).off 8 ++ (leBytes (wrapN (M[n]'(by omega)).kind) 4 ++ (leBytes (wrapN (M[n]'(by omega)).sym) 4 ++ leBytes (wrapN (M[n]'(by omega)).add) 8))), by simp only [List.append_assoc]⟩
    · obtain rfl : k = n := by omega
      rw [relB_next hx]
      exact ⟨[], by simp only [List.append_assoc, List.append_nil]⟩
end
theorem rel_back {M : List Rel} (hg : ∀ x ∈ M, goodR x = true) (hn : ∀ x ∈ M, x.Nums) {k : Nat} {x : Rel} (hx : M[k]? = some x) : relK (relB M M.length) k = x ∧ okR (relB M M.length) k = true := by
  have hk : k < M.length := (List.getElem?_eq_some_iff.1 hx).1
  have hm := List.mem_of_getElem? hx
  have hgx := hg x hm
  unfold goodR inTo at hgx
  simp only [Bool.and_eq_true, decide_eq_true_eq] at hgx
  obtain ⟨⟨hs0, hs1⟩, hk0, hk1⟩ := hgx
  obtain ⟨R, hR⟩ := relB_split hx M.length hk (Nat.le_refl _)
  have hA := relB_len (M := M) k (by omega)
  have hNm := hn x hm
  have hof := hNm.off
  obtain ⟨ha0, ha1⟩ := hNm.add
  unfold two64 at hof
  obtain ⟨sy, hsy⟩ : ∃ n : Nat, x.sym = (n : Int) := ⟨x.sym.toNat, by omega⟩
  obtain ⟨ki, hki⟩ : ∃ n : Nat, x.kind = (n : Int) := ⟨x.kind.toNat, by omega⟩
  have e1 : wrapN x.kind = ki := wrapN_nat hki (by unfold two64; omega)
  have e2 : wrapN x.sym = sy := wrapN_nat hsy (by unfold two64; omega)
  rw [e1, e2] at hR
  have n0 : numT (relB M M.length) (24 * k) 8 = x.off := by
    rw [hR, num_at hA]
    omega
  have n1 : numT (relB M M.length) (24 * k + 8) 4 = ki := by
    rw [hR, ← List.append_assoc, num_at (by rw [List.length_append, hA, leBytes_length])]
    omega
  have n2 : numT (relB M M.length) (24 * k + 12) 4 = sy := by
    rw [hR, ← List.append_assoc, ← List.append_assoc, num_at (by simp only [List.length_append, hA, leBytes_length])]
    omega
  have n3 : numT (relB M M.length) (24 * k + 16) 8 = wrapN x.add := by
    rw [hR, ← List.append_assoc, ← List.append_assoc, ← List.append_assoc, num_at (by simp only [List.length_append, hA, leBytes_length])]
    have := wrapN_lt x.add; unfold two64 at this
    omega
  have e3 : IntKind.i64.wrap (wrapN x.add : Int) = x.add := by
    rw [← wrapN_eq, IntKind.wrap_u64, IntKind.wrap_i64]
    omega
  constructor
  · unfold relK
    rw [n0, n1, n2, n3, e3]
    rcases x with ⟨of, sm, kd, ad⟩
    simp only at *
    subst hsy hki
    rfl
  · unfold okR
    rw [n1, n2]
    simp
    omega

/-- Relocations whose numbers may be, put and taken. -/
theorem rels_back {M : List Rel} (hl : M.length ≤ 400) (hg : ∀ x ∈ M, goodR x = true) (hn : ∀ x ∈ M, x.Nums) :
    takeEY (relB M M.length).length (okR (relB M M.length)) 24 = 0 ∧ takeLY (relB M M.length).length (okR (relB M M.length)) (relK (relB M M.length)) = M := by
  have hlen := relB_len (M := M) M.length (Nat.le_refl _)
  have hok : okTo (okR (relB M M.length)) M.length = true := okTo_all fun k hk => (rel_back hg hn (List.getElem?_eq_getElem hk)).2
  exact ⟨takeEY_ok hlen hl hok, by rw [takeLY_ok hlen hl hok]; exact listTo_eq fun k x hx => (rel_back hg hn hx).1⟩

end Go.Proofs.YtldmjnbmjfnfeaaGreatDoor

namespace Go.Proofs.YtldmjnbmjfnfeaaGreatDoor
open Go Go.RowKit

theorem tabled_end (l : List Sect) (z : Sect) (t : List UInt8) : tabled (l ++ [z]) t = l ++ [{ z with data := t }] := by
  unfold tabled
  have h1 : (l ++ [z]).length - 1 = l.length := by simp
  have h2 : (l ++ [z])[l.length]? = some z := by simp
  rw [h1, h2]
  simp only
  apply List.ext_getElem?
  intro i
  by_cases hi : i < l.length
  · rw [List.getElem?_append_left hi, List.getElem?_set_ne (by omega), List.getElem?_append_left hi]
  · by_cases h3 : i = l.length
    · subst h3; simp
    · rw [List.getElem?_set_ne (by omega), List.getElem?_eq_none (by simp; omega), List.getElem?_eq_none (by simp; omega)]

/-! ### Runs of sections that are none of these -/
theorem place_run {S : List Sect} {a : Nat} : ∀ (b : Nat), a ≤ b → (∀ i s, a ≤ i → i < b → S[i]? = some s → s.kind ≠ 2) → placeK S b = placeK S a
  | 0, h, _ => by rw [show a = 0 by omega]
  | b + 1, h, hk => by
    rcases Nat.lt_or_ge b a with h1 | h1
    · rw [show a = b + 1 by omega]
    · have ih := place_run b h1 (fun i s h2 h3 => hk i s h2 (by omega))
      rcases hx : S[b]? with _ | x
      · simp [placeK, hx, ih]
      · rw [placeK_other hx (hk b x h1 (by omega) hx), ih]
theorem rel_run {S : List Sect} {p : Int} {n : Nat} : ∀ (b : Nat), b ≤ S.length → (∀ i s, i < b → S[i]? = some s → s.kind ≠ 9 ∧ s.kind ≠ 4) → relUp S p n b = 0 ∧ hadK S b = List.replicate S.length false ∧ relaK S b = List.replicate S.length []
  | 0, _, _ => ⟨rfl, rfl, rfl⟩
  | b + 1, hb, hk => by
    obtain ⟨h1, h2, h3⟩ := rel_run (S := S) (p := p) (n := n) b (by omega) (fun i s hi => hk i s (by omega))
    have hx : S[b]? = some (S[b]'(by omega)) := List.getElem?_eq_getElem _
    obtain ⟨k9, k4⟩ := hk b _ (by omega) hx
    obtain ⟨g1, g2, g3⟩ := rel_other hx h1 k9 k4
    exact ⟨g1, by rw [g2, h2], by rw [g3, h3]⟩

/-! ### The file's sections -/
section
variable {S : List Sect} {Y : List Sym} {R : List (List Rel)} {z : Sect}
theorem relF_mem {x : Sect} : ∀ k, x ∈ relF S R k → ∃ i s l, i < k ∧ S[i]? = some s ∧ R[i]? = some l ∧ l.length ≠ 0 ∧ x = relaS S.length i s.name l
  | 0, h => by cases h
  | k + 1, h => by
    rw [relF, List.mem_append] at h
    rcases h with h | h
    · obtain ⟨i, s, l, h1, h2⟩ := relF_mem k h
      exact ⟨i, s, l, by omega, h2⟩
    · rcases hs : S[k]? with _ | s
      · rw [hs] at h; cases h
      · rcases hl : R[k]? with _ | l
        · rw [hs, hl] at h; cases h
        · rw [hs, hl] at h
          simp only at h
          by_cases h0 : l.length = 0
          · rw [if_pos h0] at h; cases h
          · rw [if_neg h0] at h
            simp only [List.mem_cons, List.not_mem_nil, or_false] at h
            exact ⟨k, s, l, by omega, hs, hl, h0, h⟩
theorem relF_grows (k : Nat) : ∀ m, k ≤ m → relF S R k <+: relF S R m
  | 0, h => by rw [show k = 0 by omega]; exact List.prefix_refl _
  | m + 1, h => by
    rcases Nat.lt_or_ge m k with h1 | h1
    · rw [show k = m + 1 by omega]; exact List.prefix_refl _
    · exact (relF_grows k m h1).trans (List.prefix_append _ _)
/-- The sections of the file, with the section of names behind. -/
def backF (S : List Sect) (Y : List Sym) (R : List (List Rel)) (z : Sect) : List Sect := headF S Y ++ (relF S R R.length ++ [z])
theorem headF_none (h : Y.length = 0) : headF S Y = S := by unfold headF; rw [if_pos h, List.append_nil]
theorem headF_some (h : Y.length ≠ 0) : headF S Y = S ++ [symtabS S.length (tabY Y), strtabS (txtY Y)] := by unfold headF; rw [if_neg h]
theorem made_kinds (h : anyMade S = false) {i : Nat} {s : Sect} (hs : S[i]? = some s) : s.kind ≠ 2 ∧ s.kind ≠ 4 ∧ s.kind ≠ 9 := by
  unfold anyMade at h
  rw [List.any_eq_false] at h
  have := h s (List.mem_of_getElem? hs)
  unfold madeS at this
  simp only [Bool.or_eq_true, decide_eq_true_eq, not_or] at this
  exact ⟨this.1, this.2.1, this.2.2.1⟩
theorem back_low {i : Nat} (hi : i < S.length) : (backF S Y R z)[i]? = S[i]? := by
  unfold backF headF
  rw [List.getElem?_append_left (by rw [List.length_append]; omega), List.getElem?_append_left hi]
theorem back_high {i : Nat} : (backF S Y R z)[(headF S Y).length + i]? = (relF S R R.length ++ [z])[i]? := by
  unfold backF
  rw [List.getElem?_append_right (by omega), Nat.add_sub_cancel_left]
theorem back_sym (h : Y.length ≠ 0) : (backF S Y R z)[S.length]? = some (symtabS S.length (tabY Y)) ∧ (backF S Y R z)[S.length + 1]? = some (strtabS (txtY Y)) := by
  unfold backF
  rw [headF_some h]
  constructor
  · simp
  · simp
theorem back_length : (backF S Y R z).length = (headF S Y).length + (relF S R R.length).length + 1 := by
  unfold backF; simp; omega
/-- What stands behind the sections that were there. -/
theorem back_kind (hz : z.kind = 3) {i : Nat} {s : Sect} (hi : (headF S Y).length ≤ i) (hs : (backF S Y R z)[i]? = some s) : s.kind = 4 ∨ s.kind = 3 := by
  obtain ⟨j, rfl⟩ : ∃ j, i = (headF S Y).length + j := ⟨i - (headF S Y).length, by omega⟩
  rw [back_high] at hs
  have hm := List.mem_of_getElem? hs
  rw [List.mem_append] at hm
  rcases hm with hm | hm
  · obtain ⟨i, s', l, _, _, _, _, rfl⟩ := relF_mem _ hm
    exact .inl rfl
  · simp only [List.mem_cons, List.not_mem_nil, or_false] at hm
    subst hm
    exact .inr hz
/-- Where the symbols are. -/
theorem back_place (hI : anyMade S = false) (hz : z.kind = 3) : placeS (backF S Y R z) = if Y.length = 0 then -1 else (S.length : Int) := by
  have hlen := back_length (S := S) (Y := Y) (R := R) (z := z)
  have hlow : placeK (backF S Y R z) S.length = -1 := by
    rw [place_run (a := 0) S.length (by omega) (fun i s _ hi hs => by rw [back_low hi] at hs; exact (made_kinds hI hs).1)]
    rfl
  unfold placeS
  by_cases h : Y.length = 0
  · rw [if_pos h]
    have hh : (headF S Y).length = S.length := by rw [headF_none h]
    rw [place_run (a := S.length) _ (by omega) (fun i s h1 _ hs => by have := back_kind hz (by omega) hs; omega)]
    exact hlow
  · rw [if_neg h]
    obtain ⟨g1, g2⟩ := back_sym (S := S) (R := R) (z := z) h
    have hh : (headF S Y).length = S.length + 2 := by rw [headF_some h]; simp
    rw [place_run (a := S.length + 1) _ (by omega) (fun i s h1 _ hs => by
      by_cases h2 : i = S.length + 1
      · subst h2
        rw [g2] at hs
        injection hs with hs
        subst hs
        exact (by decide : (3 : Int) ≠ 2)
      · have := back_kind hz (by omega) hs; omega)]
    exact placeK_first g1 rfl hlow
theorem placedY_more {n m : Nat} (h : placedY Y n = true) (hm : n ≤ m) : placedY Y m = true := by
  unfold placedY at h ⊢
  simp only [Bool.not_eq_true'] at h ⊢
  rw [List.any_eq_false] at h ⊢
  intro x hx
  have := h x hx
  unfold farY at this ⊢
  simp only [Bool.and_eq_true, decide_eq_true_eq] at this ⊢
  omega
/-- The symbols. -/
theorem back_syms (hI : RightOb S Y R) (hz : z.kind = 3) (hs : sumN Y ≤ 50000) (hn : ∀ x ∈ Y, x.Nums) : symX (backF S Y R z) = 0 ∧ symY (backF S Y R z) = Y := by
  have hp := back_place (S := S) (Y := Y) (R := R) hI.made hz
  unfold symX symY
  rw [hp]
  by_cases h : Y.length = 0
  · rw [if_pos h, if_pos (by decide), if_pos (by decide)]
    exact ⟨rfl, (List.length_eq_zero_iff.1 h).symm⟩
  · rw [if_neg h, if_neg (by omega), if_neg (by omega), Int.toNat_natCast]
    obtain ⟨g1, g2⟩ := back_sym (S := S) (R := R) (z := z) h
    have g3 : (backF S Y R z)[(symtabS S.length (tabY Y)).link.toNat]? = some (strtabS (txtY Y)) := by
      rw [show (symtabS S.length (tabY Y)).link = ((S.length + 1 : Nat) : Int) from rfl, Int.toNat_natCast]
      exact g2
    obtain ⟨e1, e2⟩ := syms_there g1 g3 rfl
    obtain ⟨b1, b2⟩ := syms_back (tail := []) hI.syms hs hn
    rw [List.append_nil] at b1 b2
    have hpl : placedY Y (backF S Y R z).length = true := placedY_more hI.placed (by
      have := back_length (S := S) (Y := Y) (R := R) (z := z)
      rw [headF_some h] at this
      simp at this
      omega)
    obtain ⟨c1, c2⟩ := sym_in (n := (backF S Y R z).length) (d := tabY Y) (t := txtY Y) b1 (by rw [b2]; exact hpl)
    rw [e1, e2]
    exact ⟨c1, by rw [show (symtabS S.length (tabY Y)).data = tabY Y from rfl, show (strtabS (txtY Y)).data = txtY Y from rfl, c2, b2]⟩

/-! ### The relocations -/
def metL (R : List (List Rel)) (M k : Nat) : List Bool := (List.range M).map fun i => decide (i < k) && decide ((R[i]?.getD []).length ≠ 0)
def gotL (R : List (List Rel)) (M k : Nat) : List (List Rel) := (List.range M).map fun i => if i < k then R[i]?.getD [] else []
theorem metL_zero (M : Nat) : metL R M 0 = List.replicate M false := by
  apply List.ext_getElem
  · simp [metL]
  · intro i h1 h2
    simp [metL]
theorem gotL_zero (M : Nat) : gotL R M 0 = List.replicate M [] := by
  apply List.ext_getElem
  · simp [gotL]
  · intro i h1 h2
    simp [gotL]
theorem metL_none {M k : Nat} (h : (R[k]?.getD []).length = 0) : metL R M (k + 1) = metL R M k := by
  unfold metL
  apply List.map_congr_left
  intro i _
  by_cases hi : i = k
  · subst hi; simp [h]
  · rw [decide_eq_decide.2 (show i < k + 1 ↔ i < k by omega)]
theorem gotL_none {M k : Nat} (h : (R[k]?.getD []).length = 0) : gotL R M (k + 1) = gotL R M k := by
  unfold gotL
  apply List.map_congr_left
  intro i _
  by_cases hi : i = k
  · subst hi
    rw [if_pos (by omega), if_neg (by omega)]
    exact List.length_eq_zero_iff.1 h
  · by_cases h2 : i < k
    · rw [if_pos h2, if_pos (by omega)]
    · rw [if_neg h2, if_neg (by omega)]
theorem metL_get {M k i : Nat} (h : i < M) : (metL R M k)[i]? = some (decide (i < k) && decide ((R[i]?.getD []).length ≠ 0)) := by
  unfold metL
  rw [List.getElem?_map, List.getElem?_range h]
  rfl
theorem gotL_get {M k i : Nat} (h : i < M) : (gotL R M k)[i]? = some (if i < k then R[i]?.getD [] else []) := by
  unfold gotL
  rw [List.getElem?_map, List.getElem?_range h]
  rfl
theorem metL_length {M k : Nat} : (metL R M k).length = M := by simp [metL]
theorem gotL_length {M k : Nat} : (gotL R M k).length = M := by simp [gotL]
theorem metL_some {M k : Nat} (hk : k < M) (h : (R[k]?.getD []).length ≠ 0) : (metL R M k).set k true = metL R M (k + 1) := by
  apply List.ext_getElem?
  intro i
  rcases Nat.lt_or_ge i M with hi | hi
  · by_cases e : k = i
    · subst e
      rw [List.getElem?_set_self (by rw [metL_length]; exact hk), metL_get hi, decide_eq_true (show k < k + 1 by omega), decide_eq_true h]
      rfl
    · rw [List.getElem?_set_ne e, metL_get hi, metL_get hi, decide_eq_decide.2 (show i < k + 1 ↔ i < k by omega)]
  · rw [List.getElem?_eq_none (by rw [List.length_set, metL_length]; exact hi), List.getElem?_eq_none (by rw [metL_length]; exact hi)]
theorem gotL_some {M k : Nat} (hk : k < M) : (gotL R M k).set k (R[k]?.getD []) = gotL R M (k + 1) := by
  apply List.ext_getElem?
  intro i
  rcases Nat.lt_or_ge i M with hi | hi
  · by_cases e : k = i
    · subst e
      rw [List.getElem?_set_self (by rw [gotL_length]; exact hk), gotL_get hi, if_pos (by omega)]
    · rw [List.getElem?_set_ne e, gotL_get hi, gotL_get hi]
      by_cases h2 : i < k
      · rw [if_pos h2, if_pos (by omega)]
      · rw [if_neg h2, if_neg (by omega)]
  · rw [List.getElem?_eq_none (by rw [List.length_set, gotL_length]; exact hi), List.getElem?_eq_none (by rw [gotL_length]; exact hi)]
theorem metL_at {M k : Nat} (hk : k < M) : (metL R M k)[k]? = some false := by
  unfold metL
  rw [List.getElem?_map, List.getElem?_range hk]
  simp
theorem fit_rel {l : List Rel} {n : Nat} (h : fitR l n = true) : ∀ x ∈ l, 0 ≤ x.sym ∧ x.sym < (n : Int) ∧ 0 ≤ x.kind ∧ x.kind ≤ 2147483647 := by
  intro x hx
  unfold fitR at h
  simp only [Bool.not_eq_true'] at h
  rw [List.any_eq_false] at h
  have := h x hx
  unfold badF at this
  simp only [Bool.or_eq_true, decide_eq_true_eq, not_or] at this
  omega
theorem relsE_back {l : List Rel} {n : Nat} (hl : l.length ≤ 400) (hf : fitR l n = true) (hn400 : n ≤ 400) (hn : ∀ x ∈ l, x.Nums) : relsE n (relB l l.length) = 0 ∧ relsL (relB l l.length) = l := by
  obtain ⟨h1, h2⟩ := rels_back hl (fun x hx => by
    obtain ⟨a1, a2, a3, a4⟩ := fit_rel hf x hx
    unfold goodR inTo
    simp only [Bool.and_eq_true, decide_eq_true_eq]
    omega) hn
  exact ⟨by rw [relsE_fit h1, h2, hf]; rfl, h2⟩

theorem back_rels (hI : RightOb S Y R) (hz : z.kind = 3) (hn : ∀ l ∈ R, ∀ x ∈ l, x.Nums) (k : Nat) (hk : k ≤ R.length) :
    relUp (backF S Y R z) (placeS (backF S Y R z)) Y.length ((headF S Y).length + (relF S R k).length) = 0 ∧
    hadK (backF S Y R z) ((headF S Y).length + (relF S R k).length) = metL R (backF S Y R z).length k ∧
    relaK (backF S Y R z) ((headF S Y).length + (relF S R k).length) = gotL R (backF S Y R z).length k := by
  have hlen := back_length (S := S) (Y := Y) (R := R) (z := z)
  have hhl : S.length ≤ (headF S Y).length := by unfold headF; simp
  induction k with
  | zero =>
    rw [metL_zero, gotL_zero]
    refine rel_run _ (by rw [hlen]; simp [relF]; omega) (fun i s hi hs => ?_)
    simp only [relF, List.length_nil, Nat.add_zero] at hi
    by_cases h1 : i < S.length
    · rw [back_low h1] at hs
      have := made_kinds hI.made hs
      exact ⟨this.2.2, this.2.1⟩
    · by_cases h : Y.length = 0
      · rw [headF_none h] at hi; omega
      · have hh : (headF S Y).length = S.length + 2 := by rw [headF_some h]; simp
        obtain ⟨g1, g2⟩ := back_sym (S := S) (R := R) (z := z) h
        rcases Nat.lt_or_ge S.length i with h2 | h2
        · rw [show i = S.length + 1 by omega, g2] at hs
          injection hs with hs
          subst hs
          exact ⟨(by decide : (3 : Int) ≠ 9), (by decide : (3 : Int) ≠ 4)⟩
        · rw [show i = S.length by omega, g1] at hs
          injection hs with hs
          subst hs
          exact ⟨(by decide : (2 : Int) ≠ 9), (by decide : (2 : Int) ≠ 4)⟩
  | succ k ih =>
    obtain ⟨h1, h2, h3⟩ := ih (by omega)
    obtain ⟨l, hl⟩ : ∃ l, R[k]? = some l := ⟨R[k]'(by omega), List.getElem?_eq_getElem _⟩
    have hRn : R.length = S.length := by
      rcases hI.len with h | h
      · omega
      · exact h
    obtain ⟨s, hs⟩ : ∃ s, S[k]? = some s := ⟨S[k]'(by omega), List.getElem?_eq_getElem _⟩
    have hgd : R[k]?.getD [] = l := by rw [hl]; rfl
    by_cases h0 : l.length = 0
    · rw [relF_none hs hl h0, metL_none (by rw [hgd]; exact h0), gotL_none (by rw [hgd]; exact h0)]
      exact ⟨h1, h2, h3⟩
    · rw [relF_some hs hl h0, List.length_append, show ([relaS S.length k s.name l] : List Sect).length = 1 from rfl, ← Nat.add_assoc]
      have hpre : relF S R k ++ [relaS S.length k s.name l] <+: relF S R R.length := by
        rw [← relF_some hs hl h0]; exact relF_grows (k + 1) R.length (by omega)
      have hat : (backF S Y R z)[(headF S Y).length + (relF S R k).length]? = some (relaS S.length k s.name l) := by
        rw [back_high]
        obtain ⟨t, ht⟩ := hpre
        rw [← ht]
        simp
      have hkM : k < (backF S Y R z).length := by omega
      have hk0 : k ≠ 0 := fun e => by
        subst e
        have := hI.none_ (by omega)
        have h5 : R.headD [] = l := by
          cases R with
          | nil => cases hl
          | cons a t => simpa using hl
        rw [h5] at this
        exact h0 this
      obtain ⟨hf1, hf2⟩ := hI.fit (List.mem_of_getElem? hl)
      have hY : Y.length ≠ 0 := fun e => by
        rw [e] at hf2
        obtain ⟨x, hx⟩ : ∃ x, x ∈ l := ⟨l[0]'(by omega), List.getElem_mem _⟩
        have := fit_rel hf2 x hx
        omega
      have hp := back_place (S := S) (Y := Y) (R := R) hI.made hz
      rw [if_neg hY] at hp
      have hY4 := (rightY_all hI.syms).1
      obtain ⟨e1, e2⟩ := relsE_back hf1 hf2 hY4 (hn l (List.mem_of_getElem? hl))
      have hE : relE (backF S Y R z).length (placeS (backF S Y R z)) Y.length (hadK (backF S Y R z) ((headF S Y).length + (relF S R k).length)) (relaS S.length k s.name l) = 0 := by
        rw [relE_in rfl]
        · exact e1
        · rw [hp, h2, show (relaS S.length k s.name l).link = (S.length : Int) from rfl, show (relaS S.length k s.name l).inf = (k : Int) from rfl, Int.toNat_natCast, metL_at hkM]
          rintro (h | h | h | h | h)
          · omega
          · exact h rfl
          · omega
          · omega
          · cases h
      obtain ⟨g1, g2, g3⟩ := rel_four_next hat h1 rfl hE
      refine ⟨g1, ?_, ?_⟩
      · rw [g2, h2, show (relaS S.length k s.name l).inf = (k : Int) from rfl, Int.toNat_natCast, metL_some hkM (by rw [hgd]; exact h0)]
      · rw [g3, h3, show (relaS S.length k s.name l).inf = (k : Int) from rfl, Int.toNat_natCast, show (relaS S.length k s.name l).data = relB l l.length from rfl, e2, ← hgd, gotL_some hkM]

/-- What is taken of it. -/
theorem obj_back (hI : RightOb S Y R) (hz : z.kind = 3) (hs : sumN Y ≤ 50000) (hnY : ∀ x ∈ Y, x.Nums) (hnR : ∀ l ∈ R, ∀ x ∈ l, x.Nums) :
    objS (backF S Y R z) = 0 ∧ symY (backF S Y R z) = Y ∧ relaK (backF S Y R z) (backF S Y R z).length = (List.range (backF S Y R z).length).map fun i => R[i]?.getD [] := by
  obtain ⟨y1, y2⟩ := back_syms hI hz hs hnY
  obtain ⟨r1, r2, r3⟩ := back_rels hI hz hnR R.length (Nat.le_refl _)
  have hlen := back_length (S := S) (Y := Y) (R := R) (z := z)
  have hlast : (backF S Y R z)[(headF S Y).length + (relF S R R.length).length]? = some z := by
    rw [back_high]; simp
  obtain ⟨g1, g2, g3⟩ := rel_other hlast r1 (by omega) (by omega)
  rw [← hlen] at g1 g3
  have hp : placeS (backF S Y R z) ≠ -2 := by
    rw [back_place hI.made hz]
    split <;> omega
  refine ⟨?_, y2, ?_⟩
  · unfold objS
    rw [if_neg hp, y1, if_neg (by simp), y2]
    exact g1
  · rw [g3, r3]
    unfold gotL
    apply List.map_congr_left
    intro i _
    by_cases h : i < R.length
    · rw [if_pos h]
    · rw [if_neg h, List.getElem?_eq_none (by omega)]; rfl
end

end Go.Proofs.YtldmjnbmjfnfeaaGreatDoor

namespace Go.Proofs.YtldmjnbmjfnfeaaGreatDoor
open Go Go.RowKit

/-! ### An entry's bytes, read -/
theorem itsB_split (its : List (Nat × Nat)) (j x s : Nat) (h : its[j]? = some (x, s)) : itsB its = itsB (its.take j) ++ (leBytes x s ++ itsB (its.drop (j + 1))) := by
  have e : its = its.take j ++ ((x, s) :: its.drop (j + 1)) := by
    obtain ⟨hj, e⟩ := List.getElem?_eq_some_iff.1 h
    rw [← e, List.getElem_cons_drop, List.take_append_drop]
  conv => lhs; rw [e]
  simp [itsB]
theorem entB_num (ns : List Nat) (hl : ns.length = 10) (j x f s : Nat) (hx : ns[j]? = some x) (hf : offsN[j]? = some f) (hs : sizesN[j]? = some s) (hb : x < 256 ^ s) : numT (entB ns) f s = x := by
  have hz : (ns.zip sizesN)[j]? = some (x, s) := by rw [List.getElem?_zip_eq_some]; exact ⟨hx, hs⟩
  have h1 := itsB_split _ _ _ _ hz
  have h2 : (itsB ((ns.zip sizesN).take j)).length = f := by
    have hj : j < 10 := (List.getElem?_eq_some_iff.1 hf).1
    match ns, hl with
    | [a0, a1, a2, a3, a4, a5, a6, a7, a8, a9], _ =>
      have h10 : j = 0 ∨ j = 1 ∨ j = 2 ∨ j = 3 ∨ j = 4 ∨ j = 5 ∨ j = 6 ∨ j = 7 ∨ j = 8 ∨ j = 9 := by omega
      rcases h10 with rfl | rfl | rfl | rfl | rfl | rfl | rfl | rfl | rfl | rfl <;> (injection hf)
  unfold numT cutT entB
  rw [h1, ← h2, List.drop_left, List.take_left' (leBytes_length x s), leNat_leBytes, Nat.mod_eq_of_lt hb]

def Enc (ns : List Nat) : Prop := ns.length = 10 ∧ ∀ (j x s : Nat), ns[j]? = some x → sizesN[j]? = some s → x < 256 ^ s
theorem entN_of {l : List UInt8} {o : Nat} {ns : List Nat} (h : (l.drop o).take 64 = entB ns) (hE : Enc ns) : entN l o = ns := by
  apply List.ext_getElem?
  intro j
  by_cases hj : j < 10
  · have hf : offsN[j]? = some (offsN[j]'(by show j < 10; exact hj)) := List.getElem?_eq_getElem _
    have hs : sizesN[j]? = some (sizesN[j]'(by show j < 10; exact hj)) := List.getElem?_eq_getElem _
    have hx : ns[j]? = some (ns[j]'(by rw [hE.1]; exact hj)) := List.getElem?_eq_getElem _
    rw [entN_at l o j _ _ hf hs, hx]
    have h1 := entB_num ns hE.1 j _ _ _ hx hf hs (hE.2 j _ _ hx hs)
    rw [← h, numT_cut _ _ _ _ _ (offs_next hf hs).2.2.1] at h1
    rw [h1]
  · rw [List.getElem?_eq_none (by rw [entN_length]; omega), List.getElem?_eq_none (by rw [hE.1]; omega)]

/-! ### What is laid, and where -/
theorem layK_step (ss : List Sect) (ps : List Nat) (k : Nat) : (layK ss ps k).1 <+: (layK ss ps (k + 1)).1 ∧ (layK ss ps k).2 <+: (layK ss ps (k + 1)).2 := by
  rcases hs : ss[k + 1]? with _ | s
  · rw [layK, hs]; exact ⟨List.prefix_refl _, List.prefix_refl _⟩
  · rcases hp : ps[k + 1]? with _ | p
    · rw [layK, hs, hp]; exact ⟨List.prefix_refl _, List.prefix_refl _⟩
    · rw [layK_next hs hp]
      exact ⟨by unfold padB; rw [List.append_assoc]; exact List.prefix_append _ _, List.prefix_append _ _⟩
theorem layK_prefix (ss : List Sect) (ps : List Nat) (k : Nat) : ∀ n, k ≤ n → (layK ss ps k).1 <+: (layK ss ps n).1 ∧ (layK ss ps k).2 <+: (layK ss ps n).2 := by
  intro n hn
  induction n with
  | zero => rw [show k = 0 by omega]; exact ⟨List.prefix_refl _, List.prefix_refl _⟩
  | succ n ih =>
    rcases Nat.eq_or_lt_of_le hn with rfl | h
    · exact ⟨List.prefix_refl _, List.prefix_refl _⟩
    · have h1 := ih (by omega)
      have h2 := layK_step ss ps n
      exact ⟨h1.1.trans h2.1, h1.2.trans h2.2⟩
theorem layK_first (ss : List Sect) (ps : List Nat) (n : Nat) : (layK ss ps n).2[0]? = some (List.replicate 10 0) := by
  obtain ⟨r, h⟩ := (layK_prefix ss ps 0 n (Nat.zero_le _)).2
  rw [← h]
  rfl
/-- One of the sections: its entry, and its bytes in all of them. -/
theorem layK_at {ss : List Sect} {ps : List Nat} {n i p : Nat} {s : Sect} (hs : ss[i + 1]? = some s) (hp : ps[i + 1]? = some p) (hi : i + 1 ≤ n) (hl : n < ss.length) (hl' : n < ps.length) :
    (layK ss ps n).2[i + 1]? = some (entNs s p (padB (layK ss ps i).1).length) ∧ padB (layK ss ps i).1 ++ (if s.kind = 8 then [] else s.data) <+: (layK ss ps n).1 := by
  have h := layK_prefix ss ps (i + 1) n hi
  have hc := layK_count ss ps i (by omega) (by omega)
  rw [layK_next hs hp] at h
  refine ⟨?_, h.1⟩
  obtain ⟨r, e⟩ := h.2
  rw [← e, List.append_assoc, List.getElem?_append_right (by omega), hc, Nat.sub_self]
  rfl

/-- A cut of what is laid in front. -/
theorem cut_prefix {X d Y : List UInt8} (h : X ++ d <+: Y) (r : List UInt8) : ((Y ++ r).drop X.length).take d.length = d ∧ X.length + d.length ≤ Y.length := by
  obtain ⟨z, rfl⟩ := h
  refine ⟨?_, by simp⟩
  rw [List.append_assoc, List.append_assoc, List.drop_left, List.take_left]

theorem entsB_cut {es : List (List Nat)} (ht : ∀ e ∈ es, e.length = 10) {i : Nat} {e : List Nat} (h : es[i]? = some e) : ((entsB es).drop (64 * i)).take 64 = entB e := by
  have hil := (List.getElem?_eq_some_iff.1 h).1
  have e1 : es = es.take i ++ (e :: es.drop (i + 1)) := by
    obtain ⟨hj, e'⟩ := List.getElem?_eq_some_iff.1 h
    rw [← e', List.getElem_cons_drop, List.take_append_drop]
  have e2 : entsB es = entsB (es.take i) ++ (entB e ++ entsB (es.drop (i + 1))) := by
    conv => lhs; rw [e1]
    simp [entsB]
  have h1 : (entsB (es.take i)).length = 64 * i := by
    rw [entsB_length _ (fun x hx => ht x (List.mem_of_mem_take hx)), List.length_take, Nat.min_eq_left (by omega)]
  rw [e2, ← h1, List.drop_left, List.take_left' (entB_length e (ht e (List.mem_of_getElem? h)))]

/-- Behind the header all is as it was laid. -/
theorem file_drop (H X : List UInt8) (hH : H.length = 64) (q : Nat) (hq : 64 ≤ q) : (H ++ X.drop 64).drop q = X.drop q := by
  rw [List.drop_append, hH, List.drop_eq_nil_of_le (by omega), List.nil_append, List.drop_drop]
  congr 1
  omega

end Go.Proofs.YtldmjnbmjfnfeaaGreatDoor

namespace Go.Proofs.YtldmjnbmjfnfeaaGreatDoor
open Go Go.RowKit

theorem inM_nat {x : Int} (h : inM x = true) : ∃ k : Nat, x = (k : Int) ∧ k ≤ 2147483647 ∧ wrapN x = k := by
  unfold inM at h
  rw [decide_eq_true_eq] at h
  refine ⟨x.toNat, by omega, by omega, ?_⟩
  unfold wrapN
  rw [IntKind.wrap_u64]
  omega
theorem okS_parts {s : Sect} (h : okS s = true) : 1 ≤ s.kind ∧ inM s.kind = true ∧ inM s.link = true ∧ inM s.inf = true ∧ inM s.algn = true ∧ inM s.ent = true ∧ rightT s.name = true ∧ s.data.length ≤ 65536 ∧ (s.kind = 8 → s.data = List.replicate s.data.length 0) := by
  unfold okS at h
  simp only [Bool.and_eq_true, decide_eq_true_eq, Bool.or_eq_true, smallI, List.all_cons, List.all_nil, Bool.and_true] at h
  obtain ⟨h1, ⟨h2, h3, h4, h5, h6⟩, h7, h8, h9⟩ := h
  refine ⟨h1, h2, h3, h4, h5, h6, h7, h8, fun hk => ?_⟩
  rcases h9 with h9 | h9
  · exact absurd hk h9
  · have := List.count_eq_length.1 h9
    exact List.eq_replicate_of_mem fun b hb => (this b hb).symm

/-- What is true of the entry of a section that may be. -/
theorem ent_facts {s : Sect} (hok : okS s = true) (hfl : s.flags < two64) (had : s.addr < two64) {p q : Nat} (hp : p < 4294967296) (hq : q < two64) {B : List UInt8}
    (hin : s.kind ≠ 8 → q + s.data.length ≤ B.length ∧ (B.drop q).take s.data.length = s.data) :
    Enc (entNs s p q) ∧ entE (entNs s p q) B.length = 0 ∧ dataT B (entNs s p q) = s.data ∧ kindN (entNs s p q) = wrapN s.kind ∧
      ∀ tbl, atT tbl p = (s.name, 0) → sectT B tbl (entNs s p q) = s := by
  obtain ⟨h1, h2, h3, h4, h5, h6, h7, h8, h9⟩ := okS_parts hok
  obtain ⟨k1, e1, b1, w1⟩ := inM_nat h2
  obtain ⟨k2, e2, b2, w2⟩ := inM_nat h3
  obtain ⟨k3, e3, b3, w3⟩ := inM_nat h4
  obtain ⟨k4, e4, b4, w4⟩ := inM_nat h5
  obtain ⟨k5, e5, b5, w5⟩ := inM_nat h6
  have hns : entNs s p q = [p, k1, s.flags, s.addr, q, s.data.length, k2, k3, k4, k5] := by unfold entNs; rw [w1, w2, w3, w4, w5]
  have hk8 : s.kind = 8 ↔ k1 = 8 := by omega
  have hk0 : k1 ≠ 0 := by omega
  have hD : dataT B [p, k1, s.flags, s.addr, q, s.data.length, k2, k3, k4, k5] = s.data := by
    show (if k1 = 0 then [] else if k1 = 8 then List.replicate s.data.length 0 else (B.drop q).take s.data.length) = s.data
    rw [if_neg hk0]
    by_cases hk : k1 = 8
    · rw [if_pos hk]; exact (h9 (hk8.2 hk)).symm
    · rw [if_neg hk]; exact (hin (fun h => hk (hk8.1 h))).2
  unfold two64 at *
  rw [hns]
  refine ⟨⟨rfl, fun j x z hx hz => ?_⟩, ?_, hD, by rw [w1]; rfl, fun tbl ht => ?_⟩
  · have hj : j < 10 := (List.getElem?_eq_some_iff.1 hx).1
    have h10 : j = 0 ∨ j = 1 ∨ j = 2 ∨ j = 3 ∨ j = 4 ∨ j = 5 ∨ j = 6 ∨ j = 7 ∨ j = 8 ∨ j = 9 := by omega
    have p4 : (256 : Nat) ^ 4 = 4294967296 := rfl
    have p8 : (256 : Nat) ^ 8 = 18446744073709551616 := rfl
    rcases h10 with rfl | rfl | rfl | rfl | rfl | rfl | rfl | rfl | rfl | rfl <;> (injection hx with hx; injection hz with hz; subst hx hz; first | (rw [p4]; omega) | (rw [p8]; omega))
  · show (if smallN [k2, k3, k4, k5, k1] = true then (if k1 = 0 then (0 : Int) else if k1 ≠ 8 ∧ B.length < q + s.data.length then 22 else if 65536 < s.data.length then 3 else 0) else 22) = 0
    rw [if_pos (by simp [smallN]; omega), if_neg hk0, if_neg (fun h => by have := (hin (fun h' => h.1 (hk8.1 h'))).1; omega), if_neg (by omega)]
  · have e : sectT B tbl [p, k1, s.flags, s.addr, q, s.data.length, k2, k3, k4, k5] = ⟨(atT tbl p).1, (k1 : Int), s.flags, s.addr, dataT B [p, k1, s.flags, s.addr, q, s.data.length, k2, k3, k4, k5], (k2 : Int), (k3 : Int), (k4 : Int), (k5 : Int)⟩ := rfl
    rw [e, ht, hD, ← e1, ← e2, ← e3, ← e4, ← e5]

/-! ### The names -/
theorem gat_knows (ns : List (List UInt8)) (hr : ∀ t ∈ ns, rightT t = true) (hn : ns.length ≤ 64) : Knows (gat ns).1 (gat ns).2 ns ∧ spanT (gat ns).1 ≤ 201 * ns.length := by
  have key : ∀ k, k ≤ ns.length → Knows (gat (ns.take k)).1 (gat (ns.take k)).2 (ns.take k) ∧ spanT (gat (ns.take k)).1 ≤ 201 * k := by
    intro k
    induction k with
    | zero => intro _; exact ⟨knows_nil, by simp [gat, spanT]⟩
    | succ k ih =>
      intro hk
      obtain ⟨h1, h2⟩ := ih (by omega)
      have h : ns[k]? = some (ns[k]'(by omega)) := List.getElem?_eq_getElem _
      have hrt := hr _ (List.mem_of_getElem? h)
      rw [gat_take h, show ns.take (k + 1) = ns.take k ++ [ns[k]'(by omega)] by rw [List.take_add_one, h]; rfl]
      exact ⟨knows_next h1 hrt (by omega), by have := (addT_ok hrt (l := (gat (ns.take k)).1) (by omega)).2.2; simp only; omega⟩
  have := key ns.length (Nat.le_refl _)
  rwa [List.take_length] at this
theorem gat_names (ns : List (List UInt8)) (hr : ∀ t ∈ ns, rightT t = true) (hn : ns.length ≤ 64) {i : Nat} {t : List UInt8} (h : ns[i]? = some t) : ∃ p, (gat ns).2[i]? = some p ∧ atT (putsT (gat ns).1) p = (t, 0) ∧ p < 65536 := by
  obtain ⟨h1, h2⟩ := gat_knows ns hr hn
  obtain ⟨h3, p, h4, h5⟩ := h1.2 i t h
  refine ⟨p, h4, atT_find (gat_good ns).1 h5, ?_⟩
  have := findT_lt h5
  omega
theorem gat_zero {ns : List (List UInt8)} (h : ns[0]? = some []) (hr : ∀ t ∈ ns, rightT t = true) (hn : ns.length ≤ 64) : (gat ns).2[0]? = some 0 ∧ atT (putsT (gat ns).1) 0 = ([], 0) := by
  have h1 : (gat ns).2[0]? = some 0 := by
    have key : ∀ k, 1 ≤ k → k ≤ ns.length → (gat (ns.take k)).2[0]? = some 0 := by
      intro k
      induction k with
      | zero => intro h; omega
      | succ k ih =>
        intro _ hk
        have hk' : ns[k]? = some (ns[k]'(by omega)) := List.getElem?_eq_getElem _
        rw [gat_take hk']
        rcases Nat.eq_zero_or_pos k with rfl | hp
        · rw [h] at hk'
          injection hk' with hk'
          rw [← hk']
          rfl
        · have := ih hp (by omega)
          rw [List.getElem?_append_left (by rw [gat_length ns k (by omega)]; omega)]
          exact this
    have hl : 0 < ns.length := (List.getElem?_eq_some_iff.1 h).1
    have := key ns.length hl (Nat.le_refl _)
    rwa [List.take_length] at this
  obtain ⟨p, h2, h3, _⟩ := gat_names ns hr hn h
  rw [h1] at h2
  injection h2 with h2
  subst h2
  exact ⟨h1, h3⟩

end Go.Proofs.YtldmjnbmjfnfeaaGreatDoor

namespace Go.Proofs.YtldmjnbmjfnfeaaGreatDoor
open Go Go.RowKit

theorem findS_names {l l' : List Sect} (h : l.map (·.name) = l'.map (·.name)) (t : List UInt8) : findS l t = findS l' t := by
  have key : ∀ m : List Sect, (m.drop 1).findIdx? (fun s => decide (s.name = t)) = ((m.map (·.name)).drop 1).findIdx? (fun n => decide (n = t)) := fun m => by
    rw [← List.map_drop, List.findIdx?_map]
    rfl
  unfold findS
  rw [key l, key l', h]
theorem tabled_get {l : List Sect} {t : List UInt8} {m : Nat} (hm : l.length = m + 1) {z : Sect} (hz : l[m]? = some z) (i : Nat) : (tabled l t)[i]? = if i = m then some { z with data := t } else l[i]? := by
  unfold tabled
  rw [show l.length - 1 = m by omega, hz]
  simp only
  by_cases h : i = m
  · subst h
    rw [if_pos rfl, List.getElem?_set_self (by omega)]
  · rw [if_neg h, List.getElem?_set_ne (fun e => h e.symm)]
theorem tabled_names {l : List Sect} (t : List UInt8) {m : Nat} (hm : l.length = m + 1) {z : Sect} (hz : l[m]? = some z) : (tabled l t).map (·.name) = l.map (·.name) := by
  apply List.ext_getElem?
  intro i
  rw [List.getElem?_map, List.getElem?_map, tabled_get hm hz]
  by_cases h : i = m
  · rw [if_pos h, h, hz]; rfl
  · rw [if_neg h]
theorem layK_size2 (ss : List Sect) (ps : List Nat) (D : Nat) (hd : ∀ s ∈ ss, s.data.length ≤ D) : ∀ k, (layK ss ps k).1.length ≤ 64 + k * (D + 7)
  | 0 => by simp [layK]
  | k + 1 => by
    have ih := layK_size2 ss ps D hd k
    have e : (k + 1) * (D + 7) = k * (D + 7) + (D + 7) := Nat.succ_mul _ _
    rcases hs : ss[k + 1]? with _ | s
    · rw [layK, hs]; exact Nat.le_trans ih (by omega)
    · rcases hp : ps[k + 1]? with _ | p
      · rw [layK, hs, hp]; exact Nat.le_trans ih (by omega)
      · rw [layK_next hs hp]
        have h1 := hd s (List.mem_of_getElem? hs)
        have h2 := padN_lt (layK ss ps k).1.length
        simp only [List.length_append, padB_length]
        split
        · simp only [List.length_nil]; omega
        · omega
theorem errUp_zero {l : List UInt8} {off : Nat} : ∀ {n : Nat}, (∀ k, k < n → entE (entN l (off + 64 * k)) l.length = 0) → errUp l off n = 0
  | 0, _ => rfl
  | n + 1, h => by
    rw [errUp, if_neg (by simp [errUp_zero (n := n) fun k hk => h k (by omega)])]
    exact h n (by omega)

/-- What sections that may be are. -/
structure RightIs7 (l : List Sect) (m : Nat) (z : Sect) : Prop where
  len : l.length = m + 1
  one : 1 ≤ m
  most : m ≤ 63
  first : l[0]? = some zeroS
  last : l[m]? = some z
  kind : z.kind = 3
  find : findS l shstrN = (m : Int)
  ok : ∀ (i : Nat) (s : Sect), 1 ≤ i → l[i]? = some s → okS s = true
theorem right_is {l : List Sect} (h : rightS l = true) : ∃ m z, RightIs7 l m z := by
  obtain ⟨h2, h64⟩ := right_len h
  unfold rightS at h
  simp only [Bool.and_eq_true, decide_eq_true_eq] at h
  obtain ⟨_, h1, h3, h4, h5⟩ := h
  obtain ⟨m, hm⟩ : ∃ m, l.length = m + 1 := ⟨l.length - 1, by omega⟩
  rw [show l.length - 1 = m by omega] at h3 h4
  have hx : l[0]? = some (l[0]'(by omega)) := List.getElem?_eq_getElem _
  have hz : l[m]? = some (l[m]'(by omega)) := List.getElem?_eq_getElem _
  rw [hx, Option.any_some] at h1
  rw [hz, Option.any_some, decide_eq_true_eq] at h3
  refine ⟨m, _, hm, by omega, by omega, by rw [hx, sameS_eq h1], hz, h3, h4, fun i s hi hs => ?_⟩
  have hmem : s ∈ l.drop 1 := by
    have : (l.drop 1)[i - 1]? = some s := by rw [List.getElem?_drop, show 1 + (i - 1) = i by omega]; exact hs
    exact List.mem_of_getElem? this
  exact (List.all_eq_true.1 h5) s hmem
theorem tabled_right {l : List Sect} {m : Nat} {z : Sect} (h : RightIs7 l m z) {t : List UInt8} (ht : t.length ≤ 65536) : RightIs7 (tabled l t) m { z with data := t } := by
  have hz := h.ok m z h.one h.last
  refine ⟨by rw [tabled_length]; exact h.len, h.one, h.most, ?_, ?_, h.kind, ?_, fun i s hi hs => ?_⟩
  · rw [tabled_get h.len h.last, if_neg (by have := h.one; omega)]; exact h.first
  · rw [tabled_get h.len h.last, if_pos rfl]
  · rw [findS_names (tabled_names t h.len h.last)]; exact h.find
  · rw [tabled_get h.len h.last] at hs
    by_cases him : i = m
    · rw [if_pos him] at hs
      injection hs with hs
      subst hs
      obtain ⟨g1, g2, g3, g4, g5, g6, g7, _, _⟩ := okS_parts hz
      unfold okS
      simp only [smallI, List.all_cons, List.all_nil, Bool.and_true]
      rw [g2, g3, g4, g5, g6, g7, decide_eq_true g1, decide_eq_true ht, decide_eq_true (show z.kind ≠ 8 by rw [h.kind]; decide)]
      rfl
    · rw [if_neg him] at hs
      exact h.ok i s hi hs
theorem right_names {l : List Sect} {m : Nat} {z : Sect} (h : RightIs7 l m z) : ∀ t ∈ l.map (·.name), rightT t = true := by
  intro t ht
  obtain ⟨s, hs, rfl⟩ := List.mem_map.1 ht
  obtain ⟨i, hi, e⟩ := List.getElem_of_mem hs
  have hs' : l[i]? = some s := by rw [← e]; exact List.getElem?_eq_getElem hi
  rcases Nat.eq_zero_or_pos i with rfl | hp
  · rw [h.first] at hs'
    injection hs' with hs'
    subst hs'
    rfl
  · exact (okS_parts (h.ok i s hp hs')).2.2.2.2.2.2.1

end Go.Proofs.YtldmjnbmjfnfeaaGreatDoor

namespace Go.Proofs.YtldmjnbmjfnfeaaGreatDoor
open Go Go.RowKit

theorem zeros_enc : Enc (List.replicate 10 0) := ⟨rfl, fun j x s hx hs => by
  have h0 : x = 0 := by
    have := List.mem_of_getElem? hx
    simpa using this
  subst h0
  exact Nat.pos_of_ne_zero (by simp)⟩
theorem layK_all {ss : List Sect} {ps : List Nat} {n : Nat} (hl : n < ss.length) (hl' : n < ps.length) : (layK ss ps n).2.length = n + 1 := layK_count ss ps n hl hl'

end Go.Proofs.YtldmjnbmjfnfeaaGreatDoor
