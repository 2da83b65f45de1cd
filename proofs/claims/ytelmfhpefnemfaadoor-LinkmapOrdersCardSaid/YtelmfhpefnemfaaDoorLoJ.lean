/-
  LinkmapOrders' walk in the card's order of parts.
-/
import Derived.Test.YtelmfhpefnemfaaDoorLoG
import Derived.Test.YtelmfhpefnemfaaDoorRegEy
import Derived.Test.YtelmfhpefnemfaaDoorLnY
import Derived.Test.YtelmfhpefnemfaaDoorLmP
import Derived.Test.YtelmfhpefnemfaaDoorLoA
import Derived.Test.YtelmfhpefnemfaaDoorGpT
import Derived.Test.YtelmfhpefnemfaaDoorLmG
import Derived.Test.YtelmfhpefnemfaaDoorLoC
import Derived.Test.YtelmfhpefnemfaaDoorLoD
import Derived.Test.YtelmfhpefnemfaaDoorLnL
namespace Go.Proofs.YtelmfhpefnemfaaDoor
open Go Go.RowKit

theorem lbox_far {X X' : World} {g g' : Nat} {T T' : TypeId} {cs cs' : Array Value} (h : Box X g' T' cs') (hg : X.grownBy X' (some g)) (hX : Box X g T cs) (hT : T ≠ T') : Box X' g' T' cs' :=
  Box.grown h hg (fun e => (h.other hX (Ne.symm hT)) (Option.some.inj e))
theorem lowns_far {X X' : World} {B g k n : Nat} {T e : TypeId} {cs : Array Value} {v : Value} {xs : List Value} (h : X.ownsRow B e n v k xs) (hg : X.grownBy X' (some g)) (hX : Box X g T cs) (hT : T ≠ e) : X'.ownsRow B e n v k xs := by
  refine ⟨h.1, ?_⟩
  rcases h.2 with h0 | ⟨g', cap, cur, e1, hb, hh, hr⟩
  · exact .inl h0
  · exact .inr ⟨g', cap, cur, e1, hb, lbox_far hh hg hX hT, hr⟩
/-- What a step may have turned: nothing elder, or one block of a type that is not T. -/
def Apart1 (W W' : World) (T : TypeId) : Prop := Below W.heap.size W W' ∨ ∃ H T' cs, Box W H T' cs ∧ T' ≠ T ∧ W.grownBy W' (some H)
theorem apart_row {W W' : World} {B k n : Nat} {T e : TypeId} {v : Value} {xs : List Value} (h : W.ownsRow B e n v k xs) (hg : W.grownBy W' v.ownBlock) (hT : e ≠ T) : Apart1 W W' T := by
  rcases h.2 with ⟨rfl, _⟩ | ⟨g, cap, cur, rfl, hb, hh, hr⟩
  · exact .inl (below_of_only hg (Nat.le_refl _) (fun x hx => by cases hx))
  · exact .inr ⟨g, e, cur, hh, hT, hg⟩
theorem Apart1.box {W W' : World} {T : TypeId} {g : Nat} {cs : Array Value} (h : Apart1 W W' T) (hX : Box W g T cs) : Box W' g T cs := by
  rcases h with h | ⟨H, T', cs', h1, h2, h3⟩
  · exact hX.below h hX.lt
  · exact lbox_far hX h3 h1 h2
theorem Apart1.row {W W' : World} {B k n : Nat} {e : TypeId} {v : Value} {xs : List Value} (h : Apart1 W W' e) (hr : W.ownsRow B e n v k xs) : W'.ownsRow B e n v k xs := by
  rcases h with h | ⟨H, T', cs', h1, h2, h3⟩
  · exact hr.kept (only_below h none) (by rcases v.ownBlock with _ | k <;> simp)
  · exact lowns_far hr h3 h1 h2
/-- How far one row has come. -/
structure PB where
  e : Bool
  h : Nat
  f : Bool
  u : Value
  g : Bool
  v : Value
structure POk (B : Nat) (T : TypeId) (n N1 N2 : Nat) (xs1 xs2 : List Value) (b : PB) (W : World) : Prop where
  k0 : b.e = true → b.f = false → B ≤ b.h ∧ Box W b.h T #[]
  k1 : b.f = true → b.g = false → W.ownsRow B T n b.u N1 xs1
  k2 : b.g = true → W.ownsRow B T n b.v N2 xs2
  gf : b.g = true → b.f = true
theorem POk.apart {B : Nat} {T : TypeId} {n N1 N2 : Nat} {xs1 xs2 : List Value} {b : PB} {W W' : World} (h : POk B T n N1 N2 xs1 xs2 b W) (ha : Apart1 W W' T) : POk B T n N1 N2 xs1 xs2 b W' :=
  ⟨fun h1 h2 => (h.k0 h1 h2).imp id ha.box, fun h1 h2 => ha.row (h.k1 h1 h2), fun h1 => ha.row (h.k2 h1), h.gf⟩
/-- The rows, and the struct. -/
structure LB where
  p : PB
  y : PB
  a : Bool
  hm : Nat
  s : Bool
def PB.zero : PB := ⟨false, 0, false, .int .i64 0, false, .int .i64 0⟩
def LB.zero : LB := ⟨PB.zero, PB.zero, false, 0, false⟩
def lstored (s : Bool) (u v : Value) : Array Value := match s with | true => #[u, v] | false => #[.slice none 0 0, .slice none 0 0]
structure LOk (B : Nat) (w0 : World) (TP TY TM : TypeId) (np ny N1 N2 M1 M2 : Nat) (p1 p2 y1 y2 : List Value) (b : LB) (W : World) : Prop where
  hb : Below w0.heap.size w0 W
  p : POk B TP np N1 N2 p1 p2 b.p W
  y : POk B TY ny M1 M2 y1 y2 b.y W
  m : b.a = true → B ≤ b.hm ∧ Box W b.hm TM (lstored b.s b.p.v b.y.v)
  s : b.s = true → (b.p.g = true ∧ b.y.g = true) ∧ b.a = true
section
variable {B : Nat} {w0 : World} {TP TY TM : TypeId} {np ny N1 N2 M1 M2 : Nat} {p1 p2 y1 y2 : List Value} {b : LB} {W W' : World}
/-- Something new is made. -/
theorem LOk.up (h : LOk B w0 TP TY TM np ny N1 N2 M1 M2 p1 p2 y1 y2 b W) (hb : Below W.heap.size W W') : LOk B w0 TP TY TM np ny N1 N2 M1 M2 p1 p2 y1 y2 b W' :=
  ⟨h.hb.trans (hb.mono h.hb.size), h.p.apart (.inl hb), h.y.apart (.inl hb), fun e => (h.m e).imp id fun k => k.below hb k.lt, h.s⟩
theorem lrow_ge {W : World} {B k n : Nat} {e : TypeId} {v : Value} {xs : List Value} (h : W.ownsRow B e n v k xs) : ∀ x, v.ownBlock = some x → B ≤ x := by
  rcases h.2 with ⟨rfl, _⟩ | ⟨g, cap, cur, rfl, hb, hh, hr⟩
  · intro x hx; cases hx
  · intro x hx; injection hx with hx; subst hx; exact hb
theorem lrow_slice {X : World} {B k n : Nat} {e : TypeId} {v : Value} {xs : List Value} (h : X.ownsRow B e n v k xs) : ∃ A c, v = .slice A k c := by
  rcases h.2 with ⟨rfl, h0⟩ | ⟨g, cap, cur, rfl, _⟩
  · exact ⟨none, 0, by rw [h0]⟩
  · exact ⟨_, _, rfl⟩
theorem POk.new (h : POk B TP np N1 N2 p1 p2 b.p W) (hB : B ≤ W.heap.size) (cs : Array Value) (hcs : cs = #[]) : POk B TP np N1 N2 p1 p2 { b.p with e := true, h := W.heap.size } (W.alloc (.cells cs TP)) := by
  subst hcs
  have k := h.apart (W' := W.alloc (.cells #[] TP)) (.inl ((Below.refl _ _).alloc (Nat.le_refl _) _))
  exact ⟨fun _ _ => ⟨hB, Box.new W _ _⟩, k.k1, k.k2, k.gf⟩
theorem POk.one (h : POk B TP np N1 N2 p1 p2 b.p W) (hf : b.p.f = false) {u : Value} (hu : W'.ownsRow B TP np u N1 p1) : POk B TP np N1 N2 p1 p2 { b.p with f := true, u := u } W' := by
  refine ⟨(fun _ h => by cases h), (fun _ _ => hu), (fun e => ?_), (fun _ => rfl)⟩
  have := h.gf e
  rw [hf] at this; cases this
theorem POk.two (_ : POk B TP np N1 N2 p1 p2 b.p W) (hf : b.p.f = true) {u : Value} (hu : W'.ownsRow B TP np u N2 p2) : POk B TP np N1 N2 p1 p2 { b.p with g := true, v := u } W' :=
  ⟨(fun _ h => by have h' : b.p.f = false := h; rw [hf] at h'; cases h'), (fun _ h => by cases h), (fun _ => hu), (fun _ => hf)⟩
end
end Go.Proofs.YtelmfhpefnemfaaDoor

namespace Go.Proofs.YtelmfhpefnemfaaDoor
open Go Go.RowKit

/-- Which refusal, by the map alone. -/
def NewE (O : List ObjV) (P : List Place) (Y : List Named) (e : Int) : Prop :=
  (refM O [] P Y = true ∧ e = 30) ∨ (refM O [] P Y = false ∧ ¬ ApartI (imgsP O P) ∧ e = 31) ∨ (refM O [] P Y = false ∧ ApartI (imgsP O P) ∧ e = 0)
theorem NewE.one {O : List ObjV} {P P' : List Place} {Y Y' : List Named} {e e' : Int} (h : NewE O P Y e) (h' : NewE O P' Y' e') (hP : P.Perm P') (hY : Y.Perm Y') : e = e' := by
  unfold NewE at h h'
  rw [← refM_perm hP hY, ← apart_perm (imgsP_perm hP)] at h'
  rcases h with ⟨h1, rfl⟩ | ⟨h1, h2, rfl⟩ | ⟨h1, h2, rfl⟩ <;> rcases h' with ⟨k1, rfl⟩ | ⟨k1, k2, rfl⟩ | ⟨k1, k2, rfl⟩
  all_goals first | rfl | exact absurd h2 k2 | exact absurd k2 h2 | (rw [h1] at k1; cases k1)
theorem newis2_any {w : World} {aP aY aO : Option Addr} {cP cY cO : Nat} {P : List Place} {Y : List Named} {O : List ObjV} (hP : Row 3 Place.cells w w.heap.size aP P) (hY : Row 2 Named.cells w w.heap.size aY Y) (hpn : ∀ p ∈ P, p.Nums) (hyn : ∀ y ∈ Y, y.Nums) (hyl : ∀ y ∈ Y, y.name.length ≤ 300)
    (hO : Objs w w.heap.size aO O) (hs : ∀ ob ∈ O, ob.Small) :
    Calls Tryd.prog 11 #[.agg #[.slice aP P.length cP, .slice aY Y.length cY], .slice aO O.length cO, .slice none 0 0] w fun r w' => ∃ v e, r = .returned (.tuple #[v, .int .i64 e]) ∧ Below w.heap.size w w' ∧ NewIs w' w.heap.size O P Y v e ∧ NewE O P Y e := by
  refine (lnew_any (cQ := 0) (Q := []) (aQ := none) hP hY hpn hyn (fun y hy => Nat.le_trans (hyl y hy) (by decide)) hO ⟨fun h => absurd h (by decide), fun q hq => by cases hq⟩ (fun ob hob => Nat.le_trans (hs ob hob).S (by decide)) (fun ob hob x hx => ⟨Nat.le_trans ((hs ob hob).s x hx).1 (by decide), ((hO.ok ob hob).secs.ok x hx).fits.flags⟩)).mono ?_
  rintro r w' ⟨hb, h1, h2⟩
  cases h : refM O [] P Y with
  | true => exact ⟨_, _, h1 h, hb, .inl ⟨rfl, .inl rfl⟩, .inl ⟨h, rfl⟩⟩
  | false =>
    by_cases ha : ApartI (imgsP O P)
    · obtain ⟨g, e, hg⟩ := (h2 h).2 ha
      exact ⟨_, _, e, hb, .inr ⟨rfl, g, rfl, hg, h⟩, .inr (.inr ⟨h, ha, rfl⟩)⟩
    · exact ⟨_, _, (h2 h).1 ha, hb, .inl ⟨rfl, .inr rfl⟩, .inr (.inl ⟨h, ha, rfl⟩)⟩
theorem inV_form (R : List Img) (a : Nat) : ∃ (p q r : Int) (b : Bool), inV R a = .tuple #[.int .i64 p, .int .i64 q, .int .u64 r, .bool b] := by
  unfold inV
  cases atI R a with
  | none => exact ⟨_, _, _, _, rfl⟩
  | some x => exact ⟨_, _, _, _, rfl⟩
end Go.Proofs.YtelmfhpefnemfaaDoor

namespace Go.Proofs.YtelmfhpefnemfaaDoor
open Go Go.RowKit

theorem place_info : (Tryd.prog.info? 43).map (fun i => (i.zero, i.size, i.bytes)) = some (some (.agg #[.int .i64 0, .int .i64 0, .int .u64 0]), 3, 24) := by kernel_rfl
theorem named_info : (Tryd.prog.info? 93).map (fun i => (i.zero, i.size, i.bytes)) = some (some (.agg #[.string ⟨#[]⟩, .int .u64 0]), 2, 24) := by kernel_rfl
theorem cellsF_all {α : Type} {f : α → List Value} (h : ∀ x, ∀ u ∈ f x, u.oneCell' = true) (L : List α) : ∀ u ∈ cellsF f L, u.oneCell' = true := fun u hu => by
  obtain ⟨x, _, hx⟩ := List.mem_flatMap.1 hu
  exact h x u hx
/-- A slice that an append takes from: its cells lie in every later world. -/
def SlIs (w0 : World) (v : Value) (m : Nat) (news : List Value) : Prop := ∃ A c, v = .slice A m c ∧ (A = none → m = 0) ∧ ∀ W, Below w0.heap.size w0 W → ∀ ad, A = some ad → ∀ j u, news[j]? = some u → W.cell? (ad.add j) = some u
/-- What each operation of region 6 has told. -/
def SL6 (w0 : World) (hw : Nat) (aP aY : Option Addr) (cP cY NP NY i k : Nat) (p1 p2 y1 y2 : List Value) (b : LB) (n : Nat) (v : Value) (_ : World) : Prop :=
  match n with
  | 0 => b.p.e = true ∧ v = .slice (some ⟨b.p.h, 0, none⟩) 0 0
  | 1 => v = .pointer (some ⟨hw, 0, none⟩)
  | 2 => v = .slice aP NP cP
  | 3 => v = .int .i64 (i : Int)
  | 4 => SlIs w0 v (NP - i) p1
  | 5 => b.p.f = true ∧ v = b.p.u
  | 6 => v = .pointer (some ⟨hw, 0, none⟩)
  | 7 => v = .slice aP NP cP
  | 8 => v = .int .i64 (i : Int)
  | 9 => SlIs w0 v i p2
  | 10 => b.p.g = true ∧ v = b.p.v
  | 11 => b.y.e = true ∧ v = .slice (some ⟨b.y.h, 0, none⟩) 0 0
  | 12 => v = .pointer (some ⟨hw, 1, none⟩)
  | 13 => v = .slice aY NY cY
  | 14 => v = .int .i64 (k : Int)
  | 15 => SlIs w0 v (NY - k) y1
  | 16 => b.y.f = true ∧ v = b.y.u
  | 17 => v = .pointer (some ⟨hw, 1, none⟩)
  | 18 => v = .slice aY NY cY
  | 19 => v = .int .i64 (k : Int)
  | 20 => SlIs w0 v k y2
  | 21 => b.y.g = true ∧ v = b.y.v
  | 22 => (b.p.g = true ∧ b.y.g = true) ∧ v = .agg #[b.p.v, b.y.v]
  | 23 => b.a = true ∧ v = .pointer (some ⟨b.hm, 0, none⟩)
  | 24 => b.s = true
  | _ => True
def RL6 (b : LB) (n : Nat) : Prop := (n = 0 → b.p.e = false) ∧ (n = 5 → b.p.f = false) ∧ (n = 10 → b.p.g = false) ∧ (n = 11 → b.y.e = false) ∧ (n = 16 → b.y.f = false) ∧ (n = 21 → b.y.g = false) ∧ (n = 23 → b.a = false)

set_option maxRecDepth 10000 in
set_option maxHeartbeats 3200000 in
theorem lorders_walk (aP aY aO : Option Addr) (cP cY cO : Nat) (P : List Place) (Y : List Named) (O : List ObjV) (turn : Int) (addr : Nat) (nm : List UInt8) (w : World) (hT : Tabs w) (hP : Row 3 Place.cells w w.heap.size aP P) (hY : Row 2 Named.cells w w.heap.size aY Y) (hpn : ∀ p ∈ P, p.Nums) (hyn : ∀ y ∈ Y, y.Nums) (hO : ObjsIn w w.heap.size aO O) (haddr : addr < two64) (hnm : nm.length ≤ maxLen) (hcP : CapOk aP P.length cP) (hcY : CapOk aY Y.length cY) :
    Calls Tryd.prog 4 #[.agg #[.slice aP P.length cP, .slice aY Y.length cY], .slice aO O.length cO, .int .i64 turn, .int .u64 (addr : Int), .string ⟨nm.toArray⟩] w fun r w' => r = .returned (.bool true) ∧ Below w.heap.size w w' := by
  have HNL := Lib.hid hnm
  have HAD := Lib.hid haddr
  clear hnm haddr
  generalize hw0 : w.alloc (.cells #[.slice aP P.length cP, .slice aY Y.length cY] 25) = w0 at *
  have hb0 : Below w.heap.size w w0 := hw0 ▸ (Below.refl _ _).alloc (Nat.le_refl _) _
  have hs0 : w.heap.size < w0.heap.size := by rw [← hw0]; simp
  have hX := Box.new w 25 #[.slice aP P.length cP, .slice aY Y.length cY]
  rw [hw0] at hX
  have HB0 := Lib.hid hb0
  have HX := Lib.hid (fun W (hW : Below w0.heap.size w0 W) => (⟨by rw [(hX.below hW hs0).cell]; rfl, by rw [(hX.below hW hs0).cell]; rfl⟩ : W.cell? ⟨w.heap.size, 0, none⟩ = some (.slice aP P.length cP) ∧ W.cell? ⟨w.heap.size, 1, none⟩ = some (.slice aY Y.length cY)))
  have HI := Lib.hid (fun W (hW : Below w0.heap.size w0 W) => (by
    have h := hb0.trans (hW.mono hb0.size)
    exact ⟨Row.more (Row.below hP h) h.size, Row.more (Row.below hY h) h.size, (hO.below h).more h.size⟩ : Row 3 Place.cells W W.heap.size aP P ∧ Row 2 Named.cells W W.heap.size aY Y ∧ ObjsIn W W.heap.size aO O))
  have HN := Lib.hid (And.intro hpn hyn)
  have HWK := Lib.hid (works11_any (hT.below hb0))
  clear hT hP hY hpn hyn hO hX hb0
  go_enter Tryd.func4, Tryd.ntmps4
  go_upto_region 1 with fail
  try rw [hw0]
  clear hw0
  go_upto_region 3 with (go_at_call 10; refine HWK.out.mono ?_; rintro r w1 ⟨rfl, hb1⟩; have HB1 := Lib.hid hb1; clear hb1)
  obtain ⟨x0, x1⟩ := HX.out _ HB1.out
  have HGR := Lib.hid (great_any (HI.out _ HB1.out).2.2 cO)
  have HLO := Lib.hid (fun W hW => long_any (w := W) (aP := aP) (P := P) cP cY (HI.out W hW).2.1 (Nat.le_refl _))
  have HKX := Lib.hid (fun W hW => HX.out W hW)
  go_wp2_with fail
  refine HGR.out.mono ?_
  rintro r w2 ⟨b, rfl, hsm, hb2⟩
  have HB2 := Lib.hid (HB1.out.trans (hb2.mono HB1.out.size))
  have HSM := Lib.hid hsm
  clear hb2 hsm HGR x0 x1
  obtain ⟨x0, x1⟩ := HX.out _ HB2.out
  cases b with
  | true =>
    go_wp2_with fail
    go_ret
    exact ⟨rfl, HB0.out.trans (HB2.out.mono HB0.out.size)⟩
  | false =>
    obtain ⟨hn10, hs⟩ := HSM.out rfl
    have HS := Lib.hid hs
    have HOB := Lib.hid (fun W (hW : Below w0.heap.size w0 W) => ((HI.out W hW).2.2.objs hs : Objs W W.heap.size aO O))
    go_wp2_with fail
    refine (HLO.out _ HB2.out).mono ?_
    rintro r w3 ⟨b3, rfl, hlg, hb3⟩
    have HB3 := Lib.hid (HB2.out.trans (hb3.mono HB2.out.size))
    have HLG := Lib.hid hlg
    clear hb3 hlg HLO HSM hs x0 x1
    obtain ⟨x0, x1⟩ := HX.out _ HB3.out
    cases b3 with
    | true =>
      go_wp2_with fail
      go_ret
      exact ⟨rfl, HB0.out.trans (HB3.out.mono HB0.out.size)⟩
    | false =>
      obtain ⟨h250, h250y, hnm⟩ := HLG.out rfl
      have HNM := Lib.hid hnm
      clear hnm HLG
      go_upto_region 5 with fail
      obtain ⟨NP, hNP⟩ : ∃ n, P.length = n := ⟨_, rfl⟩
      obtain ⟨NY, hNY⟩ : ∃ n, Y.length = n := ⟨_, rfl⟩
      have HNP := Lib.hid hNP
      have HNY := Lib.hid hNY
      obtain ⟨t, ht, ht64⟩ : ∃ t : Nat, IntKind.u64.wrap turn = (t : Int) ∧ t < 18446744073709551616 := ⟨(IntKind.u64.wrap turn).toNat, by rw [IntKind.wrap_u64]; omega, by rw [IntKind.wrap_u64]; omega⟩
      rw [hNP] at x0 h250
      rw [hNY] at x1 h250y
      have r1 : (t : Int) % ((NP : Int) + 1) = ((t % (NP + 1) : Nat) : Int) := (Int.natCast_emod t (NP + 1)).symm
      have r2 : (t : Int) % ((NY : Int) + 1) = ((t % (NY + 1) : Nat) : Int) := (Int.natCast_emod t (NY + 1)).symm
      have hi1 : t % (NP + 1) ≤ NP := Nat.le_of_lt_succ (Nat.mod_lt t (Nat.succ_pos NP))
      have hi2 : t % (NY + 1) ≤ NY := Nat.le_of_lt_succ (Nat.mod_lt t (Nat.succ_pos NY))
      have w1 : IntKind.u64.wrap ((NP : Int) + 1) = (NP : Int) + 1 := by rw [IntKind.wrap_u64]; omega
      have w2 : IntKind.u64.wrap ((NY : Int) + 1) = (NY : Int) + 1 := by rw [IntKind.wrap_u64]; omega
      have w3' : IntKind.i64.wrap ((t % (NP + 1) : Nat) : Int) = ((t % (NP + 1) : Nat) : Int) := by rw [IntWalk.i64_in _ (by omega)]
      have w4' : IntKind.i64.wrap ((t % (NY + 1) : Nat) : Int) = ((t % (NY + 1) : Nat) : Int) := by rw [IntWalk.i64_in _ (by omega)]
      have n1 : ((NP : Int) + 1 == 0) = false := by simp; omega
      have n2 : ((NY : Int) + 1 == 0) = false := by simp; omega
      generalize t % (NP + 1) = i at *
      generalize t % (NY + 1) = k at *
      clear hNP hNY
      go_quiet (fail)
      have HB4 := Lib.hid (below_drewN HB3.out nq)
      obtain ⟨x0, x1⟩ := HX.out _ HB4.out
      rw [HNP.out] at x0
      rw [HNY.out] at x1
      generalize w3.drewN nq = w4 at *
      have hRP := (HI.out _ HB4.out).1
      have hRY := (HI.out _ HB4.out).2.1
      rw [HNP.out] at hcP
      rw [HNY.out] at hcY
      clear HB3 r1 r2 w1 w2 w3' w4' n1 n2 ht ht64
      -- region 6
      have HC1 := Lib.hid hcP
      have HC2 := Lib.hid hcY
      have HI1 := Lib.hid hi1
      have HI2 := Lib.hid hi2
      have KX := Lib.hid (fun X (hX : Below w4.heap.size w4 X) => (⟨by have h := HX.out X (HB4.out.trans (hX.mono HB4.out.size)); rw [HNP.out] at h; exact h.1, by have h := HX.out X (HB4.out.trans (hX.mono HB4.out.size)); rw [HNY.out] at h; exact h.2⟩ : X.cell? ⟨w.heap.size, 0, none⟩ = some (.slice aP NP cP) ∧ X.cell? ⟨w.heap.size, 1, none⟩ = some (.slice aY NY cY)))
      obtain ⟨ip, hp1, hp2, hp3, hp4⟩ := info_parts place_info
      obtain ⟨iy, hy1, hy2, hy3, hy4⟩ := info_parts named_info
      have HRP := Lib.hid hRP
      have HRY := Lib.hid hRY
      have HN250 := Lib.hid (And.intro h250 h250y)
      clear hRP hRY hcP hcY hi1 hi2 h250 h250y x0 x1
      go_upto_region 6 with fail
      refine region_ey 198 (SL6 w4 w.heap.size aP aY cP cY NP NY i k (cellsF Place.cells (P.drop i)) (cellsF Place.cells (P.take i)) (cellsF Named.cells (Y.drop k)) (cellsF Named.cells (Y.take k))) (LOk w4.heap.size w4 43 93 25 3 2 (NP - i) (NP - i + i) (NY - k) (NY - k + k) (cellsF Place.cells (P.drop i)) ((cellsF Place.cells (P.drop i)) ++ (cellsF Place.cells (P.take i))) (cellsF Named.cells (Y.drop k)) ((cellsF Named.cells (Y.drop k)) ++ (cellsF Named.cells (Y.take k)))) RL6 LB.zero (fun _ => ⟨fun _ => rfl, fun _ => rfl, fun _ => rfl, fun _ => rfl, fun _ => rfl, fun _ => rfl, fun _ => rfl⟩) (by kernel_rfl) rfl (by kernel_rfl) (by kernel_rfl) ?good ?steps ?rest
      case good => exact ⟨(Below.refl _ _).drew, ⟨(fun h => by cases h), (fun h => by cases h), (fun h => by cases h), (fun h => by cases h)⟩, ⟨(fun h => by cases h), (fun h => by cases h), (fun h => by cases h), (fun h => by cases h)⟩, (fun h => by cases h), (fun h => by cases h)⟩
      case steps =>
        intro n o ho b a X hN hk hg hRb hdep K hK
        have s5 : a.tmps[5]? = some (.pointer (some ⟨w.heap.size, 0, none⟩)) := slot_some hN (by decide) (kept_at hk (by kernel_rfl))
        have s11 : a.tmps[11]? = some (.int .i64 (i : Int)) := slot_some hN (by decide) (kept_at hk (by kernel_rfl))
        have s12 : a.tmps[12]? = some (.int .i64 (k : Int)) := slot_some hN (by decide) (kept_at hk (by kernel_rfl))
        rcases n with _ | _ | _ | _ | _ | _ | _ | _ | _ | _ | _ | _ | _ | _ | _ | _ | _ | _ | _ | _ | _ | _ | _ | _ | _ | n
        · obtain rfl := Option.some.inj ho
          clear ho hk
          refine (if_pos (by rfl)).mpr ?_
          go_simp
          have hb : Below X.heap.size X (X.alloc (.cells #[] 43)) := (Below.refl _ _).alloc (Nat.le_refl _) _
          have hup := hg.up hb
          refine hK _ _ { b with p := { b.p with e := true, h := X.heap.size } } ⟨hup.hb, hg.p.new hg.hb.size #[] rfl, hup.y, hup.m, hup.s⟩ ⟨rfl, rfl⟩ ?_ (fun j hj h => ⟨fun e => absurd e hj, h.2.1, h.2.2.1, h.2.2.2.1, h.2.2.2.2.1, h.2.2.2.2.2.1, h.2.2.2.2.2.2⟩)
          intro j u hji hw h
          rcases j with _ | _ | _ | _ | _ | _ | _ | _ | _ | _ | _ | _ | _ | _ | _ | _ | _ | _ | _ | _ | _ | _ | _ | _ | _ | j
          all_goals first | exact h | exact absurd rfl hji | exact trivial | exact absurd (hw.symm.trans (by kernel_rfl)) Bool.false_ne_true
        · obtain rfl := Option.some.inj ho
          clear ho hk
          refine (if_pos (by rfl)).mpr ?_
          clear hN
          go_simp
          exact hK _ _ b hg rfl (fun _ _ _ _ h => h) (fun _ _ h => h)
        · obtain rfl := Option.some.inj ho
          clear ho hk
          refine (if_pos (by rfl)).mpr ?_
          have e0 := slot_some hN (by decide) (hdep { on := 1, ground := .data } (by simp) rfl)
          obtain ⟨x0, x1⟩ := KX.out _ hg.hb
          clear hN
          go_simp
          exact hK _ _ b hg rfl (fun _ _ _ _ h => h) (fun _ _ h => h)
        · obtain rfl := Option.some.inj ho
          clear ho hk
          refine (if_pos (by rfl)).mpr ?_
          clear hN
          go_simp
          exact hK _ _ b hg rfl (fun _ _ _ _ h => h) (fun _ _ h => h)
        · obtain rfl := Option.some.inj ho
          clear ho hk
          refine (if_pos (by rfl)).mpr ?_
          have e0 := slot_some hN (by decide) (hdep { on := 2, ground := .data } (by simp) rfl)
          have e1 := slot_some hN (by decide) (hdep { on := 3, ground := .data } (by simp) rfl)
          clear hN
          have hlt : (i : Int) ≤ (NP : Int) := by have := HI1.out; omega
          have hcc := HC1.out
          have hlc : (i : Int) ≤ (cP : Int) := by have := hcc.1; omega
          have hnc : (NP : Int) ≤ (cP : Int) := by have := hcc.1; omega
          have q1 : decide ((i : Int) ≤ (NP : Int)) = true := decide_eq_true hlt
          have q2 : decide (i ≤ NP) = true := decide_eq_true (by omega)
          cases hA : aP with
          | none =>
            have hc0 := hcc.2 hA
            rw [hA] at e0
            go_simp
            skip
            skip
            exact hK _ _ b hg ⟨none, _, rfl, fun _ => by have := hcc.1; have := HI1.out; omega, fun W _ ad e => by cases e⟩ (fun _ _ _ _ h => h) (fun _ _ h => h)
          | some ad =>
            have hR : Row 3 Place.cells w4 w4.heap.size (some ad) P := hA ▸ HRP.out
            rw [hA] at e0
            go_simp
            exact hK _ _ b hg ⟨_, _, rfl, (cut_behind (i := i) place_three hR HNP.out hcc.1).1, fun W hW => (cut_behind (i := i) place_three (Row.below hR hW) HNP.out hcc.1).2.2⟩ (fun _ _ _ _ h => h) (fun _ _ h => h)
        · obtain rfl := Option.some.inj ho
          clear ho hk
          refine (if_pos (by rfl)).mpr ?_
          obtain ⟨hd, e0⟩ := hdep { on := 0, ground := .data } (by simp) rfl
          obtain ⟨A, c, e1, hA, hn⟩ := hdep { on := 4, ground := .data } (by simp) rfl
          have hf := hRb.2.1 rfl
          obtain ⟨hBg, hBx⟩ := hg.p.k0 hd hf
          refine (if_pos (by rfl)).mp (step_rows (ops := #[]) (E := True) rfl (.tmp 58) (.tmp 62) _ rfl w4.heap.size 43 ip _ 3 24 Tryd.underlying22 hp1 hp2 hp3 hp4 (by rfl) (by decide) _ 0 [] e0 (ownr_empty hBx hBg) A (NP - i) c (cellsF Place.cells (P.drop i)) e1 (by rw [cellsF_length place_three, List.length_drop, HNP.out]) hA (hn X hg.hb) (cellsF_all Place.one _) (by have := HN250.out; have := HI1.out; unfold maxLen; omega) (by have := HN250.out; have := HI1.out; omega) hg.hb.size ?_)
          intro v5 w5 hown5 hg5
          rw [Nat.zero_add, List.nil_append] at hown5
          have hap : Apart1 X w5 93 := .inr ⟨_, _, _, hBx, by decide, hg5⟩
          have hapM : Apart1 X w5 25 := .inr ⟨_, _, _, hBx, by decide, hg5⟩
          have hb' : Below w4.heap.size w4 w5 := hg.hb.trans (below_of_only hg5 hg.hb.size (fun x e => by simp [Value.ownBlock] at e; omega))
          refine hK _ _ { b with p := { b.p with f := true, u := v5 } } ⟨hb', hg.p.one hf hown5, hg.y.apart hap, fun e => (hg.m e).imp id hapM.box, hg.s⟩ ⟨rfl, rfl⟩ ?_ (fun j hj h => ⟨h.1, fun e => absurd e hj, h.2.2.1, h.2.2.2.1, h.2.2.2.2.1, h.2.2.2.2.2.1, h.2.2.2.2.2.2⟩)
          intro j u hji hw h
          rcases j with _ | _ | _ | _ | _ | _ | _ | _ | _ | _ | _ | _ | _ | _ | _ | _ | _ | _ | _ | _ | _ | _ | _ | _ | _ | j
          all_goals first | exact h | exact absurd rfl hji | exact trivial | exact absurd (hw.symm.trans (by kernel_rfl)) Bool.false_ne_true
        · obtain rfl := Option.some.inj ho
          clear ho hk
          refine (if_pos (by rfl)).mpr ?_
          clear hN
          go_simp
          exact hK _ _ b hg rfl (fun _ _ _ _ h => h) (fun _ _ h => h)
        · obtain rfl := Option.some.inj ho
          clear ho hk
          refine (if_pos (by rfl)).mpr ?_
          have e0 := slot_some hN (by decide) (hdep { on := 6, ground := .data } (by simp) rfl)
          obtain ⟨x0, x1⟩ := KX.out _ hg.hb
          clear hN
          go_simp
          exact hK _ _ b hg rfl (fun _ _ _ _ h => h) (fun _ _ h => h)
        · obtain rfl := Option.some.inj ho
          clear ho hk
          refine (if_pos (by rfl)).mpr ?_
          clear hN
          go_simp
          exact hK _ _ b hg rfl (fun _ _ _ _ h => h) (fun _ _ h => h)
        · obtain rfl := Option.some.inj ho
          clear ho hk
          refine (if_pos (by rfl)).mpr ?_
          have e0 := slot_some hN (by decide) (hdep { on := 7, ground := .data } (by simp) rfl)
          have e1 := slot_some hN (by decide) (hdep { on := 8, ground := .data } (by simp) rfl)
          clear hN
          have hlt : (i : Int) ≤ (NP : Int) := by have := HI1.out; omega
          have hcc := HC1.out
          have hlc : (i : Int) ≤ (cP : Int) := by have := hcc.1; omega
          have hnc : (NP : Int) ≤ (cP : Int) := by have := hcc.1; omega
          have q1 : decide ((i : Int) ≤ (NP : Int)) = true := decide_eq_true hlt
          have q2 : decide (i ≤ NP) = true := decide_eq_true (by omega)
          cases hA : aP with
          | none =>
            have hc0 := hcc.2 hA
            rw [hA] at e0
            go_simp
            rw [if_pos (by have := hcc.1; have := HI1.out; omega)]
            go_simp
            exact hK _ _ b hg ⟨none, _, rfl, fun _ => by have := hcc.1; have := HI1.out; omega, fun W _ ad e => by cases e⟩ (fun _ _ _ _ h => h) (fun _ _ h => h)
          | some ad =>
            have hR : Row 3 Place.cells w4 w4.heap.size (some ad) P := hA ▸ HRP.out
            rw [hA] at e0
            go_simp
            exact hK _ _ b hg ⟨some ad, _, rfl, fun e => (by cases e), fun W hW ad' e j u hu => by cases e; exact (cut_ahead (i := i) place_three (Row.below hR hW) HNP.out HI1.out).2 j u hu⟩ (fun _ _ _ _ h => h) (fun _ _ h => h)
        · obtain rfl := Option.some.inj ho
          clear ho hk
          refine (if_pos (by rfl)).mpr ?_
          obtain ⟨hd, e0⟩ := hdep { on := 5, ground := .data } (by simp) rfl
          obtain ⟨A, c, e1, hA, hn⟩ := hdep { on := 9, ground := .data } (by simp) rfl
          have hf := hRb.2.2.1 rfl
          have hk1 := hg.p.k1 hd hf
          refine (if_pos (by rfl)).mp (step_rows (ops := #[]) (E := True) rfl (.tmp 63) (.tmp 67) _ rfl w4.heap.size 43 ip _ 3 24 Tryd.underlying22 hp1 hp2 hp3 hp4 (by rfl) (by decide) _ (NP - i) (cellsF Place.cells (P.drop i)) e0 hk1 A i c (cellsF Place.cells (P.take i)) e1 (by rw [cellsF_length place_three, List.length_take, HNP.out]; rw [Nat.min_eq_left HI1.out]) hA (hn X hg.hb) (cellsF_all Place.one _) (by have := HN250.out; have := HI1.out; unfold maxLen; omega) (by have := HN250.out; have := HI1.out; omega) hg.hb.size ?_)
          intro v5 w5 hown5 hg5
          have hap : Apart1 X w5 93 := apart_row hk1 hg5 (by decide)
          have hapM : Apart1 X w5 25 := apart_row hk1 hg5 (by decide)
          have hb' : Below w4.heap.size w4 w5 := hg.hb.trans (below_of_only hg5 hg.hb.size (lrow_ge hk1))
          have hsf : b.s = false := by
            cases e : b.s with
            | false => rfl
            | true => rw [(hg.s e).1.1] at hf; cases hf
          refine hK _ _ { b with p := { b.p with g := true, v := v5 } } ⟨hb', hg.p.two hd hown5, hg.y.apart hap, fun e => ⟨(hg.m e).1, by have := hapM.box (hg.m e).2; dsimp only; rw [hsf] at this ⊢; exact this⟩, fun e => by have e' : b.s = true := e; rw [hsf] at e'; cases e'⟩ ⟨rfl, rfl⟩ ?_ (fun j hj h => ⟨h.1, h.2.1, fun e => absurd e hj, h.2.2.2.1, h.2.2.2.2.1, h.2.2.2.2.2.1, h.2.2.2.2.2.2⟩)
          intro j u hji hw h
          rcases j with _ | _ | _ | _ | _ | _ | _ | _ | _ | _ | _ | _ | _ | _ | _ | _ | _ | _ | _ | _ | _ | _ | _ | _ | _ | j
          all_goals first | exact h | exact absurd rfl hji | exact trivial | exact absurd (hw.symm.trans (by kernel_rfl)) Bool.false_ne_true
        · obtain rfl := Option.some.inj ho
          clear ho hk
          refine (if_pos (by rfl)).mpr ?_
          go_simp
          have hb : Below X.heap.size X (X.alloc (.cells #[] 93)) := (Below.refl _ _).alloc (Nat.le_refl _) _
          have hup := hg.up hb
          refine hK _ _ { b with y := { b.y with e := true, h := X.heap.size } } ⟨hup.hb, hup.p, (POk.new (b := ⟨b.y, b.p, b.a, b.hm, b.s⟩) hg.y hg.hb.size #[] rfl), hup.m, hup.s⟩ ⟨rfl, rfl⟩ ?_ (fun j hj h => ⟨h.1, h.2.1, h.2.2.1, fun e => absurd e hj, h.2.2.2.2.1, h.2.2.2.2.2.1, h.2.2.2.2.2.2⟩)
          intro j u hji hw h
          rcases j with _ | _ | _ | _ | _ | _ | _ | _ | _ | _ | _ | _ | _ | _ | _ | _ | _ | _ | _ | _ | _ | _ | _ | _ | _ | j
          all_goals first | exact h | exact absurd rfl hji | exact trivial | exact absurd (hw.symm.trans (by kernel_rfl)) Bool.false_ne_true
        · obtain rfl := Option.some.inj ho
          clear ho hk
          refine (if_pos (by rfl)).mpr ?_
          clear hN
          go_simp
          exact hK _ _ b hg rfl (fun _ _ _ _ h => h) (fun _ _ h => h)
        · obtain rfl := Option.some.inj ho
          clear ho hk
          refine (if_pos (by rfl)).mpr ?_
          have e0 := slot_some hN (by decide) (hdep { on := 12, ground := .data } (by simp) rfl)
          obtain ⟨x0, x1⟩ := KX.out _ hg.hb
          clear hN
          go_simp
          exact hK _ _ b hg rfl (fun _ _ _ _ h => h) (fun _ _ h => h)
        · obtain rfl := Option.some.inj ho
          clear ho hk
          refine (if_pos (by rfl)).mpr ?_
          clear hN
          go_simp
          exact hK _ _ b hg rfl (fun _ _ _ _ h => h) (fun _ _ h => h)
        · obtain rfl := Option.some.inj ho
          clear ho hk
          refine (if_pos (by rfl)).mpr ?_
          have e0 := slot_some hN (by decide) (hdep { on := 13, ground := .data } (by simp) rfl)
          have e1 := slot_some hN (by decide) (hdep { on := 14, ground := .data } (by simp) rfl)
          clear hN
          have hlt : (k : Int) ≤ (NY : Int) := by have := HI2.out; omega
          have hcc := HC2.out
          have hlc : (k : Int) ≤ (cY : Int) := by have := hcc.1; omega
          have hnc : (NY : Int) ≤ (cY : Int) := by have := hcc.1; omega
          have q1 : decide ((k : Int) ≤ (NY : Int)) = true := decide_eq_true hlt
          have q2 : decide (k ≤ NY) = true := decide_eq_true (by omega)
          cases hA : aY with
          | none =>
            have hc0 := hcc.2 hA
            rw [hA] at e0
            go_simp
            skip
            skip
            exact hK _ _ b hg ⟨none, _, rfl, fun _ => by have := hcc.1; have := HI2.out; omega, fun W _ ad e => by cases e⟩ (fun _ _ _ _ h => h) (fun _ _ h => h)
          | some ad =>
            have hR : Row 2 Named.cells w4 w4.heap.size (some ad) Y := hA ▸ HRY.out
            rw [hA] at e0
            go_simp
            exact hK _ _ b hg ⟨_, _, rfl, (cut_behind (i := k) named_two hR HNY.out hcc.1).1, fun W hW => (cut_behind (i := k) named_two (Row.below hR hW) HNY.out hcc.1).2.2⟩ (fun _ _ _ _ h => h) (fun _ _ h => h)
        · obtain rfl := Option.some.inj ho
          clear ho hk
          refine (if_pos (by rfl)).mpr ?_
          obtain ⟨hd, e0⟩ := hdep { on := 11, ground := .data } (by simp) rfl
          obtain ⟨A, c, e1, hA, hn⟩ := hdep { on := 15, ground := .data } (by simp) rfl
          have hf := hRb.2.2.2.2.1 rfl
          obtain ⟨hBg, hBx⟩ := hg.y.k0 hd hf
          refine (if_pos (by rfl)).mp (step_rows (ops := #[]) (E := True) rfl (.tmp 69) (.tmp 73) _ rfl w4.heap.size 93 iy _ 2 24 Tryd.underlying23 hy1 hy2 hy3 hy4 (by rfl) (by decide) _ 0 [] e0 (ownr_empty hBx hBg) A (NY - k) c (cellsF Named.cells (Y.drop k)) e1 (by rw [cellsF_length named_two, List.length_drop, HNY.out]) hA (hn X hg.hb) (cellsF_all Named.one _) (by have := HN250.out; have := HI2.out; unfold maxLen; omega) (by have := HN250.out; have := HI2.out; omega) hg.hb.size ?_)
          intro v5 w5 hown5 hg5
          rw [Nat.zero_add, List.nil_append] at hown5
          have hap : Apart1 X w5 43 := .inr ⟨_, _, _, hBx, by decide, hg5⟩
          have hapM : Apart1 X w5 25 := .inr ⟨_, _, _, hBx, by decide, hg5⟩
          have hb' : Below w4.heap.size w4 w5 := hg.hb.trans (below_of_only hg5 hg.hb.size (fun x e => by simp [Value.ownBlock] at e; omega))
          refine hK _ _ { b with y := { b.y with f := true, u := v5 } } ⟨hb', hg.p.apart hap, POk.one (b := ⟨b.y, b.p, b.a, b.hm, b.s⟩) hg.y hf hown5, fun e => (hg.m e).imp id hapM.box, hg.s⟩ ⟨rfl, rfl⟩ ?_ (fun j hj h => ⟨h.1, h.2.1, h.2.2.1, h.2.2.2.1, fun e => absurd e hj, h.2.2.2.2.2.1, h.2.2.2.2.2.2⟩)
          intro j u hji hw h
          rcases j with _ | _ | _ | _ | _ | _ | _ | _ | _ | _ | _ | _ | _ | _ | _ | _ | _ | _ | _ | _ | _ | _ | _ | _ | _ | j
          all_goals first | exact h | exact absurd rfl hji | exact trivial | exact absurd (hw.symm.trans (by kernel_rfl)) Bool.false_ne_true
        · obtain rfl := Option.some.inj ho
          clear ho hk
          refine (if_pos (by rfl)).mpr ?_
          clear hN
          go_simp
          exact hK _ _ b hg rfl (fun _ _ _ _ h => h) (fun _ _ h => h)
        · obtain rfl := Option.some.inj ho
          clear ho hk
          refine (if_pos (by rfl)).mpr ?_
          have e0 := slot_some hN (by decide) (hdep { on := 17, ground := .data } (by simp) rfl)
          obtain ⟨x0, x1⟩ := KX.out _ hg.hb
          clear hN
          go_simp
          exact hK _ _ b hg rfl (fun _ _ _ _ h => h) (fun _ _ h => h)
        · obtain rfl := Option.some.inj ho
          clear ho hk
          refine (if_pos (by rfl)).mpr ?_
          clear hN
          go_simp
          exact hK _ _ b hg rfl (fun _ _ _ _ h => h) (fun _ _ h => h)
        · obtain rfl := Option.some.inj ho
          clear ho hk
          refine (if_pos (by rfl)).mpr ?_
          have e0 := slot_some hN (by decide) (hdep { on := 18, ground := .data } (by simp) rfl)
          have e1 := slot_some hN (by decide) (hdep { on := 19, ground := .data } (by simp) rfl)
          clear hN
          have hlt : (k : Int) ≤ (NY : Int) := by have := HI2.out; omega
          have hcc := HC2.out
          have hlc : (k : Int) ≤ (cY : Int) := by have := hcc.1; omega
          have hnc : (NY : Int) ≤ (cY : Int) := by have := hcc.1; omega
          have q1 : decide ((k : Int) ≤ (NY : Int)) = true := decide_eq_true hlt
          have q2 : decide (k ≤ NY) = true := decide_eq_true (by omega)
          cases hA : aY with
          | none =>
            have hc0 := hcc.2 hA
            rw [hA] at e0
            go_simp
            rw [if_pos (by have := hcc.1; have := HI2.out; omega)]
            go_simp
            exact hK _ _ b hg ⟨none, _, rfl, fun _ => by have := hcc.1; have := HI2.out; omega, fun W _ ad e => by cases e⟩ (fun _ _ _ _ h => h) (fun _ _ h => h)
          | some ad =>
            have hR : Row 2 Named.cells w4 w4.heap.size (some ad) Y := hA ▸ HRY.out
            rw [hA] at e0
            go_simp
            exact hK _ _ b hg ⟨some ad, _, rfl, fun e => (by cases e), fun W hW ad' e j u hu => by cases e; exact (cut_ahead (i := k) named_two (Row.below hR hW) HNY.out HI2.out).2 j u hu⟩ (fun _ _ _ _ h => h) (fun _ _ h => h)
        · obtain rfl := Option.some.inj ho
          clear ho hk
          refine (if_pos (by rfl)).mpr ?_
          obtain ⟨hd, e0⟩ := hdep { on := 16, ground := .data } (by simp) rfl
          obtain ⟨A, c, e1, hA, hn⟩ := hdep { on := 20, ground := .data } (by simp) rfl
          have hf := hRb.2.2.2.2.2.1 rfl
          have hk1 := hg.y.k1 hd hf
          refine (if_pos (by rfl)).mp (step_rows (ops := #[]) (E := True) rfl (.tmp 74) (.tmp 78) _ rfl w4.heap.size 93 iy _ 2 24 Tryd.underlying23 hy1 hy2 hy3 hy4 (by rfl) (by decide) _ (NY - k) (cellsF Named.cells (Y.drop k)) e0 hk1 A k c (cellsF Named.cells (Y.take k)) e1 (by rw [cellsF_length named_two, List.length_take, HNY.out]; rw [Nat.min_eq_left HI2.out]) hA (hn X hg.hb) (cellsF_all Named.one _) (by have := HN250.out; have := HI2.out; unfold maxLen; omega) (by have := HN250.out; have := HI2.out; omega) hg.hb.size ?_)
          intro v5 w5 hown5 hg5
          have hap : Apart1 X w5 43 := apart_row hk1 hg5 (by decide)
          have hapM : Apart1 X w5 25 := apart_row hk1 hg5 (by decide)
          have hb' : Below w4.heap.size w4 w5 := hg.hb.trans (below_of_only hg5 hg.hb.size (lrow_ge hk1))
          have hsf : b.s = false := by
            cases e : b.s with
            | false => rfl
            | true => rw [(hg.s e).1.2] at hf; cases hf
          refine hK _ _ { b with y := { b.y with g := true, v := v5 } } ⟨hb', hg.p.apart hap, POk.two (b := ⟨b.y, b.p, b.a, b.hm, b.s⟩) hg.y hd hown5, fun e => ⟨(hg.m e).1, by have := hapM.box (hg.m e).2; dsimp only; rw [hsf] at this ⊢; exact this⟩, fun e => by have e' : b.s = true := e; rw [hsf] at e'; cases e'⟩ ⟨rfl, rfl⟩ ?_ (fun j hj h => ⟨h.1, h.2.1, h.2.2.1, h.2.2.2.1, h.2.2.2.2.1, fun e => absurd e hj, h.2.2.2.2.2.2⟩)
          intro j u hji hw h
          rcases j with _ | _ | _ | _ | _ | _ | _ | _ | _ | _ | _ | _ | _ | _ | _ | _ | _ | _ | _ | _ | _ | _ | _ | _ | _ | j
          all_goals first | exact h | exact absurd rfl hji | exact trivial | exact absurd (hw.symm.trans (by kernel_rfl)) Bool.false_ne_true
        · obtain rfl := Option.some.inj ho
          clear ho hk
          refine (if_pos (by rfl)).mpr ?_
          obtain ⟨hp, e0⟩ := hdep { on := 10, ground := .data } (by simp) rfl
          obtain ⟨hy, e1⟩ := hdep { on := 21, ground := .data } (by simp) rfl
          have e0 := slot_some hN (by decide) e0
          have e1 := slot_some hN (by decide) e1
          obtain ⟨A1, c1, q1⟩ := lrow_slice (hg.p.k2 hp)
          obtain ⟨A2, c2, q2⟩ := lrow_slice (hg.y.k2 hy)
          rw [q1] at e0
          rw [q2] at e1
          clear hN
          go_simp
          exact hK _ _ b hg ⟨⟨hp, hy⟩, by show Value.agg _ = _; rw [q1, q2]⟩ (fun _ _ _ _ h => h) (fun _ _ h => h)
        · obtain rfl := Option.some.inj ho
          clear ho hk
          refine (if_pos (by rfl)).mpr ?_
          have ha := hRb.2.2.2.2.2.2 rfl
          go_simp
          have hb : Below X.heap.size X (X.alloc (.cells #[.slice none 0 0, .slice none 0 0] 25)) := (Below.refl _ _).alloc (Nat.le_refl _) _
          have hup := hg.up hb
          have hsf : b.s = false := by
            cases e : b.s with
            | false => rfl
            | true => rw [(hg.s e).2] at ha; cases ha
          refine hK _ _ { b with a := true, hm := X.heap.size } ⟨hup.hb, hup.p, hup.y, fun _ => ⟨hg.hb.size, by dsimp only; rw [hsf]; exact Box.new X _ _⟩, fun e => by have e' : b.s = true := e; rw [hsf] at e'; cases e'⟩ ⟨rfl, rfl⟩ ?_ (fun j hj h => ⟨h.1, h.2.1, h.2.2.1, h.2.2.2.1, h.2.2.2.2.1, h.2.2.2.2.2.1, fun e => absurd e hj⟩)
          intro j u hji hw h
          rcases j with _ | _ | _ | _ | _ | _ | _ | _ | _ | _ | _ | _ | _ | _ | _ | _ | _ | _ | _ | _ | _ | _ | _ | _ | _ | j
          all_goals first | exact h | exact absurd rfl hji | exact trivial | exact absurd (hw.symm.trans (by kernel_rfl)) Bool.false_ne_true
        · obtain rfl := Option.some.inj ho
          clear ho hk
          refine (if_pos (by rfl)).mpr ?_
          obtain ⟨ha, e0⟩ := hdep { on := 23, ground := .data } (by simp) rfl
          obtain ⟨⟨hp, hy⟩, e1⟩ := hdep { on := 22, ground := .data } (by simp) rfl
          have e0 := slot_some hN (by decide) e0
          have e1 := slot_some hN (by decide) e1
          obtain ⟨hB, hX⟩ := hg.m ha
          have hk1 := hg.p.k2 hp
          have hk2 := hg.y.k2 hy
          obtain ⟨A1, c1, q1⟩ := lrow_slice hk1
          obtain ⟨A2, c2, q2⟩ := lrow_slice hk2
          rw [q1, q2] at e1
          have hc : (∃ z, X.cell? ⟨b.hm, 0, none⟩ = some z) ∧ ∃ z, X.cell? ⟨b.hm, 1, none⟩ = some z := by
            generalize b.s = bs at hX
            cases bs
            all_goals
              have v0 := hX.cell 0
              have v1 := hX.cell 1
              exact ⟨⟨_, v0⟩, ⟨_, v1⟩⟩
          obtain ⟨⟨z0, v0⟩, ⟨z1, v1⟩⟩ := hc
          have f0 := hX.free 0
          have f1 := hX.free 1
          have hgr := only_set (only_set (only_refl X (some b.hm)) 0 (.slice A1 (NP - i + i) c1)) 1 (.slice A2 (NY - k + k) c2)
          have hbx : Box ((X.setCell ⟨b.hm, 0, none⟩ (.slice A1 (NP - i + i) c1)).setCell ⟨b.hm, 1, none⟩ (.slice A2 (NY - k + k) c2)) b.hm 25 #[.slice A1 (NP - i + i) c1, .slice A2 (NY - k + k) c2] := by
            have h2 := (hX.set 0 (.slice A1 (NP - i + i) c1)).set 1 (.slice A2 (NY - k + k) c2)
            generalize b.s = bs at h2
            cases bs <;> simpa [lstored] using h2
          have hap : ∀ T, 25 ≠ T → Apart1 X ((X.setCell ⟨b.hm, 0, none⟩ (.slice A1 (NP - i + i) c1)).setCell ⟨b.hm, 1, none⟩ (.slice A2 (NY - k + k) c2)) T := fun T hT => .inr ⟨_, _, _, hX, hT, hgr⟩
          have hb' := hg.hb.trans (below_of_only hgr hg.hb.size (fun x e => by injection e with e; omega))
          clear hN
          go_simp
          refine hK undef _ { b with s := true } ⟨hb', hg.p.apart (hap _ (by decide)), hg.y.apart (hap _ (by decide)), fun _ => ⟨hB, by show Box _ b.hm _ #[b.p.v, b.y.v]; rw [q1, q2]; exact hbx⟩, fun _ => ⟨⟨hp, hy⟩, ha⟩⟩ rfl ?_ (fun _ _ h => h)
          intro j u hji hw h
          rcases j with _ | _ | _ | _ | _ | _ | _ | _ | _ | _ | _ | _ | _ | _ | _ | _ | _ | _ | _ | _ | _ | _ | _ | _ | _ | j
          all_goals first | exact h | exact absurd rfl hji | exact trivial | exact absurd (hw.symm.trans (by kernel_rfl)) Bool.false_ne_true
        · exact absurd ho (by simp)
      case rest =>
        intro b a X hN hdf hk hg hall
        obtain ⟨ha, e13⟩ := hall 23 (by decide)
        have hs : b.s = true := hall 24 (by decide)
        obtain ⟨⟨hp, hy⟩, -⟩ := hg.s hs
        have hm := (hg.m ha).2
        rw [hs] at hm
        have HRW1 := Lib.hid (hg.p.k2 hp)
        have HRW2 := Lib.hid (hg.y.k2 hy)
        have HMB := Lib.hid (show Box X b.hm 25 #[b.p.v, b.y.v] from hm)
        have HB6 := Lib.hid hg.hb
        have HM6 := Lib.hid (hg.m ha).1
        rw [act_eq [58, 59, 60, 61, 62, 63, 64, 65, 66, 67, 68, 69, 70, 71, 72, 73, 74, 75, 76, 77, 78, 79, 80, 13] hN rfl hdf hk (by kernel_rfl)]
        obtain ⟨F, hF⟩ : ∃ F : Tmp → Value, F = fun t => a.tmps.getD t undef := ⟨_, rfl⟩
        have e13 : F 13 = .pointer (some ⟨b.hm, 0, none⟩) := by rw [hF]; exact e13
        rw [← hF]
        clear hF hk hall hN hdf hg hm hs ha hp hy
        simp only [laySlots, List.setIfInBounds_toArray, List.set_cons_succ, List.set_cons_zero]
        rw [e13]
        clear e13
        generalize b.hm = hm at *
        generalize b.p.v = u1 at *
        generalize b.y.v = u2 at *
        refine ‹∀ (a : Act) (w : World), Code.wp Tryd.prog _ _ a w → _› _ _ ?_
        -- regions 7 and 8
        obtain ⟨h250, h250y⟩ := HN250.out
        have hpl : (P.drop i ++ P.take i).length = NP := by
          have := HI1.out
          simp only [List.length_append, List.length_drop, List.length_take, HNP.out]; omega
        have hyl : (Y.drop k ++ Y.take k).length = NY := by
          have := HI2.out
          simp only [List.length_append, List.length_drop, List.length_take, HNY.out]; omega
        have hpp : P.Perm (P.drop i ++ P.take i) := rot_perm P i
        have hyp : Y.Perm (Y.drop k ++ Y.take k) := rot_perm Y k
        have HR1 := Lib.hid (show ∃ A c, u1 = .slice A NP c ∧ Row 3 Place.cells X X.heap.size A (P.drop i ++ P.take i) from by
          have h := HRW1.out
          rw [← cellsF_append, show NP - i + i = (P.drop i ++ P.take i).length by rw [hpl]; have := HI1.out; omega] at h
          obtain ⟨A, c, e, -, -, hr⟩ := own_row place_three h
          rw [hpl] at e
          exact ⟨A, c, e, hr⟩)
        have HR2 := Lib.hid (show ∃ A c, u2 = .slice A NY c ∧ Row 2 Named.cells X X.heap.size A (Y.drop k ++ Y.take k) from by
          have h := HRW2.out
          rw [← cellsF_append, show NY - k + k = (Y.drop k ++ Y.take k).length by rw [hyl]; have := HI2.out; omega] at h
          obtain ⟨A, c, e, -, -, hr⟩ := own_row named_two h
          rw [hyl] at e
          exact ⟨A, c, e, hr⟩)
        clear HRW1 HRW2
        generalize P.drop i ++ P.take i = P' at *
        generalize Y.drop k ++ Y.take k = Y' at *
        obtain ⟨A1, c1, rfl, hr1⟩ := HR1.out
        obtain ⟨A2, c2, rfl, hr2⟩ := HR2.out
        have HRR1 := Lib.hid hr1
        have HRR2 := Lib.hid hr2
        have HPP := Lib.hid hpp
        have HYP := Lib.hid hyp
        have HPL := Lib.hid hpl
        have HYL := Lib.hid hyl
        have HBX := Lib.hid (HB4.out.trans (HB6.out.mono HB4.out.size))
        have KXX := Lib.hid (fun (W : World) (hW : Below X.heap.size X W) => KX.out W (HB6.out.trans (hW.mono HB6.out.size)))
        have KMM := Lib.hid (fun (W : World) (hW : Below X.heap.size X W) => (⟨by rw [(HMB.out.below hW HMB.out.lt).cell]; rfl, by rw [(HMB.out.below hW HMB.out.lt).cell]; rfl⟩ : W.cell? ⟨hm, 0, none⟩ = some (.slice A1 NP c1) ∧ W.cell? ⟨hm, 1, none⟩ = some (.slice A2 NY c2)))
        have HOS := Lib.hid (fun (W : World) (hW : Below X.heap.size X W) => objects_any (HOB.out W (HBX.out.trans (hW.mono HBX.out.size))) cO (by omega))
        have HNW1 := Lib.hid (fun (W : World) (hW : Below X.heap.size X W) A4 c4 (h4 : Objs W W.heap.size A4 O) => (by
          have h := HI.out W (HBX.out.trans (hW.mono HBX.out.size))
          have := newis2_any (cP := cP) (cY := cY) (cO := c4) h.1 h.2.1 HN.out.1 HN.out.2 HNM.out h4 HS.out
          rw [HNP.out, HNY.out] at this
          exact this : Calls Tryd.prog 11 #[.agg #[.slice aP NP cP, .slice aY NY cY], .slice A4 O.length c4, .slice none 0 0] W fun r w' => ∃ v e, r = .returned (.tuple #[v, .int .i64 e]) ∧ Below W.heap.size W w' ∧ NewIs w' W.heap.size O P Y v e ∧ NewE O P Y e))
        have HNW2 := Lib.hid (fun (W : World) (hW : Below X.heap.size X W) A4 c4 (h4 : Objs W W.heap.size A4 O) => (by
          have := newis2_any (cP := c1) (cY := c2) (cO := c4) (HRR1.out.up hW) (HRR2.out.up hW) (fun p hp => HN.out.1 p (HPP.out.mem_iff.2 hp)) (fun y hy => HN.out.2 y (HYP.out.mem_iff.2 hy)) (fun y hy => HNM.out y (HYP.out.mem_iff.2 hy)) h4 HS.out
          rw [HPL.out, HYL.out] at this
          exact this : Calls Tryd.prog 11 #[.agg #[.slice A1 NP c1, .slice A2 NY c2], .slice A4 O.length c4, .slice none 0 0] W fun r w' => ∃ v e, r = .returned (.tuple #[v, .int .i64 e]) ∧ Below W.heap.size W w' ∧ NewIs w' W.heap.size O P' Y' v e ∧ NewE O P' Y' e))
        clear hpl hyl hpp hyp HR1 HR2 hr1 hr2 HMB HC1 HC2 KX HRP HRY hp1 hp2 hp3 hp4 hy1 hy2 hy3 hy4 HI1 HI2 HKX HB1 HB2
        go_upto_region 7 with fail
        go_region_held_law (fun W => W.cell? ⟨w.heap.size, 0, none⟩ = some (.slice aP NP cP) ∧ W.cell? ⟨w.heap.size, 1, none⟩ = some (.slice aY NY cY))
          ((refine KXX.out _ ?_; (repeat' (first | (with_reducible exact Below.refl _ _) | (with_reducible assumption) | (with_reducible refine below_drewN ?_ _) | (with_reducible refine Below.drew ?_)))))
          (first
            | (go_at_call 12; refine (HOS.out _ (show Below X.heap.size X _ by (repeat' (first | (with_reducible exact Below.refl _ _) | (with_reducible assumption) | (with_reducible refine below_drewN ?_ _) | (with_reducible refine Below.drew ?_))))).mono ?_; rintro r w7 ⟨A4, c4, rfl, -, hO4, hb⟩; have hb7 := (show Below X.heap.size X _ by (repeat' (first | (with_reducible exact Below.refl _ _) | (with_reducible assumption) | (with_reducible refine below_drewN ?_ _) | (with_reducible refine Below.drew ?_)))).trans (hb.mono (by simp)); clear hb)
            | (go_at_call 11; refine (HNW1.out _ hb7 _ _ hO4).mono ?_; rintro r w8 ⟨v8, e8, rfl, hb, hN8, hE8⟩; have hb8 := hb7.trans (hb.mono hb7.size); have HN8 := Lib.hid hN8; have HE8 := Lib.hid hE8; clear hb hN8 hE8))
        have HB8 := Lib.hid hb8
        clear hb7 hb8 hO4 HNW1
        go_upto_region 8 with fail
        have hb8' := HB8.out
        go_region_held_law (fun W => W.cell? ⟨hm, 0, none⟩ = some (.slice A1 NP c1) ∧ W.cell? ⟨hm, 1, none⟩ = some (.slice A2 NY c2))
          ((refine KMM.out _ ?_; (repeat' (first | (with_reducible exact Below.refl _ _) | (with_reducible assumption) | (with_reducible refine below_drewN ?_ _) | (with_reducible refine Below.drew ?_)))))
          (first
            | (go_at_call 12; refine (HOS.out _ (show Below X.heap.size X _ by (repeat' (first | (with_reducible exact Below.refl _ _) | (with_reducible assumption) | (with_reducible refine below_drewN ?_ _) | (with_reducible refine Below.drew ?_))))).mono ?_; rintro r w9 ⟨A5, c5, rfl, -, hO5, hb⟩; have hc9 := (show Below w8.heap.size w8 _ by (repeat' (first | (with_reducible exact Below.refl _ _) | (with_reducible assumption) | (with_reducible refine below_drewN ?_ _) | (with_reducible refine Below.drew ?_)))).trans (hb.mono (by simp)); have hb9 := (show Below X.heap.size X _ by (repeat' (first | (with_reducible exact Below.refl _ _) | (with_reducible assumption) | (with_reducible refine below_drewN ?_ _) | (with_reducible refine Below.drew ?_)))).trans (hb.mono (by have := hb8'.size; simpa using this)); clear hb)
            | (go_at_call 11; refine (HNW2.out _ hb9 _ _ hO5).mono ?_; rintro r w10 ⟨v10, e10, rfl, hb, hN10, hE10⟩; have hb10 := hb9.trans (hb.mono hb9.size); have hc10 := hc9.trans (hb.mono hc9.size); have HN10 := Lib.hid hN10; have HE10 := Lib.hid hE10; clear hb hN10 hE10))
        have HB10 := Lib.hid hb10
        have HC10 := Lib.hid hc10
        have HE := Lib.hid (HB0.out.trans ((HBX.out.trans (HB10.out.mono HBX.out.size)).mono HB0.out.size))
        have he := NewE.one HE8.out HE10.out HPP.out HYP.out
        subst he
        clear hb9 hb10 hc9 hc10 hb8' hO5 HNW2 HOS HE8 HE10 KMM
        rcases HN8.out with ⟨rfl, rfl | rfl⟩ | ⟨rfl, g, rfl, hLG, hRF⟩
        · go_wp2_with fail
          go_ret
          exact ⟨rfl, HE.out⟩
        · go_wp2_with fail
          go_ret
          exact ⟨rfl, HE.out⟩
        · rcases HN10.out with ⟨-, h | h⟩ | ⟨-, g', rfl, hLG', hRF'⟩
          · exact absurd h (by decide)
          · exact absurd h (by decide)
          obtain ⟨R, hIM, hPM, -, hPT⟩ := hLG.imgs
          obtain ⟨R', hIM', hPM', -, hPT'⟩ := hLG'.imgs
          have hM := mapR_of hRF hPM hPT
          have hM' := mapR_of hRF' hPM' hPT'
          obtain rfl : R = R' := hM.same hM' HPP.out hPM hPM'
          have hNA := nameA_perm hRF HYP.out nm
          have HM := Lib.hid hM
          have HIM := Lib.hid (fun W (hW : Below w10.heap.size w10 W) => (hIM.below HC10.out).below hW)
          have HIM' := Lib.hid (fun W (hW : Below w10.heap.size w10 W) => hIM'.below hW)
          have HSY := Lib.hid (fun W (hW : Below w10.heap.size w10 W) => lnsym_any ((hLG.syms.below HC10.out).below hW) HNL.out)
          have HSY' := Lib.hid (fun W (hW : Below w10.heap.size w10 W) => lnsym_any (hLG'.syms.below hW) HNL.out)
          have HPO := Lib.hid (fun W (hW : Below w10.heap.size w10 W) (p : Place) (hp : p ∈ P) => (by
            have := lnout_any ((hLG.places.below HC10.out).below hW) (HN.out.1 p hp).1 (HN.out.1 p hp).2.1
            rw [(hM.out hp).1, (hM.out hp).2] at this
            exact this : Calls Tryd.prog 14 #[.pointer (some ⟨g, 0, none⟩), .int .i64 p.obj, .int .i64 p.sect] W fun r w' => r = .returned (.tuple #[.int .u64 (p.addr : Int), .bool true]) ∧ w' = W))
          have HPO' := Lib.hid (fun W (hW : Below w10.heap.size w10 W) (p : Place) (hp : p ∈ P) => (by
            have hp' := HPP.out.mem_iff.1 hp
            have := lnout_any (hLG'.places.below hW) (HN.out.1 p hp).1 (HN.out.1 p hp).2.1
            rw [(hM'.out hp').1, (hM'.out hp').2] at this
            exact this : Calls Tryd.prog 14 #[.pointer (some ⟨g', 0, none⟩), .int .i64 p.obj, .int .i64 p.sect] W fun r w' => r = .returned (.tuple #[.int .u64 (p.addr : Int), .bool true]) ∧ w' = W))
          have HRP := Lib.hid (fun W (hW : Below w10.heap.size w10 W) => (HI.out W ((HBX.out.trans (HB10.out.mono HBX.out.size)).trans (hW.mono (HBX.out.trans (HB10.out.mono HBX.out.size)).size))).1)
          obtain ⟨x0, x1⟩ := KXX.out _ HB10.out
          have HNA := Lib.hid hNA
          clear hIM hIM' hPM hPM' hPT hPT' hM hM' hLG hLG' hRF hRF' hNA HN8 HN10
          go_upto_region 12 with fail
          clear x0 x1
          go_loopg [108] NP (fun gk i wr => ∃ j : Nat, j ≤ NP ∧ gk = NP - j ∧ i = .int .i64 j ∧ Hid (Below w10.heap.size w10 wr))
          case atStart => exact ⟨0, Nat.zero_le _, rfl, rfl, Lib.hid (Below.refl _ _)⟩
          case round =>
            obtain ⟨j, hj, rfl, rfl, HBJ⟩ := hrel
            by_cases hlt : j < NP
            · have HLT := Lib.hid hlt
              obtain ⟨pl, hpl⟩ : ∃ pl, P[j]? = some pl := ⟨P[j]'(by rw [HNP.out]; exact hlt), List.getElem?_eq_getElem _⟩
              obtain ⟨b, o, hbo, hb, c0, c1', c2'⟩ := place_at (HRP.out _ HBJ.out) hpl
              subst hbo
              have HO1 := Lib.hid (fun W (hW : Below w10.heap.size w10 W) => HPO.out W hW pl (List.mem_of_getElem? hpl))
              have HO2 := Lib.hid (fun W (hW : Below w10.heap.size w10 W) => HPO'.out W hW pl (List.mem_of_getElem? hpl))
              have hX5 := Box.new wr 43 #[.int .i64 pl.obj, .int .i64 pl.sect, .int .u64 (pl.addr : Int)]
              have hb5 : Below wr.heap.size wr (wr.alloc (.cells #[.int .i64 pl.obj, .int .i64 pl.sect, .int .u64 (pl.addr : Int)] 43)) := (Below.refl _ _).alloc (Nat.le_refl _) _
              clear hpl hb
              go_upto_region 14 with fail
              generalize wr.alloc (.cells #[.int .i64 pl.obj, .int .i64 pl.sect, .int .u64 (pl.addr : Int)] 43) = w11 at *
              have HB11 := Lib.hid (HBJ.out.trans (hb5.mono HBJ.out.size))
              clear c0 c1' c2' hb5
              have y0 : w11.cell? ⟨wr.heap.size, 0, none⟩ = some (.int .i64 pl.obj) := by rw [hX5.cell]; rfl
              have y1 : w11.cell? ⟨wr.heap.size, 1, none⟩ = some (.int .i64 pl.sect) := by rw [hX5.cell]; rfl
              have y2 : w11.cell? ⟨wr.heap.size, 2, none⟩ = some (.int .u64 (pl.addr : Int)) := by rw [hX5.cell]; rfl
              have q1 : ((pl.addr : Int) != (pl.addr : Int)) = false := by simp
              clear hX5
              generalize wr.heap.size = Z at *
              go_wp2_with (first
                | (go_at_call 14; refine (HO1.out _ HB11.out).mono ?_; rintro r w12 ⟨rfl, rfl⟩; clear HO1)
                | (go_at_call 14; refine (HO2.out _ HB11.out).mono ?_; rintro r w13 ⟨rfl, rfl⟩; clear HO2))
              go_roundg (NP - (j + 1))
              case measure => have := HLT.out; omega
              case rel => exact ⟨j + 1, HLT.out, rfl, by go_num, HB11⟩
            · clear HPO HPO' HRP
              obtain ⟨p1, p2, p3, p4, hv⟩ := inV_form R addr
              have HIN1 := Lib.hid (by
                have := in_any (HIM.out _ HBJ.out) HM.out.part (fun x hx => Nat.le_of_lt (HM.out.lt x hx)) (Nat.le_trans HM.out.len (by decide)) addr HAD.out
                rw [hv] at this
                exact this : Calls Tryd.prog 16 #[.pointer (some ⟨g, 0, none⟩), .int .u64 (addr : Int)] wr fun r w' => r = .returned (.tuple #[.int .i64 p1, .int .i64 p2, .int .u64 p3, .bool p4]) ∧ Below wr.heap.size wr w')
              have HIN2 := Lib.hid (fun (W : World) (hW : Below w10.heap.size w10 W) => (by
                have := in_any (HIM'.out _ hW) HM.out.part (fun x hx => Nat.le_of_lt (HM.out.lt x hx)) (Nat.le_trans HM.out.len (by decide)) addr HAD.out
                rw [hv] at this
                exact this : Calls Tryd.prog 16 #[.pointer (some ⟨g', 0, none⟩), .int .u64 (addr : Int)] W fun r w' => r = .returned (.tuple #[.int .i64 p1, .int .i64 p2, .int .u64 p3, .bool p4]) ∧ Below W.heap.size W w'))
              clear hv
              go_upto_region 20 with (go_at_call 16; refine HIN1.out.mono ?_; rintro r w14 ⟨rfl, hb⟩; have HB14 := Lib.hid (HBJ.out.trans (hb.mono HBJ.out.size)); clear hb HIN1)
              go_upto_region 21 with (go_at_call 16; refine (HIN2.out _ HB14.out).mono ?_; rintro r w15 ⟨rfl, hb⟩; have HB15 := Lib.hid (HB14.out.trans (hb.mono HB14.out.size)); clear hb HIN2)
              have HIA := Lib.hid (images_any (HIM.out _ HB15.out) (Nat.le_trans HM.out.len (by decide)))
              have HIB := Lib.hid (fun (W : World) (hW : Below w10.heap.size w10 W) => images_any (HIM'.out _ hW) (Nat.le_trans HM.out.len (by decide)))
              have HML := Lib.hid (show (R.map Img.span).length ≤ 200 by rw [List.length_map]; exact HM.out.len)
              have HAL := Lib.hid (show alikeL sameG (R.map Img.span) (R.map Img.span) = true from alikeL_refl sameG_refl _)
              generalize R.map Img.span = SP at *
              have HRG := Lib.hid (fun (W : World) (A A' : Option Addr) (c c' : Nat) (h : Row 2 Span.cells W W.heap.size A SP) (h' : Row 2 Span.cells W W.heap.size A' SP) => (by
                have := rranges_any h h' (Nat.le_refl _) c c' (by have := HML.out; omega)
                rw [HAL.out] at this
                exact this : Calls Tryd.prog 23 #[.slice A SP.length c, .slice A' SP.length c'] W fun r w' => r = .returned (.bool true) ∧ Below W.heap.size W w'))
              have hq : ∀ i : Int, (i == i) = true := fun i => by simp
              have hqb : (p4 == p4) = true := by simp
              have HNB := HNA.out
              obtain ⟨na, hna⟩ : ∃ n, nameA Y nm = n := ⟨_, rfl⟩
              have HS1 := Lib.hid (fun (W : World) (hW : Below w10.heap.size w10 W) => (by
                have := HSY.out W hW
                rw [hna] at this
                exact this : Calls Tryd.prog 21 #[.pointer (some ⟨g, 0, none⟩), .string ⟨nm.toArray⟩] W fun r w' => r = .returned (.int .u64 (na : Int)) ∧ w' = W))
              have HS2 := Lib.hid (fun (W : World) (hW : Below w10.heap.size w10 W) => (by
                have := HSY'.out W hW
                rw [← HNB, hna] at this
                exact this : Calls Tryd.prog 21 #[.pointer (some ⟨g', 0, none⟩), .string ⟨nm.toArray⟩] W fun r w' => r = .returned (.int .u64 (na : Int)) ∧ w' = W))
              clear hna HNB HNA HSY HSY' HM HIM HIM'
              go_wp2_with (first
                | (go_at_call 24; refine HIA.out.mono ?_; rintro r w16 ⟨u16, rfl, ho, hb⟩; have HB16 := Lib.hid (HB15.out.trans (hb.mono HB15.out.size)); (obtain ⟨A16, c16, rfl, -, -, hr16⟩ := owng_row ho); have HR16 := Lib.hid hr16; clear ho hb hr16 HIA)
                | (go_at_call 24; refine (HIB.out _ HB16.out).mono ?_; rintro r w17 ⟨u17, rfl, ho, hb⟩; have HB17 := Lib.hid (HB16.out.trans (hb.mono HB16.out.size)); have HR167 := Lib.hid (HR16.out.up hb); (obtain ⟨A17, c17, rfl, -, -, hr17⟩ := owng_row ho); have HR17 := Lib.hid hr17; clear ho hb hr17 HIB)
                | (go_at_call 23; refine (HRG.out _ _ _ _ _ HR167.out HR17.out).mono ?_; rintro r w18 ⟨rfl, hb⟩; have HB18 := Lib.hid (HB17.out.trans (hb.mono HB17.out.size)); clear hb)
                | (go_at_call 21; refine (HS1.out _ HB18.out).mono ?_; rintro r w19 ⟨rfl, rfl⟩; clear HS1)
                | (go_at_call 21; refine (HS2.out _ HB18.out).mono ?_; rintro r w20 ⟨rfl, rfl⟩; clear HS2))
              go_ret
              exact ⟨rfl, HE.out.trans (HB18.out.mono HE.out.size)⟩

end Go.Proofs.YtelmfhpefnemfaaDoor

namespace Go.Proofs.YtelmfhpefnemfaaDoor
open Go Go.ChangeShapes Go.WideShapes Go.ChangeAt Go.RowKit

theorem lorders_card (aP : Option Addr) (P : List Place) (cP : Nat) (aY : Option Addr) (Y : List Named) (cY : Nat) (aO : Option Addr) (cO : Nat) (O : List ObjV) (turn addr : Int) (nm : ByteArray) (w : World) (hT : Tabs w)
    (hP : Row 3 Place.cells w w.heap.size aP P) (hY : Row 2 Named.cells w w.heap.size aY Y) (hpn : ∀ p ∈ P, p.Nums) (hyn : ∀ y ∈ Y, y.Nums) (hcP : CapOk aP P.length cP) (hcY : CapOk aY Y.length cY) (hO : ObjsIn w w.heap.size aO O)
    (_ : (Lit.int .i64 turn).wf = true) (ha : (Lit.int .u64 addr).wf = true) (hnm : nm.size ≤ maxLen) :
    Calls Tryd.prog 4 #[.agg #[.slice aP P.length cP, .slice aY Y.length cY], .slice aO O.length cO, .int .i64 turn, .int .u64 addr, .string nm] w fun e w' => e = .returned (.bool true) ∧ Below w.heap.size w w' := by
  obtain ⟨n, rfl, hn⟩ := nat_of_u64 ha
  obtain ⟨s, rfl⟩ : ∃ s : List UInt8, nm = ⟨s.toArray⟩ := ⟨nm.data.toList, by simp⟩
  exact lorders_walk aP aY aO cP cY cO P Y O turn n s w hT hP hY hpn hyn hO hn (by simpa [ByteArray.size] using hnm) hcP hcY

end Go.Proofs.YtelmfhpefnemfaaDoor
