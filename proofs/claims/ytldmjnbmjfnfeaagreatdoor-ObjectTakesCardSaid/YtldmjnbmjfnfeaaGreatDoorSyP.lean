/-
  Add of a pool, beside rows of bytes that are none of its own: what it may turn, block by block; a row of bytes and a pool that are apart.
-/
import Derived.Test.YtldmjnbmjfnfeaaGreatDoorSeV
import Derived.Test.YtldmjnbmjfnfeaaGreatDoorRefR
import Derived.Test.YtldmjnbmjfnfeaaGreatDoorPoX
import Derived.Test.YtldmjnbmjfnfeaaGreatDoorLawA
import Derived.Test.YtldmjnbmjfnfeaaGreatDoorObR
import Derived.Test.YtldmjnbmjfnfeaaGreatDoorCsS
import Derived.Test.YtldmjnbmjfnfeaaGreatDoorPoB
import Derived.Test.YtldmjnbmjfnfeaaGreatDoorObB
import Derived.Test.YtldmjnbmjfnfeaaGreatDoorSyDa
namespace Go.Proofs.YtldmjnbmjfnfeaaGreatDoor
open Go Go.RowKit

theorem ownu_block {w : World} {base : Nat} {u : Value} {l : List Nat} (h : OwnU w base u l) : ∀ x, u.ownBlock = some x → base ≤ x ∧ x < w.heap.size := by
  intro x hx
  rcases h.2 with ⟨rfl, _⟩ | ⟨g, cap, cur, rfl, hb, hg, _⟩
  · simp [Value.ownBlock] at hx
  · have e : g = x := by simpa [Value.ownBlock] using hx
    subst e
    refine ⟨hb, ?_⟩
    rcases Nat.lt_or_ge g w.heap.size with h1 | h1
    · exact h1
    · rw [Array.getElem?_eq_none h1] at hg; cases hg

theorem block_not {u : Value} {n g : Nat} (h : ∀ y, u.ownBlock = some y → n ≤ y) (hg : g < n) : u.ownBlock = none ∨ u.ownBlock ≠ some g := by
  rcases hu : u.ownBlock with _ | y
  · exact .inl rfl
  · refine .inr fun e => ?_
    have h1 := h y hu
    injection e with e
    omega

/-- What goes along in the rounds of entry. -/
structure EntSt (B : Nat) (w wr : World) (g : Nat) (v u : Value) (l : List UInt8) (a j : Nat) : Prop where
  own : OwnU wr w.heap.size u ((entN l a).take j)
  at_ : ∃ p, (j < 10 → offsN[j]? = some p) ∧ (j = 10 → p = 64) ∧ RR B wr g v l (a + p) 0
  grown : w.grownBy wr (some g)
  row : Box wr w.heap.size 3 (sizesN.map fun q : Nat => Value.int .i64 (q : Int)).toArray

set_option maxRecDepth 10000 in
set_option maxHeartbeats 1600000 in
theorem rentry_any {B : Nat} {w : World} {g : Nat} {v : Value} {l : List UInt8} {a : Nat} (h : RR B w g v l a 0) (hlen : l.length ≤ 140737488355328) (hin : a + 64 ≤ l.length) :
    Calls Tryz.prog 53 #[.pointer (some ⟨g, 0, none⟩)] w fun r w' => ∃ u, r = .returned u ∧ OwnU w' w.heap.size u (entN l a) ∧ RR B w' g v l (a + 64) 0 ∧ w.grownBy w' (some g) := by
  obtain ⟨i0, hi, hz0, hz1, hz2⟩ := info_parts u64_info
  have hg := h.1.lt
  have hBg := h.2.2.2
  have hb0 : Below w.heap.size w (w.alloc (.cells #[.int .i64 4, .int .i64 4, .int .i64 8, .int .i64 8, .int .i64 8, .int .i64 8, .int .i64 4, .int .i64 4, .int .i64 8, .int .i64 8] 3)) := (Below.refl _ _).alloc (Nat.le_refl _) _
  have HS := Lib.hid (show EntSt B w (w.alloc (.cells #[.int .i64 4, .int .i64 4, .int .i64 8, .int .i64 8, .int .i64 8, .int .i64 8, .int .i64 4, .int .i64 4, .int .i64 8, .int .i64 8] 3)) g v (.slice none 0 0) l a 0 from
    ⟨World.ownsRow_nil _ _ _ _, ⟨0, fun _ => rfl, (fun h => by cases h), h.below hb0⟩, only_below hb0 (some g), Box.new w 3 #[.int .i64 4, .int .i64 4, .int .i64 8, .int .i64 8, .int .i64 8, .int .i64 8, .int .i64 4, .int .i64 4, .int .i64 8, .int .i64 8]⟩)
  have HIN := Lib.hid hin
  have HLN := Lib.hid hlen
  clear h hb0 hin hlen
  go_enter Tryz.func53, Tryz.ntmps53
  go_wp2_with fail
  generalize w.alloc (.cells #[.int .i64 4, .int .i64 4, .int .i64 8, .int .i64 8, .int .i64 8, .int .i64 8, .int .i64 4, .int .i64 4, .int .i64 8, .int .i64 8] 3) = w1 at *
  go_loopw [4, 5] (fun u i wr => ∃ j : Nat, j ≤ 10 ∧ i = .int .i64 j ∧ EntSt B w wr g v u l a j) (fun _ i _ => 10 - (intOf i).toNat)
  case atStart => exact ⟨0, Nat.zero_le _, rfl, HS.out⟩
  case round =>
    obtain ⟨j, hj, rfl, hSt⟩ := hrel
    clear HS
    by_cases hlt : j < 10
    · obtain ⟨⟨p, hp, _, hR⟩, hG, hO, hX⟩ := (⟨hSt.at_, hSt.grown, hSt.own, hSt.row⟩ : _ ∧ _ ∧ _ ∧ _)
      obtain ⟨q, hq⟩ : ∃ q, sizesN[j]? = some q := ⟨sizesN[j]'hlt, List.getElem?_eq_getElem _⟩
      obtain ⟨n1, n2, n3, n4⟩ := offs_next (hp hlt) hq
      have hclamp : clampOf (q : Int) = q := by unfold clampOf; omega
      have HU := Lib.hid (quint_ok hR (q : Int) (by omega) HLN.out (by rw [hclamp]; have := HIN.out; omega))
      rw [hclamp] at HU
      have hent := entN_at l a j p q (hp hlt) hq
      have c0 : wr.cell? ⟨w.heap.size, j, none⟩ = some (.int .i64 (q : Int)) := by rw [hX.cell]; simp [hq]
      obtain ⟨x, hx⟩ : ∃ x, leNat ((l.drop (a + p)).take q) = x := ⟨_, rfl⟩
      rw [hx] at HU
      have hent' : (entN l a)[j]? = some x := by rw [hent, ← hx]; rfl
      have htk : (entN l a).take (j + 1) = (entN l a).take j ++ [x] := by rw [List.take_add_one, hent']; rfl
      have hul : ((entN l a).take j).length = j := by rw [List.length_take, entN_length]; omega
      have HTK := Lib.hid htk
      have HUL := Lib.hid hul
      have HG := Lib.hid hG
      have HO := Lib.hid (show OwnU wr w.heap.size u4 ((entN l a).take j) from hO)
      have HX := Lib.hid hX
      have HN := Lib.hid (show (j + 1 < 10 → offsN[j + 1]? = some (p + q)) ∧ (j + 1 = 10 → p + q = 64) from ⟨fun h => n1 (by omega), fun h => n2 (by omega)⟩)
      have H63 := Lib.hid (show j + 1 ≤ maxLen by unfold maxLen; omega)
      have HBY := Lib.hid (show (j + 1) * 8 ≤ 140737488355328 by omega)
      have HHS := Lib.hid hG.size
      clear hSt hp hR hG hO hX hq n1 n2 n3 n4 hclamp hent hx hent' htk hul
      generalize (entN l a).take j = us at *
      go_wp2_with (first
        | (go_at_call 56; refine HU.out.mono ?_; rintro r w2 ⟨rfl, hR2, hG2⟩; have HR2 := Lib.hid hR2; have HG2 := Lib.hid hG2; have HO2 := Lib.hid (World.ownsRow.kept (w := wr) HO.out hG2 (block_not (fun y hy => (ownu_block HO.out y hy).1) hg)); rw [HUL.out] at HO2; have HZ2 := Lib.hid hG2.size; clear hR2 hG2 HU)
        | (at_builtin; refine wpList_append_own_at _ (by rfl) (.tmp 11) (.tmp 18) _ (by rfl) w.heap.size 37 i0 (.int .u64 0) 1 8 Tryz.underlying106 hi hz0 hz1 hz2 rfl (by decide) u4 j (placeV us) (by rfl) (HO2.out.alloc _) ⟨w2.heap.size, 0, none⟩ 1 1 [.int .u64 (x : Int)] (by rfl) rfl (cell_one_new _ _ _) (by simp [Value.oneCell']) H63.out HBY.out (by have := HHS.out; have := HZ2.out; simp; omega) ?_; intro v4 w4 hown4 hg4 hn4 hat4; clear hn4))
      have HOW4 := Lib.hid (show OwnU w4 w.heap.size v4 (us ++ [x]) by rw [OwnU, placeV_append, List.length_append, HUL.out]; exact hown4)
      have hb3 : Below w2.heap.size w2 (w2.alloc (.cells #[.int .u64 (x : Int)] 37)) := (Below.refl _ _).alloc (Nat.le_refl _) _
      have hu4 : ∀ y, u4.ownBlock = some y → w.heap.size ≤ y := fun y hy => (ownu_block HO.out y hy).1
      have HR4 := Lib.hid ((HR2.out.below hb3).grown hg4 (fun e => by have := hu4 _ e.symm; omega) (fun y hy => by have := hu4 y hy; omega))
      have HG4 := Lib.hid (only_trans (only_trans (only_trans HG.out HG2.out (.inl rfl)) (only_below hb3 none) (.inr (fun y hy => by cases hy))) hg4 (.inr fun y hy => hu4 y hy))
      have hon4 := row_turns (HO2.out.alloc (.cells #[.int .u64 (x : Int)] 37)) hg4 (by have := HHS.out; have := HZ2.out; simp; omega)
      have HX2 := HX.out.grown HG2.out (fun e => by injection e with e; omega)
      have HX4 := Lib.hid (hon4.2 _ _ (HX2.below hb3 HX2.lt) (fun hh => absurd (show 3 = 37 from hh) (by decide)))
      clear hown4 hg4 hat4 hb3 hu4 hon4 HX2
      go_roundw
      case rel => exact ⟨j + 1, by omega, by go_num, ⟨by rw [HTK.out]; exact HOW4.out, ⟨p + q, HN.out.1, HN.out.2, by rw [← Nat.add_assoc]; exact HR4.out⟩, HG4.out, HX4.out⟩⟩
      case measure => simp [intOf]; omega
    · have hj10 : j = 10 := by omega
      subst hj10
      have HF := Lib.hid (show OwnU wr w.heap.size u4 (entN l a) ∧ RR B wr g v l (a + 64) 0 ∧ w.grownBy wr (some g) by
        obtain ⟨p, _, hp, hR⟩ := hSt.at_
        rw [hp rfl] at hR
        exact ⟨hSt.own, hR, hSt.grown⟩)
      clear hSt
      go_wp2_with fail
      go_ret
      exact ⟨_, rfl, HF.out.1, HF.out.2⟩

end Go.Proofs.YtldmjnbmjfnfeaaGreatDoor

namespace Go.Proofs.YtldmjnbmjfnfeaaGreatDoor
open Go Go.RowKit

/-- An entry's section, without its name. -/
def sectZ (l : List UInt8) (ns : List Nat) : Sect :=
  ⟨[], (kindN ns : Int), ns.getD 2 0, ns.getD 3 0, dataT l ns, (ns.getD 6 0 : Int), (ns.getD 7 0 : Int), (ns.getD 8 0 : Int), (ns.getD 9 0 : Int)⟩
/-- What the document's section tells. -/
def SecIs (B : Nat) (l : List UInt8) (ns : List Nat) (w : World) (r : Ending) (w' : World) : Prop :=
  ∃ y : Lay, r = .returned (.tuple #[y.val, .int .i64 (entE ns l.length)]) ∧ (entE ns l.length = 0 → y.s = sectZ l ns ∧ (Rd w B y.A y.s.data ∨ Own w' w.heap.size y.dv y.s.data) ∧ y.s.data.length ≤ y.c ∧ y.c ≤ maxLen) ∧ Below w.heap.size w w'

theorem nine_box {W : World} {H : Nat} {T : TypeId} {cs : Array Value} (h : Box W H T cs) (hs : cs.size = 9) (v0 v1 v2 v3 v4 v5 v6 v7 v8 : Value) :
    Box (((((((((W.setCell ⟨H, 0, none⟩ v0).setCell ⟨H, 1, none⟩ v1).setCell ⟨H, 2, none⟩ v2).setCell ⟨H, 3, none⟩ v3).setCell ⟨H, 4, none⟩ v4).setCell ⟨H, 5, none⟩ v5).setCell ⟨H, 6, none⟩ v6).setCell ⟨H, 7, none⟩ v7).setCell ⟨H, 8, none⟩ v8) H T #[v0, v1, v2, v3, v4, v5, v6, v7, v8] := by
  obtain ⟨l⟩ := cs
  match l, hs with
  | [c0, c1, c2, c3, c4, c5, c6, c7, c8], _ =>
    simpa using ((((((((h.set 0 v0).set 1 v1).set 2 v2).set 3 v3).set 4 v4).set 5 v5).set 6 v6).set 7 v7).set 8 v8
theorem nine_below {B : Nat} {W0 W : World} {H : Nat} (h : Below B W0 W) (hH : B ≤ H) (v0 v1 v2 v3 v4 v5 v6 v7 v8 : Value) :
    Below B W0 (((((((((W.setCell ⟨H, 0, none⟩ v0).setCell ⟨H, 1, none⟩ v1).setCell ⟨H, 2, none⟩ v2).setCell ⟨H, 3, none⟩ v3).setCell ⟨H, 4, none⟩ v4).setCell ⟨H, 5, none⟩ v5).setCell ⟨H, 6, none⟩ v6).setCell ⟨H, 7, none⟩ v7).setCell ⟨H, 8, none⟩ v8) :=
  ((((((((h.setCell hH _).setCell hH _).setCell hH _).setCell hH _).setCell hH _).setCell hH _).setCell hH _).setCell hH _).setCell hH _

theorem box_keep {w : World} {k : Nat} {t : TypeId} {cs : Array Value} (h : Box w k t cs) (o : Obj) : Box (w.alloc o) k t cs := h.below ((Below.refl w.heap.size w).alloc (Nat.le_refl _) o) h.lt
theorem nine_cells {W : World} {H : Nat} {T : TypeId} {c0 c1 c2 c3 c4 c5 c6 c7 c8 : Value} (h : Box W H T #[c0, c1, c2, c3, c4, c5, c6, c7, c8]) : W.cell? ⟨H, 0, none⟩ = some c0 ∧ W.cell? ⟨H, 1, none⟩ = some c1 ∧ W.cell? ⟨H, 2, none⟩ = some c2 ∧ W.cell? ⟨H, 3, none⟩ = some c3 ∧ W.cell? ⟨H, 4, none⟩ = some c4 ∧ W.cell? ⟨H, 5, none⟩ = some c5 ∧ W.cell? ⟨H, 6, none⟩ = some c6 ∧ W.cell? ⟨H, 7, none⟩ = some c7 ∧ W.cell? ⟨H, 8, none⟩ = some c8 := by
  refine ⟨?_, ?_, ?_, ?_, ?_, ?_, ?_, ?_, ?_⟩ <;> (rw [h.cell]; rfl)
theorem nine_free {W : World} {H : Nat} {T : TypeId} {cs : Array Value} (h : Box W H T cs) : W.frozen? ⟨H, 0, none⟩ = false ∧ W.frozen? ⟨H, 1, none⟩ = false ∧ W.frozen? ⟨H, 2, none⟩ = false ∧ W.frozen? ⟨H, 3, none⟩ = false ∧ W.frozen? ⟨H, 4, none⟩ = false ∧ W.frozen? ⟨H, 5, none⟩ = false ∧ W.frozen? ⟨H, 6, none⟩ = false ∧ W.frozen? ⟨H, 7, none⟩ = false ∧ W.frozen? ⟨H, 8, none⟩ = false :=
  ⟨h.free 0, h.free 1, h.free 2, h.free 3, h.free 4, h.free 5, h.free 6, h.free 7, h.free 8⟩
theorem nine_only {base : Nat} {W : World} {H : Nat} {T : TypeId} {cs : Array Value} (h : Box W H T cs) (hH : base ≤ H) (v0 v1 v2 v3 v4 v5 v6 v7 v8 : Value) :
    Only base (CellsOf T) W (((((((((W.setCell ⟨H, 0, none⟩ v0).setCell ⟨H, 1, none⟩ v1).setCell ⟨H, 2, none⟩ v2).setCell ⟨H, 3, none⟩ v3).setCell ⟨H, 4, none⟩ v4).setCell ⟨H, 5, none⟩ v5).setCell ⟨H, 6, none⟩ v6).setCell ⟨H, 7, none⟩ v7).setCell ⟨H, 8, none⟩ v8) :=
  Only.row (g := H) (only_set (only_set (only_set (only_set (only_set (only_set (only_set (only_set (only_set (only_refl W (some H)) 0 v0) 1 v1) 2 v2) 3 v3) 4 v4) 5 v5) 6 v6) 7 v7) 8 v8) h rfl hH
/-- What the document's section leaves: the bytes stored into the section, and it into the result. -/
theorem sect_done {base : Nat} {W : World} {H E : Nat} {ch ce : Array Value} (hz : Box W H 39 ch) (hs : ch.size = 9) (he : Box W E 39 ce) (hne : E ≠ H) (h1 : base ≤ H) (h2 : base ≤ E) (d v0 v1 v2 v3 v4 v5 v6 v7 v8 : Value) :
    Box ((((((((((W.setCell ⟨E, 4, none⟩ d).setCell ⟨H, 0, none⟩ v0).setCell ⟨H, 1, none⟩ v1).setCell ⟨H, 2, none⟩ v2).setCell ⟨H, 3, none⟩ v3).setCell ⟨H, 4, none⟩ v4).setCell ⟨H, 5, none⟩ v5).setCell ⟨H, 6, none⟩ v6).setCell ⟨H, 7, none⟩ v7).setCell ⟨H, 8, none⟩ v8) H 39 #[v0, v1, v2, v3, v4, v5, v6, v7, v8] ∧
    Only base (CellsOf 39) W ((((((((((W.setCell ⟨E, 4, none⟩ d).setCell ⟨H, 0, none⟩ v0).setCell ⟨H, 1, none⟩ v1).setCell ⟨H, 2, none⟩ v2).setCell ⟨H, 3, none⟩ v3).setCell ⟨H, 4, none⟩ v4).setCell ⟨H, 5, none⟩ v5).setCell ⟨H, 6, none⟩ v6).setCell ⟨H, 7, none⟩ v7).setCell ⟨H, 8, none⟩ v8) := by
  have hg := only_set (only_refl W (some E)) 4 d
  have hz5 : Box (W.setCell ⟨E, 4, none⟩ d) H 39 ch := hz.grown hg (fun e => by injection e with e; exact hne e.symm)
  exact ⟨nine_box hz5 hs v0 v1 v2 v3 v4 v5 v6 v7 v8, (Only.row (g := E) (bad := CellsOf 39) hg he rfl h2).trans (nine_only hz5 h1 v0 v1 v2 v3 v4 v5 v6 v7 v8)⟩

/-- A test that is no number's: the first that is too great. -/
theorem small_ways (kd lk inf al ec : Nat) : (smallN [lk, inf, al, ec, kd] = true ∧ kd ≤ 2147483647 ∧ lk ≤ 2147483647 ∧ inf ≤ 2147483647 ∧ al ≤ 2147483647 ∧ ec ≤ 2147483647) ∨
    (smallN [lk, inf, al, ec, kd] = false ∧ (2147483647 < kd ∨ (kd ≤ 2147483647 ∧ 2147483647 < lk) ∨ (kd ≤ 2147483647 ∧ lk ≤ 2147483647 ∧ 2147483647 < inf) ∨ (kd ≤ 2147483647 ∧ lk ≤ 2147483647 ∧ inf ≤ 2147483647 ∧ 2147483647 < al) ∨ (kd ≤ 2147483647 ∧ lk ≤ 2147483647 ∧ inf ≤ 2147483647 ∧ al ≤ 2147483647 ∧ 2147483647 < ec))) := by
  cases h : smallN [lk, inf, al, ec, kd] with
  | true =>
    simp only [smallN, List.all_cons, List.all_nil, Bool.and_true, Bool.and_eq_true, decide_eq_true_eq] at h
    exact .inl ⟨rfl, by omega⟩
  | false =>
    refine .inr ⟨rfl, ?_⟩
    have h' : ¬ (lk ≤ 2147483647 ∧ inf ≤ 2147483647 ∧ al ≤ 2147483647 ∧ ec ≤ 2147483647 ∧ kd ≤ 2147483647) := by
      intro hh
      have : smallN [lk, inf, al, ec, kd] = true := by
        simp only [smallN, List.all_cons, List.all_nil, Bool.and_true, Bool.and_eq_true, decide_eq_true_eq]
        exact hh
      rw [h] at this
      cases this
    omega
theorem gt_true {n : Nat} (h : 2147483647 < n) : decide ((2147483647 : Int) < (n : Int)) = true := decide_eq_true (by omega)
theorem gt_false {n : Nat} (h : n ≤ 2147483647) : decide ((2147483647 : Int) < (n : Int)) = false := decide_eq_false (by omega)

set_option maxRecDepth 10000 in
set_option maxHeartbeats 3200000 in
theorem rsection_great {w : World} {B : Nat} {A : Option Addr} {l : List UInt8} (c : Nat) {gx cx : Nat} (nm kd fl ad pl sz lk inf al ec : Nat) (hx : EntAt w gx 0 [nm, kd, fl, ad, pl, sz, lk, inf, al, ec])
    (hs : smallN [lk, inf, al, ec, kd] = false) (hw : 2147483647 < kd ∨ (kd ≤ 2147483647 ∧ 2147483647 < lk) ∨ (kd ≤ 2147483647 ∧ lk ≤ 2147483647 ∧ 2147483647 < inf) ∨ (kd ≤ 2147483647 ∧ lk ≤ 2147483647 ∧ inf ≤ 2147483647 ∧ 2147483647 < al) ∨ (kd ≤ 2147483647 ∧ lk ≤ 2147483647 ∧ inf ≤ 2147483647 ∧ al ≤ 2147483647 ∧ 2147483647 < ec)) :
    Calls Tryz.prog 54 #[.slice A l.length c, .slice (some ⟨gx, 0, none⟩) 10 cx] w (SecIs B l [nm, kd, fl, ad, pl, sz, lk, inf, al, ec] w) := by
  have hE : entE [nm, kd, fl, ad, pl, sz, lk, inf, al, ec] l.length = 22 := by
    show (if smallN [lk, inf, al, ec, kd] = true then _ else 22) = 22
    rw [hs]; rfl
  have hgx := hx.lt
  have c1 := hx.2 1 kd rfl
  have c6 := hx.2 6 lk rfl
  have c7 := hx.2 7 inf rfl
  have c8 := hx.2 8 al rfl
  have c9 := hx.2 9 ec rfl
  rw [Nat.zero_add] at c1 c6 c7 c8 c9
  have HW := Lib.hid hw
  have HE := Lib.hid hE
  unfold SecIs
  clear hx hs hw hE
  generalize entE [nm, kd, fl, ad, pl, sz, lk, inf, al, ec] l.length = e at *
  generalize l.length = n at *
  have hb0 : Below w.heap.size w (w.alloc (.cells #[.string ⟨#[]⟩, .int .i64 0, .int .u64 0, .int .u64 0, .slice none 0 0, .int .i64 0, .int .i64 0, .int .i64 0, .int .i64 0] 39)) := (Below.refl _ _).alloc (Nat.le_refl _) _
  have HB := Lib.hid (hb0.alloc (by simp) (.cells #[.string ⟨#[]⟩, .int .i64 0, .int .u64 0, .int .u64 0, .slice none 0 0, .int .i64 0, .int .i64 0, .int .i64 0, .int .i64 0] 39))
  have HZ := Lib.hid (box_keep (Box.new w 39 #[.string ⟨#[]⟩, .int .i64 0, .int .u64 0, .int .u64 0, .slice none 0 0, .int .i64 0, .int .i64 0, .int .i64 0, .int .i64 0]) (.cells #[.string ⟨#[]⟩, .int .i64 0, .int .u64 0, .int .u64 0, .slice none 0 0, .int .i64 0, .int .i64 0, .int .i64 0, .int .i64 0] 39))
  clear hb0
  go_enter Tryz.func54, Tryz.ntmps54
  rcases HW.out with h | ⟨h1, h⟩ | ⟨h1, h2, h⟩ | ⟨h1, h2, h3, h⟩ | ⟨h1, h2, h3, h4, h⟩
  · have d1 := gt_true h
    clear h
    go_wp2_with fail
    refine ret_two Tryz.underlying39 Tryz.results54 HZ.out (by kernel_rfl) (by rfl) rfl ?_
    exact ⟨⟨zeroS, none, 0⟩, by rw [HE.out]; rfl, fun h0 => absurd (HE.out.symm.trans h0) (by decide), HB.out⟩
  · have d1 := gt_false h1
    have d2 := gt_true h
    clear h h1
    go_wp2_with fail
    refine ret_two Tryz.underlying39 Tryz.results54 HZ.out (by kernel_rfl) (by rfl) rfl ?_
    exact ⟨⟨zeroS, none, 0⟩, by rw [HE.out]; rfl, fun h0 => absurd (HE.out.symm.trans h0) (by decide), HB.out⟩
  · have d1 := gt_false h1
    have d2 := gt_false h2
    have d3 := gt_true h
    clear h h1 h2
    go_wp2_with fail
    refine ret_two Tryz.underlying39 Tryz.results54 HZ.out (by kernel_rfl) (by rfl) rfl ?_
    exact ⟨⟨zeroS, none, 0⟩, by rw [HE.out]; rfl, fun h0 => absurd (HE.out.symm.trans h0) (by decide), HB.out⟩
  · have d1 := gt_false h1
    have d2 := gt_false h2
    have d3 := gt_false h3
    have d4 := gt_true h
    clear h h1 h2 h3
    go_wp2_with fail
    refine ret_two Tryz.underlying39 Tryz.results54 HZ.out (by kernel_rfl) (by rfl) rfl ?_
    exact ⟨⟨zeroS, none, 0⟩, by rw [HE.out]; rfl, fun h0 => absurd (HE.out.symm.trans h0) (by decide), HB.out⟩
  · have d1 := gt_false h1
    have d2 := gt_false h2
    have d3 := gt_false h3
    have d4 := gt_false h4
    have d5 := gt_true h
    clear h h1 h2 h3 h4
    go_wp2_with fail
    refine ret_two Tryz.underlying39 Tryz.results54 HZ.out (by kernel_rfl) (by rfl) rfl ?_
    exact ⟨⟨zeroS, none, 0⟩, by rw [HE.out]; rfl, fun h0 => absurd (HE.out.symm.trans h0) (by decide), HB.out⟩

set_option maxRecDepth 10000 in
set_option maxHeartbeats 6400000 in
theorem rsection_small {w : World} {B : Nat} {A : Option Addr} {l : List UInt8} (hr : Rd w B A l) (c : Nat) (hlc : l.length ≤ c) (hcm : c ≤ maxLen) (hl : l.length ≤ 140737488355328) {gx cx : Nat} (nm kd fl ad pl sz lk inf al ec : Nat) (hx : EntAt w gx 0 [nm, kd, fl, ad, pl, sz, lk, inf, al, ec])
    (hn : ∀ x ∈ [nm, kd, fl, ad, pl, sz, lk, inf, al, ec], x < two64) (hs : smallN [lk, inf, al, ec, kd] = true) (h1 : kd ≤ 2147483647) (h2 : lk ≤ 2147483647) (h3 : inf ≤ 2147483647) (h4 : al ≤ 2147483647) (h5 : ec ≤ 2147483647) :
    Calls Tryz.prog 54 #[.slice A l.length c, .slice (some ⟨gx, 0, none⟩) 10 cx] w (SecIs B l [nm, kd, fl, ad, pl, sz, lk, inf, al, ec] w) := by
  have hE : entE [nm, kd, fl, ad, pl, sz, lk, inf, al, ec] l.length = if kd = 0 then 0 else if kd ≠ 8 ∧ l.length < pl + sz then 22 else if 65536 < sz then 3 else 0 := by
    show (if smallN [lk, inf, al, ec, kd] = true then _ else 22) = _
    rw [hs]; rfl
  have hD : sectZ l [nm, kd, fl, ad, pl, sz, lk, inf, al, ec] = ⟨[], (kd : Int), fl, ad, (if kd = 0 then [] else if kd = 8 then List.replicate sz 0 else (l.drop pl).take sz), (lk : Int), (inf : Int), (al : Int), (ec : Int)⟩ := rfl
  have hgx := hx.lt
  have d1 := gt_false h1
  have d2 := gt_false h2
  have d3 := gt_false h3
  have d4 := gt_false h4
  have d5 := gt_false h5
  have e1 := IntWalk.i64_in (kd : Int) (by omega)
  have e2 := IntWalk.i64_in (lk : Int) (by omega)
  have e3 := IntWalk.i64_in (inf : Int) (by omega)
  have e4 := IntWalk.i64_in (al : Int) (by omega)
  have e5 := IntWalk.i64_in (ec : Int) (by omega)
  have hpl := hn pl (by simp)
  have hsz := hn sz (by simp)
  have HWI := Lib.hid (fun W => rwithin_any pl sz l.length W hpl hsz)
  rw [within_iff pl sz l.length (by unfold two64; omega)] at HWI
  have HX := Lib.hid (fun W (hW : Below w.heap.size w W) => (hx.below hW hgx))
  have HE := Lib.hid hE
  have HD := Lib.hid hD
  have hb0 : Below w.heap.size w (w.alloc (.cells #[.string ⟨#[]⟩, .int .i64 0, .int .u64 0, .int .u64 0, .slice none 0 0, .int .i64 0, .int .i64 0, .int .i64 0, .int .i64 0] 39)) := (Below.refl _ _).alloc (Nat.le_refl _) _
  have HB := Lib.hid (hb0.alloc (by simp) (.cells #[.string ⟨#[]⟩, .int .i64 0, .int .u64 0, .int .u64 0, .slice none 0 0, .int .i64 0, .int .i64 0, .int .i64 0, .int .i64 0] 39))
  have HZ := Lib.hid (box_keep (Box.new w 39 #[.string ⟨#[]⟩, .int .i64 0, .int .u64 0, .int .u64 0, .slice none 0 0, .int .i64 0, .int .i64 0, .int .i64 0, .int .i64 0]) (.cells #[.string ⟨#[]⟩, .int .i64 0, .int .u64 0, .int .u64 0, .slice none 0 0, .int .i64 0, .int .i64 0, .int .i64 0, .int .i64 0] 39))
  have HN := Lib.hid (show Box ((w.alloc (.cells #[.string ⟨#[]⟩, .int .i64 0, .int .u64 0, .int .u64 0, .slice none 0 0, .int .i64 0, .int .i64 0, .int .i64 0, .int .i64 0] 39)).alloc (.cells #[.string ⟨#[]⟩, .int .i64 0, .int .u64 0, .int .u64 0, .slice none 0 0, .int .i64 0, .int .i64 0, .int .i64 0, .int .i64 0] 39)) (w.heap.size + 1) 39 #[.string ⟨#[]⟩, .int .i64 0, .int .u64 0, .int .u64 0, .slice none 0 0, .int .i64 0, .int .i64 0, .int .i64 0, .int .i64 0] by simpa using Box.new (w.alloc (.cells #[.string ⟨#[]⟩, .int .i64 0, .int .u64 0, .int .u64 0, .slice none 0 0, .int .i64 0, .int .i64 0, .int .i64 0, .int .i64 0] 39)) 39 #[.string ⟨#[]⟩, .int .i64 0, .int .u64 0, .int .u64 0, .slice none 0 0, .int .i64 0, .int .i64 0, .int .i64 0, .int .i64 0])
  obtain ⟨i0, hi, hz0, hz1, hz2⟩ := info_parts u8_info
  have c1 := hx.2 1 kd rfl
  have c6 := hx.2 6 lk rfl
  have c7 := hx.2 7 inf rfl
  have c8 := hx.2 8 al rfl
  have c9 := hx.2 9 ec rfl
  rw [Nat.zero_add] at c1 c6 c7 c8 c9
  unfold SecIs
  clear hb0 hx hn hs h1 h2 h3 h4 h5 hE hD hpl hsz
  generalize entE [nm, kd, fl, ad, pl, sz, lk, inf, al, ec] l.length = e at *
  generalize sectZ l [nm, kd, fl, ad, pl, sz, lk, inf, al, ec] = yz at *
  go_enter Tryz.func54, Tryz.ntmps54
  go_wp2_with fail
  have hs2 : ((w.alloc (.cells #[.string ⟨#[]⟩, .int .i64 0, .int .u64 0, .int .u64 0, .slice none 0 0, .int .i64 0, .int .i64 0, .int .i64 0, .int .i64 0] 39)).alloc (.cells #[.string ⟨#[]⟩, .int .i64 0, .int .u64 0, .int .u64 0, .slice none 0 0, .int .i64 0, .int .i64 0, .int .i64 0, .int .i64 0] 39)).heap.size = w.heap.size + 2 := by simp
  generalize hw2 : (w.alloc (.cells #[.string ⟨#[]⟩, .int .i64 0, .int .u64 0, .int .u64 0, .slice none 0 0, .int .i64 0, .int .i64 0, .int .i64 0, .int .i64 0] 39)).alloc (.cells #[.string ⟨#[]⟩, .int .i64 0, .int .u64 0, .int .u64 0, .slice none 0 0, .int .i64 0, .int .i64 0, .int .i64 0, .int .i64 0] 39) = w2 at *
  clear hw2
  have KS := Lib.hid (fun W (hW : Below w2.heap.size w2 W) => (by
    have h := (HX.out W (HB.out.trans (hW.mono HB.out.size))).2
    have k1 := h 1 kd rfl
    have k2 := h 2 fl rfl
    have k3 := h 3 ad rfl
    have k4 := h 4 pl rfl
    have k5 := h 5 sz rfl
    have k6 := h 6 lk rfl
    have k7 := h 7 inf rfl
    have k8 := h 8 al rfl
    have k9 := h 9 ec rfl
    rw [Nat.zero_add] at k1 k2 k3 k4 k5 k6 k7 k8 k9
    exact ⟨k1, k2, k3, k4, k5, k6, k7, k8, k9⟩ :
    W.cell? ⟨gx, 1, none⟩ = some (.int .u64 (kd : Int)) ∧ W.cell? ⟨gx, 2, none⟩ = some (.int .u64 (fl : Int)) ∧ W.cell? ⟨gx, 3, none⟩ = some (.int .u64 (ad : Int)) ∧ W.cell? ⟨gx, 4, none⟩ = some (.int .u64 (pl : Int)) ∧ W.cell? ⟨gx, 5, none⟩ = some (.int .u64 (sz : Int)) ∧
      W.cell? ⟨gx, 6, none⟩ = some (.int .u64 (lk : Int)) ∧ W.cell? ⟨gx, 7, none⟩ = some (.int .u64 (inf : Int)) ∧ W.cell? ⟨gx, 8, none⟩ = some (.int .u64 (al : Int)) ∧ W.cell? ⟨gx, 9, none⟩ = some (.int .u64 (ec : Int))))
  have hb2 : Below w2.heap.size w2 w2.drew := (Below.refl _ _).drew
  clear c1 c6 c7 c8 c9
  go_region_held_law (fun W => W.cell? ⟨gx, 1, none⟩ = some (.int .u64 (kd : Int)) ∧ W.cell? ⟨gx, 2, none⟩ = some (.int .u64 (fl : Int)) ∧ W.cell? ⟨gx, 3, none⟩ = some (.int .u64 (ad : Int)) ∧ W.cell? ⟨gx, 4, none⟩ = some (.int .u64 (pl : Int)) ∧ W.cell? ⟨gx, 5, none⟩ = some (.int .u64 (sz : Int)) ∧
      W.cell? ⟨gx, 6, none⟩ = some (.int .u64 (lk : Int)) ∧ W.cell? ⟨gx, 7, none⟩ = some (.int .u64 (inf : Int)) ∧ W.cell? ⟨gx, 8, none⟩ = some (.int .u64 (al : Int)) ∧ W.cell? ⟨gx, 9, none⟩ = some (.int .u64 (ec : Int)))
    ((refine KS.out _ ?_; (repeat' (first | with_reducible assumption | with_reducible refine below_drewN ?_ _ | with_reducible refine Below.drew ?_ | (with_reducible refine Below.alloc ?_ ?_ _) | with_reducible exact Below.refl _ _ | with_reducible exact Nat.le_refl _ | (simp; done)))))
    (fail)
  have hs3 : w2.heap.size < (w2.alloc (.cells #[.string ⟨#[]⟩, .int .i64 (kd : Int), .int .u64 (fl : Int), .int .u64 (ad : Int), .slice none 0 0, .int .i64 (lk : Int), .int .i64 (inf : Int), .int .i64 (al : Int), .int .i64 (ec : Int)] 39)).drew.heap.size := by simp
  have hb3 : Below w2.heap.size w2 (w2.alloc (.cells #[.string ⟨#[]⟩, .int .i64 (kd : Int), .int .u64 (fl : Int), .int .u64 (ad : Int), .slice none 0 0, .int .i64 (lk : Int), .int .i64 (inf : Int), .int .i64 (al : Int), .int .i64 (ec : Int)] 39)).drew := ((Below.refl _ _).alloc (Nat.le_refl _) _).drew
  have hX3 : Box (w2.alloc (.cells #[.string ⟨#[]⟩, .int .i64 (kd : Int), .int .u64 (fl : Int), .int .u64 (ad : Int), .slice none 0 0, .int .i64 (lk : Int), .int .i64 (inf : Int), .int .i64 (al : Int), .int .i64 (ec : Int)] 39)).drew (w.heap.size + 2) 39 #[.string ⟨#[]⟩, .int .i64 (kd : Int), .int .u64 (fl : Int), .int .u64 (ad : Int), .slice none 0 0, .int .i64 (lk : Int), .int .i64 (inf : Int), .int .i64 (al : Int), .int .i64 (ec : Int)] := by rw [← hs2]; exact Box.new w2 _ _
  have hZ3 := HZ.out.below hb3 HZ.out.lt
  have hN3 := HN.out.below hb3 HN.out.lt
  have HB3 := Lib.hid (HB.out.trans (hb3.mono HB.out.size))
  have HK3 := Lib.hid (fun W (hW : Below (w2.alloc (.cells #[.string ⟨#[]⟩, .int .i64 (kd : Int), .int .u64 (fl : Int), .int .u64 (ad : Int), .slice none 0 0, .int .i64 (lk : Int), .int .i64 (inf : Int), .int .i64 (al : Int), .int .i64 (ec : Int)] 39)).drew.heap.size (w2.alloc (.cells #[.string ⟨#[]⟩, .int .i64 (kd : Int), .int .u64 (fl : Int), .int .u64 (ad : Int), .slice none 0 0, .int .i64 (lk : Int), .int .i64 (inf : Int), .int .i64 (al : Int), .int .i64 (ec : Int)] 39)).drew W) => KS.out W (hb3.trans (hW.mono (Nat.le_of_lt hs3))))
  clear hb3 hb2 KS HZ HN HB
  generalize (w2.alloc (.cells #[.string ⟨#[]⟩, .int .i64 (kd : Int), .int .u64 (fl : Int), .int .u64 (ad : Int), .slice none 0 0, .int .i64 (lk : Int), .int .i64 (inf : Int), .int .i64 (al : Int), .int .i64 (ec : Int)] 39)).drew = w3 at *
  rw [hs2] at hs3
  clear hs2
  obtain ⟨r0, r1, r2, r3, r4, r5, r6, r7, r8⟩ := nine_cells hZ3
  obtain ⟨n0, n1, n2, n3, n4, n5, n6, n7, n8⟩ := nine_cells hN3
  obtain ⟨x0, x1, x2, x3, x4, x5, x6, x7, x8⟩ := nine_cells hX3
  obtain ⟨f0, f1, f2, f3, f4, f5, f6, f7, f8⟩ := nine_free hZ3
  have g4 := hX3.free 4
  obtain ⟨-, -, -, k4, k5, -⟩ := HK3.out w3 (Below.refl _ _)
  have HZ3 := Lib.hid hZ3
  have HX3 := Lib.hid hX3
  clear hZ3 hN3 hX3
  by_cases hk0 : kd = 0
  · subst hk0
    have HF := Lib.hid (show e = 0 ∧ yz = ⟨[], 0, fl, ad, [], (lk : Int), (inf : Int), (al : Int), (ec : Int)⟩ by rw [HE.out, HD.out]; exact ⟨rfl, rfl⟩)
    clear HE HD HK3 k4 k5
    go_wp2_with fail
    refine ret_two Tryz.underlying39 Tryz.results54 (nine_box HZ3.out rfl _ _ _ _ _ _ _ _ _) (by kernel_rfl) (by rfl) rfl ?_
    exact ⟨⟨⟨[], 0, fl, ad, [], (lk : Int), (inf : Int), (al : Int), (ec : Int)⟩, none, 0⟩, by rw [HF.out.1]; rfl, fun _ => ⟨HF.out.2.symm, .inl Rd.nil_, Nat.le_refl _, Nat.zero_le _⟩, nine_below HB3.out (Nat.le_refl _) _ _ _ _ _ _ _ _ _⟩
  · by_cases hk8 : kd = 8
    · subst hk8
      by_cases hbig : 65536 < sz
      · have q : decide ((65536 : Int) < (sz : Int)) = true := decide_eq_true (by omega)
        have HF := Lib.hid (show e = 3 by rw [HE.out, if_neg (by decide), if_neg (by simp), if_pos hbig])
        clear HE HD HK3 hbig hk0
        go_wp2_with fail
        refine ret_two Tryz.underlying39 Tryz.results54 (nine_box HZ3.out rfl _ _ _ _ _ _ _ _ _) (by kernel_rfl) (by rfl) rfl ?_
        exact ⟨⟨zeroS, none, 0⟩, by rw [HF.out]; rfl, fun h0 => absurd (HF.out.symm.trans h0) (by decide), nine_below HB3.out (Nat.le_refl _) _ _ _ _ _ _ _ _ _⟩
      · have q : decide ((65536 : Int) < (sz : Int)) = false := decide_eq_false (by omega)
        have hsz : sz ≤ 65536 := by omega
        have e6 := IntWalk.i64_in (sz : Int) (by omega)
        have HF := Lib.hid (show e = 0 ∧ yz = ⟨[], 8, fl, ad, List.replicate sz 0, (lk : Int), (inf : Int), (al : Int), (ec : Int)⟩ by rw [HE.out, HD.out, if_neg (by decide), if_neg (by simp), if_neg hbig]; exact ⟨rfl, rfl⟩)
        have hn4 : sz ≤ 140737488355328 := by omega
        clear HE HD HK3 hbig hk0
        go_wp2_with (at_make; refine wpList_make_bytes rfl _ _ 22 rfl i0 Tryz.underlying22 hi hz0 hz1 hz2 sz hn4 rfl rfl w3.heap.size rfl ?_; intro w4 hr4 hb4; have HZ4 := Lib.hid (HZ3.out.below hb4 HZ3.out.lt); have HX4 := Lib.hid (HX3.out.below hb4 HX3.out.lt); have HB4 := Lib.hid (HB3.out.trans (hb4.mono HB3.out.size)); have HR4 := Lib.hid hr4; clear r0 r1 r2 r3 r4 r5 r6 r7 r8 n0 n1 n2 n3 n4 n5 n6 n7 n8 x0 x1 x2 x3 x4 x5 x6 x7 x8 f0 f1 f2 f3 f4 f5 f6 f7 f8 g4 k4 k5 hb4 hr4; obtain ⟨r0, r1, r2, r3, r4, r5, r6, r7, r8⟩ := nine_cells HZ4.out; obtain ⟨x0, x1, x2, x3, x4, x5, x6, x7, x8⟩ := nine_cells HX4.out; obtain ⟨f0, f1, f2, f3, f4, f5, f6, f7, f8⟩ := nine_free HZ4.out; have g4 := HX4.out.free 4)
        obtain ⟨hb9, ho9⟩ := sect_done (base := w.heap.size) HZ4.out rfl HX4.out (by omega) (Nat.le_refl _) (by omega) (.slice (some ⟨w3.heap.size, 0, none⟩) sz sz) (.string ⟨#[]⟩) (.int .i64 8) (.int .u64 (fl : Int)) (.int .u64 (ad : Int)) (.slice (some ⟨w3.heap.size, 0, none⟩) sz sz) (.int .i64 (lk : Int)) (.int .i64 (inf : Int)) (.int .i64 (al : Int)) (.int .i64 (ec : Int))
        refine ret_two Tryz.underlying39 Tryz.results54 hb9 (by kernel_rfl) (by rfl) rfl ?_
        have hrow : Own w4 w3.heap.size (.slice (some ⟨w3.heap.size, 0, none⟩) sz sz) (List.replicate sz 0) := by
          have := HR4.out.own (base := w3.heap.size) (Nat.le_refl _) (by rw [List.length_replicate]; unfold maxLen; omega)
          rwa [List.length_replicate] at this
        have hrow9 := row_only hrow ho9 (fun cs f hh => absurd (show 5 = 39 from hh) (by decide))
        have hown9 := own_up hrow9 HB3.out.size
        exact ⟨⟨⟨[], 8, fl, ad, List.replicate sz 0, (lk : Int), (inf : Int), (al : Int), (ec : Int)⟩, some ⟨w3.heap.size, 0, none⟩, sz⟩, by rw [HF.out.1]; simp [Lay.val, Lay.cells, Lay.dv, List.length_replicate], fun _ => ⟨HF.out.2.symm, .inr (by simp only [Lay.dv, List.length_replicate]; simpa using hown9), by simp, by unfold maxLen; simp only; omega⟩, HB4.out.trans ho9.1⟩
    · have q1 : ((kd : Int) == 8) = false := by simp; omega
      have q2 : ((kd : Int) != 0) = true := by simp; omega
      have q3 : ((kd : Int) != 8) = true := by simp; omega
      have HKD := Lib.hid (And.intro hk0 hk8)
      have wl := IntWalk.u64_in (l.length : Int) (by omega)
      obtain ⟨bw, hbw⟩ : ∃ bw, decide (pl + sz ≤ l.length) = bw := ⟨_, rfl⟩
      rw [hbw] at HWI
      have HBW := Lib.hid hbw
      clear hk0 hk8 hbw
      go_wp2_with fail
      go_quiet ((go_at_call 97; exact Calls.quiet_of_same ((HWI.out _).mono fun _ _ h => ⟨h.1, h.2.symm⟩)))
      have HB3q := Lib.hid (below_drewN HB3.out nq)
      have HZ3q := Lib.hid (HZ3.out.drewN nq)
      have HX3q := Lib.hid (HX3.out.drewN nq)
      cases bw with
      | false =>
        have hin : ¬ pl + sz ≤ l.length := of_decide_eq_false HBW.out
        have HF := Lib.hid (show e = 22 by rw [HE.out, if_neg HKD.out.1, if_pos ⟨HKD.out.2, by omega⟩])
        clear HE HD HK3 hin
        go_wp2_with fail
        refine ret_two Tryz.underlying39 Tryz.results54 (nine_box HZ3q.out rfl _ _ _ _ _ _ _ _ _) (by kernel_rfl) (by rfl) rfl ?_
        exact ⟨⟨zeroS, none, 0⟩, by rw [HF.out]; rfl, fun h0 => absurd (HF.out.symm.trans h0) (by decide), nine_below HB3q.out (Nat.le_refl _) _ _ _ _ _ _ _ _ _⟩

      | true =>
        have hin : pl + sz ≤ l.length := of_decide_eq_true HBW.out
        by_cases hbig : 65536 < sz
        · have q : decide ((65536 : Int) < (sz : Int)) = true := decide_eq_true (by omega)
          have HF := Lib.hid (show e = 3 by rw [HE.out, if_neg HKD.out.1, if_neg (by omega), if_pos hbig])
          clear HE HD HK3 hbig hin
          go_wp2_with fail
          refine ret_two Tryz.underlying39 Tryz.results54 (nine_box HZ3q.out rfl _ _ _ _ _ _ _ _ _) (by kernel_rfl) (by rfl) rfl ?_
          exact ⟨⟨zeroS, none, 0⟩, by rw [HF.out]; rfl, fun h0 => absurd (HF.out.symm.trans h0) (by decide), nine_below HB3q.out (Nat.le_refl _) _ _ _ _ _ _ _ _ _⟩
        · have q : decide ((65536 : Int) < (sz : Int)) = false := decide_eq_false (by omega)
          have hsz : sz ≤ 65536 := by omega
          have HF := Lib.hid (show e = 0 ∧ yz = ⟨[], (kd : Int), fl, ad, (l.drop pl).take sz, (lk : Int), (inf : Int), (al : Int), (ec : Int)⟩ by rw [HE.out, HD.out, if_neg HKD.out.1, if_neg (by omega), if_neg hbig, if_neg HKD.out.1, if_neg HKD.out.2]; exact ⟨rfl, rfl⟩)
          have e6 := IntWalk.i64_in (pl : Int) (by omega)
          have e7 := IntWalk.u64_in ((pl : Int) + (sz : Int)) (by omega)
          have e8 := IntWalk.i64_in ((pl : Int) + (sz : Int)) (by omega)
          have hpl : ((l.drop pl).take sz).length = sz := by simp; omega
          obtain ⟨A2, c2, hsl, hra⟩ : ∃ A2 c2, (∀ W : World, (Instr.slice 22 (.slice A l.length c) (some (.int .i64 (pl : Int))) (some (.int .i64 ((pl : Int) + (sz : Int)))) none).run Tryz.prog W = .ok (.slice A2 sz c2) W) ∧ Hid (Rd w B A2 ((l.drop pl).take sz) ∧ sz ≤ c2 ∧ c2 ≤ maxLen) := by
            have hnn : ((pl : Int) + (sz : Int)).toNat - pl = sz := by omega
            have hs1 : ∀ W : World, (sizeOf (Tryz.prog.elem 22)).run Tryz.prog W = .ok 1 W := fun W => by kernel_rfl
            refine ⟨if c = pl then A else Option.map (fun x => x.add pl) A, c - pl, fun W => ?_, ?_⟩
            · rw [run_slice_lh W _ _ _ _ Tryz.underlying22 _ _ _ _ (by omega) (by omega) (by omega), hs1]
              simp only [Result.andThen, sliced, hnn, Int.toNat_natCast, Nat.mul_one]
            · have hrest : sz ≤ c - pl ∧ c - pl ≤ maxLen := by omega
              by_cases hca : c = pl
              · have h0 : (l.drop pl).take sz = [] := List.eq_nil_of_length_eq_zero (by rw [hpl]; omega)
                rw [h0]
                exact Lib.hid ⟨Rd.nil_, hrest⟩
              · rw [if_neg hca]
                exact Lib.hid ⟨rd_cut hr pl sz, hrest⟩
          have HPL := Lib.hid hpl
          have KS := Lib.hid (fun W (hW : Below w.heap.size w W) => (by
            have h := (HX.out W hW).2
            have k4 := h 4 pl rfl
            have k5 := h 5 sz rfl
            rw [Nat.zero_add] at k4 k5
            exact ⟨k4, k5⟩ : W.cell? ⟨gx, 4, none⟩ = some (.int .u64 (pl : Int)) ∧ W.cell? ⟨gx, 5, none⟩ = some (.int .u64 (sz : Int))))
          have hb4 : Below w.heap.size w (w3.drewN nq) := HB3q.out
          have hge : w.heap.size ≤ w.heap.size + 2 := by omega
          clear HE HD HK3 hbig hin hpl hr
          go_wp2_with fail
          generalize w3.drewN nq = w5 at *
          clear r0 r1 r2 r3 r4 r5 r6 r7 r8 n0 n1 n2 n3 n4 n5 n6 n7 n8 x0 x1 x2 x3 x4 x5 x6 x7 x8 f0 f1 f2 f3 f4 f5 f6 f7 f8 g4 k4 k5
          have x4 := (nine_cells HX3q.out).2.2.2.2.1
          have g4 := HX3q.out.free 4
          go_region_held_law (fun W => W.cell? ⟨gx, 4, none⟩ = some (.int .u64 (pl : Int)) ∧ W.cell? ⟨gx, 5, none⟩ = some (.int .u64 (sz : Int)))
            ((refine KS.out _ ?_; (repeat' (first | with_reducible assumption | with_reducible refine below_drewN ?_ _ | with_reducible refine Below.drew ?_ | (with_reducible refine Below.setCell ?_ ?_ _)))))
            (fail)
          have hg7 := only_set (only_refl w5 (some (w.heap.size + 2))) 4 (.slice A2 sz c2)
          have hZ7 : Box (w5.setCell ⟨w.heap.size + 2, 4, none⟩ (.slice A2 sz c2)).drew w.heap.size 39 _ := (HZ3q.out.grown hg7 (fun e => by injection e with e; omega)).drew
          have hX7 : Box (w5.setCell ⟨w.heap.size + 2, 4, none⟩ (.slice A2 sz c2)).drew (w.heap.size + 2) 39 #[.string ⟨#[]⟩, .int .i64 (kd : Int), .int .u64 (fl : Int), .int .u64 (ad : Int), .slice A2 sz c2, .int .i64 (lk : Int), .int .i64 (inf : Int), .int .i64 (al : Int), .int .i64 (ec : Int)] := by simpa using (HX3q.out.set 4 (.slice A2 sz c2)).drew
          have hB7 : Below w.heap.size w (w5.setCell ⟨w.heap.size + 2, 4, none⟩ (.slice A2 sz c2)).drew := (HB3q.out.setCell hge _).drew
          have HZ7 := Lib.hid hZ7
          have HB7 := Lib.hid hB7
          obtain ⟨r0, r1, r2, r3, r4, r5, r6, r7, r8⟩ := nine_cells hZ7
          obtain ⟨x0, x1, x2, x3, y4, x5, x6, x7, x8⟩ := nine_cells hX7
          obtain ⟨f0, f1, f2, f3, f4, f5, f6, f7, f8⟩ := nine_free hZ7
          clear hg7 hZ7 hX7 hB7 x4 g4 KS hb4
          generalize (w5.setCell ⟨w.heap.size + 2, 4, none⟩ (.slice A2 sz c2)).drew = w7 at *
          go_wp2_with fail
          refine ret_two Tryz.underlying39 Tryz.results54 (nine_box HZ7.out rfl _ _ _ _ _ _ _ _ _) (by kernel_rfl) (by rfl) rfl ?_
          have hB9 := nine_below HB7.out (Nat.le_refl _) (.string ⟨#[]⟩) (.int .i64 (kd : Int)) (.int .u64 (fl : Int)) (.int .u64 (ad : Int)) (.slice A2 sz c2) (.int .i64 (lk : Int)) (.int .i64 (inf : Int)) (.int .i64 (al : Int)) (.int .i64 (ec : Int))
          exact ⟨⟨⟨[], (kd : Int), fl, ad, (l.drop pl).take sz, (lk : Int), (inf : Int), (al : Int), (ec : Int)⟩, A2, c2⟩, by rw [HF.out.1]; simp only [Lay.val, Lay.cells, Lay.dv, HPL.out]; rfl, fun _ => ⟨HF.out.2.symm, .inl hra.out.1, by rw [HPL.out]; exact hra.out.2.1, hra.out.2.2⟩, hB9⟩

theorem rsection_any {w : World} {B : Nat} {A : Option Addr} {l : List UInt8} (hr : Rd w B A l) (c : Nat) (hlc : l.length ≤ c) (hcm : c ≤ maxLen) (hl : l.length ≤ 140737488355328) {gx cx : Nat} {ns : List Nat} (hx : EntAt w gx 0 ns) (hn : ∀ x ∈ ns, x < two64) :
    Calls Tryz.prog 54 #[.slice A l.length c, .slice (some ⟨gx, 0, none⟩) 10 cx] w (SecIs B l ns w) := by
  match ns, hx.1 with
  | [nm, kd, fl, ad, pl, sz, lk, inf, al, ec], _ =>
    rcases small_ways kd lk inf al ec with ⟨hs, h1, h2, h3, h4, h5⟩ | ⟨hs, hw⟩
    · exact rsection_small hr c hlc hcm hl nm kd fl ad pl sz lk inf al ec hx hn hs h1 h2 h3 h4 h5
    · exact rsection_great c nm kd fl ad pl sz lk inf al ec hx hs hw

end Go.Proofs.YtldmjnbmjfnfeaaGreatDoor

namespace Go.Proofs.YtldmjnbmjfnfeaaGreatDoor
open Go Go.RowKit

/-- What the rounds of the document's Take may turn. -/
def TakeObj : Obj → Prop
  | .cells _ t _ => t = 105 ∨ t = 39 ∨ t = 37
  | _ => False
theorem Only.wide {base : Nat} {bad bad' : Obj → Prop} {a b : World} (h : Only base bad a b) (hs : ∀ o, bad o → bad' o) : Only base bad' a b := ⟨h.1, fun k o hk hn => h.2 k o hk (fun hb => hn (hs o hb))⟩
theorem take_sect {base : Nat} {a b : World} (h : Only base (CellsOf 39) a b) : Only base TakeObj a b := h.wide fun o ho => by
  cases o <;> first | exact Or.inr (Or.inl ho) | exact absurd ho id
theorem take_nums {base : Nat} {a b : World} (h : Only base (CellsOf 37) a b) : Only base TakeObj a b := h.wide fun o ho => by
  cases o <;> first | exact Or.inr (Or.inr ho) | exact absurd ho id
theorem RR.only {B : Nat} {w w' : World} {g : Nat} {v : Value} {l : List UInt8} {a : Nat} {e : Int} {bad : Obj → Prop} (h : RR B w g v l a e) (hb : Only B bad w w') (hC : ∀ cs f, ¬ bad (.cells cs 105 f)) : RR B w' g v l a e :=
  ⟨hb.2 _ _ h.1 (hC _ _), h.2.1.imp fun _ => Exists.imp fun _ k => ⟨k.1, k.2.1, k.2.2.1, k.2.2.2.below hb.1⟩, h.2.2.1, h.2.2.2⟩

/-- Sections' bytes: below a place, or rows of the call's own. -/
def KeepL (w : World) (B : Nat) (L : List Lay) : Prop := ∀ x ∈ L, (Rd w B x.A x.s.data ∨ Own w B x.dv x.s.data) ∧ x.s.data.length ≤ x.c ∧ x.c ≤ maxLen
theorem KeepL.only {w w' : World} {B : Nat} {L : List Lay} {bad : Obj → Prop} (h : KeepL w B L) (hb : Only B bad w w') (hn : ∀ cs f, ¬ bad (.cells cs 5 f)) : KeepL w' B L := fun x hx => by
  obtain ⟨h1, h2⟩ := h x hx
  exact ⟨h1.imp (fun h => h.below hb.1) (fun h => row_only h hb hn), h2⟩
theorem KeepL.rd {w : World} {B : Nat} {L : List Lay} (h : KeepL w B L) (hB : B ≤ w.heap.size) {x : Lay} (hx : x ∈ L) : Rd w w.heap.size x.A x.s.data ∧ x.s.data.length ≤ x.c ∧ x.c ≤ maxLen := by
  obtain ⟨h1, h2⟩ := h x hx
  refine ⟨?_, h2⟩
  rcases h1 with h1 | h1
  · exact h1.more hB
  · obtain ⟨A, c, e, _, _, hr⟩ := own_slice h1
    unfold Lay.dv at e
    injection e with e1 _ _
    rw [e1]
    exact hr

/-- Sections without their names, and where those stand, entry by entry. -/
def secsZ (l : List UInt8) (off k : Nat) : List Sect := (List.range k).map fun i => sectZ l (entN l (off + 64 * i))
def atsZ (l : List UInt8) (off k : Nat) : List Nat := (List.range k).map fun i => nameN (entN l (off + 64 * i))
theorem secsZ_next (l : List UInt8) (off k : Nat) : secsZ l off (k + 1) = secsZ l off k ++ [sectZ l (entN l (off + 64 * k))] := by simp [secsZ, List.range_succ]
theorem atsZ_next (l : List UInt8) (off k : Nat) : atsZ l off (k + 1) = atsZ l off k ++ [nameN (entN l (off + 64 * k))] := by simp [atsZ, List.range_succ]
theorem secsZ_length (l : List UInt8) (off k : Nat) : (secsZ l off k).length = k := by simp [secsZ]
theorem atsZ_length (l : List UInt8) (off k : Nat) : (atsZ l off k).length = k := by simp [atsZ]
theorem secsZ_get (l : List UInt8) (off k i : Nat) (h : i < k) : (secsZ l off k)[i]? = some (sectZ l (entN l (off + 64 * i))) := by simp [secsZ, h]
theorem atsZ_get (l : List UInt8) (off k i : Nat) (h : i < k) : (atsZ l off k)[i]? = some (nameN (entN l (off + 64 * i))) := by simp [atsZ, h]
/-- Whether the first entry is all zero, as far as it was looked at. -/
def firstZ (l : List UInt8) (off k : Nat) : Bool := if k = 0 then true else decide (entN l off = List.replicate 10 0)
theorem all_zero (ns : List Nat) (h : ns.length = 10) : (ns.all fun x => decide (x = 0)) = decide (ns = List.replicate 10 0) := by
  rw [Bool.eq_iff_iff, decide_eq_true_eq, List.all_eq_true]
  simp only [decide_eq_true_eq]
  rw [List.eq_replicate_iff]
  exact ⟨fun hh => ⟨h, hh⟩, fun hh => hh.2⟩

/-- What goes along in the rounds over the entries. -/
structure TkSt (w wr : World) (gc : Nat) (v u ua : Value) (L : List Lay) (l : List UInt8) (off k : Nat) : Prop where
  cur : RR w.heap.size wr gc v l (off + 64 * k) 0
  out : OwnL wr w.heap.size u L
  secs : secsOf L = secsZ l off k
  keep : KeepL wr w.heap.size L
  ats : OwnU wr w.heap.size ua (atsZ l off k)
theorem TkSt.len {w wr : World} {gc : Nat} {v u ua : Value} {L : List Lay} {l : List UInt8} {off k : Nat} (h : TkSt w wr gc v u ua L l off k) : L.length = k := by
  have := congrArg List.length h.secs
  rw [secsZ_length] at this
  simpa using this

/-- The first k of the sections with their names. -/
def nameL (tbl l : List UInt8) (off : Nat) (L : List Lay) (k : Nat) : List Lay := L.mapIdx fun i x => if i < k then ⟨{ x.s with name := (atT tbl (nameN (entN l (off + 64 * i)))).1 }, x.A, x.c⟩ else x
theorem nameL_zero (tbl l : List UInt8) (off : Nat) (L : List Lay) : nameL tbl l off L 0 = L := by
  apply List.ext_getElem?
  intro i
  simp [nameL, List.getElem?_mapIdx]
theorem nameL_length (tbl l : List UInt8) (off : Nat) (L : List Lay) (k : Nat) : (nameL tbl l off L k).length = L.length := by simp [nameL]
theorem nameL_get (tbl l : List UInt8) (off : Nat) (L : List Lay) (k i : Nat) (x : Lay) (h : L[i]? = some x) : (nameL tbl l off L k)[i]? = some (if i < k then ⟨{ x.s with name := (atT tbl (nameN (entN l (off + 64 * i)))).1 }, x.A, x.c⟩ else x) := by
  simp [nameL, List.getElem?_mapIdx, h]
theorem nameL_next (tbl l : List UInt8) (off : Nat) (L : List Lay) (k : Nat) (x : Lay) (h : L[k]? = some x) : nameL tbl l off L (k + 1) = (nameL tbl l off L k).set k ⟨{ x.s with name := (atT tbl (nameN (entN l (off + 64 * k)))).1 }, x.A, x.c⟩ := by
  apply List.ext_getElem?
  intro i
  by_cases hi : i = k
  · subst hi
    have hk := (List.getElem?_eq_some_iff.1 h).1
    rw [nameL_get _ _ _ _ _ _ _ h, if_pos (by omega), List.getElem?_set_self (by rw [nameL_length]; exact hk)]
  · rw [List.getElem?_set_ne (fun e => hi e.symm)]
    rcases hx : L[i]? with _ | y
    · simp [nameL, List.getElem?_mapIdx, hx]
    · rw [nameL_get _ _ _ _ _ _ _ hx, nameL_get _ _ _ _ _ _ _ hx]
      by_cases h1 : i < k
      · rw [if_pos h1, if_pos (by omega)]
      · rw [if_neg h1, if_neg (by omega)]
theorem nameL_keep {w : World} {B : Nat} {L : List Lay} (h : KeepL w B L) (tbl l : List UInt8) (off k : Nat) : KeepL w B (nameL tbl l off L k) := by
  intro x hx
  obtain ⟨i, hi, e⟩ := List.getElem_of_mem hx
  rw [nameL_length] at hi
  have hy : L[i]? = some (L[i]'hi) := List.getElem?_eq_getElem _
  have h1 := nameL_get tbl l off L k i _ hy
  have h2 : (nameL tbl l off L k)[i]? = some x := by rw [← e]; exact List.getElem?_eq_getElem _
  rw [h1] at h2
  injection h2 with h2
  have h3 := h _ (List.getElem_mem hi)
  rw [← h2]
  split <;> exact h3
theorem nameL_all {tbl l : List UInt8} {off n sh : Nat} {L : List Lay} (h : secsOf L = secsZ l off n) (ht : tbl = tblT l off sh) : secsOf (nameL tbl l off L n) = secsT l off n sh := by
  have hl : L.length = n := by
    have := congrArg List.length h
    rw [secsZ_length] at this
    simpa using this
  apply List.ext_getElem?
  intro i
  by_cases hi : i < n
  · have hy : L[i]? = some (L[i]'(by omega)) := List.getElem?_eq_getElem _
    have h1 := get_secsOf hy
    rw [h, secsZ_get _ _ _ _ hi] at h1
    injection h1 with h1
    rw [get_secsOf (nameL_get tbl l off L n i _ hy), if_pos hi, ← h1, ht]
    simp [secsT, hi, sectZ, sectT]
  · rw [List.getElem?_eq_none (by simp [nameL_length, hl]; omega), List.getElem?_eq_none (by simp [secsT]; omega)]

/-- A section's name stored into the row. -/
theorem ownl_name {w : World} {base g c : Nat} {L : List Lay} {i : Nat} {z : Lay} (h : OwnL w base (.slice (some ⟨g, 0, none⟩) L.length c) L) (hz : L[i]? = some z) (t : List UInt8) :
    OwnL (w.setCell ⟨g, i * 9, none⟩ (.string ⟨t.toArray⟩)) base (.slice (some ⟨g, 0, none⟩) L.length c) (L.set i ⟨{ z.s with name := t }, z.A, z.c⟩) ∧ w.grownBy (w.setCell ⟨g, i * 9, none⟩ (.string ⟨t.toArray⟩)) (some g) := by
  obtain ⟨h1, h2⟩ := World.ownsRow.stored h (i * 9) (.string ⟨t.toArray⟩)
  refine ⟨?_, h2⟩
  have hml := (List.getElem?_eq_some_iff.1 hz).1
  have e : cellsL (L.set i ⟨{ z.s with name := t }, z.A, z.c⟩) = (cellsL L).set (i * 9) (.string ⟨t.toArray⟩) := by
    apply List.ext_getElem?
    intro j
    by_cases hj : j < L.length * 9
    · have hq : L[j / 9]? = some (L[j / 9]'(by omega)) := List.getElem?_eq_getElem _
      have hr : (L[j / 9]'(by omega)).cells[j % 9]? = some ((L[j / 9]'(by omega)).cells[j % 9]'(by show j % 9 < 9; omega)) := List.getElem?_eq_getElem _
      have h0 := cellsL_at L _ _ _ _ hq hr
      rw [show j / 9 * 9 + j % 9 = j by omega] at h0
      by_cases hjm : j / 9 = i
      · subst hjm
        have hzz : L[j / 9]'(by omega) = z := by rw [hq] at hz; injection hz
        have hs : (L.set (j / 9) (⟨{ z.s with name := t }, z.A, z.c⟩ : Lay))[j / 9]? = some ⟨{ z.s with name := t }, z.A, z.c⟩ := List.getElem?_set_self (by omega)
        have hyc : (⟨{ z.s with name := t }, z.A, z.c⟩ : Lay).cells[j % 9]? = some ((⟨{ z.s with name := t }, z.A, z.c⟩ : Lay).cells[j % 9]'(by show j % 9 < 9; omega)) := List.getElem?_eq_getElem _
        have h3 := cellsL_at _ _ _ _ _ hs hyc
        rw [show j / 9 * 9 + j % 9 = j by omega] at h3
        have hy : (⟨{ z.s with name := t }, z.A, z.c⟩ : Lay).cells = z.cells.set 0 (.string ⟨t.toArray⟩) := rfl
        rw [h3, ← hyc, hy]
        by_cases h4 : j % 9 = 0
        · rw [h4, List.getElem?_set_self (by show 0 < 9; omega), show j = j / 9 * 9 by omega, show (j / 9 * 9) / 9 = j / 9 by omega, List.getElem?_set_self (by rw [cellsL_length]; omega)]
        · rw [List.getElem?_set_ne (by omega), List.getElem?_set_ne (by omega), h0, ← hr, hzz]
      · have hs : (L.set i (⟨{ z.s with name := t }, z.A, z.c⟩ : Lay))[j / 9]? = some (L[j / 9]'(by omega)) := by rw [List.getElem?_set_ne (by omega)]; exact hq
        have h3 := cellsL_at _ _ _ _ _ hs hr
        rw [show j / 9 * 9 + j % 9 = j by omega] at h3
        rw [h3, List.getElem?_set_ne (by omega), h0]
    · rw [List.getElem?_eq_none (by rw [cellsL_length, List.length_set]; omega), List.getElem?_eq_none (by rw [List.length_set, cellsL_length]; omega)]
  unfold OwnL
  rw [List.length_set, e]
  exact h1

/-- What the document's Take tells. -/
def RSTake (l : List UInt8) (w : World) (r : Ending) (w' : World) : Prop :=
  ∃ (A : Option Addr) (c : Nat) (L : List Lay), r = .returned (.tuple #[secH l, .slice A L.length c, .int .i64 (secE l)]) ∧ secsOf L = secL l ∧ Secs w' w'.heap.size A L ∧ L.length ≤ c ∧ Below w.heap.size w w'
theorem secs_nil (w : World) (B : Nat) : Secs w B none [] := ⟨fun h => absurd h (by simp), fun x hx => by cases hx⟩

end Go.Proofs.YtldmjnbmjfnfeaaGreatDoor

namespace Go.Proofs.YtldmjnbmjfnfeaaGreatDoor
open Go Go.RowKit Go.Maps

/-- What a pool's call leaves as it was: all blocks but its own, its map's, its table's; its table then is the same block, or a new one. -/
def Off (w w' : World) (g mb : Nat) (v v' : Value) : Prop :=
  (∀ k, k < w.heap.size → k ≠ g → k ≠ mb → some k ≠ v.ownBlock → w'.heap[k]? = w.heap[k]?) ∧ (v'.ownBlock = v.ownBlock ∨ ∀ x, v'.ownBlock = some x → w.heap.size ≤ x)

set_option maxRecDepth 10000 in
set_option maxHeartbeats 1600000 in
theorem pput_ap {w : World} {base g mb : Nat} {v : Value} {ls : List (List UInt8)} (h : PoolAt w base g mb v ls) (t : List UInt8) (hr : rightT t = true) (hf : findT ls t = none) :
    Calls Tryz.prog 127 #[.pointer (some ⟨g, 0, none⟩), .string ⟨t.toArray⟩] w fun r w' =>
      r = .returned (.tuple #[.int .u64 (((addT ls t).2.1 : Nat) : Int), .int .i64 (addT ls t).2.2]) ∧ ∃ v', PoolAt w' base g mb v' (addT ls t).1 ∧ Only base PoolObj w w' ∧ Off w w' g mb v v' := by
  have hrs := rightT_spec hr
  have hgb : base ≤ w.heap.size := Nat.le_trans h.2.1 (Nat.le_of_lt h.1.lt)
  have hlen := pool_len h
  have hgood := h.2.2.2.2.2
  have hP := putt_onto h.2.2.2.2.1 hgb t (by have := hgood.2.1; omega)
  have hml : (putsT ls ++ putT t).length = spanT ls + t.length + 1 := by rw [List.length_append, hlen, hrs.2.2]; simp; omega
  have c1 := h.1.cell 1
  simp at c1
  obtain ⟨A, c, hv, _, _, _⟩ := own_slice h.2.2.2.2.1
  by_cases hb : 65536 < spanT ls + t.length + 1
  · rw [addT_big hr hf hb]
    have hd : (65536 : Int) < ((putsT ls ++ putT t).length : Int) := by omega
    have HH := Lib.hid h
    clear hrs hgood hml hlen hr hf hb h hv
    go_enter Tryz.func127, Tryz.ntmps127
    go_wp2_with (go_at_call 137; refine hP.mono ?_; rintro r w1 ⟨v1, rfl, ho⟩; have HO := Lib.hid ho; (obtain ⟨A1, d1, rfl, _, _, _⟩ := own_slice ho.1.1); clear ho; generalize (putsT ls ++ putT t).length = m at *)
    go_ret2
    exact ⟨rfl, v, pool_onto HH.out HO.out, own_turns HH.out.2.2.2.2.1 HO.out.1.2.1 hgb, fun k hk _ _ hv => HO.out.1.2.1.block k hk hv, .inl rfl⟩
  · rw [addT_new hr hf hb]
    have hd : ¬ (65536 : Int) < ((putsT ls ++ putT t).length : Int) := by omega
    have HH := Lib.hid h
    have HT := Lib.hid (show GoodT (ls ++ [t]) from goodT_snoc hgood hr hf hb)
    have HF := Lib.hid hf
    have HLN := Lib.hid hlen
    have HKEY := Lib.hid (key_text t (by unfold maxLen; omega))
    have hCl := fun W => sclone_str t W (by omega)
    have HPT := Lib.hid (show putsT (ls ++ [t]) = putsT ls ++ putT t by rw [putsT_append]; simp [putsT])
    have hn48 : (putsT ls).length ≤ 65536 := by have := hgood.2.1; omega
    subst hv
    clear hrs hgood hml hr hf hb h hlen
    go_enter Tryz.func127, Tryz.ntmps127
    have HST := Lib.hid (fun (W2 : World) (v1 : Value) (hp : PoolAt W2 base g mb (.slice A (putsT ls).length c) ls) (ho : Own W2 base v1 (putsT ls ++ putT t)) => (by
      obtain ⟨p1, p2, p3, ⟨D, p4, p5⟩, p6, p7⟩ := hp
      obtain ⟨W3, hrun, hown, hturn⟩ := p4.store string_law Tryz.underlying197 (by have := goodT_length p7; unfold maxLen; omega) HKEY.out (plainElem_int (H := Unit) (P := Tryz.prog) Tryz.underlying37 (q := .u64) (a := (((putsT ls).length : Nat) : Int)) (WalkArith.wf_u64 (by omega)))
      have hg3 := hturn.grown
      have hb3 : Box W3 g 199 #[.map (some mb), .slice A (putsT ls).length c] := p1.grown hg3 (by have := box_no_map p1 p4; simpa using this)
      have ho3 : Own W3 base v1 (putsT ls ++ putT t) := World.ownsRow.kept (w := W2) ho hg3 (.inr (own_no_map ho p4).symm)
      have hset := only_set (only_refl W3 (some g)) 1 v1
      refine ⟨W3, hrun, hb3.cell 0, hb3.cell 1, hb3.free 1, ⟨by simpa using hb3.set 1 v1, p2, p3, ⟨_, ?_, tells_snoc p5 HF.out⟩, ?_, HT.out⟩, ?_⟩
      · rw [← HLN.out]
        simpa using hown.kept hset (by have := box_no_map p1 p4; simpa using fun e : mb = g => this e.symm)
      · rw [HPT.out]
        exact World.ownsRow.kept (w := W3) ho3 hset (.inr (own_other ho3 hb3 (by decide)))
      · have hm := p4
        obtain ⟨es, cl, hm1, _⟩ := hm
        exact ⟨(Only.row (g := mb) hg3 hm1 trivial p3).trans (Only.row (g := g) hset hb3 (.inr rfl) p2), fun k hk h1 h2 => (hset.block k (Nat.lt_of_lt_of_le hk hg3.size) (by simpa using h1)).trans (hg3.block k hk (by simpa using h2))⟩ : ∃ W3, (Instr.mapUpdate 197 (.map (some mb)) (.string ⟨t.toArray⟩) (.int .u64 (((putsT ls).length : Nat) : Int))).run Tryz.prog W2 = .ok () W3 ∧ W3.cell? ⟨g, 0, none⟩ = some (.map (some mb)) ∧ W3.cell? ⟨g, 1, none⟩ = some (.slice A (putsT ls).length c) ∧ W3.frozen? ⟨g, 1, none⟩ = false ∧
        PoolAt (W3.setCell ⟨g, 1, none⟩ v1) base g mb v1 (ls ++ [t]) ∧ Only base PoolObj W2 (W3.setCell ⟨g, 1, none⟩ v1) ∧ ∀ k, k < W2.heap.size → k ≠ g → k ≠ mb → (W3.setCell ⟨g, 1, none⟩ v1).heap[k]? = W2.heap[k]?))
    go_wp2_with (go_at_call 137; refine hP.mono ?_; rintro r w1 ⟨v1, rfl, ho⟩; have HO := Lib.hid ho; (have c11 := (pool_onto HH.out ho).1.cell 1); (have c10 := (pool_onto HH.out ho).1.cell 0); simp at c10 c11; have HS1 := HST.out; (obtain ⟨A1, d1, rfl, _, _, _⟩ := own_slice ho.1.1); clear ho; generalize (putsT ls ++ putT t).length = m at *)
    go_region_held_law (fun W => W.cell? ⟨g, 0, none⟩ = some (.map (some mb))) (assumption) (first
      | (go_at_call 138; refine (hCl _).mono ?_; rintro r w2 ⟨rfl, hb2⟩; have HB2 := Lib.hid (show Below w1.heap.size w1 w2 from ((Below.refl w1.heap.size w1).drew).trans hb2); (obtain ⟨w3, hrun3, e0, e1, f1, hp3, ho3, hk3⟩ := HS1 w2 _ ((pool_onto HH.out HO.out).below HB2.out) (World.ownsRow.kept (w := w1) HO.out.1.1 (only_below HB2.out none) (Classical.em _))); have HP3 := Lib.hid hp3; have HO3 := Lib.hid ho3; have HK3 := Lib.hid hk3; have c20 := ((pool_onto HH.out HO.out).below HB2.out).1.cell 0; simp at c20 e0; clear hp3 ho3 hk3 hb2))
    go_wp2
    go_ret2
    exact ⟨by rw [← HLN.out]; rfl, _, HP3.out, (own_turns HH.out.2.2.2.2.1 HO.out.1.2.1 hgb).trans ((Only.below HB2.out (Nat.le_trans hgb HO.out.1.2.1.size)).trans HO3.out), fun k hk h1 h2 h3 => ((HK3.out k (Nat.lt_of_lt_of_le hk (Nat.le_trans HO.out.1.2.1.size HB2.out.size)) h1 h2).trans (HB2.out.block k (Nat.lt_of_lt_of_le hk HO.out.1.2.1.size))).trans (HO.out.1.2.1.block k hk h3), HO.out.1.2.2⟩

set_option maxRecDepth 10000 in
set_option maxHeartbeats 1600000 in
theorem add_ap {w : World} {base g mb : Nat} {v : Value} {ls : List (List UInt8)} (h : PoolAt w base g mb v ls) (t : List UInt8) (ht : t.length ≤ 140737488355328) :
    Calls Tryz.prog 102 #[.pointer (some ⟨g, 0, none⟩), .string ⟨t.toArray⟩] w fun r w' =>
      r = .returned (.tuple #[.int .u64 (((addT ls t).2.1 : Nat) : Int), .int .i64 (addT ls t).2.2]) ∧ ∃ v', PoolAt w' base g mb v' (addT ls t).1 ∧ Only base PoolObj w w' ∧ Off w w' g mb v v' := by
  have hM := made_at h
  have hR := fun W => right_any t W ht
  have c0 := h.1.cell 0
  simp at c0
  have HH := Lib.hid h
  by_cases hr : rightT t = true
  · rw [hr] at hR
    obtain ⟨D, hown, _, _, hh, hat⟩ := h.2.2.2.1
    have hkey := key_text t (by have := (rightT_spec hr).1; unfold maxLen; omega)
    have hh1 := hh t
    rcases hf : findT ls t with _ | p
    · have hP := pput_ap h t hr hf
      rw [hf] at hh1
      simp only [Option.isSome_none] at hh1
      clear hat hh h ht hf hr
      generalize addT ls t = q at *
      generalize ByteArray.mk t.toArray = b at *
      go_enter Tryz.func102, Tryz.ntmps102
      go_wp2_with (first
        | (go_at_call 126; refine hM.mono ?_; rintro r w' ⟨rfl, rfl⟩)
        | (go_at_call 115; refine (hR _).mono ?_; rintro r w' ⟨rfl, rfl⟩)
        | (go_at_call 127; refine hP.mono ?_; rintro r w' ⟨rfl, v', hv, ho, hf'⟩)
        | (at_lookup; refine wpList_lookup_own_ok_int _ (by rfl) _ _ 197 (by rfl) 9 37 .u64 string_law Tryz.underlying197 Tryz.underlying37 (zero_u64 _) mb ls.length D (by rfl) hown _ _ (by rfl) hkey ?_; intro c hatc hwc; rw [hh1]; clear hatc hwc))
      go_ret2
      exact ⟨rfl, v', hv, ho, hf'⟩
    · rw [addT_there hr hf]
      have HAT := Lib.hid (hat t)
      rw [hf] at hh1 HAT
      simp only [Option.isSome_some] at hh1
      clear hat hh h ht hf hr
      generalize ByteArray.mk t.toArray = b at *
      go_enter Tryz.func102, Tryz.ntmps102
      go_wp2_with (first
        | (go_at_call 126; refine hM.mono ?_; rintro r w' ⟨rfl, rfl⟩)
        | (go_at_call 115; refine (hR _).mono ?_; rintro r w' ⟨rfl, rfl⟩)
        | (at_lookup; refine wpList_lookup_own_ok_int _ (by rfl) _ _ 197 (by rfl) 9 37 .u64 string_law Tryz.underlying197 Tryz.underlying37 (zero_u64 _) mb ls.length D (by rfl) hown _ _ (by rfl) hkey ?_; intro c hatc hwc; rw [hh1]; have e : c = (p : Int) := (by have := HAT.out; rw [hatc] at this; injection this with this; injection this); subst e; clear hatc hwc))
      go_ret2
      exact ⟨rfl, v, HH.out, Only.refl _ _ _, fun _ _ _ _ _ => rfl, .inl rfl⟩
  · have hr' : rightT t = false := by simpa using hr
    rw [addT_wrong hr']
    rw [hr'] at hR
    clear h ht hr hr'
    generalize ByteArray.mk t.toArray = b at *
    go_enter Tryz.func102, Tryz.ntmps102
    go_wp2_with (first
      | (go_at_call 126; refine hM.mono ?_; rintro r w' ⟨rfl, rfl⟩)
      | (go_at_call 115; refine (hR _).mono ?_; rintro r w' ⟨rfl, rfl⟩))
    go_ret2
    exact ⟨rfl, v, HH.out, Only.refl _ _ _, fun _ _ _ _ _ => rfl, .inl rfl⟩

/-! ### A row of bytes and a pool -/
/-- A row of bytes of the call's own, a pool, apart. -/
structure TabSt (w0 wr : World) (g mb : Nat) (u v : Value) (T : List UInt8) (ls : List (List UInt8)) : Prop where
  row : Own wr w0.heap.size u T
  pool : PoolAt wr w0.heap.size g mb v ls
  ap : ∀ x, u.ownBlock = some x → v.ownBlock ≠ some x
  below : Below w0.heap.size w0 wr
section
variable {w0 wr w' : World} {g mb : Nat} {u v : Value} {T : List UInt8} {ls : List (List UInt8)}
theorem TabSt.later (h : TabSt w0 wr g mb u v T ls) (hb : Below wr.heap.size wr w') : TabSt w0 w' g mb u v T ls :=
  ⟨own_below h.row hb, h.pool.below hb, h.ap, h.below.trans (hb.mono h.below.size)⟩
theorem TabSt.alloc (h : TabSt w0 wr g mb u v T ls) (o : Obj) : TabSt w0 (wr.alloc o) g mb u v T ls := h.later ((Below.refl _ _).alloc (Nat.le_refl _) o)
/-- More bytes laid behind the row. -/
theorem TabSt.laid (h : TabSt w0 wr g mb u v T ls) {u' : Value} {T' : List UInt8} (hL : Laid wr w' w0.heap.size u u' T') : TabSt w0 w' g mb u' v T' ls := by
  obtain ⟨h1, h2, h3⟩ := hL
  obtain ⟨p1, p2, p3, ⟨D, p4, p5⟩, p6, p7⟩ := h.pool
  refine ⟨h1, ⟨p1.grown h2 (own_other h.row p1 (by decide)).symm, p2, p3, ⟨D, p4.kept h2 (own_no_map h.row p4), p5⟩, World.ownsRow.kept (w := wr) p6 h2 ?_, p7⟩, ?_, ?_⟩
  · rcases hv : v.ownBlock with _ | x
    · exact .inl rfl
    · refine .inr fun e => ?_
      exact h.ap x e.symm hv
  · intro x hx hv
    rcases h3 with e | e
    · exact h.ap x (e ▸ hx) hv
    · have := e x hx
      have := (own_ge p6 x hv).2
      omega
  · exact h.below.grown h2 h.below.size (fun x hx => (own_ge h.row x hx).1)
/-- One text more in the pool. -/
theorem TabSt.added (h : TabSt w0 wr g mb u v T ls) {v' : Value} {ls' : List (List UInt8)} (hp : PoolAt w' w0.heap.size g mb v' ls') (ho : Only w0.heap.size PoolObj wr w') (hf : Off wr w' g mb v v') : TabSt w0 w' g mb u v' T ls' := by
  refine ⟨⟨h.row.1, ?_⟩, hp, ?_, h.below.trans ho.1⟩
  · rcases h.row.2 with e | ⟨x, cap, cur, e, hx, hg, r⟩
    · exact .inl e
    · refine .inr ⟨x, cap, cur, e, hx, ?_, r⟩
      have hxl := (own_ge h.row x (by rw [e]; rfl)).2
      obtain ⟨p1, _, _, ⟨D, p4, _⟩, _⟩ := h.pool
      have n1 : x ≠ g := fun e2 => own_other h.row p1 (by decide) (by rw [e, e2]; rfl)
      have n2 : x ≠ mb := fun e2 => own_no_map h.row p4 (by rw [e, e2]; rfl)
      rw [hf.1 x hxl n1 n2 (fun e2 => h.ap x (by rw [e]; rfl) e2.symm)]
      exact hg
  · intro x hx hv
    have hxl := (own_ge h.row x hx).2
    rcases hf.2 with e | e
    · exact h.ap x hx (e ▸ hv)
    · have := e x hv
      omega
theorem box_pool {base H : Nat} {t : TypeId} {cs : Array Value} (hB : Box wr H t cs) (h1 : t ≠ 5) (h2 : t ≠ 199) (ho : Only base PoolObj wr w') : Box w' H t cs :=
  ho.2 _ _ hB (fun hh => hh.elim (fun e => h1 e) (fun e => h2 e))
end

end Go.Proofs.YtldmjnbmjfnfeaaGreatDoor
