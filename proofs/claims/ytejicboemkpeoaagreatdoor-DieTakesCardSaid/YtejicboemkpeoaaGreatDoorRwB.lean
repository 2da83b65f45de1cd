/-
  The document's Kind and Size of forms.
-/
import Derived.Test.YtejicboemkpeoaaGreatDoorCsL
namespace Go.Proofs.YtejicboemkpeoaaGreatDoor
open Go Go.RowKit

/-- A part of bytes, wherever they lie. -/
theorem rd_part {w : World} {B : Nat} {A : Option Addr} {l : List UInt8} (h : Rd w B A l) (f n : Nat) : Rd w B (Option.map (fun x => x.add f) A) ((l.drop f).take n) := by
  intro hl
  have hll : 0 < l.length := by simp at hl; omega
  obtain ⟨b, o, rfl, hb, hc⟩ := h hll
  refine ⟨b, o + f, by simp [addr_add], hb, fun j x hx => ?_⟩
  have hx' : l[f + j]? = some x := by
    rw [List.getElem?_take] at hx
    split at hx
    · rwa [List.getElem?_drop] at hx
    · cases hx
  rw [Nat.add_assoc]
  exact hc _ _ hx'

theorem own_base {w : World} {b b' : Nat} {v : Value} {l : List UInt8} (h : Own w b v l) (hb : b' ≤ b) : Own w b' v l :=
  ⟨h.1, h.2.imp id fun ⟨g, cap, cur, p, q, r⟩ => ⟨g, cap, cur, p, Nat.le_trans hb q, r⟩⟩

end Go.Proofs.YtejicboemkpeoaaGreatDoor

namespace Go.Proofs.YtejicboemkpeoaaGreatDoor
open Go Go.RowKit

/-- The table of sizes, as it lies in the package's variable. -/
def Sz (w : World) : Prop := w.cell? ⟨3, 0, none⟩ = some (.int .i64 4) ∧ w.cell? ⟨3, 1, none⟩ = some (.int .i64 8)

section
variable {w w' : World}
theorem Sz.pos (h : Sz w) : 3 < w.heap.size := World.block_lt_of_cell? w _ h.1
theorem Sz.drewN (h : Sz w) (n : Nat) : Sz (w.drewN n) := h
theorem Sz.below {B : Nat} (h : Sz w) (hb : Below B w w') (hB : 3 < B) : Sz w' := ⟨(hb.cell (p := ⟨3, 0, none⟩) hB).trans h.1, (hb.cell (p := ⟨3, 1, none⟩) hB).trans h.2⟩
theorem Sz.grown {row : Option Nat} (h : Sz w) (hb : w.grownBy w' row) (hr : row ≠ some 3) : Sz w' :=
  ⟨(World.cell?_of_block (hb.block 3 h.pos (fun e => hr e.symm))).trans h.1, (World.cell?_of_block (hb.block 3 h.pos (fun e => hr e.symm))).trans h.2⟩
/-- A cursor's block is not the table's. -/
theorem Sz.cur {g : Nat} {v : Value} {l : List UInt8} {a : Nat} {e : Int} (h : Sz w) (hC : Cur w g v l a e) : some g ≠ some 3 := by
  rintro hg
  injection hg with hg
  subst hg
  obtain ⟨A, c, rfl, _⟩ := own_slice hC.2.1
  have h0 := hC.1.cell 0
  rw [h.1] at h0
  simp at h0
/-- A row's block from above the table on is not the table's. -/
theorem Sz.row {base : Nat} {v : Value} {l : List UInt8} (hown : Own w base v l) (hb : 3 < base) : v.ownBlock ≠ some 3 := fun e => by have := (own_ge hown _ e).1; omega
end

/-- How many bytes an offset has. -/
def lenO (wide : Bool) : Int := if wide then 8 else 4
theorem off_len (wide : Bool) {w : World} (hs : Sz w) :
    Calls Tryz.prog 184 #[.bool wide] w fun r w' => r = .returned (.int .i64 (lenO wide)) ∧ w = w' := by
  obtain ⟨h0, h1⟩ := hs
  cases wide
  all_goals
    go_enter Tryz.func184, Tryz.ntmps184
    go_wp2
    go_ret
    exact ⟨rfl, rfl⟩

theorem roff_len (wide : Bool) (w : World) :
    Calls Tryz.prog 185 #[.bool wide] w fun r w' => r = .returned (.int .i64 (lenO wide)) ∧ w = w' := by
  cases wide
  all_goals
    go_enter Tryz.func185, Tryz.ntmps185
    go_wp2
    go_ret
    exact ⟨rfl, rfl⟩

end Go.Proofs.YtejicboemkpeoaaGreatDoor

namespace Go.Proofs.YtejicboemkpeoaaGreatDoor
open Go Go.RowKit

/-- Each form's kind, and how many bytes its number has (-1: U; -2: an offset's). -/
def formsT : List (Int × Int) := [(0, 0), (1, 8), (0, 0), (9, 2), (9, 4), (2, 2), (2, 4), (2, 8), (5, 0), (9, -1), (9, 1), (2, 1), (4, 1), (3, -1), (6, -2), (2, -1), (12, -2), (11, 1), (11, 2), (11, 4), (11, 8), (11, -1), (0, 0), (14, -2), (10, -1), (4, 0), (8, -1), (15, -1), (0, 0), (0, 0), (9, 0), (7, -2), (13, 8), (3, 0), (16, -1), (17, -1), (0, 0), (8, 1), (8, 2), (8, 3), (8, 4), (15, 1), (15, 2), (15, 3), (15, 4)]
/-- A form's kind, its number's bytes. -/
def kindF (f : Int) : Int := if 0 ≤ f ∧ f < 45 then (formsT.getD f.toNat (0, 0)).1 else 0
def sizF (f : Int) : Int := if 0 ≤ f ∧ f < 45 then (formsT.getD f.toNat (0, 0)).2 else 0
def widF (f : Int) (wide : Bool) : Int := if sizF f = -2 then lenO wide else sizF f
theorem kindF_nat {n : Nat} {p : Int × Int} (h : formsT[n]? = some p) : kindF (n : Int) = p.1 := by
  have hn : n < 45 := (List.getElem?_eq_some_iff.1 h).1
  unfold kindF
  rw [if_pos (by omega), Int.toNat_natCast, List.getD_eq_getElem?_getD, h]
  rfl
theorem sizF_nat {n : Nat} {p : Int × Int} (h : formsT[n]? = some p) : sizF (n : Int) = p.2 := by
  have hn : n < 45 := (List.getElem?_eq_some_iff.1 h).1
  unfold sizF
  rw [if_pos (by omega), Int.toNat_natCast, List.getD_eq_getElem?_getD, h]
  rfl
theorem formsT_at {n : Nat} (h : n < 45) : ∃ p, formsT[n]? = some p := ⟨_, List.getElem?_eq_getElem h⟩
/-- A form that has a kind is a number below 45. -/
theorem kindF_in {f : Int} (h : kindF f ≠ 0) : ∃ n : Nat, f = (n : Int) ∧ n < 45 := by
  unfold kindF at h
  split at h
  · exact ⟨f.toNat, by omega, by omega⟩
  · exact absurd rfl h

/-- The table of forms, as it lies in the package's variable. -/
def Ft (w : World) : Prop := ∀ (n : Nat) (p : Int × Int), formsT[n]? = some p → w.cell? ⟨2, n * 2, none⟩ = some (.int .i64 p.1) ∧ w.cell? ⟨2, n * 2 + 1, none⟩ = some (.int .i64 p.2)
section
variable {w w' : World}
theorem Ft.pos (h : Ft w) : 2 < w.heap.size := World.block_lt_of_cell? w _ (h 0 (0, 0) rfl).1
theorem Ft.drewN (h : Ft w) (n : Nat) : Ft (w.drewN n) := h
theorem Ft.below {B : Nat} (h : Ft w) (hb : Below B w w') (hB : 2 < B) : Ft w' := fun n p hp => ⟨(hb.cell (p := ⟨2, n * 2, none⟩) hB).trans (h n p hp).1, (hb.cell (p := ⟨2, n * 2 + 1, none⟩) hB).trans (h n p hp).2⟩
theorem Ft.up (h : Ft w) (hb : Below w.heap.size w w') : Ft w' := h.below hb h.pos
theorem Ft.grown {row : Option Nat} (h : Ft w) (hb : w.grownBy w' row) (hr : row ≠ some 2) : Ft w' :=
  fun n p hp => ⟨(World.cell?_of_block (hb.block 2 h.pos (fun e => hr e.symm))).trans (h n p hp).1, (World.cell?_of_block (hb.block 2 h.pos (fun e => hr e.symm))).trans (h n p hp).2⟩
end

set_option maxRecDepth 10000 in
theorem kind_any {w : World} (hF : Ft w) (f : Int) : Calls Tryz.prog 166 #[.int .i64 f] w fun r w' => r = .returned (.int .i64 (kindF f)) ∧ w = w' := by
  by_cases h0 : f < 0
  · have d : decide (f < 0) = true := by simpa using h0
    have HK := Lib.hid (show kindF f = 0 by unfold kindF; rw [if_neg (by omega)])
    clear hF h0
    go_enter Tryz.func166, Tryz.ntmps166
    go_wp2
    go_ret
    exact ⟨by rw [HK.out]; rfl, rfl⟩
  have d0 : decide (f < 0) = false := by simpa using h0
  by_cases h4 : 45 ≤ f
  · have d : decide (45 ≤ f) = true := by simpa using h4
    have HK := Lib.hid (show kindF f = 0 by unfold kindF; rw [if_neg (by omega)])
    clear hF h0 h4
    go_enter Tryz.func166, Tryz.ntmps166
    go_wp2
    go_ret
    exact ⟨by rw [HK.out]; rfl, rfl⟩
  obtain ⟨n, rfl⟩ : ∃ n : Nat, f = (n : Int) := ⟨f.toNat, by omega⟩
  obtain ⟨p, hp⟩ := formsT_at (n := n) (by omega)
  have HK := Lib.hid (kindF_nat hp)
  obtain ⟨c0, c1⟩ := hF n p hp
  have hn : n < 45 := by omega
  have d : decide ((45 : Int) ≤ (n : Int)) = false := by simp; omega
  clear hF h0 h4 hp
  go_enter Tryz.func166, Tryz.ntmps166
  go_wp2
  go_ret
  exact ⟨by rw [HK.out]; rfl, rfl⟩

set_option maxRecDepth 10000 in
theorem width_any {w : World} (hF : Ft w) (hS : Sz w) {n : Nat} (hn : n < 45) (wide : Bool) : Calls Tryz.prog 146 #[.int .i64 (n : Int), .bool wide] w fun r w' => r = .returned (.int .i64 (widF (n : Int) wide)) ∧ w = w' := by
  obtain ⟨p, hp⟩ := formsT_at (n := n) hn
  have HK := Lib.hid (show widF (n : Int) wide = if p.2 = -2 then lenO wide else p.2 by unfold widF; rw [sizF_nat hp])
  obtain ⟨c0, c1⟩ := hF n p hp
  obtain ⟨k, s⟩ := p
  have HO := Lib.hid (fun W (hW : w = W) => off_len wide (hW ▸ hS))
  simp only at c0 c1 HK
  clear hF hp hS
  by_cases h2 : s = -2
  · have q : (s == (-2 : Int)) = true := by simpa using h2
    have HE := Lib.hid (show widF (n : Int) wide = lenO wide by rw [HK.out, if_pos h2])
    clear h2 HK
    go_enter Tryz.func146, Tryz.ntmps146
    go_wp2_with (go_at_call 184; refine (HO.out _ rfl).mono ?_; rintro r w1 ⟨rfl, rfl⟩)
    go_ret
    exact ⟨by rw [HE.out]; rfl, rfl⟩
  · have q : (s == (-2 : Int)) = false := by simpa using h2
    have HE := Lib.hid (show widF (n : Int) wide = s by rw [HK.out, if_neg h2])
    clear h2 HK
    go_enter Tryz.func146, Tryz.ntmps146
    go_wp2
    go_ret
    exact ⟨by rw [HE.out]; rfl, rfl⟩

end Go.Proofs.YtejicboemkpeoaaGreatDoor

namespace Go.Proofs.YtejicboemkpeoaaGreatDoor
open Go Go.RowKit

theorem below45 (f : Int) (h : 0 ≤ f ∧ f < 45) : f = 0 ∨ f = 1 ∨ f = 2 ∨ f = 3 ∨ f = 4 ∨ f = 5 ∨ f = 6 ∨ f = 7 ∨ f = 8 ∨ f = 9 ∨ f = 10 ∨ f = 11 ∨ f = 12 ∨ f = 13 ∨ f = 14 ∨ f = 15 ∨ f = 16 ∨ f = 17 ∨ f = 18 ∨ f = 19 ∨ f = 20 ∨ f = 21 ∨ f = 22 ∨ f = 23 ∨ f = 24 ∨ f = 25 ∨ f = 26 ∨ f = 27 ∨ f = 28 ∨ f = 29 ∨ f = 30 ∨ f = 31 ∨ f = 32 ∨ f = 33 ∨ f = 34 ∨ f = 35 ∨ f = 36 ∨ f = 37 ∨ f = 38 ∨ f = 39 ∨ f = 40 ∨ f = 41 ∨ f = 42 ∨ f = 43 ∨ f = 44 := by omega

set_option maxRecDepth 20000 in
set_option maxHeartbeats 3200000 in
theorem rkind_any (w : World) (f : Int) : Calls Tryz.prog 105 #[.int .i64 f] w fun r w' => r = .returned (.int .i64 (kindF f)) ∧ w = w' := by
  by_cases h : 0 ≤ f ∧ f < 45
  · rcases below45 f h with rfl | rfl | rfl | rfl | rfl | rfl | rfl | rfl | rfl | rfl | rfl | rfl | rfl | rfl | rfl | rfl | rfl | rfl | rfl | rfl | rfl | rfl | rfl | rfl | rfl | rfl | rfl | rfl | rfl | rfl | rfl | rfl | rfl | rfl | rfl | rfl | rfl | rfl | rfl | rfl | rfl | rfl | rfl | rfl | rfl
    all_goals
      clear h
      go_enter Tryz.func105, Tryz.ntmps105
      go_wp2
      go_ret
      exact ⟨rfl, rfl⟩
  · have HK := Lib.hid (show kindF f = 0 by unfold kindF; rw [if_neg h])
    have n1 : (f == 1) = false := by simp; omega
    have n3 : (f == 3) = false := by simp; omega
    have n4 : (f == 4) = false := by simp; omega
    have n5 : (f == 5) = false := by simp; omega
    have n6 : (f == 6) = false := by simp; omega
    have n7 : (f == 7) = false := by simp; omega
    have n8 : (f == 8) = false := by simp; omega
    have n9 : (f == 9) = false := by simp; omega
    have n10 : (f == 10) = false := by simp; omega
    have n11 : (f == 11) = false := by simp; omega
    have n12 : (f == 12) = false := by simp; omega
    have n13 : (f == 13) = false := by simp; omega
    have n14 : (f == 14) = false := by simp; omega
    have n15 : (f == 15) = false := by simp; omega
    have n16 : (f == 16) = false := by simp; omega
    have n17 : (f == 17) = false := by simp; omega
    have n18 : (f == 18) = false := by simp; omega
    have n19 : (f == 19) = false := by simp; omega
    have n20 : (f == 20) = false := by simp; omega
    have n21 : (f == 21) = false := by simp; omega
    have n23 : (f == 23) = false := by simp; omega
    have n24 : (f == 24) = false := by simp; omega
    have n25 : (f == 25) = false := by simp; omega
    have n26 : (f == 26) = false := by simp; omega
    have n27 : (f == 27) = false := by simp; omega
    have n30 : (f == 30) = false := by simp; omega
    have n31 : (f == 31) = false := by simp; omega
    have n32 : (f == 32) = false := by simp; omega
    have n33 : (f == 33) = false := by simp; omega
    have n34 : (f == 34) = false := by simp; omega
    have n35 : (f == 35) = false := by simp; omega
    have n37 : (f == 37) = false := by simp; omega
    have n38 : (f == 38) = false := by simp; omega
    have n39 : (f == 39) = false := by simp; omega
    have n40 : (f == 40) = false := by simp; omega
    have n41 : (f == 41) = false := by simp; omega
    have n42 : (f == 42) = false := by simp; omega
    have n43 : (f == 43) = false := by simp; omega
    have n44 : (f == 44) = false := by simp; omega
    clear h
    go_enter Tryz.func105, Tryz.ntmps105
    go_wp2
    go_ret
    exact ⟨by rw [HK.out]; rfl, rfl⟩

/-- How many bytes the document says: none for a number of 7-bit bytes. -/
def rsizF (f : Int) (wide : Bool) : Int := if sizF f = -1 then 0 else widF f wide
set_option maxRecDepth 20000 in
set_option maxHeartbeats 3200000 in
theorem rsize_any (w : World) (f : Int) (wide : Bool) : Calls Tryz.prog 148 #[.int .i64 f, .bool wide] w fun r w' => r = .returned (.int .i64 (rsizF f wide)) ∧ w = w' := by
  have HO := Lib.hid (roff_len wide w)
  by_cases h : 0 ≤ f ∧ f < 45
  · rcases below45 f h with rfl | rfl | rfl | rfl | rfl | rfl | rfl | rfl | rfl | rfl | rfl | rfl | rfl | rfl | rfl | rfl | rfl | rfl | rfl | rfl | rfl | rfl | rfl | rfl | rfl | rfl | rfl | rfl | rfl | rfl | rfl | rfl | rfl | rfl | rfl | rfl | rfl | rfl | rfl | rfl | rfl | rfl | rfl | rfl | rfl
    all_goals
      clear h
      go_enter Tryz.func148, Tryz.ntmps148
      go_wp2_with (go_at_call 185; refine HO.out.mono ?_; rintro r w1 ⟨rfl, rfl⟩)
      go_ret
      exact ⟨rfl, rfl⟩
  · have HK := Lib.hid (show rsizF f wide = 0 by unfold rsizF widF sizF; rw [if_neg h]; rfl)
    have n1 : (f == 1) = false := by simp; omega
    have n3 : (f == 3) = false := by simp; omega
    have n4 : (f == 4) = false := by simp; omega
    have n5 : (f == 5) = false := by simp; omega
    have n6 : (f == 6) = false := by simp; omega
    have n7 : (f == 7) = false := by simp; omega
    have n10 : (f == 10) = false := by simp; omega
    have n11 : (f == 11) = false := by simp; omega
    have n12 : (f == 12) = false := by simp; omega
    have n14 : (f == 14) = false := by simp; omega
    have n16 : (f == 16) = false := by simp; omega
    have n17 : (f == 17) = false := by simp; omega
    have n18 : (f == 18) = false := by simp; omega
    have n19 : (f == 19) = false := by simp; omega
    have n20 : (f == 20) = false := by simp; omega
    have n23 : (f == 23) = false := by simp; omega
    have n31 : (f == 31) = false := by simp; omega
    have n32 : (f == 32) = false := by simp; omega
    have n37 : (f == 37) = false := by simp; omega
    have n38 : (f == 38) = false := by simp; omega
    have n39 : (f == 39) = false := by simp; omega
    have n40 : (f == 40) = false := by simp; omega
    have n41 : (f == 41) = false := by simp; omega
    have n42 : (f == 42) = false := by simp; omega
    have n43 : (f == 43) = false := by simp; omega
    have n44 : (f == 44) = false := by simp; omega
    clear h
    go_enter Tryz.func148, Tryz.ntmps148
    go_wp2
    go_ret
    exact ⟨by rw [HK.out]; rfl, rfl⟩

end Go.Proofs.YtejicboemkpeoaaGreatDoor
