/-
  Package length: the table of sizes as it lies in memory; Off, Put, Wrap behind nothing; the document's Off and Put.
-/
import Derived.Test.YtpmpgfngogdfhaaDoorParts
namespace Go.Proofs.YtpmpgfngogdfhaaDoor
open Go Go.RowKit

/-- The table of sizes, as it lies in the package's variable. -/
def Sz (w : World) : Prop := w.cell? ⟨0, 0, none⟩ = some (.int .i64 4) ∧ w.cell? ⟨0, 1, none⟩ = some (.int .i64 8)

section
variable {w w' : World}
theorem Sz.pos (h : Sz w) : 0 < w.heap.size := World.block_lt_of_cell? w _ h.1
theorem Sz.drewN (h : Sz w) (n : Nat) : Sz (w.drewN n) := h
theorem Sz.below {B : Nat} (h : Sz w) (hb : Below B w w') (hB : 0 < B) : Sz w' := ⟨(hb.cell (p := ⟨0, 0, none⟩) hB).trans h.1, (hb.cell (p := ⟨0, 1, none⟩) hB).trans h.2⟩
theorem Sz.grown {row : Option Nat} (h : Sz w) (hb : w.grownBy w' row) (hr : row ≠ some 0) : Sz w' :=
  ⟨(World.cell?_of_block (hb.block 0 h.pos (fun e => hr e.symm))).trans h.1, (World.cell?_of_block (hb.block 0 h.pos (fun e => hr e.symm))).trans h.2⟩
/-- A cursor's block is not the table's. -/
theorem Sz.cur {g : Nat} {v : Value} {l : List UInt8} {a : Nat} {e : Int} (h : Sz w) (hC : Cur w g v l a e) : some g ≠ some 0 := by
  rintro hg
  injection hg with hg
  subst hg
  obtain ⟨A, c, rfl, _⟩ := own_slice hC.2.1
  have h0 := hC.1.cell 0
  rw [h.1] at h0
  simp at h0
/-- A row's block from above the table on is not the table's. -/
theorem Sz.row {base : Nat} {v : Value} {l : List UInt8} (hown : Own w base v l) (hb : 0 < base) : v.ownBlock ≠ some 0 := fun e => by have := (own_ge hown _ e).1; omega
end

/-- How many bytes an offset has. -/
def lenO (wide : Bool) : Int := if wide then 8 else 4
/-- A length as bytes, and why it has none. -/
def lenB (n : Nat) (wide : Bool) : List UInt8 := if wide then leBytes 4294967295 4 ++ leBytes n 8 else if n < 4294967280 then leBytes n 4 else []
def lenE (n : Nat) (wide : Bool) : Int := if wide then 0 else if n < 4294967280 then 0 else 13
theorem lenB_le (n : Nat) (wide : Bool) : (lenB n wide).length ≤ 12 := by
  unfold lenB
  cases wide
  · by_cases h : n < 4294967280 <;> simp [h]
  · simp

theorem off_len (wide : Bool) {w : World} (hs : Sz w) :
    Calls Tryd.prog 53 #[.bool wide] w fun r w' => r = .returned (.int .i64 (lenO wide)) ∧ w = w' := by
  obtain ⟨h0, h1⟩ := hs
  cases wide
  all_goals
    go_enter Tryd.func53, Tryd.ntmps53
    go_wp2
    go_ret
    exact ⟨rfl, rfl⟩

/-- Put of the number that a wide length follows, and of a number in 4 or 8 bytes. -/
theorem put_mark {w : World} {base : Nat} {v : Value} {l : List UInt8} (hown : Own w base v l) (hbase : base ≤ w.heap.size) (hlen : l.length ≤ 140737488355000) :
    Calls Tryd.prog 91 #[v, .int .u64 4294967295, .int .i64 4] w fun r w' => ∃ v', r = .returned v' ∧ Laid w w' base v v' (l ++ leBytes 4294967295 4) :=
  put_any hown hbase 4294967295 4 (by omega) hlen
theorem put_off {w : World} {base : Nat} {v : Value} {l : List UInt8} (hown : Own w base v l) (hbase : base ≤ w.heap.size) (n : Nat) (wide : Bool) (hlen : l.length ≤ 140737488355000) :
    Calls Tryd.prog 91 #[v, .int .u64 (n : Int), .int .i64 (lenO wide)] w fun r w' => ∃ v', r = .returned v' ∧ Laid w w' base v v' (l ++ leBytes n (if wide then 8 else 4)) := by
  have h := put_any hown hbase n (lenO wide) (by unfold lenO; split <;> omega) hlen
  have e : clampOf (lenO wide) = if wide then 8 else 4 := by cases wide <;> rfl
  rwa [e] at h

set_option maxRecDepth 10000 in
theorem put_len {w : World} {base : Nat} {v : Value} {l : List UInt8} (hs : Sz w) (hown : Own w base v l) (hpos : 0 < base) (hbase : base ≤ w.heap.size) (n : Nat) (wide : Bool) (hlen : l.length ≤ 140737488350000) :
    Calls Tryd.prog 104 #[v, .int .u64 (n : Int), .bool wide] w fun r w' => ∃ v', r = .returned (.tuple #[v', .int .i64 (lenE n wide)]) ∧ Laid w w' base v v' (l ++ lenB n wide) := by
  obtain ⟨A, c, hv, _, _, _⟩ := own_slice hown
  have hO := fun W (hS : Sz W) => off_len wide hS
  have h0 := hs.1
  cases wide
  · by_cases hn : n < 4294967280
    · have hP := Lib.hid (put_off hown hbase n false (by omega))
      have hd : decide ((4294967280 : Int) ≤ (n : Int)) = false := by simp; omega
      have HE := Lib.hid (show lenE n false = 0 by simp [lenE, hn])
      have HB := Lib.hid (show lenB n false = leBytes n (if false = true then 8 else 4) by simp [lenB, hn])
      clear hn hown hbase hlen hv
      go_enter Tryd.func104, Tryd.ntmps104
      go_wp2_with (first
        | (go_at_call 53; refine (hO _ hs).mono ?_; rintro r w1 ⟨rfl, rfl⟩)
        | (go_at_call 91; refine (hP.out).mono ?_; rintro r w2 ⟨v2, rfl, hL⟩; have HL := Lib.hid hL; clear hL))
      go_ret2
      exact ⟨_, by rw [HE.out]; rfl, by rw [HB.out]; exact HL.out⟩
    · have hd : decide ((4294967280 : Int) ≤ (n : Int)) = true := by simp; omega
      have HE := Lib.hid (show lenE n false = 13 by simp [lenE, hn])
      have HB := Lib.hid (show lenB n false = [] by simp [lenB, hn])
      have HO := Lib.hid (Laid.refl hown)
      clear hn hown hbase hlen
      subst hv
      go_enter Tryd.func104, Tryd.ntmps104
      go_wp2
      go_ret2
      exact ⟨_, by rw [HE.out]; rfl, by rw [HB.out, List.append_nil]; exact HO.out⟩
  · have hP := Lib.hid (put_mark hown hbase (by omega))
    have hQ := Lib.hid (fun (W : World) (u : Value) (hL : Laid w W base v u (l ++ leBytes 4294967295 4)) => put_off hL.1 (Nat.le_trans hbase hL.2.1.size) n true (by simp; omega))
    have HS := Lib.hid (fun (W : World) (u : Value) (hL : Laid w W base v u (l ++ leBytes 4294967295 4)) => hs.grown hL.2.1 (Sz.row hown hpos))
    have HE := Lib.hid (show lenE n true = 0 by simp [lenE])
    have HB := Lib.hid (show l ++ leBytes 4294967295 4 ++ leBytes n (if true = true then 8 else 4) = l ++ lenB n true by simp [lenB])
    clear hown hbase hlen hv
    go_enter Tryd.func104, Tryd.ntmps104
    go_wp2_with (first
      | (go_at_call 53; refine (hO _ (HS.out _ _ HL.out)).mono ?_; rintro r w1 ⟨rfl, rfl⟩)
      | (go_at_call 91; refine (hP.out).mono ?_; rintro r w2 ⟨v2, rfl, hL⟩; have HL := Lib.hid hL; clear hL hP)
      | (go_at_call 91; refine (hQ.out _ _ HL.out).mono ?_; rintro r w3 ⟨v3, rfl, hK⟩; have HK := Lib.hid (HL.out.trans hK); clear hK))
    go_ret2
    exact ⟨_, by rw [HE.out]; rfl, by rw [← HB.out]; exact HK.out⟩

end Go.Proofs.YtpmpgfngogdfhaaDoor
