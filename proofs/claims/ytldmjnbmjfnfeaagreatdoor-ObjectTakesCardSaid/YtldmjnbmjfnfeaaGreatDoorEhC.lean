/-
  The document's number of some bytes at a place; the table of a header's first bytes as it lies in the package's variable.
-/
import Derived.Test.YtldmjnbmjfnfeaaGreatDoorPutR
namespace Go.Proofs.YtldmjnbmjfnfeaaGreatDoor
open Go Go.RowKit

theorem eleNat_drop (m : List UInt8) (k : Nat) (hk : k < m.length) : leNat (m.drop k) = m[k].toNat + 256 * leNat (m.drop (k + 1)) := by
  rw [List.drop_eq_getElem_cons hk, leNat]

/-- Some bytes of a list, from a place on. -/
def cutT (l : List UInt8) (f n : Nat) : List UInt8 := (l.drop f).take n
theorem cutT_length (l : List UInt8) (f n : Nat) (h : f + n ≤ l.length) : (cutT l f n).length = n := by simp [cutT]; omega
theorem cutT_get (l : List UInt8) (f n k : Nat) (hk : k < n) : (cutT l f n)[k]? = l[f + k]? := by
  unfold cutT
  rw [List.getElem?_take, if_pos hk, List.getElem?_drop]
/-- The number of some bytes at a place. -/
def numT (l : List UInt8) (f n : Nat) : Nat := leNat (cutT l f n)

theorem num_step (X b k n : Nat) (hX : X < 256 ^ (n - (k + 1))) (hb : b < 256) (hk : k < n) (hn : n ≤ 8) : X * 256 + b < 18446744073709551616 := by
  have h : X + 1 ≤ 256 ^ (n - (k + 1)) := hX
  have h2 : 256 ^ (n - (k + 1)) ≤ 256 ^ 7 := Nat.pow_le_pow_right (by decide) (by omega)
  have h3 : (256 : Nat) ^ 7 = 72057594037927936 := rfl
  omega

set_option maxHeartbeats 400000 in
theorem eat_any {w : World} {B : Nat} {A : Option Addr} {l : List UInt8} (hr : Rd w B A l) (c f n : Nat) (hfn : f + n ≤ l.length) (hn : n ≤ 8) (hl : l.length ≤ 140737488355328) :
    Calls Tryz.prog 95 #[.slice A l.length c, .int .i64 (f : Int), .int .i64 (n : Int)] w fun r w' => r = .returned (.int .u64 (numT l f n : Int)) ∧ w = w' := by
  have hm := cutT_length l f n hfn
  have hg := fun k (hk : k < n) => cutT_get l f n k hk
  have HN := Lib.hid (show numT l f n = leNat (cutT l f n) from rfl)
  generalize cutT l f n = m at *
  generalize numT l f n = res at *
  generalize hL : l.length = L at *
  have HL := Lib.hid hL
  have HM := Lib.hid hm
  have HG := Lib.hid hg
  clear hL hm hg
  have hnI : (n : Int) ≤ 8 := by omega
  have s0 : IntKind.i64.wrap ((n : Int) - 1) = (n : Int) - 1 := by rw [IntWalk.i64_in _ (by omega)]
  go_enter Tryz.func95, Tryz.ntmps95
  go_wp2
  go_loop [7, 8] (fun x i => ∃ (j : Nat) (z : Int), j ≤ n ∧ z = (j : Int) - 1 ∧ i = .int .i64 z ∧ x = .int .u64 (leNat (m.drop j) : Int)) (fun _ i => ((intOf i) + 1).toNat)
  case atStart => exact ⟨n, _, Nat.le_refl _, rfl, rfl, by rw [List.drop_eq_nil_of_le (by rw [HM.out]; omega)]; rfl⟩
  case round =>
    obtain ⟨j, z, hj, hz, rfl, rfl⟩ := hrel
    rcases j with _ | k
    · obtain rfl : z = -1 := by omega
      have HR := Lib.hid (show leNat (m.drop 0) = res by rw [List.drop_zero, HN.out])
      clear hz
      generalize leNat (m.drop 0) = y at *
      go_wp2
      go_ret
      exact ⟨by rw [HR.out]; rfl, rfl⟩
    · obtain rfl : z = (k : Int) := by omega
      clear hz
      have hkm : k < m.length := by rw [HM.out]; omega
      obtain ⟨b, o, rfl, hb, hcell⟩ := hr (by rw [HL.out]; omega)
      have hck := hcell (f + k) m[k] (by rw [← HG.out k (by omega)]; exact List.getElem?_eq_getElem hkm)
      have HS := Lib.hid (eleNat_drop m k hkm)
      have hx := leNat_lt (m.drop (k + 1))
      rw [List.length_drop, HM.out] at hx
      have hb256 := m[k].toNat_lt
      have hst := num_step _ _ k n hx (by simpa using hb256) (by omega) hn
      clear hcell hr hx
      generalize leNat (m.drop (k + 1)) = X at *
      generalize m[k].toNat = bb at *
      have t1 : IntKind.u64.wrap ((X : Int) * 256) = (X : Int) * 256 := wraps_u64 _ (by omega) (by omega)
      have t2 : IntKind.u64.wrap ((X : Int) * 256 + (bb : Int)) = (X : Int) * 256 + (bb : Int) := wraps_u64 _ (by omega) (by omega)
      have t3 : IntKind.i64.wrap ((f : Int) + (k : Int)) = (f : Int) + (k : Int) := by rw [IntWalk.i64_in _ (by omega)]
      have t4 : (0 : Int) ≤ (f : Int) + (k : Int) := by omega
      have t5 : ((f : Int) + (k : Int)).toNat = f + k := by omega
      have t6 : f + k < L := by omega
      have HS' := Lib.hid (show (X : Int) * 256 + (bb : Int) = ((leNat (m.drop k) : Nat) : Int) by rw [HS.out]; omega)
      clear HS hb256
      go_wp2
      go_round
      case rel => exact ⟨k, (k : Int) - 1, by omega, rfl, by go_num, by rw [← HS'.out]⟩
      case measure => simp [intOf]

/-- A header's first bytes. -/
def magB : List UInt8 := [127, 69, 76, 70, 2, 1, 1]
/-- The table of them, as it lies in the package's variable. -/
def Mg (w : World) : Prop := ∀ j u, magB[j]? = some u → w.cell? ⟨0, j, none⟩ = some (.int .u8 (u.toNat : Int))

section
variable {w w' : World}
theorem Mg.pos (h : Mg w) : 0 < w.heap.size := World.block_lt_of_cell? w _ (h 0 127 rfl)
theorem Mg.drewN (h : Mg w) (n : Nat) : Mg (w.drewN n) := h
theorem Mg.below {B : Nat} (h : Mg w) (hb : Below B w w') (hB : 0 < B) : Mg w' := fun j u hu => (hb.cell (p := ⟨0, j, none⟩) hB).trans (h j u hu)
theorem Mg.grown {row : Option Nat} (h : Mg w) (hb : w.grownBy w' row) (hr : row ≠ some 0) : Mg w' :=
  fun j u hu => (World.cell?_of_block (hb.block 0 h.pos (fun e => hr e.symm))).trans (h j u hu)
theorem Mg.alloc (h : Mg w) (o : Obj) : Mg (w.alloc o) := h.below ((Below.refl w.heap.size w).alloc (Nat.le_refl _) o) h.pos
end

end Go.Proofs.YtldmjnbmjfnfeaaGreatDoor
