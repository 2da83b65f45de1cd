/-
  The contracts of layer 3's first and At.
-/
import Derived.Test.YtldmjnbmjfnfeaaGreatDoorCsL
import Derived.Test.YtldmjnbmjfnfeaaGreatDoorCsJ
namespace Go.Proofs.YtldmjnbmjfnfeaaGreatDoor
open Go Go.RowKit

theorem rd_cut {w : World} {B : Nat} {A : Option Addr} {l : List UInt8} (h : Rd w B A l) (f n : Nat) : Rd w B (Option.map (fun x => x.add f) A) ((l.drop f).take n) := by
  intro hl
  have hll : 0 < l.length := by simp at hl; omega
  obtain ⟨b, o, rfl, hb, hc⟩ := h hll
  refine ⟨b, o + f, by simp [addr_add], hb, fun j x hx => ?_⟩
  have hx' : l[f + j]? = some x := by
    rw [List.getElem?_take] at hx
    split at hx
    · rwa [List.getElem?_drop] at hx
    · cases hx
  rw [Nat.add_assoc]
  exact hc _ _ hx'

theorem size_u8 (W : World) : (sizeOf (Tryz.prog.elem 22)).run Tryz.prog W = .ok 1 W := by kernel_rfl

set_option maxRecDepth 10000 in
theorem first_any {w : World} {B : Nat} {A : Option Addr} {l : List UInt8} (h : Rd w B A l) (c : Nat) (hlc : l.length ≤ c) (hlen : l.length ≤ 140737488355328) :
    Calls Tryz.prog 123 #[.slice A l.length c] w fun r w' => (∃ A' c', r = .returned (.slice A' (firstT l).length c') ∧ Rd w B A' (firstT l)) ∧ w = w' := by
  have hI := bindex_rd h c
  by_cases hz : tlen l < l.length
  · have hzz : zeroAt l = (tlen l : Int) := if_pos hz
    have hf : firstT l = l.take (tlen l + 1) := by unfold firstT; rw [if_pos hz]
    have hfl : (firstT l).length = tlen l + 1 := by rw [hf]; simp; omega
    have b1 : (0 : Int) ≤ (tlen l : Int) + 1 := by omega
    have b2 : (tlen l : Int) + 1 ≤ (c : Int) := by omega
    obtain ⟨A2, c2, hsl, hra⟩ : ∃ A2 c2, (∀ W : World, (Instr.slice 22 (.slice A l.length c) none (some (.int .i64 ((tlen l : Int) + 1))) none).run Tryz.prog W = .ok (.slice A2 (firstT l).length c2) W) ∧ Hid (Rd w B A2 (firstT l)) := by
      refine ⟨if c = 0 then A else Option.map (fun x => x.add 0) A, c, fun W => ?_, ?_⟩
      · rw [run_slice_h W _ _ _ _ Tryz.underlying22 _ _ b1 b2, size_u8, hfl]
        simp only [Result.andThen, sliced, Nat.zero_mul, Nat.sub_zero, show ((tlen l : Int) + 1).toNat = tlen l + 1 by omega]
      · rw [if_neg (by omega)]
        have := rd_cut h 0 (tlen l + 1)
        rw [List.drop_zero, ← hf] at this
        exact Lib.hid this
    have s1 : IntKind.i64.wrap ((tlen l : Int) + 1) = (tlen l : Int) + 1 := by rw [IntWalk.i64_in _ (by omega)]
    rw [hzz] at hI
    clear h hzz hf hfl hz hlen hlc
    generalize (firstT l).length = m at *
    generalize tlen l = k at *
    generalize l.length = n at *
    go_enter Tryz.func123, Tryz.ntmps123
    go_wp2_with (go_at_call 133; refine hI.mono ?_; rintro r w' ⟨rfl, rfl⟩)
    go_ret
    exact ⟨⟨_, _, rfl, hra.out⟩, rfl⟩
  · have hzz : zeroAt l = -1 := if_neg hz
    have hf : firstT l = l := by unfold firstT; rw [if_neg hz]
    rw [hzz] at hI
    rw [hf]
    have HR := Lib.hid h
    clear h hzz hf hz hlen hlc
    generalize l.length = n at *
    go_enter Tryz.func123, Tryz.ntmps123
    go_wp2_with (go_at_call 133; refine hI.mono ?_; rintro r w' ⟨rfl, rfl⟩)
    go_ret
    exact ⟨⟨_, _, rfl, HR.out⟩, rfl⟩

/-- What At tells. -/
def atT (l : List UInt8) (off : Nat) : List UInt8 × Int := if off < l.length then ((readT (l.drop off)).1, (readT (l.drop off)).2.2) else ([], 10)

set_option maxRecDepth 10000 in
set_option maxHeartbeats 800000 in
theorem at_any {w : World} {B : Nat} {A : Option Addr} {l : List UInt8} (h : Rd w B A l) (hB : B ≤ w.heap.size) (c : Nat) (hlc : l.length ≤ c) (hlen : l.length ≤ 140737488355328) (off : Nat) (hoff : off < two64) :
    Calls Tryz.prog 90 #[.slice A l.length c, .int .u64 (off : Int)] w fun r w' => r = .returned (.tuple #[.string ⟨(atT l off).1.toArray⟩, .int .i64 (atT l off).2]) ∧ Below w.heap.size w w' := by
  have hW := fun W => within_any off 1 l.length W hoff (by decide)
  have hl64 : l.length < two64 := by unfold two64; omega
  have s1 : IntKind.u64.wrap (l.length : Int) = (l.length : Int) := by rw [IntWalk.u64_in _ (by omega)]
  by_cases hlt : off < l.length
  · have hwi : withinOf off 1 l.length = true := by rw [within_iff _ _ _ hl64]; simp; omega
    rw [hwi] at hW
    have ha : atT l off = ((readT (l.drop off)).1, (readT (l.drop off)).2.2) := if_pos hlt
    obtain ⟨r, hr⟩ : ∃ r, r = l.drop off := ⟨_, rfl⟩
    have hrl : r.length = l.length - off := by rw [hr]; simp
    rw [ha, ← hr]
    have b1 : (0 : Int) ≤ (off : Int) := by omega
    have b2 : (off : Int) ≤ (l.length : Int) := by omega
    obtain ⟨A2, c2, hsl, hra⟩ : ∃ A2 c2, (∀ W : World, (Instr.slice 22 (.slice A l.length c) (some (.int .u64 (off : Int))) none none).run Tryz.prog W = .ok (.slice A2 r.length c2) W) ∧ Hid (Rd w B A2 r ∧ r.length ≤ c2) := by
      refine ⟨if c = off then A else Option.map (fun x => x.add off) A, c - off, fun W => ?_, ?_⟩
      · rw [run_slice_l W _ _ _ _ Tryz.underlying22 _ _ b1 b2, size_u8, hrl]
        simp only [Result.andThen, sliced, Nat.mul_one, Int.toNat_natCast]
      · rw [if_neg (by omega)]
        have := rd_cut h off r.length
        rw [← hr, List.take_length] at this
        exact Lib.hid ⟨this, by omega⟩
    have hF := first_any hra.out.1 c2 hra.out.2 (by omega)
    have hN := fun A' c' (hk : Rd w B A' (firstT r)) => new_any (w := w) (B := B) c' hk hB (by have := firstT_le r; omega)
    have hT := Lib.hid (fun W g v (hC : Cur W g v (firstT r) 0 0) => (by
      have h1 := take_cur hC (by have := firstT_le r; omega)
      rw [List.drop_zero, takeT_zero, readT_first] at h1
      exact h1 : Calls Tryz.prog 124 #[.pointer (some ⟨g, 0, none⟩)] W fun x w' => x = .returned (.string ⟨(readT r).1.toArray⟩) ∧ Cur w' g v (firstT r) (0 + (readT r).2.1) (readT r).2.2 ∧ W.grownBy w' (some g)))
    clear h hB hlc hlen hoff hl64 hlt hwi ha hrl hr hra
    generalize (firstT r).length = m at *
    generalize r.length = k at *
    generalize l.length = n at *
    go_enter Tryz.func90, Tryz.ntmps90
    go_wp2_with (first
      | (go_at_call 110; refine (hW _).mono ?_; rintro r' w' ⟨rfl, rfl⟩)
      | (go_at_call 123; refine hF.mono ?_; rintro r' w' ⟨⟨A3, c3, rfl, hk⟩, rfl⟩; have hN3 := hN _ c3 hk; clear hk)
      | (go_at_call 81; refine hN3.mono ?_; rintro r' w1 ⟨g, v, rfl, hM, hb1⟩; have hT1 := hT.out _ _ _ hM.1)
      | (go_at_call 124; refine hT1.mono ?_; rintro r' w2 ⟨rfl, hC2, hG2⟩; have hE2 := err_cur hC2; have HB := Lib.hid (hb1.trans (below_of_only (B := w.heap.size) hG2 hb1.size (fun x hx => by cases hx; exact hM.2.1))); clear hC2 hG2 hM hb1)
      | (go_at_call 119; refine hE2.mono ?_; rintro r' w3 ⟨rfl, rfl⟩))
    go_ret2
    exact ⟨rfl, HB.out⟩
  · have hwi : withinOf off 1 l.length = false := by rw [within_iff _ _ _ hl64]; simp; omega
    rw [hwi] at hW
    have ha : atT l off = ([], 10) := if_neg hlt
    rw [ha]
    clear h hB hlc hlen hoff hl64 hlt hwi ha
    generalize l.length = n at *
    go_enter Tryz.func90, Tryz.ntmps90
    go_wp2_with (go_at_call 110; refine (hW _).mono ?_; rintro r' w' ⟨rfl, rfl⟩)
    go_ret2
    exact ⟨rfl, Below.refl _ _⟩

end Go.Proofs.YtldmjnbmjfnfeaaGreatDoor
