/-
  The bytes of a group's section: the program's (Bytes), the document's.
-/
import Derived.Test.YtbpemehhbeejcaaGpF
import Derived.Test.YtbpemehhbeejcaaParts
import Derived.Test.YtbpemehhbeejcaaEhL
import Derived.Deep.DeepCutAuto
import Derived.Deep.LoopGhost
namespace Go.Proofs.Ytbpemehhbeejcaa
open Go Go.RowKit

/-- A member's place, as a number without a sign. -/
def u64N (m : Int) : Nat := (m % 18446744073709551616).toNat
theorem u64N_wrap (m : Int) : IntKind.u64.wrap m = (u64N m : Int) := by rw [IntKind.wrap_u64]; unfold u64N; omega
/-- The bytes of a group's section. -/
def bytesG (one : Bool) (M : List Int) : List UInt8 := leBytes (if one then 1 else 0) 4 ++ M.flatMap fun m => leBytes (u64N m) 4
theorem bytesG_next {one : Bool} {M : List Int} {k : Nat} {m : Int} (h : M[k]? = some m) : bytesG one (M.take (k + 1)) = bytesG one (M.take k) ++ leBytes (u64N m) 4 := by
  unfold bytesG
  rw [List.take_add_one, h, List.flatMap_append, List.append_assoc]
  simp
theorem bytesG_length (one : Bool) (M : List Int) : (bytesG one M).length = 4 * (M.length + 1) := by
  unfold bytesG
  induction M with
  | nil => simp
  | cons m M ih => simp only [List.flatMap_cons, List.length_append, leBytes_length, List.length_cons] at ih ⊢; omega
def memI (m : Int) : List Value := [.int .i64 m]
theorem memI_one (m : Int) : (memI m).length = 1 := rfl
theorem memI_at {w : World} {B : Nat} {a : Option Addr} {M : List Int} (h : Row 1 memI w B a M) {i : Nat} {m : Int} (hm : M[i]? = some m) : ∃ b o, a = some ⟨b, o, none⟩ ∧ b < B ∧ w.cell? ⟨b, o + i, none⟩ = some (.int .i64 m) := by
  have hl : 0 < M.length := by have := (List.getElem?_eq_some_iff.1 hm).1; omega
  obtain ⟨b, o, e, hlt, hc⟩ := h hl
  have := hc i m hm 0 _ rfl
  rw [Nat.mul_one, Nat.add_zero] at this
  exact ⟨b, o, e, hlt, this⟩

set_option maxRecDepth 10000 in
set_option maxHeartbeats 3200000 in
theorem gbytes_any {w : World} {a : Option Addr} {M : List Int} (h : Row 1 memI w w.heap.size a M) (c : Nat) (p : Int) (one : Bool) (sb : ByteArray) (hl : M.length ≤ 6000) :
    Calls Try.prog 12 #[.agg #[.int .i64 p, .bool one, .string sb, .slice a M.length c]] w fun r w' => ∃ u, r = .returned u ∧ Own w' w.heap.size u (bytesG one M) ∧ Below w.heap.size w w' := by
  generalize hw0 : (w.alloc (.cells #[.int .i64 p, .bool one, .string sb, .slice a M.length c] 45)) = w0 at *
  have hb0 : Below w.heap.size w w0 := hw0 ▸ (Below.refl _ _).alloc (Nat.le_refl _) _
  have hX0 := Box.new w 45 #[.int .i64 p, .bool one, .string sb, .slice a M.length c]
  rw [hw0] at hX0
  have hlt0 : w.heap.size < w0.heap.size := by rw [← hw0]; simp
  have HB0 := Lib.hid hb0
  have HR := Lib.hid (h.below hb0)
  generalize hN : M.length = N at *
  have HN := Lib.hid hN
  have HP := Lib.hid (put_any (w := w0) (l := []) (World.ownsRow_nil w0 w0.heap.size 5 1) (Nat.le_refl _) (if one then 1 else 0) 4 (by omega) (Nat.zero_le _))
  rw [show clampOf 4 = 4 from rfl, List.nil_append] at HP
  have HX := Lib.hid hX0
  have c1 := hX0.cell 1
  have KX := Lib.hid (fun W (hW : Below w0.heap.size w0 W) => (hX0.below hW hlt0).cell 3)
  simp at c1
  clear h hX0 hN
  obtain ⟨o1, ho1⟩ : ∃ o1 : Bool, one = o1 := ⟨_, rfl⟩
  have HO1 := Lib.hid ho1
  clear ho1
  go_enter Try.func12, Try.ntmps12
  cases one
  all_goals
    go_upto_region 1 with fail
    try rw [hw0]
    clear hw0
    go_upto_region 5 with (go_at_call 24; refine HP.out.mono ?_; rintro r w1 ⟨v1, rfl, hL1⟩; have HL1 := Lib.hid hL1; clear hL1)
    have HW1 := Lib.hid (below_laid (l := []) (Below.refl w0.heap.size w0) (World.ownsRow_nil w0 w0.heap.size 5 1) HL1.out)
    have x3 := KX.out _ HW1.out
    simp at x3
    go_wp2_with fail
    clear x3 c1 HP
    go_loopg [4, 14] N (fun gk v i wr => ∃ k : Nat, k ≤ N ∧ gk = N - k ∧ i = .int .i64 k ∧ Hid (Own wr w0.heap.size v (bytesG o1 (M.take k))) ∧ Hid (Below w0.heap.size w0 wr))
    case atStart => exact ⟨0, Nat.zero_le _, rfl, rfl, Lib.hid (by rw [← HO1.out]; simpa [bytesG] using HL1.out.1), HW1⟩
    case round =>
      obtain ⟨k, hk, rfl, rfl, HO, HB⟩ := hrel
      clear HW1 HL1
      have x3 := KX.out _ HB.out
      simp at x3
      by_cases hlt : k < N
      · have HLT := Lib.hid hlt
        obtain ⟨m, hm⟩ : ∃ m, M[k]? = some m := ⟨M[k]'(by rw [HN.out]; exact hlt), List.getElem?_eq_getElem _⟩
        obtain ⟨b, o, rfl, hb, c0⟩ := memI_at (HR.out.below (HB.out.mono hb0.size)) hm
        have HE := Lib.hid (bytesG_next (one := o1) hm)
        have hw := u64N_wrap m
        have hlen := bytesG_length o1 (M.take k)
        have HPk := Lib.hid (put_any HO.out HB.out.size (u64N m) 4 (by omega) (by rw [bytesG_length, List.length_take]; omega))
        rw [show clampOf 4 = 4 from rfl, ← HE.out] at HPk
        clear hm HE
        generalize u64N m = mu at *
        go_wp2_with (go_at_call 24; refine HPk.out.mono ?_; rintro r w2 ⟨v2, rfl, hL2⟩; have HO2 := Lib.hid hL2.1; have HB2 := Lib.hid (below_laid HB.out HO.out hL2); clear hL2)
        go_roundg (N - (k + 1))
        case measure => have := HLT.out; omega
        case rel => exact ⟨k + 1, HLT.out, rfl, by go_num, HO2, HB2⟩
      · have hkN : k = N := by omega
        subst hkN
        have hO := HO.out
        rw [List.take_of_length_le (by rw [HN.out]; omega)] at hO
        have HOO := Lib.hid hO
        clear hO
        go_wp2_with fail
        go_ret
        exact ⟨_, rfl, by have h1 := row_base HOO.out hb0.size; rwa [← HO1.out] at h1, HB0.out.trans (HB.out.mono hb0.size)⟩

end Go.Proofs.Ytbpemehhbeejcaa
