/-
  The walks of CursorSums and CursorNobody: whatever the numbers are, the Go text of the statement returns true.
-/
import Derived.Test.YtejicboemkpeoaaGreatDoorPut
import Derived.Laws.IdiomStrings
import Derived.Laws.BytesArg
import Derived.Test.YtejicboemkpeoaaGreatDoorCurN
import Derived.OpenShut
namespace Go.Proofs.YtejicboemkpeoaaGreatDoor
open Go Go.RowKit

theorem size_any (s : Int) (w : World) (hs : -9223372036854775808 ≤ s ∧ s ≤ 9223372036854775807) :
    Calls Tryz.prog 97 #[.int .i64 s] w fun r w' => r = .returned (.int .i64 (clampOf s : Int)) ∧ w = w' := by
  by_cases h0 : s < 0
  · have H := Lib.hid (show ((clampOf s : Nat) : Int) = 0 by unfold clampOf; omega)
    go_enter Tryz.func97, Tryz.ntmps97
    go_wp2
    go_ret
    exact ⟨by rw [H.out]; rfl, rfl⟩
  · by_cases h8 : 8 < s
    · have H := Lib.hid (show ((clampOf s : Nat) : Int) = 8 by unfold clampOf; omega)
      go_enter Tryz.func97, Tryz.ntmps97
      go_wp2
      go_ret
      exact ⟨by rw [H.out]; rfl, rfl⟩
    · have H := Lib.hid (show ((clampOf s : Nat) : Int) = s by unfold clampOf; omega)
      go_enter Tryz.func97, Tryz.ntmps97
      go_wp2
      go_ret
      exact ⟨by rw [H.out]; rfl, rfl⟩

/-- Bytes as a string, wherever they lie. -/
theorem conv_rd {w : World} {B : Nat} {A : Option Addr} {l : List UInt8} (h : Rd w B A l) (c : Nat) : (convert 26 9 (.slice A l.length c)).run Tryz.prog w = .ok (.string ⟨l.toArray⟩) w := by
  rcases A with _ | ad
  · have hl : l = [] := by
      rcases l with _ | ⟨x, t⟩
      · rfl
      · obtain ⟨b, o, e, _⟩ := h (by simp); cases e
    subst hl
    exact run_convert_bytes_nil _ _ _ Tryz.underlying26 Tryz.underlying5 _ _ _ Tryz.underlying9
  · refine run_convert_bytes_back w _ _ _ ad c l Tryz.underlying26 Tryz.underlying5 Tryz.underlying9 fun j hj => ?_
    obtain ⟨b, o, e, _, hc⟩ := h (by omega)
    injection e with e
    subst e
    rw [addr_add]
    exact hc j _ (List.getElem?_eq_getElem hj)

theorem byte_mod (y : Nat) : ((y : Int) % 256) = ((UInt8.ofNat (y % 256)).toNat : Int) := by
  have h : (UInt8.ofNat (y % 256)).toNat = y % 256 := by simp
  rw [h]; omega

set_option maxHeartbeats 400000 in
theorem rput_any (w : World) (x : Nat) (hx : x < two64) (s : Int) (hs : -9223372036854775808 ≤ s ∧ s ≤ 9223372036854775807) :
    Calls Tryz.prog 149 #[.int .u64 (x : Int), .int .i64 s] w fun r w' => ∃ v', r = .returned v' ∧ Own w' w.heap.size v' (leBytes x (clampOf s)) ∧ Below w.heap.size w w' := by
  obtain ⟨i0, hi, hz0, hz1, hz2⟩ := info_parts u8_info
  have hc8 := clampOf_le s
  have hc := fun W => size_any s W hs
  have HO := Lib.hid (Laid.refl (l := []) (World.ownsRow_nil w w.heap.size 5 1))
  unfold two64 at hx
  clear hs
  generalize clampOf s = n at *
  go_enter Tryz.func149, Tryz.ntmps149
  go_wp2_with fail
  go_loopw [0, 5, 6] (fun y u i wr => ∃ k : Nat, k ≤ n ∧ i = .int .i64 k ∧ y = .int .u64 ((x / 256 ^ k : Nat) : Int) ∧ Laid w wr w.heap.size (.slice none 0 0) u (leBytes x k)) (fun _ _ i _ => n - (intOf i).toNat)
  case atStart => exact ⟨0, Nat.zero_le _, rfl, by simp, by simpa [leBytes] using HO.out⟩
  case round =>
    obtain ⟨k, hk, rfl, rfl, hL⟩ := hrel
    have HL := Lib.hid hL
    clear hL HO
    by_cases hlt : k < n
    · have hdiv : x / 256 ^ k ≤ x := Nat.div_le_self _ _
      have hbyte := byte_mod (x / 256 ^ k)
      have HN := Lib.hid (show ((x / 256 ^ k : Nat) : Int) / 256 = ((x / 256 ^ (k + 1) : Nat) : Int) by rw [Nat.pow_succ, ← Nat.div_div_eq_div_mul]; omega)
      have hsum : (leBytes x k).length + [UInt8.ofNat (x / 256 ^ k % 256)].length ≤ 140737488355328 := by simp; omega
      have HR := Lib.hid (rd_one wr _ _ hbyte)
      have hb1 : w.heap.size ≤ (wr.alloc (.cells #[.int .u8 (((x / 256 ^ k : Nat) : Int) % 256)] 5)).heap.size := by
        have := HL.out.2.1.size
        simp; omega
      have hyy : ((x / 256 ^ k : Nat) : Int) ≤ 18446744073709551615 := by omega
      clear hbyte hdiv
      generalize hy : x / 256 ^ k = y at *
      have HY := Lib.hid hy
      clear hy
      go_wp2_with (first | (go_at_call 97; refine (hc _).mono ?_; rintro r w' ⟨rfl, rfl⟩) | (at_builtin; refine wpList_append_bytes (by rfl) (.tmp 13) (.tmp 17) _ (by rfl) w.heap.size i0 Tryz.underlying26 hi hz0 hz1 hz2 u5 (leBytes x k) (by rfl) (HL.out.1.alloc _) (wr.heap.size + 1) (some ⟨wr.heap.size, 0, none⟩) 1 1 [UInt8.ofNat (y % 256)] rfl (by rfl) HR.out hsum hb1 ?_; intro v1 w1 hown1 hg1 hat1))
      have HL1 := Lib.hid (HL.out.trans (Laid.of_append ((Below.refl wr.heap.size wr).alloc (Nat.le_refl _) _) hown1 hg1 hat1))
      clear hown1 hg1 hat1
      go_roundw
      case rel => exact ⟨k + 1, by omega, by go_num, by rw [HN.out], by rw [leBytes_succ, HY.out]; exact HL1.out⟩
      case measure => simp [intOf]; omega
    · have hkn : k = n := by omega
      have HL1 := Lib.hid (show Laid w wr w.heap.size (.slice none 0 0) u5 (leBytes x n) by rw [← hkn]; exact HL.out)
      clear hkn
      go_wp2_with (go_at_call 97; refine (hc _).mono ?_; rintro r w' ⟨rfl, rfl⟩)
      go_ret
      exact ⟨_, rfl, HL1.out.1, below_of_only HL1.out.2.1 (Nat.le_refl _) (by simp [Value.ownBlock])⟩

/-- Bytes of the call's own as a string. -/
theorem conv_own {w : World} {base : Nat} {v : Value} {l : List UInt8} (h : Own w base v l) : (convert 26 9 v).run Tryz.prog w = .ok (.string ⟨l.toArray⟩) w := by
  obtain ⟨A, c, rfl, _, _, hr⟩ := own_slice h
  exact conv_rd hr c

end Go.Proofs.YtejicboemkpeoaaGreatDoor

namespace Go.Proofs.YtejicboemkpeoaaGreatDoor
open Go Go.RowKit

/-- A slice of bytes that came in: nil, or a row of cells in memory (the first 'len' are its bytes, the rest its spare room). -/
def IsRow (k : IntKind) (w : World) (a : Option Addr) (len cap : Nat) (zs : List Int) : Prop :=
  (a = none ∧ len = 0 ∧ cap = 0 ∧ zs = []) ∨
  ∃ x, a = some x ∧ len ≤ cap ∧ cap ≤ maxLen ∧ zs.length = cap ∧ (∀ i, i < zs.length → w.cell? (x.add i) = some (.int k (zs.getD i 0))) ∧ ∀ n ∈ zs, (Lit.int k n).wf = true

theorem nat_of_u64 {a : Int} (h : (Lit.int .u64 a).wf = true) : ∃ n : Nat, a = (n : Int) ∧ n < two64 := by
  have := Go.bounds_u64 h
  refine ⟨a.toNat, by omega, ?_⟩
  unfold two64; omega
theorem i64_of {a : Int} (h : (Lit.int .i64 a).wf = true) : -9223372036854775808 ≤ a ∧ a ≤ 9223372036854775807 := by
  have := Go.bounds_i64 h
  omega

end Go.Proofs.YtejicboemkpeoaaGreatDoor
