/-
  The contract of Put: behind bytes of the call's own it lays a number's lowest bytes.
-/
import Derived.Test.YtelmfhpefnemfaaDoorCurB
import Derived.Test.YtelmfhpefnemfaaDoorNums
import Derived.Deep.DeepMust
namespace Go.Proofs.YtelmfhpefnemfaaDoor
open Go Go.RowKit


theorem nextGot_le (l : List UInt8) (a : Nat) (e : Int) (n : Nat) : (nextGot l a e n).length ≤ n := by
  unfold nextGot; split
  · simp; omega
  · simp

set_option maxHeartbeats 400000 in
theorem uint_cur {w : World} {g : Nat} {v : Value} {l : List UInt8} {a : Nat} {e : Int} (h : Cur w g v l a e) (s : Int) (hs : -9223372036854775808 ≤ s ∧ s ≤ 9223372036854775807) (hlen : l.length ≤ 140737488355328) :
    Calls Tryd.prog 82 #[.pointer (some ⟨g, 0, none⟩), .int .i64 s] w fun r w' =>
      r = .returned (.int .u64 (leNat (nextGot l a e (clampOf s)) : Int)) ∧ Cur w' g v l (nextAt l a e (clampOf s)) (nextErr l a e (clampOf s)) ∧ w.grownBy w' (some g) := by
  have hc8 := clampOf_le s
  have hc := fun W => clamp_any s W hs
  have hN := fun W (hW : W = w) => next_any (w := W) (hW ▸ h) (clampOf s) hlen
  clear hs
  generalize clampOf s = n at *
  go_enter Tryd.func82, Tryd.ntmps82
  go_wp2_with (first | (go_at_call 91; refine (hc _).mono ?_; rintro r w' ⟨rfl, rfl⟩) | (go_at_call 102; refine (hN _ rfl).mono ?_; rintro r w' ⟨A, rfl, hR, hC, hG⟩))
  have hm8 : (nextGot l a e n).length ≤ 8 := by have := nextGot_le l a e n; omega
  clear hN hc
  have HC := Lib.hid hC
  have HG := Lib.hid hG
  clear hC hG
  generalize hgot : nextGot l a e n = got at *
  have HGOT := Lib.hid hgot
  clear hgot
  go_loop [5, 14] (fun acc i => ∃ k : Nat, k ≤ got.length ∧ i = .int .i64 k ∧ acc = .int .u64 (leNat (got.take k))) (fun _ i => got.length - (intOf i).toNat)
  case atStart => exact ⟨0, Nat.zero_le _, rfl, rfl⟩
  case round =>
    obtain ⟨k, hk, rfl, rfl⟩ := hrel
    by_cases hlt : k < got.length
    · obtain ⟨b, o, rfl, hb, hcell⟩ := hR (by omega)
      have hck := hcell k _ (List.getElem?_eq_getElem hlt)
      clear hcell hR
      have hst := or_shift k (leNat (got.take k)) got[k].toNat (by omega) (leNat_take_lt _ _) got[k].toNat_lt
      have HS := Lib.hid (show bits BinOp.or IntKind.u64 (leNat (got.take k) : Int) (IntKind.u64.wrap (IntKind.u64.wrap (got[k].toNat : Int) * 2 ^ (8 * k))) = (leNat (got.take (k + 1)) : Int) by rw [hst, leNat_take_succ got k hlt])
      clear hst
      go_wp2
      go_round
      case rel => exact ⟨k + 1, by omega, by go_num, by rw [HS.out]⟩
      case measure => simp [intOf]; omega
    · have hkk : k = got.length := by omega
      have HL := Lib.hid (show leNat (got.take k) = leNat got by rw [hkk, List.take_length])
      clear hkk
      go_wp2
      go_ret
      exact ⟨by rw [HGOT.out, ← HL.out]; rfl, HC.out, HG.out⟩

theorem u8_cur {w : World} {g : Nat} {v : Value} {l : List UInt8} {a : Nat} {e : Int} (h : Cur w g v l a e) (hlen : l.length ≤ 140737488355328) :
    Calls Tryd.prog 84 #[.pointer (some ⟨g, 0, none⟩)] w fun r w' =>
      r = .returned (.int .u64 (leNat (nextGot l a e 1) : Int)) ∧ Cur w' g v l (nextAt l a e 1) (nextErr l a e 1) ∧ w.grownBy w' (some g) := by
  have hU := fun W (hW : W = w) => uint_cur (w := W) (hW ▸ h) 1 (by omega) hlen
  have hc : clampOf 1 = 1 := rfl
  simp only [hc] at hU
  clear hc h hlen
  go_enter Tryd.func84, Tryd.ntmps84
  go_wp2_with (go_at_call 82; refine (hU _ rfl).mono ?_; rintro r w' ⟨rfl, hC, hG⟩)
  go_ret
  exact ⟨rfl, hC, hG⟩

theorem u16_cur {w : World} {g : Nat} {v : Value} {l : List UInt8} {a : Nat} {e : Int} (h : Cur w g v l a e) (hlen : l.length ≤ 140737488355328) :
    Calls Tryd.prog 85 #[.pointer (some ⟨g, 0, none⟩)] w fun r w' =>
      r = .returned (.int .u64 (leNat (nextGot l a e 2) : Int)) ∧ Cur w' g v l (nextAt l a e 2) (nextErr l a e 2) ∧ w.grownBy w' (some g) := by
  have hU := fun W (hW : W = w) => uint_cur (w := W) (hW ▸ h) 2 (by omega) hlen
  have hc : clampOf 2 = 2 := rfl
  simp only [hc] at hU
  clear hc h hlen
  go_enter Tryd.func85, Tryd.ntmps85
  go_wp2_with (go_at_call 82; refine (hU _ rfl).mono ?_; rintro r w' ⟨rfl, hC, hG⟩)
  go_ret
  exact ⟨rfl, hC, hG⟩

theorem u64_cur {w : World} {g : Nat} {v : Value} {l : List UInt8} {a : Nat} {e : Int} (h : Cur w g v l a e) (hlen : l.length ≤ 140737488355328) :
    Calls Tryd.prog 86 #[.pointer (some ⟨g, 0, none⟩)] w fun r w' =>
      r = .returned (.int .u64 (leNat (nextGot l a e 8) : Int)) ∧ Cur w' g v l (nextAt l a e 8) (nextErr l a e 8) ∧ w.grownBy w' (some g) := by
  have hU := fun W (hW : W = w) => uint_cur (w := W) (hW ▸ h) 8 (by omega) hlen
  have hc : clampOf 8 = 8 := rfl
  simp only [hc] at hU
  clear hc h hlen
  go_enter Tryd.func86, Tryd.ntmps86
  go_wp2_with (go_at_call 82; refine (hU _ rfl).mono ?_; rintro r w' ⟨rfl, hC, hG⟩)
  go_ret
  exact ⟨rfl, hC, hG⟩

end Go.Proofs.YtelmfhpefnemfaaDoor

namespace Go.Proofs.YtelmfhpefnemfaaDoor
open Go Go.RowKit

theorem u8_info : (Tryd.prog.info? 5).map (fun i => (i.zero, i.size, i.bytes)) = some (some (.int .u8 0), 1, 1) := by kernel_rfl

theorem own_ge {w : World} {base : Nat} {v : Value} {l : List UInt8} (h : Own w base v l) : ∀ k, v.ownBlock = some k → base ≤ k ∧ k < w.heap.size := fun k hk => h.lt k hk
/-- 2 to the 64. -/
def two64 : Nat := 18446744073709551616
end Go.Proofs.YtelmfhpefnemfaaDoor

namespace Go.Proofs.YtelmfhpefnemfaaDoor
open Go Go.RowKit

theorem only_trans {a b c : World} {r s : Option Nat} (h : a.grownBy b r) (k : b.grownBy c s) (hs : s = r ∨ ∀ x, s = some x → a.heap.size ≤ x) : a.grownBy c r :=
  ⟨k.os.trans h.os, k.tape.trans h.tape, k.output.trans h.output, Nat.le_trans h.size k.size, fun i hi hne => (k.block i (Nat.lt_of_lt_of_le hi h.size) (by
    rintro e
    rcases hs with hs | hs
    · exact hne (e.trans hs)
    · have := hs i e.symm; omega)).trans (h.block i hi hne)⟩

/-- Bytes that were laid behind bytes of the call's own. -/
def Laid (w w' : World) (base : Nat) (v v' : Value) (l' : List UInt8) : Prop :=
  Own w' base v' l' ∧ w.grownBy w' v.ownBlock ∧ (v'.ownBlock = v.ownBlock ∨ ∀ x, v'.ownBlock = some x → w.heap.size ≤ x)

theorem Laid.refl {w : World} {base : Nat} {v : Value} {l : List UInt8} (h : Own w base v l) : Laid w w base v v l := ⟨h, ⟨rfl, rfl, rfl, Nat.le_refl _, fun _ _ _ => rfl⟩, .inl rfl⟩
theorem Laid.trans {w w1 w2 : World} {base : Nat} {v v1 v2 : Value} {l1 l2 : List UInt8} (h : Laid w w1 base v v1 l1) (k : Laid w1 w2 base v1 v2 l2) : Laid w w2 base v v2 l2 := by
  refine ⟨k.1, only_trans h.2.1 k.2.1 h.2.2, ?_⟩
  rcases k.2.2 with e | e
  · rw [e]; exact h.2.2
  · exact .inr fun x hx => Nat.le_trans h.2.1.size (e x hx)
theorem Laid.of_append {w w0 w1 : World} {base : Nat} {v v1 : Value} {l1 : List UInt8} (hb : Below w.heap.size w w0) (h1 : Own w1 base v1 l1) (hg : w0.grownBy w1 v.ownBlock) (ha : v1.ownBlock = v.ownBlock ∨ v1.ownBlock = some w0.heap.size) : Laid w w1 base v v1 l1 := by
  refine ⟨h1, only_trans (only_below hb v.ownBlock) hg (.inl rfl), ?_⟩
  rcases ha with e | e
  · exact .inl e
  · exact .inr fun x hx => by rw [e] at hx; injection hx with hx; have := hb.size; omega

/-- One byte in a block of its own, as 'append' lays it first. -/
theorem rd_one (w : World) (x : Int) (b : UInt8) (h : x = (b.toNat : Int)) : Rd (w.alloc (.cells #[.int .u8 x] 5)) (w.heap.size + 1) (some ⟨w.heap.size, 0, none⟩) [b] := by
  subst h
  exact fun _ => ⟨w.heap.size, 0, rfl, by omega, fun j u hu => by
    have h := (Box.new w 5 #[.int .u8 (b.toNat : Int)]).cell j
    rw [Nat.zero_add, h]
    match j, hu with
    | 0, hu => simp at hu; subst hu; rfl⟩

end Go.Proofs.YtelmfhpefnemfaaDoor
