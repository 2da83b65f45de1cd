/-
  The contract of Put: behind bytes of the call's own it lays a number's lowest bytes.
-/
import Derived.Test.YtpmndmbhkfbljaaDoorCurB
import Derived.Test.YtpmndmbhkfbljaaDoorNums
import Derived.Deep.DeepMust
namespace Go.Proofs.YtpmndmbhkfbljaaDoor
open Go Go.RowKit


theorem nextGot_le (l : List UInt8) (a : Nat) (e : Int) (n : Nat) : (nextGot l a e n).length ≤ n := by
  unfold nextGot; split
  · simp; omega
  · simp

set_option maxHeartbeats 400000 in
theorem uint_cur {w : World} {g : Nat} {v : Value} {l : List UInt8} {a : Nat} {e : Int} (h : Cur w g v l a e) (s : Int) (hs : -9223372036854775808 ≤ s ∧ s ≤ 9223372036854775807) (hlen : l.length ≤ 140737488355328) :
    Calls Tryd.prog 50 #[.pointer (some ⟨g, 0, none⟩), .int .i64 s] w fun r w' =>
      r = .returned (.int .u64 (leNat (nextGot l a e (clampOf s)) : Int)) ∧ Cur w' g v l (nextAt l a e (clampOf s)) (nextErr l a e (clampOf s)) ∧ w.grownBy w' (some g) := by
  have hc8 := clampOf_le s
  have hc := fun W => clamp_any s W hs
  have hN := fun W (hW : W = w) => next_any (w := W) (hW ▸ h) (clampOf s) hlen
  clear hs
  generalize clampOf s = n at *
  go_enter Tryd.func50, Tryd.ntmps50
  go_wp2_with (first | (go_at_call 68; refine (hc _).mono ?_; rintro r w' ⟨rfl, rfl⟩) | (go_at_call 67; refine (hN _ rfl).mono ?_; rintro r w' ⟨A, rfl, hR, hC, hG⟩))
  have hm8 : (nextGot l a e n).length ≤ 8 := by have := nextGot_le l a e n; omega
  clear hN hc
  have HC := Lib.hid hC
  have HG := Lib.hid hG
  clear hC hG
  generalize hgot : nextGot l a e n = got at *
  have HGOT := Lib.hid hgot
  clear hgot
  go_loop [5, 14] (fun acc i => ∃ k : Nat, k ≤ got.length ∧ i = .int .i64 k ∧ acc = .int .u64 (leNat (got.take k))) (fun _ i => got.length - (intOf i).toNat)
  case atStart => exact ⟨0, Nat.zero_le _, rfl, rfl⟩
  case round =>
    obtain ⟨k, hk, rfl, rfl⟩ := hrel
    by_cases hlt : k < got.length
    · obtain ⟨b, o, rfl, hb, hcell⟩ := hR (by omega)
      have hck := hcell k _ (List.getElem?_eq_getElem hlt)
      clear hcell hR
      have hst := or_shift k (leNat (got.take k)) got[k].toNat (by omega) (leNat_take_lt _ _) got[k].toNat_lt
      have HS := Lib.hid (show bits BinOp.or IntKind.u64 (leNat (got.take k) : Int) (IntKind.u64.wrap (IntKind.u64.wrap (got[k].toNat : Int) * 2 ^ (8 * k))) = (leNat (got.take (k + 1)) : Int) by rw [hst, leNat_take_succ got k hlt])
      clear hst
      go_wp2
      go_round
      case rel => exact ⟨k + 1, by omega, by go_num, by rw [HS.out]⟩
      case measure => simp [intOf]; omega
    · have hkk : k = got.length := by omega
      have HL := Lib.hid (show leNat (got.take k) = leNat got by rw [hkk, List.take_length])
      clear hkk
      go_wp2
      go_ret
      exact ⟨by rw [HGOT.out, ← HL.out]; rfl, HC.out, HG.out⟩

theorem u8_cur {w : World} {g : Nat} {v : Value} {l : List UInt8} {a : Nat} {e : Int} (h : Cur w g v l a e) (hlen : l.length ≤ 140737488355328) :
    Calls Tryd.prog 71 #[.pointer (some ⟨g, 0, none⟩)] w fun r w' =>
      r = .returned (.int .u64 (leNat (nextGot l a e 1) : Int)) ∧ Cur w' g v l (nextAt l a e 1) (nextErr l a e 1) ∧ w.grownBy w' (some g) := by
  have hU := fun W (hW : W = w) => uint_cur (w := W) (hW ▸ h) 1 (by omega) hlen
  have hc : clampOf 1 = 1 := rfl
  simp only [hc] at hU
  clear hc h hlen
  go_enter Tryd.func71, Tryd.ntmps71
  go_wp2_with (go_at_call 50; refine (hU _ rfl).mono ?_; rintro r w' ⟨rfl, hC, hG⟩)
  go_ret
  exact ⟨rfl, hC, hG⟩

end Go.Proofs.YtpmndmbhkfbljaaDoor

namespace Go.Proofs.YtpmndmbhkfbljaaDoor
open Go Go.RowKit

theorem u8_info : (Tryd.prog.info? 5).map (fun i => (i.zero, i.size, i.bytes)) = some (some (.int .u8 0), 1, 1) := by kernel_rfl

theorem own_new (w : World) : Own (w.alloc (.cells #[] 5)) w.heap.size (.slice (some ⟨w.heap.size, 0, none⟩) 0 0) [] :=
  World.ownsRow_lit w #[] 0 (Nat.le_refl _) (by simp) rfl

/-- bytes.Clone: bytes of its own. -/
theorem clone_any {w : World} {A : Option Addr} {l : List UInt8} {B : Nat} (c : Nat) (hr : Rd w B A l) (hB : B ≤ w.heap.size) (hlen : l.length ≤ 140737488355328) :
    Calls Tryd.prog 22 #[.slice A l.length c] w fun r w' => ∃ v, r = .returned v ∧ Own w' w.heap.size v l ∧ Below w.heap.size w w' := by
  obtain ⟨i0, hi, hz0, hz1, hz2⟩ := info_parts u8_info
  rcases A with _ | ad
  · have hl : l = [] := by
      rcases l with _ | ⟨x, t⟩
      · rfl
      · obtain ⟨b, o, e, _⟩ := hr (by simp); cases e
    subst hl
    have hq := fun W => Lib.run_eql_slice_nil (P := Tryd.prog) W 22 5 none 0 c 0 0 Tryd.underlying22
    go_enter Tryd.func22, Tryd.ntmps22
    go_wp2
    go_ret
    exact ⟨_, rfl, World.ownsRow_nil _ _ _ _, Below.refl _ _⟩
  · have hsum : ([] : List UInt8).length + l.length ≤ 140737488355328 := by simpa using hlen
    generalize hn : l.length = n
    have HN := Lib.hid hn
    clear hn
    have hq := fun W => Lib.run_eql_slice_nil (P := Tryd.prog) W 22 5 (some ad) n c 0 0 Tryd.underlying22
    go_enter Tryd.func22, Tryd.ntmps22
    go_wp2_with (at_builtin; go_must (refine wpList_append_bytes (by rfl) (.tmp 5) (.tmp 6) _ (by rfl) w.heap.size i0 Tryd.underlying22 hi hz0 hz1 hz2 (.slice (some ⟨w.heap.size, 0, none⟩) 0 0) [] (by rfl) (own_new w) B (some ad) n c l HN.out (by rfl) (hr.alloc hB _) hsum (by simp) ?_); intro v1 w1 hown1 hg1 hat1)
    go_ret
    exact ⟨v1, rfl, hown1, ((Below.refl _ _).alloc (Nat.le_refl _) _).grown hg1 (by simp) (by simp [Value.ownBlock])⟩

theorem own_ge {w : World} {base : Nat} {v : Value} {l : List UInt8} (h : Own w base v l) : ∀ k, v.ownBlock = some k → base ≤ k ∧ k < w.heap.size := fun k hk => h.lt k hk
theorem own_zero {w : World} {base : Nat} {v : Value} {l : List UInt8} (h : Own w base v l) : Own w 0 v l :=
  ⟨h.1, h.2.imp id fun ⟨g, cap, cur, a, _, b⟩ => ⟨g, cap, cur, a, Nat.zero_le _, b⟩⟩

/-- A cursor that was made just now. -/
def Made (B : Nat) (w' : World) (g : Nat) (v : Value) (l : List UInt8) (e : Int) : Prop :=
  Cur w' g v l 0 e ∧ B ≤ g ∧ ∀ k, v.ownBlock = some k → B ≤ k

theorem made_new {w w1 : World} {v : Value} {l : List UInt8} (hown : Own w1 w.heap.size v l) (hb : Below w.heap.size w w1) (e : Int) :
    Made w.heap.size (w1.alloc (.cells #[v, .int .i64 0, .int .i64 e, .bool true] 52)) w1.heap.size v l e ∧ Below w.heap.size w (w1.alloc (.cells #[v, .int .i64 0, .int .i64 e, .bool true] 52)) :=
  ⟨⟨⟨Box.new _ _ _, (own_zero hown).alloc _, Nat.zero_le _⟩, hb.size, fun k hk => (own_ge hown k hk).1⟩, hb.alloc hb.size _⟩

theorem new_any {w : World} {A : Option Addr} {l : List UInt8} {B : Nat} (c : Nat) (hr : Rd w B A l) (hB : B ≤ w.heap.size) (hlen : l.length ≤ 140737488355328) :
    Calls Tryd.prog 8 #[.slice A l.length c] w fun r w' => ∃ g v, r = .returned (.pointer (some ⟨g, 0, none⟩)) ∧ Made w.heap.size w' g v l 0 ∧ Below w.heap.size w w' := by
  have hC := fun W (hW : W = w) => clone_any (w := W) c (hW ▸ hr) (hW ▸ hB) hlen
  clear hr hB
  generalize l.length = n at *
  go_enter Tryd.func8, Tryd.ntmps8
  go_wp2_with (go_at_call 22; refine (hC _ rfl).mono ?_; rintro r w' ⟨v, rfl, hown, hbel⟩; have HM := Lib.hid (made_new hown hbel 0); (obtain ⟨A', c', rfl, _, _, _⟩ := own_slice hown); clear hown hbel)
  go_ret
  exact ⟨_, _, rfl, HM.out⟩

/-- 2 to the 64. -/
def two64 : Nat := 18446744073709551616
/-- Sum, and whether it is not too great; whether items lie within others. -/
def sumOf (a b : Nat) : Nat := if a + b < two64 then a + b else 0
def sumOk (a b : Nat) : Bool := decide (a + b < two64)
def withinOf (a n m : Nat) : Bool := sumOk a n && decide (sumOf a n ≤ m)
theorem within_iff (a n m : Nat) (hm : m < two64) : withinOf a n m = decide (a + n ≤ m) := by
  unfold withinOf sumOk sumOf
  by_cases h : a + n < two64
  · simp [h]
  · rw [if_neg h, decide_eq_false h]
    simp; omega
theorem sum_fits (a b : Nat) (h : a + b < two64) : (sumOf a b : Int) = (a : Int) + (b : Int) ∧ sumOk a b = true := by
  unfold sumOf sumOk
  rw [if_pos h]; simp [h]
theorem sum_over (a b : Nat) (h : ¬ a + b < two64) : (sumOf a b : Int) = 0 ∧ sumOk a b = false := by
  unfold sumOf sumOk
  rw [if_neg h]; simp; omega
theorem wrap_fits (a b : Nat) (h : a + b < two64) : IntKind.u64.wrap ((a : Int) + (b : Int)) = (a : Int) + (b : Int) := by
  unfold two64 at h
  rw [IntKind.wrap_u64]; omega
theorem wrap_over (a b : Nat) (ha : a < two64) (hb : b < two64) (h : ¬ a + b < two64) : IntKind.u64.wrap ((a : Int) + (b : Int)) < (a : Int) := by
  unfold two64 at *
  rw [IntKind.wrap_u64]; omega

theorem sum_any (a b : Nat) (w : World) (ha : a < two64) (hb : b < two64) :
    Calls Tryd.prog 88 #[.int .u64 (a : Int), .int .u64 (b : Int)] w fun r w' => r = .returned (.tuple #[.int .u64 (sumOf a b : Int), .bool (sumOk a b)]) ∧ w = w' := by
  by_cases h : a + b < two64
  · have H := Lib.hid (sum_fits a b h)
    have hs : IntKind.u64.wrap ((a : Int) + (b : Int)) = (a : Int) + (b : Int) := wrap_fits a b h
    clear h ha hb
    go_enter Tryd.func88, Tryd.ntmps88
    go_wp2
    go_ret2
    exact ⟨by rw [H.out.1, H.out.2]; rfl, rfl⟩
  · have H := Lib.hid (sum_over a b h)
    obtain ⟨s, hs, h0⟩ : ∃ s : Int, IntKind.u64.wrap ((a : Int) + (b : Int)) = s ∧ s < (a : Int) := ⟨_, rfl, wrap_over a b ha hb h⟩
    clear h ha hb
    go_enter Tryd.func88, Tryd.ntmps88
    go_wp2
    go_ret2
    exact ⟨by rw [H.out.1, H.out.2]; rfl, rfl⟩

theorem within_any (a n m : Nat) (w : World) (ha : a < two64) (hb : n < two64) :
    Calls Tryd.prog 81 #[.int .u64 (a : Int), .int .u64 (n : Int), .int .u64 (m : Int)] w fun r w' => r = .returned (.bool (withinOf a n m)) ∧ w = w' := by
  have hS := sum_any a n w ha hb
  clear ha hb
  have hW : withinOf a n m = (sumOk a n && decide (sumOf a n ≤ m)) := rfl
  have HW := Lib.hid hW
  clear hW
  generalize sumOf a n = s at *
  generalize sumOk a n = k at *
  cases k
  all_goals
    by_cases hd : s ≤ m
    all_goals
      go_enter Tryd.func81, Tryd.ntmps81
      go_wp2_with (go_at_call 88; refine hS.mono ?_; rintro r w' ⟨rfl, rfl⟩)
      go_ret
      exact ⟨by rw [HW.out]; simp [hd], rfl⟩

end Go.Proofs.YtpmndmbhkfbljaaDoor

namespace Go.Proofs.YtpmndmbhkfbljaaDoor
open Go Go.RowKit

theorem bytes_cur {w : World} {g : Nat} {v : Value} {l : List UInt8} {a : Nat} {e : Int} (h : Cur w g v l a e) (n : Nat) (hlen : l.length ≤ 140737488355328) :
    Calls Tryd.prog 52 #[.pointer (some ⟨g, 0, none⟩), .int .u64 (n : Int)] w fun r w' =>
      ∃ u, r = .returned u ∧ Own w' w.heap.size u (nextGot l a e n) ∧ Cur w' g v l (nextAt l a e n) (nextErr l a e n) ∧ w.grownBy w' (some g) := by
  have hN := fun W (hW : W = w) => next_any (w := W) (hW ▸ h) n hlen
  have hgl : (nextGot l a e n).length ≤ 140737488355328 := by
    unfold nextGot; split
    · simp; omega
    · simp
  have hC := fun W A (hr : Rd W W.heap.size A (nextGot l a e n)) => clone_any (w := W) (nextGot l a e n).length hr (Nat.le_refl _) hgl
  clear h hlen hgl
  go_enter Tryd.func52, Tryd.ntmps52
  go_wp2_with (first | (go_at_call 67; refine (hN _ rfl).mono ?_; rintro r w1 ⟨A, rfl, hR, hK, hG⟩; have HK := Lib.hid hK; have HG := Lib.hid hG; clear hK hG hN) | (go_at_call 22; refine (hC _ _ hR).mono ?_; rintro r w2 ⟨u, rfl, hown, hbel⟩))
  go_ret
  exact ⟨u, rfl, ⟨hown.1, hown.2.imp id fun ⟨g', cap, cur, p, hb, q⟩ => ⟨g', cap, cur, p, Nat.le_trans HG.out.size hb, q⟩⟩, HK.out.below hbel, only_then_below HG.out hbel⟩

/-- Where Seek goes, or why not. -/
def seekAt (l : List UInt8) (a : Nat) (e : Int) (n : Nat) : Nat := if e = 0 ∧ n ≤ l.length then n else a
def seekErr (l : List UInt8) (e : Int) (n : Nat) : Int := if e = 0 then (if n ≤ l.length then 0 else 10) else e

theorem seek_cur {w : World} {g : Nat} {v : Value} {l : List UInt8} {a : Nat} {e : Int} (h : Cur w g v l a e) (n : Nat) (hn64 : n < two64) (hlen : l.length ≤ 140737488355328) :
    Calls Tryd.prog 70 #[.pointer (some ⟨g, 0, none⟩), .int .u64 (n : Int)] w fun r w' =>
      r = .returned (.tuple #[]) ∧ Cur w' g v l (seekAt l a e n) (seekErr l e n) ∧ w.grownBy w' (some g) := by
  obtain ⟨A, c, hv, hlc, hcm, hrd⟩ := own_slice h.2.1
  subst hv
  have hE := fun W (hW : W = w) => err_cur (w := W) (hW ▸ h)
  have h0 := h.1.cell 0
  have h1 := h.1.cell 1
  have f1 := h.1.free 1
  simp at h0 h1
  clear hrd hcm hlc
  have hW := within_any n 0 l.length w hn64 (by unfold two64; omega)
  rw [within_iff n 0 l.length (by unfold two64; omega), Nat.add_zero] at hW
  by_cases he : e = 0
  · subst he
    by_cases hn : n ≤ l.length
    · have H := Lib.hid (show Cur (w.setCell ⟨g, 1, none⟩ (.int .i64 (n : Int))) g (.slice A l.length c) l (seekAt l a 0 n) (seekErr l 0 n) by
        unfold seekAt seekErr
        rw [if_pos ⟨rfl, hn⟩, if_pos rfl, if_pos hn]
        exact h.moved n hn)
      have G := Lib.hid (only_set (only_refl w (some g)) 1 (.int .i64 (n : Int)))
      rw [decide_eq_true hn] at hW
      have hnn : (n : Int) ≤ 140737488355328 := by omega
      clear h hn64 hn
      generalize l.length = m at *
      go_enter Tryd.func70, Tryd.ntmps70
      go_wp2_with (first | (go_at_call 12; refine (hE _ rfl).mono ?_; rintro r w2 ⟨rfl, rfl⟩) | (go_at_call 81; refine hW.mono ?_; rintro r w2 ⟨rfl, rfl⟩))
      go_end0
      exact ⟨rfl, H.out, G.out⟩
    · have hF := fail_cur h 10
      rw [decide_eq_false hn] at hW
      have H := Lib.hid (show seekAt l a 0 n = a ∧ seekErr l 0 n = 10 by
        unfold seekAt seekErr
        rw [if_neg (fun x => hn x.2), if_pos rfl, if_neg hn]
        exact ⟨rfl, rfl⟩)
      clear h hn hn64
      generalize l.length = m at *
      go_enter Tryd.func70, Tryd.ntmps70
      go_wp2_with (first | (go_at_call 12; refine (hE _ rfl).mono ?_; rintro r w2 ⟨rfl, rfl⟩) | (go_at_call 81; refine hW.mono ?_; rintro r w2 ⟨rfl, rfl⟩) | (go_at_call 24; refine hF.mono ?_; rintro r w2 ⟨rfl, hC, hG⟩))
      first | go_end0 | (refine bodyPost_ret (results_none rfl _ _ _) rfl ?_)
      exact ⟨rfl, by rw [H.out.1, H.out.2]; simpa [failOf] using hC, hG⟩
  · have H := Lib.hid (show Cur w g (.slice A l.length c) l (seekAt l a e n) (seekErr l e n) by
      unfold seekAt seekErr
      rw [if_neg (fun x => he x.1), if_neg he]
      exact h)
    have hz : (e != 0) = true := by simp [he]
    clear h he hn64 hW
    generalize l.length = m at *
    go_enter Tryd.func70, Tryd.ntmps70
    go_wp2_with (go_at_call 12; refine (hE _ rfl).mono ?_; rintro r w2 ⟨rfl, rfl⟩)
    first | go_end0 | (refine bodyPost_ret (results_none rfl _ _ _) rfl ?_)
    exact ⟨rfl, H.out, only_refl _ _⟩

end Go.Proofs.YtpmndmbhkfbljaaDoor

namespace Go.Proofs.YtpmndmbhkfbljaaDoor
open Go Go.RowKit

theorem only_trans {a b c : World} {r s : Option Nat} (h : a.grownBy b r) (k : b.grownBy c s) (hs : s = r ∨ ∀ x, s = some x → a.heap.size ≤ x) : a.grownBy c r :=
  ⟨k.os.trans h.os, k.tape.trans h.tape, k.output.trans h.output, Nat.le_trans h.size k.size, fun i hi hne => (k.block i (Nat.lt_of_lt_of_le hi h.size) (by
    rintro e
    rcases hs with hs | hs
    · exact hne (e.trans hs)
    · have := hs i e.symm; omega)).trans (h.block i hi hne)⟩

/-- Bytes that were laid behind bytes of the call's own. -/
def Laid (w w' : World) (base : Nat) (v v' : Value) (l' : List UInt8) : Prop :=
  Own w' base v' l' ∧ w.grownBy w' v.ownBlock ∧ (v'.ownBlock = v.ownBlock ∨ ∀ x, v'.ownBlock = some x → w.heap.size ≤ x)

theorem Laid.refl {w : World} {base : Nat} {v : Value} {l : List UInt8} (h : Own w base v l) : Laid w w base v v l := ⟨h, ⟨rfl, rfl, rfl, Nat.le_refl _, fun _ _ _ => rfl⟩, .inl rfl⟩
theorem Laid.trans {w w1 w2 : World} {base : Nat} {v v1 v2 : Value} {l1 l2 : List UInt8} (h : Laid w w1 base v v1 l1) (k : Laid w1 w2 base v1 v2 l2) : Laid w w2 base v v2 l2 := by
  refine ⟨k.1, only_trans h.2.1 k.2.1 h.2.2, ?_⟩
  rcases k.2.2 with e | e
  · rw [e]; exact h.2.2
  · exact .inr fun x hx => Nat.le_trans h.2.1.size (e x hx)
theorem Laid.of_append {w w0 w1 : World} {base : Nat} {v v1 : Value} {l1 : List UInt8} (hb : Below w.heap.size w w0) (h1 : Own w1 base v1 l1) (hg : w0.grownBy w1 v.ownBlock) (ha : v1.ownBlock = v.ownBlock ∨ v1.ownBlock = some w0.heap.size) : Laid w w1 base v v1 l1 := by
  refine ⟨h1, only_trans (only_below hb v.ownBlock) hg (.inl rfl), ?_⟩
  rcases ha with e | e
  · exact .inl e
  · exact .inr fun x hx => by rw [e] at hx; injection hx with hx; have := hb.size; omega

/-- One byte in a block of its own, as 'append' lays it first. -/
theorem rd_one (w : World) (x : Int) (b : UInt8) (h : x = (b.toNat : Int)) : Rd (w.alloc (.cells #[.int .u8 x] 5)) (w.heap.size + 1) (some ⟨w.heap.size, 0, none⟩) [b] := by
  subst h
  exact fun _ => ⟨w.heap.size, 0, rfl, by omega, fun j u hu => by
    have h := (Box.new w 5 #[.int .u8 (b.toNat : Int)]).cell j
    rw [Nat.zero_add, h]
    match j, hu with
    | 0, hu => simp at hu; subst hu; rfl⟩

theorem byte_at (x k : Nat) : ((x : Int) / 2 ^ (8 * k) % 256) = ((UInt8.ofNat (x / 256 ^ k % 256)).toNat : Int) := by
  have h : (UInt8.ofNat (x / 256 ^ k % 256)).toNat = x / 256 ^ k % 256 := by simp
  have e : (256 : Nat) ^ k = 2 ^ (8 * k) := by rw [Nat.pow_mul]
  rw [h, e]
  simp

set_option maxHeartbeats 400000 in
theorem put_any {w : World} {base : Nat} {v : Value} {l : List UInt8} (hown : Own w base v l) (hbase : base ≤ w.heap.size) (x : Nat) (s : Int) (hs : -9223372036854775808 ≤ s ∧ s ≤ 9223372036854775807) (hlen : l.length ≤ 140737488355000) :
    Calls Tryd.prog 76 #[v, .int .u64 (x : Int), .int .i64 s] w fun r w' => ∃ v', r = .returned v' ∧ Laid w w' base v v' (l ++ leBytes x (clampOf s)) := by
  obtain ⟨i0, hi, hz0, hz1, hz2⟩ := info_parts u8_info
  have hc8 := clampOf_le s
  have hc := fun W => clamp_any s W hs
  have HO := Lib.hid (Laid.refl hown)
  clear hs hown
  generalize clampOf s = n at *
  go_enter Tryd.func76, Tryd.ntmps76
  go_wp2_with (go_at_call 68; refine (hc _).mono ?_; rintro r w' ⟨rfl, rfl⟩)
  go_loopw [0, 10] (fun u i wr => ∃ k : Nat, k ≤ n ∧ i = .int .i64 k ∧ Laid w wr base v u (l ++ leBytes x k)) (fun _ i _ => n - (intOf i).toNat)
  case atStart => exact ⟨0, Nat.zero_le _, rfl, by simpa [leBytes] using HO.out⟩
  case round =>
    obtain ⟨k, hk, rfl, hL⟩ := hrel
    have HL := Lib.hid hL
    clear hL HO
    by_cases hlt : k < n
    · have hk8 : (8 * (k : Int)) < 64 := by omega
      have hbyte := byte_at x k
      have hsum : (l ++ leBytes x k).length + [UInt8.ofNat (x / 256 ^ k % 256)].length ≤ 140737488355328 := by simp; omega
      have hb1 : base ≤ (wr.alloc (.cells #[.int .u8 ((x : Int) / 2 ^ (8 * k) % 256)] 5)).heap.size := by
        have := HL.out.2.1.size
        simp; omega
      have HR := Lib.hid (rd_one wr _ _ hbyte)
      clear hbyte
      go_wp2_with (at_builtin; refine wpList_append_bytes (by rfl) (.tmp 13) (.tmp 19) _ (by rfl) base i0 Tryd.underlying22 hi hz0 hz1 hz2 u0 (l ++ leBytes x k) (by rfl) (HL.out.1.alloc _) (wr.heap.size + 1) (some ⟨wr.heap.size, 0, none⟩) 1 1 [UInt8.ofNat (x / 256 ^ k % 256)] rfl (by rfl) HR.out hsum hb1 ?_; intro v1 w1 hown1 hg1 hat1)
      have HL1 := Lib.hid (HL.out.trans (Laid.of_append ((Below.refl wr.heap.size wr).alloc (Nat.le_refl _) _) hown1 hg1 hat1))
      clear hown1 hg1 hat1
      go_roundw
      case rel => exact ⟨k + 1, by omega, by go_num, by rw [leBytes_succ, ← List.append_assoc]; exact HL1.out⟩
      case measure => simp [intOf]; omega
    · have hkn : k = n := by omega
      have HL1 := Lib.hid (show Laid w wr base v u0 (l ++ leBytes x n) by rw [← hkn]; exact HL.out)
      clear hkn
      go_wp2
      go_ret
      exact ⟨_, rfl, HL1.out⟩

end Go.Proofs.YtpmndmbhkfbljaaDoor
