/-
  What a cursor that is nil, or that no call made, answers: one contract a method. It stands as it stood, and tells nothing but why.
-/
import Derived.Test.YtejicboemkpeoaaGreatDoorCurB
import Derived.Test.YtejicboemkpeoaaGreatDoorNums
import Derived.Deep.DeepMust
namespace Go.Proofs.YtejicboemkpeoaaGreatDoor
open Go Go.RowKit


theorem nextGot_le (l : List UInt8) (a : Nat) (e : Int) (n : Nat) : (nextGot l a e n).length ≤ n := by
  unfold nextGot; split
  · simp; omega
  · simp

set_option maxHeartbeats 400000 in
theorem uint_cur {w : World} {g : Nat} {v : Value} {l : List UInt8} {a : Nat} {e : Int} (h : Cur w g v l a e) (s : Int) (hs : -9223372036854775808 ≤ s ∧ s ≤ 9223372036854775807) (hlen : l.length ≤ 140737488355328) :
    Calls Tryz.prog 135 #[.pointer (some ⟨g, 0, none⟩), .int .i64 s] w fun r w' =>
      r = .returned (.int .u64 (leNat (nextGot l a e (clampOf s)) : Int)) ∧ Cur w' g v l (nextAt l a e (clampOf s)) (nextErr l a e (clampOf s)) ∧ w.grownBy w' (some g) := by
  have hc8 := clampOf_le s
  have hc := fun W => clamp_any s W hs
  have hN := fun W (hW : W = w) => next_any (w := W) (hW ▸ h) (clampOf s) hlen
  clear hs
  generalize clampOf s = n at *
  go_enter Tryz.func135, Tryz.ntmps135
  go_wp2_with (first | (go_at_call 173; refine (hc _).mono ?_; rintro r w' ⟨rfl, rfl⟩) | (go_at_call 172; refine (hN _ rfl).mono ?_; rintro r w' ⟨A, rfl, hR, hC, hG⟩))
  have hm8 : (nextGot l a e n).length ≤ 8 := by have := nextGot_le l a e n; omega
  clear hN hc
  have HC := Lib.hid hC
  have HG := Lib.hid hG
  clear hC hG
  generalize hgot : nextGot l a e n = got at *
  have HGOT := Lib.hid hgot
  clear hgot
  go_loop [5, 14] (fun acc i => ∃ k : Nat, k ≤ got.length ∧ i = .int .i64 k ∧ acc = .int .u64 (leNat (got.take k))) (fun _ i => got.length - (intOf i).toNat)
  case atStart => exact ⟨0, Nat.zero_le _, rfl, rfl⟩
  case round =>
    obtain ⟨k, hk, rfl, rfl⟩ := hrel
    by_cases hlt : k < got.length
    · obtain ⟨b, o, rfl, hb, hcell⟩ := hR (by omega)
      have hck := hcell k _ (List.getElem?_eq_getElem hlt)
      clear hcell hR
      have hst := or_shift k (leNat (got.take k)) got[k].toNat (by omega) (leNat_take_lt _ _) got[k].toNat_lt
      have HS := Lib.hid (show bits BinOp.or IntKind.u64 (leNat (got.take k) : Int) (IntKind.u64.wrap (IntKind.u64.wrap (got[k].toNat : Int) * 2 ^ (8 * k))) = (leNat (got.take (k + 1)) : Int) by rw [hst, leNat_take_succ got k hlt])
      clear hst
      go_wp2
      go_round
      case rel => exact ⟨k + 1, by omega, by go_num, by rw [HS.out]⟩
      case measure => simp [intOf]; omega
    · have hkk : k = got.length := by omega
      have HL := Lib.hid (show leNat (got.take k) = leNat got by rw [hkk, List.take_length])
      clear hkk
      go_wp2
      go_ret
      exact ⟨by rw [HGOT.out, ← HL.out]; rfl, HC.out, HG.out⟩

theorem u8_cur {w : World} {g : Nat} {v : Value} {l : List UInt8} {a : Nat} {e : Int} (h : Cur w g v l a e) (hlen : l.length ≤ 140737488355328) :
    Calls Tryz.prog 93 #[.pointer (some ⟨g, 0, none⟩)] w fun r w' =>
      r = .returned (.int .u64 (leNat (nextGot l a e 1) : Int)) ∧ Cur w' g v l (nextAt l a e 1) (nextErr l a e 1) ∧ w.grownBy w' (some g) := by
  have hU := fun W (hW : W = w) => uint_cur (w := W) (hW ▸ h) 1 (by omega) hlen
  have hc : clampOf 1 = 1 := rfl
  simp only [hc] at hU
  clear hc h hlen
  go_enter Tryz.func93, Tryz.ntmps93
  go_wp2_with (go_at_call 135; refine (hU _ rfl).mono ?_; rintro r w' ⟨rfl, hC, hG⟩)
  go_ret
  exact ⟨rfl, hC, hG⟩

end Go.Proofs.YtejicboemkpeoaaGreatDoor

namespace Go.Proofs.YtejicboemkpeoaaGreatDoor
open Go Go.RowKit

theorem u8_info : (Tryz.prog.info? 5).map (fun i => (i.zero, i.size, i.bytes)) = some (some (.int .u8 0), 1, 1) := by kernel_rfl

theorem own_new (w : World) : Own (w.alloc (.cells #[] 5)) w.heap.size (.slice (some ⟨w.heap.size, 0, none⟩) 0 0) [] :=
  World.ownsRow_lit w #[] 0 (Nat.le_refl _) (by simp) rfl

/-- bytes.Clone: bytes of its own. -/
theorem clone_any {w : World} {A : Option Addr} {l : List UInt8} {B : Nat} (c : Nat) (hr : Rd w B A l) (hB : B ≤ w.heap.size) (hlen : l.length ≤ 140737488355328) :
    Calls Tryz.prog 87 #[.slice A l.length c] w fun r w' => ∃ v, r = .returned v ∧ Own w' w.heap.size v l ∧ Below w.heap.size w w' := by
  obtain ⟨i0, hi, hz0, hz1, hz2⟩ := info_parts u8_info
  rcases A with _ | ad
  · have hl : l = [] := by
      rcases l with _ | ⟨x, t⟩
      · rfl
      · obtain ⟨b, o, e, _⟩ := hr (by simp); cases e
    subst hl
    have hq := fun W => Lib.run_eql_slice_nil (P := Tryz.prog) W 26 5 none 0 c 0 0 Tryz.underlying26
    go_enter Tryz.func87, Tryz.ntmps87
    go_wp2
    go_ret
    exact ⟨_, rfl, World.ownsRow_nil _ _ _ _, Below.refl _ _⟩
  · have hsum : ([] : List UInt8).length + l.length ≤ 140737488355328 := by simpa using hlen
    generalize hn : l.length = n
    have HN := Lib.hid hn
    clear hn
    have hq := fun W => Lib.run_eql_slice_nil (P := Tryz.prog) W 26 5 (some ad) n c 0 0 Tryz.underlying26
    go_enter Tryz.func87, Tryz.ntmps87
    go_wp2_with (at_builtin; go_must (refine wpList_append_bytes (by rfl) (.tmp 5) (.tmp 6) _ (by rfl) w.heap.size i0 Tryz.underlying26 hi hz0 hz1 hz2 (.slice (some ⟨w.heap.size, 0, none⟩) 0 0) [] (by rfl) (own_new w) B (some ad) n c l HN.out (by rfl) (hr.alloc hB _) hsum (by simp) ?_); intro v1 w1 hown1 hg1 hat1)
    go_ret
    exact ⟨v1, rfl, hown1, ((Below.refl _ _).alloc (Nat.le_refl _) _).grown hg1 (by simp) (by simp [Value.ownBlock])⟩

theorem own_ge {w : World} {base : Nat} {v : Value} {l : List UInt8} (h : Own w base v l) : ∀ k, v.ownBlock = some k → base ≤ k ∧ k < w.heap.size := fun k hk => h.lt k hk
theorem own_zero {w : World} {base : Nat} {v : Value} {l : List UInt8} (h : Own w base v l) : Own w 0 v l :=
  ⟨h.1, h.2.imp id fun ⟨g, cap, cur, a, _, b⟩ => ⟨g, cap, cur, a, Nat.zero_le _, b⟩⟩

/-- A cursor that was made just now. -/
def Made (B : Nat) (w' : World) (g : Nat) (v : Value) (l : List UInt8) (e : Int) : Prop :=
  Cur w' g v l 0 e ∧ B ≤ g ∧ ∀ k, v.ownBlock = some k → B ≤ k

theorem made_new {w w1 : World} {v : Value} {l : List UInt8} (hown : Own w1 w.heap.size v l) (hb : Below w.heap.size w w1) (e : Int) :
    Made w.heap.size (w1.alloc (.cells #[v, .int .i64 0, .int .i64 e, .bool true] 177)) w1.heap.size v l e ∧ Below w.heap.size w (w1.alloc (.cells #[v, .int .i64 0, .int .i64 e, .bool true] 177)) :=
  ⟨⟨⟨Box.new _ _ _, (own_zero hown).alloc _, Nat.zero_le _⟩, hb.size, fun k hk => (own_ge hown k hk).1⟩, hb.alloc hb.size _⟩

theorem new_any {w : World} {A : Option Addr} {l : List UInt8} {B : Nat} (c : Nat) (hr : Rd w B A l) (hB : B ≤ w.heap.size) (hlen : l.length ≤ 140737488355328) :
    Calls Tryz.prog 50 #[.slice A l.length c] w fun r w' => ∃ g v, r = .returned (.pointer (some ⟨g, 0, none⟩)) ∧ Made w.heap.size w' g v l 0 ∧ Below w.heap.size w w' := by
  have hC := fun W (hW : W = w) => clone_any (w := W) c (hW ▸ hr) (hW ▸ hB) hlen
  clear hr hB
  generalize l.length = n at *
  go_enter Tryz.func50, Tryz.ntmps50
  go_wp2_with (go_at_call 87; refine (hC _ rfl).mono ?_; rintro r w' ⟨v, rfl, hown, hbel⟩; have HM := Lib.hid (made_new hown hbel 0); (obtain ⟨A', c', rfl, _, _, _⟩ := own_slice hown); clear hown hbel)
  go_ret
  exact ⟨_, _, rfl, HM.out⟩

/-- 2 to the 64. -/
def two64 : Nat := 18446744073709551616
/-- Sum, and whether it is not too great; whether items lie within others. -/
def sumOf (a b : Nat) : Nat := if a + b < two64 then a + b else 0
def sumOk (a b : Nat) : Bool := decide (a + b < two64)
def withinOf (a n m : Nat) : Bool := sumOk a n && decide (sumOf a n ≤ m)
theorem within_iff (a n m : Nat) (hm : m < two64) : withinOf a n m = decide (a + n ≤ m) := by
  unfold withinOf sumOk sumOf
  by_cases h : a + n < two64
  · simp [h]
  · rw [if_neg h, decide_eq_false h]
    simp; omega
theorem sum_fits (a b : Nat) (h : a + b < two64) : (sumOf a b : Int) = (a : Int) + (b : Int) ∧ sumOk a b = true := by
  unfold sumOf sumOk
  rw [if_pos h]; simp [h]
theorem sum_over (a b : Nat) (h : ¬ a + b < two64) : (sumOf a b : Int) = 0 ∧ sumOk a b = false := by
  unfold sumOf sumOk
  rw [if_neg h]; simp; omega
theorem wrap_fits (a b : Nat) (h : a + b < two64) : IntKind.u64.wrap ((a : Int) + (b : Int)) = (a : Int) + (b : Int) := by
  unfold two64 at h
  rw [IntKind.wrap_u64]; omega
theorem wrap_over (a b : Nat) (ha : a < two64) (hb : b < two64) (h : ¬ a + b < two64) : IntKind.u64.wrap ((a : Int) + (b : Int)) < (a : Int) := by
  unfold two64 at *
  rw [IntKind.wrap_u64]; omega

theorem sum_any (a b : Nat) (w : World) (ha : a < two64) (hb : b < two64) :
    Calls Tryz.prog 132 #[.int .u64 (a : Int), .int .u64 (b : Int)] w fun r w' => r = .returned (.tuple #[.int .u64 (sumOf a b : Int), .bool (sumOk a b)]) ∧ w = w' := by
  by_cases h : a + b < two64
  · have H := Lib.hid (sum_fits a b h)
    have hs : IntKind.u64.wrap ((a : Int) + (b : Int)) = (a : Int) + (b : Int) := wrap_fits a b h
    clear h ha hb
    go_enter Tryz.func132, Tryz.ntmps132
    go_wp2
    go_ret2
    exact ⟨by rw [H.out.1, H.out.2]; rfl, rfl⟩
  · have H := Lib.hid (sum_over a b h)
    obtain ⟨s, hs, h0⟩ : ∃ s : Int, IntKind.u64.wrap ((a : Int) + (b : Int)) = s ∧ s < (a : Int) := ⟨_, rfl, wrap_over a b ha hb h⟩
    clear h ha hb
    go_enter Tryz.func132, Tryz.ntmps132
    go_wp2
    go_ret2
    exact ⟨by rw [H.out.1, H.out.2]; rfl, rfl⟩

theorem within_any (a n m : Nat) (w : World) (ha : a < two64) (hb : n < two64) :
    Calls Tryz.prog 88 #[.int .u64 (a : Int), .int .u64 (n : Int), .int .u64 (m : Int)] w fun r w' => r = .returned (.bool (withinOf a n m)) ∧ w = w' := by
  have hS := sum_any a n w ha hb
  clear ha hb
  have hW : withinOf a n m = (sumOk a n && decide (sumOf a n ≤ m)) := rfl
  have HW := Lib.hid hW
  clear hW
  generalize sumOf a n = s at *
  generalize sumOk a n = k at *
  cases k
  all_goals
    by_cases hd : s ≤ m
    all_goals
      go_enter Tryz.func88, Tryz.ntmps88
      go_wp2_with (go_at_call 132; refine hS.mono ?_; rintro r w' ⟨rfl, rfl⟩)
      go_ret
      exact ⟨by rw [HW.out]; simp [hd], rfl⟩

end Go.Proofs.YtejicboemkpeoaaGreatDoor

namespace Go.Proofs.YtejicboemkpeoaaGreatDoor
open Go Go.RowKit

theorem bytes_cur {w : World} {g : Nat} {v : Value} {l : List UInt8} {a : Nat} {e : Int} (h : Cur w g v l a e) (n : Nat) (hlen : l.length ≤ 140737488355328) :
    Calls Tryz.prog 201 #[.pointer (some ⟨g, 0, none⟩), .int .u64 (n : Int)] w fun r w' =>
      ∃ u, r = .returned u ∧ Own w' w.heap.size u (nextGot l a e n) ∧ Cur w' g v l (nextAt l a e n) (nextErr l a e n) ∧ w.grownBy w' (some g) := by
  have hN := fun W (hW : W = w) => next_any (w := W) (hW ▸ h) n hlen
  have hgl : (nextGot l a e n).length ≤ 140737488355328 := by
    unfold nextGot; split
    · simp; omega
    · simp
  have hC := fun W A (hr : Rd W W.heap.size A (nextGot l a e n)) => clone_any (w := W) (nextGot l a e n).length hr (Nat.le_refl _) hgl
  clear h hlen hgl
  go_enter Tryz.func201, Tryz.ntmps201
  go_wp2_with (first | (go_at_call 172; refine (hN _ rfl).mono ?_; rintro r w1 ⟨A, rfl, hR, hK, hG⟩; have HK := Lib.hid hK; have HG := Lib.hid hG; clear hK hG hN) | (go_at_call 87; refine (hC _ _ hR).mono ?_; rintro r w2 ⟨u, rfl, hown, hbel⟩))
  go_ret
  exact ⟨u, rfl, ⟨hown.1, hown.2.imp id fun ⟨g', cap, cur, p, hb, q⟩ => ⟨g', cap, cur, p, Nat.le_trans HG.out.size hb, q⟩⟩, HK.out.below hbel, only_then_below HG.out hbel⟩

/-- Where Seek goes, or why not. -/
def seekAt (l : List UInt8) (a : Nat) (e : Int) (n : Nat) : Nat := if e = 0 ∧ n ≤ l.length then n else a
def seekErr (l : List UInt8) (e : Int) (n : Nat) : Int := if e = 0 then (if n ≤ l.length then 0 else 10) else e

theorem seek_cur {w : World} {g : Nat} {v : Value} {l : List UInt8} {a : Nat} {e : Int} (h : Cur w g v l a e) (n : Nat) (hn64 : n < two64) (hlen : l.length ≤ 140737488355328) :
    Calls Tryz.prog 51 #[.pointer (some ⟨g, 0, none⟩), .int .u64 (n : Int)] w fun r w' =>
      r = .returned (.tuple #[]) ∧ Cur w' g v l (seekAt l a e n) (seekErr l e n) ∧ w.grownBy w' (some g) := by
  obtain ⟨A, c, hv, hlc, hcm, hrd⟩ := own_slice h.2.1
  subst hv
  have hE := fun W (hW : W = w) => err_cur (w := W) (hW ▸ h)
  have h0 := h.1.cell 0
  have h1 := h.1.cell 1
  have f1 := h.1.free 1
  simp at h0 h1
  clear hrd hcm hlc
  have hW := within_any n 0 l.length w hn64 (by unfold two64; omega)
  rw [within_iff n 0 l.length (by unfold two64; omega), Nat.add_zero] at hW
  by_cases he : e = 0
  · subst he
    by_cases hn : n ≤ l.length
    · have H := Lib.hid (show Cur (w.setCell ⟨g, 1, none⟩ (.int .i64 (n : Int))) g (.slice A l.length c) l (seekAt l a 0 n) (seekErr l 0 n) by
        unfold seekAt seekErr
        rw [if_pos ⟨rfl, hn⟩, if_pos rfl, if_pos hn]
        exact h.moved n hn)
      have G := Lib.hid (only_set (only_refl w (some g)) 1 (.int .i64 (n : Int)))
      rw [decide_eq_true hn] at hW
      have hnn : (n : Int) ≤ 140737488355328 := by omega
      clear h hn64 hn
      generalize l.length = m at *
      go_enter Tryz.func51, Tryz.ntmps51
      go_wp2_with (first | (go_at_call 56; refine (hE _ rfl).mono ?_; rintro r w2 ⟨rfl, rfl⟩) | (go_at_call 88; refine hW.mono ?_; rintro r w2 ⟨rfl, rfl⟩))
      go_end0
      exact ⟨rfl, H.out, G.out⟩
    · have hF := fail_cur h 10
      rw [decide_eq_false hn] at hW
      have H := Lib.hid (show seekAt l a 0 n = a ∧ seekErr l 0 n = 10 by
        unfold seekAt seekErr
        rw [if_neg (fun x => hn x.2), if_pos rfl, if_neg hn]
        exact ⟨rfl, rfl⟩)
      clear h hn hn64
      generalize l.length = m at *
      go_enter Tryz.func51, Tryz.ntmps51
      go_wp2_with (first | (go_at_call 56; refine (hE _ rfl).mono ?_; rintro r w2 ⟨rfl, rfl⟩) | (go_at_call 88; refine hW.mono ?_; rintro r w2 ⟨rfl, rfl⟩) | (go_at_call 54; refine hF.mono ?_; rintro r w2 ⟨rfl, hC, hG⟩))
      first | go_end0 | (refine bodyPost_ret (results_none rfl _ _ _) rfl ?_)
      exact ⟨rfl, by rw [H.out.1, H.out.2]; simpa [failOf] using hC, hG⟩
  · have H := Lib.hid (show Cur w g (.slice A l.length c) l (seekAt l a e n) (seekErr l e n) by
      unfold seekAt seekErr
      rw [if_neg (fun x => he x.1), if_neg he]
      exact h)
    have hz : (e != 0) = true := by simp [he]
    clear h he hn64 hW
    generalize l.length = m at *
    go_enter Tryz.func51, Tryz.ntmps51
    go_wp2_with (go_at_call 56; refine (hE _ rfl).mono ?_; rintro r w2 ⟨rfl, rfl⟩)
    first | go_end0 | (refine bodyPost_ret (results_none rfl _ _ _) rfl ?_)
    exact ⟨rfl, H.out, only_refl _ _⟩

end Go.Proofs.YtejicboemkpeoaaGreatDoor

namespace Go.Proofs.YtejicboemkpeoaaGreatDoor
open Go Go.RowKit

/-- A cursor that is nil, or that no call made. -/
def Nob (w : World) (p : Option Addr) : Prop :=
  p = none ∨ ∃ g, p = some ⟨g, 0, none⟩ ∧ Box w g 177 #[.slice none 0 0, .int .i64 0, .int .i64 0, .bool false]

theorem Nob.below {w w' : World} {p : Option Addr} (h : Nob w p) (hb : Below w.heap.size w w') : Nob w' p :=
  h.imp id fun ⟨g, e, hg⟩ => ⟨g, e, hg.below hb hg.lt⟩

end Go.Proofs.YtejicboemkpeoaaGreatDoor
