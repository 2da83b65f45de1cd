/-
  The contracts of Clone, New, refused, Bytes, Sub, Seek, Sum and Within.
-/
import Derived.Test.YtpmpgfngogdfhaaDoorCurC
import Derived.Deep.DeepMust
namespace Go.Proofs.YtpmpgfngogdfhaaDoor
open Go Go.RowKit

theorem u8_info : (Tryd.prog.info? 5).map (fun i => (i.zero, i.size, i.bytes)) = some (some (.int .u8 0), 1, 1) := by kernel_rfl

theorem own_new (w : World) : Own (w.alloc (.cells #[] 5)) w.heap.size (.slice (some ⟨w.heap.size, 0, none⟩) 0 0) [] :=
  World.ownsRow_lit w #[] 0 (Nat.le_refl _) (by simp) rfl

/-- bytes.Clone: bytes of its own. -/
theorem clone_any {w : World} {A : Option Addr} {l : List UInt8} {B : Nat} (c : Nat) (hr : Rd w B A l) (hB : B ≤ w.heap.size) (hlen : l.length ≤ 140737488355328) :
    Calls Tryd.prog 65 #[.slice A l.length c] w fun r w' => ∃ v, r = .returned v ∧ Own w' w.heap.size v l ∧ Below w.heap.size w w' := by
  obtain ⟨i0, hi, hz0, hz1, hz2⟩ := info_parts u8_info
  rcases A with _ | ad
  · have hl : l = [] := by
      rcases l with _ | ⟨x, t⟩
      · rfl
      · obtain ⟨b, o, e, _⟩ := hr (by simp); cases e
    subst hl
    have hq := fun W => Lib.run_eql_slice_nil (P := Tryd.prog) W 65 5 none 0 c 0 0 Tryd.underlying65
    go_enter Tryd.func65, Tryd.ntmps65
    go_wp2
    go_ret
    exact ⟨_, rfl, World.ownsRow_nil _ _ _ _, Below.refl _ _⟩
  · have hsum : ([] : List UInt8).length + l.length ≤ 140737488355328 := by simpa using hlen
    generalize hn : l.length = n
    have HN := Lib.hid hn
    clear hn
    have hq := fun W => Lib.run_eql_slice_nil (P := Tryd.prog) W 65 5 (some ad) n c 0 0 Tryd.underlying65
    go_enter Tryd.func65, Tryd.ntmps65
    go_wp2_with (at_builtin; go_must (refine wpList_append_bytes (by rfl) (.tmp 5) (.tmp 6) _ (by rfl) w.heap.size i0 Tryd.underlying65 hi hz0 hz1 hz2 (.slice (some ⟨w.heap.size, 0, none⟩) 0 0) [] (by rfl) (own_new w) B (some ad) n c l HN.out (by rfl) (hr.alloc hB _) hsum (by simp) ?_); intro v1 w1 hown1 hg1 hat1)
    go_ret
    exact ⟨v1, rfl, hown1, ((Below.refl _ _).alloc (Nat.le_refl _) _).grown hg1 (by simp) (by simp [Value.ownBlock])⟩

theorem own_ge {w : World} {base : Nat} {v : Value} {l : List UInt8} (h : Own w base v l) : ∀ k, v.ownBlock = some k → base ≤ k ∧ k < w.heap.size := fun k hk => h.lt k hk
theorem own_zero {w : World} {base : Nat} {v : Value} {l : List UInt8} (h : Own w base v l) : Own w 0 v l :=
  ⟨h.1, h.2.imp id fun ⟨g, cap, cur, a, _, b⟩ => ⟨g, cap, cur, a, Nat.zero_le _, b⟩⟩

/-- A cursor that was made just now. -/
def Made (B : Nat) (w' : World) (g : Nat) (v : Value) (l : List UInt8) (e : Int) : Prop :=
  Cur w' g v l 0 e ∧ B ≤ g ∧ ∀ k, v.ownBlock = some k → B ≤ k

theorem made_new {w w1 : World} {v : Value} {l : List UInt8} (hown : Own w1 w.heap.size v l) (hb : Below w.heap.size w w1) (e : Int) :
    Made w.heap.size (w1.alloc (.cells #[v, .int .i64 0, .int .i64 e, .bool true] 139)) w1.heap.size v l e ∧ Below w.heap.size w (w1.alloc (.cells #[v, .int .i64 0, .int .i64 e, .bool true] 139)) :=
  ⟨⟨⟨Box.new _ _ _, (own_zero hown).alloc _, Nat.zero_le _⟩, hb.size, fun k hk => (own_ge hown k hk).1⟩, hb.alloc hb.size _⟩

theorem new_any {w : World} {A : Option Addr} {l : List UInt8} {B : Nat} (c : Nat) (hr : Rd w B A l) (hB : B ≤ w.heap.size) (hlen : l.length ≤ 140737488355328) :
    Calls Tryd.prog 36 #[.slice A l.length c] w fun r w' => ∃ g v, r = .returned (.pointer (some ⟨g, 0, none⟩)) ∧ Made w.heap.size w' g v l 0 ∧ Below w.heap.size w w' := by
  have hC := fun W (hW : W = w) => clone_any (w := W) c (hW ▸ hr) (hW ▸ hB) hlen
  clear hr hB
  generalize l.length = n at *
  go_enter Tryd.func36, Tryd.ntmps36
  go_wp2_with (go_at_call 65; refine (hC _ rfl).mono ?_; rintro r w' ⟨v, rfl, hown, hbel⟩; have HM := Lib.hid (made_new hown hbel 0); (obtain ⟨A', c', rfl, _, _, _⟩ := own_slice hown); clear hown hbel)
  go_ret
  exact ⟨_, _, rfl, HM.out⟩

theorem refused_any (w : World) (e : Int) :
    Calls Tryd.prog 124 #[.int .i64 e] w fun r w' => ∃ g v, r = .returned (.pointer (some ⟨g, 0, none⟩)) ∧ Made w.heap.size w' g v [] e ∧ Below w.heap.size w w' := by
  have HM := Lib.hid (made_new (l := []) (World.ownsRow_nil w w.heap.size 5 1) (Below.refl _ w) e)
  go_enter Tryd.func124, Tryd.ntmps124
  go_wp2
  go_ret
  exact ⟨_, _, rfl, HM.out⟩

/-- 2 to the 64. -/
def two64 : Nat := 18446744073709551616
/-- Sum, and whether it is not too great; whether items lie within others. -/
def sumOf (a b : Nat) : Nat := if a + b < two64 then a + b else 0
def sumOk (a b : Nat) : Bool := decide (a + b < two64)
def withinOf (a n m : Nat) : Bool := sumOk a n && decide (sumOf a n ≤ m)
theorem within_iff (a n m : Nat) (hm : m < two64) : withinOf a n m = decide (a + n ≤ m) := by
  unfold withinOf sumOk sumOf
  by_cases h : a + n < two64
  · simp [h]
  · rw [if_neg h, decide_eq_false h]
    simp; omega
theorem sum_fits (a b : Nat) (h : a + b < two64) : (sumOf a b : Int) = (a : Int) + (b : Int) ∧ sumOk a b = true := by
  unfold sumOf sumOk
  rw [if_pos h]; simp [h]
theorem sum_over (a b : Nat) (h : ¬ a + b < two64) : (sumOf a b : Int) = 0 ∧ sumOk a b = false := by
  unfold sumOf sumOk
  rw [if_neg h]; simp; omega
theorem wrap_fits (a b : Nat) (h : a + b < two64) : IntKind.u64.wrap ((a : Int) + (b : Int)) = (a : Int) + (b : Int) := by
  unfold two64 at h
  rw [IntKind.wrap_u64]; omega
theorem wrap_over (a b : Nat) (ha : a < two64) (hb : b < two64) (h : ¬ a + b < two64) : IntKind.u64.wrap ((a : Int) + (b : Int)) < (a : Int) := by
  unfold two64 at *
  rw [IntKind.wrap_u64]; omega

theorem sum_any (a b : Nat) (w : World) (ha : a < two64) (hb : b < two64) :
    Calls Tryd.prog 93 #[.int .u64 (a : Int), .int .u64 (b : Int)] w fun r w' => r = .returned (.tuple #[.int .u64 (sumOf a b : Int), .bool (sumOk a b)]) ∧ w = w' := by
  by_cases h : a + b < two64
  · have H := Lib.hid (sum_fits a b h)
    have hs : IntKind.u64.wrap ((a : Int) + (b : Int)) = (a : Int) + (b : Int) := wrap_fits a b h
    clear h ha hb
    go_enter Tryd.func93, Tryd.ntmps93
    go_wp2
    go_ret2
    exact ⟨by rw [H.out.1, H.out.2]; rfl, rfl⟩
  · have H := Lib.hid (sum_over a b h)
    obtain ⟨s, hs, h0⟩ : ∃ s : Int, IntKind.u64.wrap ((a : Int) + (b : Int)) = s ∧ s < (a : Int) := ⟨_, rfl, wrap_over a b ha hb h⟩
    clear h ha hb
    go_enter Tryd.func93, Tryd.ntmps93
    go_wp2
    go_ret2
    exact ⟨by rw [H.out.1, H.out.2]; rfl, rfl⟩

theorem within_any (a n m : Nat) (w : World) (ha : a < two64) (hb : n < two64) :
    Calls Tryd.prog 67 #[.int .u64 (a : Int), .int .u64 (n : Int), .int .u64 (m : Int)] w fun r w' => r = .returned (.bool (withinOf a n m)) ∧ w = w' := by
  have hS := sum_any a n w ha hb
  clear ha hb
  have hW : withinOf a n m = (sumOk a n && decide (sumOf a n ≤ m)) := rfl
  have HW := Lib.hid hW
  clear hW
  generalize sumOf a n = s at *
  generalize sumOk a n = k at *
  cases k
  all_goals
    by_cases hd : s ≤ m
    all_goals
      go_enter Tryd.func67, Tryd.ntmps67
      go_wp2_with (go_at_call 93; refine hS.mono ?_; rintro r w' ⟨rfl, rfl⟩)
      go_ret
      exact ⟨by rw [HW.out]; simp [hd], rfl⟩

end Go.Proofs.YtpmpgfngogdfhaaDoor
