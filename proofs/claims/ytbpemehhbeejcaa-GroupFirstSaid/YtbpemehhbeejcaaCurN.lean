/-
  What a cursor that is nil, or that no call made, answers: one contract a method. It stands as it stood, and tells nothing but why.
-/
import Derived.Test.YtbpemehhbeejcaaCurC
import Derived.Deep.DeepMust
namespace Go.Proofs.Ytbpemehhbeejcaa
open Go Go.RowKit

theorem u8_info : (Try.prog.info? 5).map (fun i => (i.zero, i.size, i.bytes)) = some (some (.int .u8 0), 1, 1) := by kernel_rfl

theorem own_new (w : World) : Own (w.alloc (.cells #[] 5)) w.heap.size (.slice (some ⟨w.heap.size, 0, none⟩) 0 0) [] :=
  World.ownsRow_lit w #[] 0 (Nat.le_refl _) (by simp) rfl

/-- bytes.Clone: bytes of its own. -/
theorem clone_any {w : World} {A : Option Addr} {l : List UInt8} {B : Nat} (c : Nat) (hr : Rd w B A l) (hB : B ≤ w.heap.size) (hlen : l.length ≤ 140737488355328) :
    Calls Try.prog 34 #[.slice A l.length c] w fun r w' => ∃ v, r = .returned v ∧ Own w' w.heap.size v l ∧ Below w.heap.size w w' := by
  obtain ⟨i0, hi, hz0, hz1, hz2⟩ := info_parts u8_info
  rcases A with _ | ad
  · have hl : l = [] := by
      rcases l with _ | ⟨x, t⟩
      · rfl
      · obtain ⟨b, o, e, _⟩ := hr (by simp); cases e
    subst hl
    have hq := fun W => Lib.run_eql_slice_nil (P := Try.prog) W 43 5 none 0 c 0 0 Try.underlying43
    go_enter Try.func34, Try.ntmps34
    go_wp2
    go_ret
    exact ⟨_, rfl, World.ownsRow_nil _ _ _ _, Below.refl _ _⟩
  · have hsum : ([] : List UInt8).length + l.length ≤ 140737488355328 := by simpa using hlen
    generalize hn : l.length = n
    have HN := Lib.hid hn
    clear hn
    have hq := fun W => Lib.run_eql_slice_nil (P := Try.prog) W 43 5 (some ad) n c 0 0 Try.underlying43
    go_enter Try.func34, Try.ntmps34
    go_wp2_with (at_builtin; go_must (refine wpList_append_bytes (by rfl) (.tmp 5) (.tmp 6) _ (by rfl) w.heap.size i0 Try.underlying43 hi hz0 hz1 hz2 (.slice (some ⟨w.heap.size, 0, none⟩) 0 0) [] (by rfl) (own_new w) B (some ad) n c l HN.out (by rfl) (hr.alloc hB _) hsum (by simp) ?_); intro v1 w1 hown1 hg1 hat1)
    go_ret
    exact ⟨v1, rfl, hown1, ((Below.refl _ _).alloc (Nat.le_refl _) _).grown hg1 (by simp) (by simp [Value.ownBlock])⟩

theorem own_ge {w : World} {base : Nat} {v : Value} {l : List UInt8} (h : Own w base v l) : ∀ k, v.ownBlock = some k → base ≤ k ∧ k < w.heap.size := fun k hk => h.lt k hk
theorem own_zero {w : World} {base : Nat} {v : Value} {l : List UInt8} (h : Own w base v l) : Own w 0 v l :=
  ⟨h.1, h.2.imp id fun ⟨g, cap, cur, a, _, b⟩ => ⟨g, cap, cur, a, Nat.zero_le _, b⟩⟩

/-- A cursor that was made just now. -/
def Made (B : Nat) (w' : World) (g : Nat) (v : Value) (l : List UInt8) (e : Int) : Prop :=
  Cur w' g v l 0 e ∧ B ≤ g ∧ ∀ k, v.ownBlock = some k → B ≤ k

theorem made_new {w w1 : World} {v : Value} {l : List UInt8} (hown : Own w1 w.heap.size v l) (hb : Below w.heap.size w w1) (e : Int) :
    Made w.heap.size (w1.alloc (.cells #[v, .int .i64 0, .int .i64 e, .bool true] 90)) w1.heap.size v l e ∧ Below w.heap.size w (w1.alloc (.cells #[v, .int .i64 0, .int .i64 e, .bool true] 90)) :=
  ⟨⟨⟨Box.new _ _ _, (own_zero hown).alloc _, Nat.zero_le _⟩, hb.size, fun k hk => (own_ge hown k hk).1⟩, hb.alloc hb.size _⟩

theorem new_any {w : World} {A : Option Addr} {l : List UInt8} {B : Nat} (c : Nat) (hr : Rd w B A l) (hB : B ≤ w.heap.size) (hlen : l.length ≤ 140737488355328) :
    Calls Try.prog 29 #[.slice A l.length c] w fun r w' => ∃ g v, r = .returned (.pointer (some ⟨g, 0, none⟩)) ∧ Made w.heap.size w' g v l 0 ∧ Below w.heap.size w w' := by
  have hC := fun W (hW : W = w) => clone_any (w := W) c (hW ▸ hr) (hW ▸ hB) hlen
  clear hr hB
  generalize l.length = n at *
  go_enter Try.func29, Try.ntmps29
  go_wp2_with (go_at_call 34; refine (hC _ rfl).mono ?_; rintro r w' ⟨v, rfl, hown, hbel⟩; have HM := Lib.hid (made_new hown hbel 0); (obtain ⟨A', c', rfl, _, _, _⟩ := own_slice hown); clear hown hbel)
  go_ret
  exact ⟨_, _, rfl, HM.out⟩

/-- 2 to the 64. -/
def two64 : Nat := 18446744073709551616
end Go.Proofs.Ytbpemehhbeejcaa

namespace Go.Proofs.Ytbpemehhbeejcaa
open Go Go.RowKit

theorem only_trans {a b c : World} {r s : Option Nat} (h : a.grownBy b r) (k : b.grownBy c s) (hs : s = r ∨ ∀ x, s = some x → a.heap.size ≤ x) : a.grownBy c r :=
  ⟨k.os.trans h.os, k.tape.trans h.tape, k.output.trans h.output, Nat.le_trans h.size k.size, fun i hi hne => (k.block i (Nat.lt_of_lt_of_le hi h.size) (by
    rintro e
    rcases hs with hs | hs
    · exact hne (e.trans hs)
    · have := hs i e.symm; omega)).trans (h.block i hi hne)⟩

/-- Bytes that were laid behind bytes of the call's own. -/
def Laid (w w' : World) (base : Nat) (v v' : Value) (l' : List UInt8) : Prop :=
  Own w' base v' l' ∧ w.grownBy w' v.ownBlock ∧ (v'.ownBlock = v.ownBlock ∨ ∀ x, v'.ownBlock = some x → w.heap.size ≤ x)

theorem Laid.refl {w : World} {base : Nat} {v : Value} {l : List UInt8} (h : Own w base v l) : Laid w w base v v l := ⟨h, ⟨rfl, rfl, rfl, Nat.le_refl _, fun _ _ _ => rfl⟩, .inl rfl⟩
theorem Laid.trans {w w1 w2 : World} {base : Nat} {v v1 v2 : Value} {l1 l2 : List UInt8} (h : Laid w w1 base v v1 l1) (k : Laid w1 w2 base v1 v2 l2) : Laid w w2 base v v2 l2 := by
  refine ⟨k.1, only_trans h.2.1 k.2.1 h.2.2, ?_⟩
  rcases k.2.2 with e | e
  · rw [e]; exact h.2.2
  · exact .inr fun x hx => Nat.le_trans h.2.1.size (e x hx)
theorem Laid.of_append {w w0 w1 : World} {base : Nat} {v v1 : Value} {l1 : List UInt8} (hb : Below w.heap.size w w0) (h1 : Own w1 base v1 l1) (hg : w0.grownBy w1 v.ownBlock) (ha : v1.ownBlock = v.ownBlock ∨ v1.ownBlock = some w0.heap.size) : Laid w w1 base v v1 l1 := by
  refine ⟨h1, only_trans (only_below hb v.ownBlock) hg (.inl rfl), ?_⟩
  rcases ha with e | e
  · exact .inl e
  · exact .inr fun x hx => by rw [e] at hx; injection hx with hx; have := hb.size; omega

/-- One byte in a block of its own, as 'append' lays it first. -/
theorem rd_one (w : World) (x : Int) (b : UInt8) (h : x = (b.toNat : Int)) : Rd (w.alloc (.cells #[.int .u8 x] 5)) (w.heap.size + 1) (some ⟨w.heap.size, 0, none⟩) [b] := by
  subst h
  exact fun _ => ⟨w.heap.size, 0, rfl, by omega, fun j u hu => by
    have h := (Box.new w 5 #[.int .u8 (b.toNat : Int)]).cell j
    rw [Nat.zero_add, h]
    match j, hu with
    | 0, hu => simp at hu; subst hu; rfl⟩

theorem byte_at (x k : Nat) : ((x : Int) / 2 ^ (8 * k) % 256) = ((UInt8.ofNat (x / 256 ^ k % 256)).toNat : Int) := by
  have h : (UInt8.ofNat (x / 256 ^ k % 256)).toNat = x / 256 ^ k % 256 := by simp
  have e : (256 : Nat) ^ k = 2 ^ (8 * k) := by rw [Nat.pow_mul]
  rw [h, e]
  simp

set_option maxHeartbeats 400000 in
theorem put_any {w : World} {base : Nat} {v : Value} {l : List UInt8} (hown : Own w base v l) (hbase : base ≤ w.heap.size) (x : Nat) (s : Int) (hs : -9223372036854775808 ≤ s ∧ s ≤ 9223372036854775807) (hlen : l.length ≤ 140737488355000) :
    Calls Try.prog 24 #[v, .int .u64 (x : Int), .int .i64 s] w fun r w' => ∃ v', r = .returned v' ∧ Laid w w' base v v' (l ++ leBytes x (clampOf s)) := by
  obtain ⟨i0, hi, hz0, hz1, hz2⟩ := info_parts u8_info
  have hc8 := clampOf_le s
  have hc := fun W => clamp_any s W hs
  have HO := Lib.hid (Laid.refl hown)
  clear hs hown
  generalize clampOf s = n at *
  go_enter Try.func24, Try.ntmps24
  go_wp2_with (go_at_call 33; refine (hc _).mono ?_; rintro r w' ⟨rfl, rfl⟩)
  go_loopw [0, 10] (fun u i wr => ∃ k : Nat, k ≤ n ∧ i = .int .i64 k ∧ Laid w wr base v u (l ++ leBytes x k)) (fun _ i _ => n - (intOf i).toNat)
  case atStart => exact ⟨0, Nat.zero_le _, rfl, by simpa [leBytes] using HO.out⟩
  case round =>
    obtain ⟨k, hk, rfl, hL⟩ := hrel
    have HL := Lib.hid hL
    clear hL HO
    by_cases hlt : k < n
    · have hk8 : (8 * (k : Int)) < 64 := by omega
      have hbyte := byte_at x k
      have hsum : (l ++ leBytes x k).length + [UInt8.ofNat (x / 256 ^ k % 256)].length ≤ 140737488355328 := by simp; omega
      have hb1 : base ≤ (wr.alloc (.cells #[.int .u8 ((x : Int) / 2 ^ (8 * k) % 256)] 5)).heap.size := by
        have := HL.out.2.1.size
        simp; omega
      have HR := Lib.hid (rd_one wr _ _ hbyte)
      clear hbyte
      go_wp2_with (at_builtin; refine wpList_append_bytes (by rfl) (.tmp 13) (.tmp 19) _ (by rfl) base i0 Try.underlying43 hi hz0 hz1 hz2 u0 (l ++ leBytes x k) (by rfl) (HL.out.1.alloc _) (wr.heap.size + 1) (some ⟨wr.heap.size, 0, none⟩) 1 1 [UInt8.ofNat (x / 256 ^ k % 256)] rfl (by rfl) HR.out hsum hb1 ?_; intro v1 w1 hown1 hg1 hat1)
      have HL1 := Lib.hid (HL.out.trans (Laid.of_append ((Below.refl wr.heap.size wr).alloc (Nat.le_refl _) _) hown1 hg1 hat1))
      clear hown1 hg1 hat1
      go_roundw
      case rel => exact ⟨k + 1, by omega, by go_num, by rw [leBytes_succ, ← List.append_assoc]; exact HL1.out⟩
      case measure => simp [intOf]; omega
    · have hkn : k = n := by omega
      have HL1 := Lib.hid (show Laid w wr base v u0 (l ++ leBytes x n) by rw [← hkn]; exact HL.out)
      clear hkn
      go_wp2
      go_ret
      exact ⟨_, rfl, HL1.out⟩

end Go.Proofs.Ytbpemehhbeejcaa

namespace Go.Proofs.Ytbpemehhbeejcaa
open Go Go.RowKit

/-- A cursor that is nil, or that no call made. -/
def Nob (w : World) (p : Option Addr) : Prop :=
  p = none ∨ ∃ g, p = some ⟨g, 0, none⟩ ∧ Box w g 90 #[.slice none 0 0, .int .i64 0, .int .i64 0, .bool false]

theorem Nob.below {w w' : World} {p : Option Addr} (h : Nob w p) (hb : Below w.heap.size w w') : Nob w' p :=
  h.imp id fun ⟨g, e, hg⟩ => ⟨g, e, hg.below hb hg.lt⟩

end Go.Proofs.Ytbpemehhbeejcaa
