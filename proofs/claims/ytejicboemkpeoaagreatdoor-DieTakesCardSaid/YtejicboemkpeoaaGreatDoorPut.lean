/-
  The contract of Put: behind bytes of the call's own it lays a number's lowest bytes.
-/
import Derived.Test.YtejicboemkpeoaaGreatDoorCurN
namespace Go.Proofs.YtejicboemkpeoaaGreatDoor
open Go Go.RowKit

theorem only_trans {a b c : World} {r s : Option Nat} (h : a.grownBy b r) (k : b.grownBy c s) (hs : s = r ∨ ∀ x, s = some x → a.heap.size ≤ x) : a.grownBy c r :=
  ⟨k.os.trans h.os, k.tape.trans h.tape, k.output.trans h.output, Nat.le_trans h.size k.size, fun i hi hne => (k.block i (Nat.lt_of_lt_of_le hi h.size) (by
    rintro e
    rcases hs with hs | hs
    · exact hne (e.trans hs)
    · have := hs i e.symm; omega)).trans (h.block i hi hne)⟩

/-- Bytes that were laid behind bytes of the call's own. -/
def Laid (w w' : World) (base : Nat) (v v' : Value) (l' : List UInt8) : Prop :=
  Own w' base v' l' ∧ w.grownBy w' v.ownBlock ∧ (v'.ownBlock = v.ownBlock ∨ ∀ x, v'.ownBlock = some x → w.heap.size ≤ x)

theorem Laid.refl {w : World} {base : Nat} {v : Value} {l : List UInt8} (h : Own w base v l) : Laid w w base v v l := ⟨h, ⟨rfl, rfl, rfl, Nat.le_refl _, fun _ _ _ => rfl⟩, .inl rfl⟩
theorem Laid.trans {w w1 w2 : World} {base : Nat} {v v1 v2 : Value} {l1 l2 : List UInt8} (h : Laid w w1 base v v1 l1) (k : Laid w1 w2 base v1 v2 l2) : Laid w w2 base v v2 l2 := by
  refine ⟨k.1, only_trans h.2.1 k.2.1 h.2.2, ?_⟩
  rcases k.2.2 with e | e
  · rw [e]; exact h.2.2
  · exact .inr fun x hx => Nat.le_trans h.2.1.size (e x hx)
theorem Laid.of_append {w w0 w1 : World} {base : Nat} {v v1 : Value} {l1 : List UInt8} (hb : Below w.heap.size w w0) (h1 : Own w1 base v1 l1) (hg : w0.grownBy w1 v.ownBlock) (ha : v1.ownBlock = v.ownBlock ∨ v1.ownBlock = some w0.heap.size) : Laid w w1 base v v1 l1 := by
  refine ⟨h1, only_trans (only_below hb v.ownBlock) hg (.inl rfl), ?_⟩
  rcases ha with e | e
  · exact .inl e
  · exact .inr fun x hx => by rw [e] at hx; injection hx with hx; have := hb.size; omega

/-- One byte in a block of its own, as 'append' lays it first. -/
theorem rd_one (w : World) (x : Int) (b : UInt8) (h : x = (b.toNat : Int)) : Rd (w.alloc (.cells #[.int .u8 x] 5)) (w.heap.size + 1) (some ⟨w.heap.size, 0, none⟩) [b] := by
  subst h
  exact fun _ => ⟨w.heap.size, 0, rfl, by omega, fun j u hu => by
    have h := (Box.new w 5 #[.int .u8 (b.toNat : Int)]).cell j
    rw [Nat.zero_add, h]
    match j, hu with
    | 0, hu => simp at hu; subst hu; rfl⟩

theorem byte_at (x k : Nat) : ((x : Int) / 2 ^ (8 * k) % 256) = ((UInt8.ofNat (x / 256 ^ k % 256)).toNat : Int) := by
  have h : (UInt8.ofNat (x / 256 ^ k % 256)).toNat = x / 256 ^ k % 256 := by simp
  have e : (256 : Nat) ^ k = 2 ^ (8 * k) := by rw [Nat.pow_mul]
  rw [h, e]
  simp

set_option maxHeartbeats 400000 in
theorem put_any {w : World} {base : Nat} {v : Value} {l : List UInt8} (hown : Own w base v l) (hbase : base ≤ w.heap.size) (x : Nat) (s : Int) (hs : -9223372036854775808 ≤ s ∧ s ≤ 9223372036854775807) (hlen : l.length ≤ 140737488355000) :
    Calls Tryz.prog 206 #[v, .int .u64 (x : Int), .int .i64 s] w fun r w' => ∃ v', r = .returned v' ∧ Laid w w' base v v' (l ++ leBytes x (clampOf s)) := by
  obtain ⟨i0, hi, hz0, hz1, hz2⟩ := info_parts u8_info
  have hc8 := clampOf_le s
  have hc := fun W => clamp_any s W hs
  have HO := Lib.hid (Laid.refl hown)
  clear hs hown
  generalize clampOf s = n at *
  go_enter Tryz.func206, Tryz.ntmps206
  go_wp2_with (go_at_call 173; refine (hc _).mono ?_; rintro r w' ⟨rfl, rfl⟩)
  go_loopw [0, 10] (fun u i wr => ∃ k : Nat, k ≤ n ∧ i = .int .i64 k ∧ Laid w wr base v u (l ++ leBytes x k)) (fun _ i _ => n - (intOf i).toNat)
  case atStart => exact ⟨0, Nat.zero_le _, rfl, by simpa [leBytes] using HO.out⟩
  case round =>
    obtain ⟨k, hk, rfl, hL⟩ := hrel
    have HL := Lib.hid hL
    clear hL HO
    by_cases hlt : k < n
    · have hk8 : (8 * (k : Int)) < 64 := by omega
      have hbyte := byte_at x k
      have hsum : (l ++ leBytes x k).length + [UInt8.ofNat (x / 256 ^ k % 256)].length ≤ 140737488355328 := by simp; omega
      have hb1 : base ≤ (wr.alloc (.cells #[.int .u8 ((x : Int) / 2 ^ (8 * k) % 256)] 5)).heap.size := by
        have := HL.out.2.1.size
        simp; omega
      have HR := Lib.hid (rd_one wr _ _ hbyte)
      clear hbyte
      go_wp2_with (at_builtin; refine wpList_append_bytes (by rfl) (.tmp 13) (.tmp 19) _ (by rfl) base i0 Tryz.underlying26 hi hz0 hz1 hz2 u0 (l ++ leBytes x k) (by rfl) (HL.out.1.alloc _) (wr.heap.size + 1) (some ⟨wr.heap.size, 0, none⟩) 1 1 [UInt8.ofNat (x / 256 ^ k % 256)] rfl (by rfl) HR.out hsum hb1 ?_; intro v1 w1 hown1 hg1 hat1)
      have HL1 := Lib.hid (HL.out.trans (Laid.of_append ((Below.refl wr.heap.size wr).alloc (Nat.le_refl _) _) hown1 hg1 hat1))
      clear hown1 hg1 hat1
      go_roundw
      case rel => exact ⟨k + 1, by omega, by go_num, by rw [leBytes_succ, ← List.append_assoc]; exact HL1.out⟩
      case measure => simp [intOf]; omega
    · have hkn : k = n := by omega
      have HL1 := Lib.hid (show Laid w wr base v u0 (l ++ leBytes x n) by rw [← hkn]; exact HL.out)
      clear hkn
      go_wp2
      go_ret
      exact ⟨_, rfl, HL1.out⟩

end Go.Proofs.YtejicboemkpeoaaGreatDoor
