/-
  Package length: Wrap behind nothing.
-/
import Derived.Test.YtpmpgfngogdfhaaDoorLtA
namespace Go.Proofs.YtpmpgfngogdfhaaDoor
open Go Go.RowKit

theorem lenE_small (n : Nat) (wide : Bool) (h : n ≤ 1000000) : lenE n wide = 0 := by
  unfold lenE
  cases wide
  · rw [if_pos (show n < 4294967280 by omega)]; simp
  · simp

set_option maxRecDepth 10000 in
theorem wrap_len {w : World} (hs : Sz w) (wide : Bool) {B : Nat} {A : Option Addr} {body : List UInt8} (hr : Rd w B A body) (hB : B ≤ w.heap.size) (c : Nat) (hlen : body.length ≤ 1000000) :
    Calls Tryd.prog 92 #[.slice none 0 0, .bool wide, .slice A body.length c] w fun r w' => ∃ v', r = .returned (.tuple #[v', .int .i64 0]) ∧ Own w' w.heap.size v' (lenB body.length wide ++ body) ∧ Below w.heap.size w w' := by
  obtain ⟨i0, hi, hz0, hz1, hz2⟩ := info_parts u8_info
  have hP := Lib.hid (by
    have := put_len (l := []) hs (World.ownsRow_nil w w.heap.size 5 1) hs.pos (Nat.le_refl _) body.length wide (Nat.zero_le _)
    rw [lenE_small _ _ hlen] at this
    exact this : Calls Tryd.prog 104 #[.slice none 0 0, .int .u64 (body.length : Int), .bool wide] w fun r w' => ∃ v', r = .returned (.tuple #[v', .int .i64 0]) ∧ Laid w w' w.heap.size (.slice none 0 0) v' (lenB body.length wide))
  have hl12 := lenB_le body.length wide
  have s1 : IntKind.u64.wrap (body.length : Int) = (body.length : Int) := by rw [IntWalk.u64_in _ (by omega)]
  have hsum : (lenB body.length wide).length + body.length ≤ 140737488355328 := by omega
  have hsum2 : ([] : List UInt8).length + (lenB body.length wide ++ body).length ≤ 140737488355328 := by simp; omega
  have HR := Lib.hid (fun (W : World) (hW : Below w.heap.size w W) => (hr.below (hW.mono hB)))
  clear hr hB hlen hl12 hs
  generalize lenB body.length wide = head at *
  obtain ⟨n, hn⟩ : ∃ n, body.length = n := ⟨_, rfl⟩
  rw [hn] at hP s1 ⊢
  have HN := Lib.hid hn
  clear hn
  go_enter Tryd.func92, Tryd.ntmps92
  go_wp2_with (first
    | (go_at_call 104; refine hP.out.mono ?_; rintro r w1 ⟨v1, rfl, hL⟩; have hown1 := hL.1; have hb1 := below_of_only (B := w.heap.size) hL.2.1 (Nat.le_refl _) (by simp [Value.ownBlock]); clear hL hP)
    | (at_builtin; refine wpList_append_bytes (by rfl) (.tmp 22) (.tmp 23) _ (by rfl) w.heap.size i0 Tryd.underlying65 hi hz0 hz1 hz2 v1 head (by rfl) hown1 _ A n c body HN.out (by rfl) (HR.out _ hb1) hsum hb1.size ?_; intro v2 w2 hown2 hg2 hat2; have hb2 := hb1.grown hg2 hb1.size (fun q hq => (own_ge hown1 q hq).1); clear hown1 hg2 hat2 hb1; have HO2 := Lib.hid hown2; (obtain ⟨A2, c2, hv2, _, _, hr2⟩ := own_slice hown2); (obtain ⟨k, hk⟩ : ∃ k, (head ++ body).length = k := ⟨_, rfl⟩); rw [hk] at hv2; subst hv2; have HK := Lib.hid hk; clear hown2 hk)
    | (at_builtin; refine wpList_append_bytes (by rfl) (.tmp 25) (.tmp 26) _ (by rfl) w.heap.size i0 Tryd.underlying65 hi hz0 hz1 hz2 (.slice none 0 0) [] (by rfl) (World.ownsRow_nil _ _ _ _) _ A2 k c2 (head ++ body) HK.out (by rfl) hr2 hsum2 hb2.size ?_; intro v3 w3 hown3 hg3 hat3; have hb3 := hb2.grown hg3 hb2.size (by simp [Value.ownBlock]); clear hg3 hat3))
  go_ret2
  exact ⟨_, rfl, by simpa using hown3, hb3⟩

end Go.Proofs.YtpmpgfngogdfhaaDoor
