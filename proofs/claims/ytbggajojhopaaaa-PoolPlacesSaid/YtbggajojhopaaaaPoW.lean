/-
  Layer 4's works: the chapter's example, and pools that are none.
-/
import Derived.Test.YtbggajojhopaaaaPoB
namespace Go.Proofs.Ytbggajojhopaaaa
open Go Go.RowKit Go.Maps

theorem no_nil (w : World) : NoPool w (.pointer none) := .inl rfl

set_option maxRecDepth 10000 in
set_option maxHeartbeats 3200000 in
theorem works4_any (w : World) :
    Calls Try.prog 53 #[] w fun r w' => r = .returned (.bool true) ∧ Below w.heap.size w w' := by
  have hN := pnew_any w
  have hA1 := Lib.hid (fun W g mb v (h : PoolAt W w.heap.size g mb v []) => (by
    have := add_at h [97, 98] (by decide)
    rwa [show addT [] [97, 98] = ([[97, 98]], 0, 0) by decide] at this : Calls Try.prog 54 #[.pointer (some ⟨g, 0, none⟩), .string ⟨#[97, 98]⟩] W fun r w' => r = .returned (.tuple #[.int .u64 0, .int .i64 0]) ∧ (∃ v', PoolAt w' w.heap.size g mb v' [[97, 98]]) ∧ Only w.heap.size PoolObj W w'))
  have hA2 := Lib.hid (fun W g mb v (h : PoolAt W w.heap.size g mb v [[97, 98]]) => (by
    have := add_at h [99] (by decide)
    rwa [show addT [[97, 98]] [99] = ([[97, 98], [99]], 3, 0) by decide] at this : Calls Try.prog 54 #[.pointer (some ⟨g, 0, none⟩), .string ⟨#[99]⟩] W fun r w' => r = .returned (.tuple #[.int .u64 3, .int .i64 0]) ∧ (∃ v', PoolAt w' w.heap.size g mb v' [[97, 98], [99]]) ∧ Only w.heap.size PoolObj W w'))
  have hA3 := Lib.hid (fun W g mb v (h : PoolAt W w.heap.size g mb v [[97, 98], [99]]) => (by
    have := add_at h [97, 98] (by decide)
    rwa [show addT [[97, 98], [99]] [97, 98] = ([[97, 98], [99]], 0, 0) by decide] at this : Calls Try.prog 54 #[.pointer (some ⟨g, 0, none⟩), .string ⟨#[97, 98]⟩] W fun r w' => r = .returned (.tuple #[.int .u64 0, .int .i64 0]) ∧ (∃ v', PoolAt w' w.heap.size g mb v' [[97, 98], [99]]) ∧ Only w.heap.size PoolObj W w'))
  have hB := Lib.hid (fun W g mb v (h : PoolAt W w.heap.size g mb v [[97, 98], [99]]) => (by
    have := bytes_at h
    rwa [show putsT [[97, 98], [99]] = [97, 98, 0, 99, 0] by decide] at this : Calls Try.prog 58 #[.pointer (some ⟨g, 0, none⟩)] W fun r w' => ∃ u, r = .returned u ∧ Own w' W.heap.size u [97, 98, 0, 99, 0] ∧ Below W.heap.size W w'))
  go_enter Try.func53, Try.ntmps53
  go_wp2_with (first
    | (go_at_call 52; refine hN.mono ?_; rintro r w1 ⟨g, mb, rfl, hp1, hb1⟩; have hq1 := hA1.out _ _ _ _ hp1; have HB1 := Lib.hid hb1; clear hp1 hb1 hN hA1)
    | (go_at_call 54; refine hq1.mono ?_; rintro r w2 ⟨rfl, ⟨v2, hp2⟩, ho2⟩; have hq2 := hA2.out _ _ _ _ hp2; have HB2 := Lib.hid (HB1.out.trans ho2.1); clear hp2 ho2 hq1 hA2)
    | (go_at_call 54; refine hq2.mono ?_; rintro r w3 ⟨rfl, ⟨v3, hp3⟩, ho3⟩; have hq3 := hA3.out _ _ _ _ hp3; have HB3 := Lib.hid (HB2.out.trans ho3.1); clear hp3 ho3 hq2 hA3)
    | (go_at_call 54; refine hq3.mono ?_; rintro r w4 ⟨rfl, ⟨v4, hp4⟩, ho4⟩; have hq4 := hB.out _ _ _ _ hp4; have HB4 := Lib.hid (HB3.out.trans ho4.1); clear hp4 ho4 hq3 hB)
    | (go_at_call 58; refine hq4.mono ?_; rintro r w5 ⟨u5, rfl, ho5, hb5⟩; have hc5 := conv_own ho5; have HB5 := Lib.hid (HB4.out.trans (hb5.mono HB4.out.size)); clear hb5 ho5 hq4))
  obtain ⟨W, hW⟩ : ∃ W, (w5.alloc (Obj.cells #[Value.map none, Value.slice none 0 0] 107)).alloc (Obj.cells #[Value.pointer none, Value.pointer (some ⟨w5.heap.size, 0, none⟩)] 74) = W := ⟨_, rfl⟩
  have hbox : Box W (w5.heap.size + 1) 74 #[Value.pointer none, Value.pointer (some ⟨w5.heap.size, 0, none⟩)] := by
    rw [← hW]
    have := Box.new (w5.alloc (Obj.cells #[Value.map none, Value.slice none 0 0] 107)) 74 #[Value.pointer none, Value.pointer (some ⟨w5.heap.size, 0, none⟩)]
    simpa using this
  have hz : Box W w5.heap.size 107 #[Value.map none, Value.slice none 0 0] := by
    rw [← hW]
    exact (Box.new w5 107 #[Value.map none, Value.slice none 0 0]).below ((Below.refl _ _).alloc (Nat.le_refl _) _) (by simp)
  have c0 := hbox.cell 0
  have c1 := hbox.cell 1
  simp at c0 c1
  have HN0 := Lib.hid (no_nil W)
  have HN1 := Lib.hid (show NoPool W (.pointer (some ⟨w5.heap.size, 0, none⟩)) from .inr ⟨_, _, rfl, hz⟩)
  have HBW := Lib.hid (show Below w.heap.size w W by rw [← hW]; exact HB5.out.trans ((((Below.refl w5.heap.size w5).alloc (Nat.le_refl _) _).alloc (by simp) _).mono HB5.out.size))
  rw [hW]
  clear hW hbox hz
  go_loopw [62] (fun i wr => ∃ k : Nat, i = .int .i64 k ∧ k ≤ 2 ∧ wr = W) (fun i _ => 2 - (intOf i).toNat)
  case atStart => exact ⟨0, rfl, by omega, rfl⟩
  case round =>
    obtain ⟨k, rfl, hk, rfl⟩ := hrel
    by_cases hlt : k < 2
    · obtain ⟨p, hp, HP⟩ : ∃ p, wr.cell? ⟨w5.heap.size + 1, k, none⟩ = some (.pointer p) ∧ Hid (NoPool wr (.pointer p)) := by
        rcases k with _ | _ | k
        · exact ⟨_, c0, HN0⟩
        · exact ⟨_, c1, HN1⟩
        · omega
      have hA := add_no HP.out
      have hF := find_no HP.out
      have hBy := bytes_no HP.out
      have hC := count_no HP.out
      clear c0 c1 HN0 HN1
      go_wp2_with (first
        | (go_at_call 54; refine (hA _).mono ?_; rintro r w7 ⟨rfl, rfl⟩)
        | (go_at_call 56; refine (hF _).mono ?_; rintro r w7 ⟨rfl, rfl⟩)
        | (go_at_call 58; refine hBy.mono ?_; rintro r w7 ⟨rfl, rfl⟩)
        | (go_at_call 60; refine hC.mono ?_; rintro r w7 ⟨rfl, rfl⟩))
      go_roundw
      case rel => exact ⟨k + 1, by go_num, by omega, trivial⟩
      case measure => simp [intOf]; omega
    · go_wp2_with fail
      go_ret
      exact ⟨rfl, HBW.out⟩

end Go.Proofs.Ytbggajojhopaaaa
