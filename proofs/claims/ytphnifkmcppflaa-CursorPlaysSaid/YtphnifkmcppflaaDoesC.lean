/-
  One call on both sides: Bytes, and the law's own look at them.
-/
import Derived.Test.YtphnifkmcppflaaDoesB
namespace Go.Proofs.Ytphnifkmcppflaa
open Go Go.RowKit
set_option linter.unusedSimpArgs false
attribute [local go_sem ↓] Go.wp_at_zero Go.wp_at_succ

theorem only_drew_left {a w : World} {row : Option Nat} (h : a.drew.grownBy w row) : a.grownBy w row := ⟨h.os, h.tape, h.output, h.size, h.block⟩

theorem own_behind {w w' : World} {base g : Nat} {v : Value} {m : List UInt8} {cs : Array Value} (h : Own w base v m) (hb : Box w g 29 cs) (hG : w.grownBy w' (some g)) : Own w' base v m :=
  h.kept hG (.inr (own_other h hb (by decide)))

/-- All that stands below B1 stands as it stood while a row of bytes from B1 on is written. -/
theorem DS.row {B B1 : Nat} {w0 w w' : World} {gc gr q n g : Nat} {vc vr : Value} {l : List UInt8} {a a2 : Nat} {e e2 kind : Int} (h : DS B w0 w gc vc gr vr l a e a2 e2 q kind n) (hG : w.grownBy w' (some g)) (hg : B1 ≤ g) (hB : B ≤ B1)
    (h1 : gc < B1) (h2 : gr < B1) (h3 : q < B1) (h4 : ∀ k, vc.ownBlock = some k → k < B1) (h5 : ∀ k, vr.ownBlock = some k → k < B1) : DS B w0 w' gc vc gr vr l a e a2 e2 q kind n :=
  have ne : ∀ (v : Value), (∀ k, v.ownBlock = some k → k < B1) → v.ownBlock = none ∨ v.ownBlock ≠ some g := fun v hv => by
    rcases hk : v.ownBlock with _ | k
    · exact .inl rfl
    · exact .inr (by have := hv k hk; simp; omega)
  ⟨h.cc.grown hG (by simp; omega) (ne vc h4), h.rc.grown hG (by simp; omega) (ne vr h5), h.bx.grown hG (by simp; omega), h.bel.trans (below_of_only hG (Nat.le_trans h.lB h.bel.size) fun k hk => by injection hk with hk; omega), h.lc, h.lr, h.lB⟩

/-- A byte of a row of the call's own is written. -/
theorem own_set {w : World} {base g cap k : Nat} {m : List UInt8} (h : Own w base (.slice (some ⟨g, 0, none⟩) m.length cap) m) (x : Int) (b : UInt8) (hx : x = (b.toNat : Int)) :
    Own (w.setCell ⟨g, k, none⟩ (.int .u8 x)) base (.slice (some ⟨g, 0, none⟩) m.length cap) (m.set k b) ∧ w.grownBy (w.setCell ⟨g, k, none⟩ (.int .u8 x)) (some g) := by
  subst hx
  obtain ⟨h1, h2⟩ := World.ownsRow.stored (w := w) h k (.int .u8 (b.toNat : Int))
  refine ⟨?_, h2⟩
  have e : u8s (m.set k b) = (u8s m).set k (.int .u8 (b.toNat : Int)) := by unfold u8s; rw [List.map_set]
  unfold Own
  rw [e, List.length_set]
  exact h1

theorem byte_inc (b : UInt8) : IntKind.u8.wrap ((b.toNat : Int) + 1) = ((UInt8.ofNat ((b.toNat + 1) % 256)).toNat : Int) := by
  have h : (UInt8.ofNat ((b.toNat + 1) % 256)).toNat = (b.toNat + 1) % 256 := by simp
  rw [h, IntKind.wrap_u8]
  omega

set_option maxHeartbeats 4000000 in
theorem does_bytes {B : Nat} {w : World} {gc : Nat} {vc : Value} {gr : Nat} {vr : Value} {l : List UInt8} {a : Nat} {e : Int} (hc : Cur w gc vc l a e) (hr : RC w gr vr l a e) (h1 : B ≤ gc) (h2 : B ≤ gr) (hB : B ≤ w.heap.size) (hlen : l.length ≤ 140737488355328) (n : Nat) :
    Calls Try.prog 11 #[.agg #[.int .i64 1, .int .u64 (n : Int)], .pointer (some ⟨gc, 0, none⟩), .pointer (some ⟨gr, 0, none⟩)] w (Does B w gc vc gr vr l) := by
  have D0 := Lib.hid (DS.start hc hr h1 h2 hB 1 n)
  have HC := Lib.hid (fun W a e (h : Cur W gc vc l a e) => bytes_cur h n hlen)
  have HR := Lib.hid (fun W a e (h : RC W gr vr l a e) => rbytes_cur h n hlen)
  have hgb := Nat.le_trans (nextGot_len_le l a e n) hlen
  have b0 := D0.out.bx.cell 0
  have b1 := D0.out.bx.cell 1
  simp at b0 b1
  have KD := Lib.hid (fun W a e a2 e2 (d : DS B w W gc vc gr vr l a e a2 e2 w.heap.size 1 n) => (show W.cell? ⟨w.heap.size, 1, none⟩ = some (.int .u64 (n : Int)) from by have := d.bx.cell 1; simpa using this))
  have H1 := Lib.hid hc.1.lt
  have H2 := Lib.hid hr.1.lt
  have H3 := Lib.hid (fun k hk => (own_ge hc.2.1 k hk).2)
  have H4 := Lib.hid (fun k hk => (own_ge hr.2.1 k hk).2)
  clear hc hr hlen
  go_enter Try.func11, Try.ntmps11
  go_wp2_with fail
  refine (HC.out _ _ _ D0.out.cc).mono ?_
  rintro r w1 ⟨u, rfl, hown, hC1, hG1⟩
  have D1 := Lib.hid (D0.out.c hC1 hG1)
  have c1 := KD.out _ _ _ _ _ D1.out
  obtain ⟨sG, hsG⟩ : ∃ t : ByteArray, t = ⟨(nextGot l a e n).toArray⟩ := ⟨_, rfl⟩
  have hcv := conv_as hsG (conv_own hown)
  clear hC1 hG1 b0 b1
  go_wp2_with fail
  refine wp_region_held_drew (S := fun W => W.cell? ⟨w.heap.size, 1, none⟩ = some (.int .u64 (n : Int)) ∧ (convert 22 9 u).run Try.prog W = .ok (.string sG) W) (by kernel_rfl) (And.intro c1 (conv_as hsG (conv_own (w := w1.drew) hown))) (fun hHeld => ?_)
  refine take_at (i := 0) (v := ?_) rfl (by kernel_rfl) (by kernel_rfl) (by kernel_rfl) (fun _ _ _ h => h) (Or.inl ⟨by rfl, ?_⟩) hHeld ?_
  rotate_left
  · (intro wS hSw; (try dsimp only at hSw); go_simp; (try with_reducible rfl))
  try simp only [Act.put, List.setIfInBounds_toArray, List.set_cons_zero, List.set_cons_succ]
  refine take_at (i := 1) (v := ?_) rfl (by kernel_rfl) (by kernel_rfl) (by kernel_rfl) (fun _ _ _ h => h) (Or.inl ⟨by rfl, ?_⟩) hHeld ?_
  rotate_left
  · (intro wS hSw; (try dsimp only at hSw); go_simp; (try with_reducible rfl))
  try simp only [Act.put, List.setIfInBounds_toArray, List.set_cons_zero, List.set_cons_succ]
  refine take_at (i := 2) (v := ?_) rfl (by kernel_rfl) (by kernel_rfl) (by kernel_rfl) (fun _ _ _ h => h) (Or.inl ⟨by rfl, ?_⟩) hHeld ?_
  rotate_left
  · (intro wS hSw; (try dsimp only at hSw); go_simp; (try with_reducible rfl))
  try simp only [Act.put, List.setIfInBounds_toArray, List.set_cons_zero, List.set_cons_succ]
  refine take_at (i := 3) (v := ?_) rfl (by kernel_rfl) (by kernel_rfl) (by kernel_rfl) (fun _ _ _ h => h) (Or.inl ⟨by rfl, ?_⟩) hHeld ?_
  rotate_left
  · (intro wS hSw; (try dsimp only at hSw); go_simp; (try with_reducible rfl))
  try simp only [Act.put, List.setIfInBounds_toArray, List.set_cons_zero, List.set_cons_succ]
  refine take_at (i := 4) (v := ?_) rfl (by kernel_rfl) (by kernel_rfl) (by kernel_rfl) (fun _ _ _ h => h) (Or.inl ⟨by rfl, ?_⟩) hHeld ?_
  rotate_left
  · (intro wS hSw; (try dsimp only at hSw); go_simp; (try with_reducible rfl))
  try simp only [Act.put, List.setIfInBounds_toArray, List.set_cons_zero, List.set_cons_succ]
  refine wpAnyH_ready (rs := [5]) (by kernel_rfl) (by simp) ?_
  refine ready_at rfl (fun K hK => ?_)
  go_simp
  go_wp2_with (go_at_call 34; refine (HR.out _ _ _ (D1.out.drewN _).rc).mono ?_; rintro r w2 ⟨u2, rfl, hown2, hC2, hG2⟩; have D2 := Lib.hid ((D1.out.drewN _).r hC2 hG2); have c2 := KD.out _ _ _ _ _ D2.out; have hown3 := own_behind hown D1.out.rc.1 (only_drew_left hG2); have hcv3 := conv_as hsG (conv_own hown3); have hcv2 := conv_as hsG (conv_own hown2))
  refine hK.out _ _ ?_ (fun hNew => ?_)
  · exact ⟨c2, hcv3⟩
  clear hHeld hK K
  rename _ => hHeld
  clear hG2 hC2 hcv c1 hown
  refine wpAnyH_turn (S' := fun W => (W.cell? ⟨w.heap.size, 1, none⟩ = some (.int .u64 (n : Int)) ∧ (convert 22 9 u).run Try.prog W = .ok (.string sG) W) ∧ (convert 22 9 u2).run Try.prog W = .ok (.string sG) W) (fun _ h => h.1) _ _ _ _ ?_
  have hTurn := And.intro (And.intro c2 hcv3) hcv2
  clear hHeld
  rename _ => hHeld
  refine take_at (i := 6) (v := ?_) rfl (by kernel_rfl) (by kernel_rfl) (by kernel_rfl) (fun _ _ _ h => h) (Or.inl ⟨by rfl, ?_⟩) hHeld ?_
  rotate_left
  · (intro wS hSw; (try dsimp only at hSw); go_simp; (try with_reducible rfl))
  try simp only [Act.put, List.setIfInBounds_toArray, List.set_cons_zero, List.set_cons_succ]
  refine take_at (i := 7) (v := ?_) rfl (by kernel_rfl) (by kernel_rfl) (by kernel_rfl) (fun _ _ _ h => h) (Or.inl ⟨by rfl, ?_⟩) hHeld ?_
  rotate_left
  · (intro wS hSw; (try dsimp only at hSw); go_simp; (try with_reducible rfl))
  try simp only [Act.put, List.setIfInBounds_toArray, List.set_cons_zero, List.set_cons_succ]
  refine take_at (i := 8) (v := ?_) rfl (by kernel_rfl) (by kernel_rfl) (by kernel_rfl) (fun _ _ _ h => h) (Or.inl ⟨by rfl, ?_⟩) hHeld ?_
  rotate_left
  · (intro wS hSw; (try dsimp only at hSw); go_simp; (try with_reducible rfl))
  try simp only [Act.put, List.setIfInBounds_toArray, List.set_cons_zero, List.set_cons_succ]
  refine wpAnyH_done (by kernel_rfl) ?_ _
  clear hHeld hcv3 hcv2 c2 hown2
  have D3 := D2
  clear D1 D0 D2
  rcases hown3.2 with ⟨rfl, h0⟩ | ⟨g, cap, cur, rfl, hg, _⟩
  · go_wp2
    refine wp_loop_rounds 1 ?_
    rw [rounds_succ]
    go_wp2
    go_ret
    exact D3.out.done
  · have hg1 : w.heap.size + 1 ≤ g := by simpa using hg
    have HO := Lib.hid (own_base hown3 (Nat.zero_le _))
    have HB := Lib.hid (show B ≤ w.heap.size + 1 by omega)
    clear hown3 hg
    generalize nextGot l a e n = got at HO hgb ⊢
    have HN := Lib.hid (show got.length ≤ 140737488355328 from hgb)
    go_wp2
    go_loopw [43] (fun i wr => ∃ k : Nat, k ≤ got.length ∧ i = .int .i64 k ∧ (∃ m : List UInt8, m.length = got.length ∧ Hid (Own wr 0 (.slice (some ⟨g, 0, none⟩) m.length cap) m)) ∧ Hid (DS B w wr gc vc gr vr l (nextAt l a e n) (nextErr l a e n) (nextAt l a e n) (nextErr l a e n) w.heap.size 1 n)) (fun i _ => got.length - (intOf i).toNat)
    case atStart => exact ⟨0, Nat.zero_le _, rfl, ⟨got, rfl, HO⟩, D3⟩
    case round =>
      obtain ⟨k, hk, rfl, ⟨m, hm, hO⟩, hD⟩ := hrel
      clear HO D3
      by_cases hlt : k < got.length
      · have hkm : k < m.length := by omega
        have hx := byte_inc m[k]
        have HS := Lib.hid (own_set (k := k) hO.out _ _ hx)
        have hcell := hO.out.cells (g := g) rfl k (.int .u8 (m[k].toNat : Int)) (by rw [u8s_get, List.getElem?_eq_getElem hkm]; rfl)
        rw [addr_add, Nat.zero_add] at hcell
        have hfr := hO.out.frozenAt k
        have HM := Lib.hid hm
        clear hx hm
        go_wp2
        go_roundw
        case rel => exact ⟨k + 1, by omega, by go_num, ⟨m.set k (UInt8.ofNat ((m[k].toNat + 1) % 256)), (by rw [List.length_set]; exact HM.out), Lib.hid (by rw [List.length_set]; exact HS.out.1)⟩, Lib.hid (hD.out.row HS.out.2 hg1 HB.out (by have := H1.out; omega) (by have := H2.out; omega) (by omega) (fun q hq => by have := H3.out q hq; omega) (fun q hq => by have := H4.out q hq; omega))⟩
        case measure => simp [intOf]; omega
      · go_wp2
        go_ret
        exact hD.out.done

end Go.Proofs.Ytphnifkmcppflaa
