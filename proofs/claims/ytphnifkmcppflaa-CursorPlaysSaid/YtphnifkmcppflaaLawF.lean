/-
  The walk of CursorPlays: whatever is asked of a cursor over whatever bytes, it answers as the document's own does.
-/
import Derived.Test.YtphnifkmcppflaaDoesC
namespace Go.Proofs.Ytphnifkmcppflaa
open Go Go.RowKit
set_option linter.unusedSimpArgs false
attribute [local go_sem ↓] Go.wp_at_zero Go.wp_at_succ

/-- The calls that came in: cells of a row, two a call. -/
def Asks (w : World) (A : Option Addr) (len : Nat) : Prop :=
  0 < len → ∃ b o, A = some ⟨b, o, none⟩ ∧ b < w.heap.size ∧ ∀ i, i < len → ∃ (kind : Int) (n : Nat), (Lit.int .i64 kind).wf = true ∧ n < two64 ∧
    w.cell? ⟨b, o + i * 2, none⟩ = some (.int .i64 kind) ∧ w.cell? ⟨b, o + i * 2 + 1, none⟩ = some (.int .u64 (n : Int))

theorem does_any {B : Nat} {w : World} {gc : Nat} {vc : Value} {gr : Nat} {vr : Value} {l : List UInt8} {a : Nat} {e : Int} (hc : Cur w gc vc l a e) (hr : RC w gr vr l a e) (h1 : B ≤ gc) (h2 : B ≤ gr) (hB : B ≤ w.heap.size) (hlen : l.length ≤ 140737488355328) (kind : Int) (n : Nat) (hn : n < two64) :
    Calls Try.prog 11 #[.agg #[.int .i64 kind, .int .u64 (n : Int)], .pointer (some ⟨gc, 0, none⟩), .pointer (some ⟨gr, 0, none⟩)] w (Does B w gc vc gr vr l) := by
  by_cases hk : kind < 0 ∨ 8 < kind
  · exact does_none hc hr h1 h2 hB kind hk n
  · have hk9 : kind = 0 ∨ kind = 1 ∨ kind = 2 ∨ kind = 3 ∨ kind = 4 ∨ kind = 5 ∨ kind = 6 ∨ kind = 7 ∨ kind = 8 := by omega
    rcases hk9 with rfl | rfl | rfl | rfl | rfl | rfl | rfl | rfl | rfl
    · exact does_uint hc hr h1 h2 hB hlen n
    · exact does_bytes hc hr h1 h2 hB hlen n
    · exact does_sub hc hr h1 h2 hB hlen n
    · exact does_seek hc hr h1 h2 hB hlen n hn
    · exact does_fail hc hr h1 h2 hB n hn
    · exact does_u8 hc hr h1 h2 hB hlen n
    · exact does_u16 hc hr h1 h2 hB hlen n
    · exact does_u32 hc hr h1 h2 hB hlen n
    · exact does_u64 hc hr h1 h2 hB hlen n

/-- What the law's own loop keeps. -/
def St (w0 w : World) (gc : Nat) (vc : Value) (gr : Nat) (vr : Value) (l : List UInt8) : Prop :=
  (∃ a e, Cur w gc vc l a e ∧ RC w gr vr l a e) ∧ Below w0.heap.size w0 w

theorem byte_turn (b : UInt8) : bits .xor .u8 (b.toNat : Int) 255 = ((UInt8.ofNat (b.toNat ^^^ 255)).toNat : Int) := by
  have hb := b.toNat_lt
  have hx : b.toNat ^^^ 255 < 2 ^ 8 := Nat.xor_lt_two_pow (by omega) (by omega)
  have h : (UInt8.ofNat (b.toNat ^^^ 255)).toNat = b.toNat ^^^ 255 := by simp
  rw [h]
  exact u8_xor_nat b.toNat 255 (by omega) (by omega)

/-- Two cursors behind a byte that is written below their own blocks. -/
theorem two_row {w0 w w' : World} {gc gr g B1 : Nat} {vc vr : Value} {l : List UInt8} {a a2 : Nat} {e e2 : Int} (h : Cur w gc vc l a e ∧ RC w gr vr l a2 e2 ∧ Below w0.heap.size w0 w) (hG : w.grownBy w' (some g)) (hg0 : w0.heap.size ≤ g) (hg1 : g < B1)
    (hB : B1 ≤ gc ∧ B1 ≤ gr ∧ (∀ q, vc.ownBlock = some q → B1 ≤ q) ∧ (∀ q, vr.ownBlock = some q → B1 ≤ q)) : Cur w' gc vc l a e ∧ RC w' gr vr l a2 e2 ∧ Below w0.heap.size w0 w' := by
  have ne : ∀ (v : Value), (∀ k, v.ownBlock = some k → B1 ≤ k) → v.ownBlock = none ∨ v.ownBlock ≠ some g := fun v hv => by
    rcases hk : v.ownBlock with _ | k
    · exact .inl rfl
    · exact .inr (by have := hv k hk; simp; omega)
  exact ⟨h.1.grown hG (by have := hB.1; simp; omega) (ne vc hB.2.2.1), h.2.1.grown hG (by have := hB.2.1; simp; omega) (ne vr hB.2.2.2), bel_only h.2.2 hG hg0⟩

theorem below_drew_left {B : Nat} {a w : World} {k : Nat} (h : Below B (a.drewN k) w) : Below B a w := ⟨h.os, h.tape, h.output, h.size, h.block⟩

set_option maxHeartbeats 4000000 in
theorem plays_walk (a0 : Option Addr) (len0 cap0 : Nat) (z0 : List Int) (a1 : Option Addr) (len1 cap1 : Nat) (w : World) (w0 : IsRow .u8 w a0 len0 cap0 z0) (hasks : Asks w a1 len1) (hm1 : len1 ≤ maxLen) :
    Calls Try.prog 3 #[.slice a0 len0 cap0, .slice a1 len1 cap1] w fun e w' => e = .returned (.bool true) ∧ Below w.heap.size w w' := by
  obtain ⟨l, hlen, hrd, hlc, hcm⟩ := row_bytes w0
  clear w0
  obtain ⟨i0, hi, hz0, hz1, hz2⟩ := info_parts u8_info
  by_cases hbig : 5000 < len0
  · have hW := works_any w
    have hd : decide ((5000 : Int) < (len0 : Int)) = true := by simp; omega
    go_enter Try.func3, Try.ntmps3
    go_wp2_with (go_at_call 9; refine hW.mono ?_; rintro r w1 ⟨rfl, hb1⟩)
    go_ret
    exact ⟨rfl, hb1⟩
  · have hd : decide ((5000 : Int) < (len0 : Int)) = false := by simp; omega
    have hl0 : (len0 : Int) ≤ 5000 := by omega
    have HR := Lib.hid (fun (W : World) (hW : Below w.heap.size w W) => hrd.below hW)
    have hsum : ([] : List UInt8).length + l.length ≤ 140737488355328 := by simp; omega
    have HL := Lib.hid hlen
    have HLL := Lib.hid (show l.length ≤ 140737488355328 by omega)
    have HLB := Lib.hid (show ([] ++ l).length ≤ 140737488355328 by simp; omega)
    unfold maxLen at hm1
    clear hlen hrd
    go_enter Try.func3, Try.ntmps3
    go_wp2_with (at_builtin; refine wpList_append_bytes (by rfl) (.tmp 14) (.tmp 15) _ (by rfl) w.heap.size i0 Try.underlying22 hi hz0 hz1 hz2 (.slice (some ⟨w.heap.size, 0, none⟩) 0 0) [] (by rfl) (own_new w) w.heap.size a0 len0 cap0 l HL.out (by rfl) (HR.out _ ((Below.refl _ _).alloc (Nat.le_refl _) _)) hsum (by simp) ?_; intro v1 w1 hownA hg1 hat1; have hb1 : Hid (Below w.heap.size w w1) := Lib.hid (((Below.refl _ _).alloc (Nat.le_refl _) _).grown hg1 (by simp) (by simp [Value.ownBlock])); have hown1 : Hid (Own w1 w.heap.size v1 l) := Lib.hid hownA; (obtain ⟨A1, c1, rfl, _, _, _⟩ := own_slice hown1.out); clear hg1 hat1 hownA)
    refine (new_own hown1.out HLL.out).mono ?_
    rintro r w2 ⟨gc, vc, rfl, hMc, hb2⟩
    have hB2 := Lib.hid (hb1.out.trans (hb2.mono hb1.out.size))
    have hown2 := Lib.hid (own_below hown1.out hb2)
    have hO1 := Lib.hid (own_ge hown1.out)
    have HMc := Lib.hid hMc
    have hs2 := Lib.hid hb2.size
    clear hown1 hMc hb2
    go_wp2_with (at_builtin; refine wpList_append_bytes (by rfl) (.tmp 19) (.tmp 20) _ (by rfl) w2.heap.size i0 Try.underlying22 hi hz0 hz1 hz2 (.slice (some ⟨w2.heap.size, 0, none⟩) 0 0) [] (by rfl) (own_new w2) w.heap.size a0 len0 cap0 l HL.out (by rfl) (HR.out _ (hB2.out.alloc hB2.out.size _)) hsum (by simp) ?_; intro v2 w3 hownB hg3 hat3; have hb3 := Lib.hid (show Below w2.heap.size w2 w3 from ((Below.refl _ _).alloc (Nat.le_refl _) _).grown hg3 (by simp) (by simp [Value.ownBlock])); have hown3 : Hid (Own w3 w2.heap.size v2 l) := Lib.hid hownB; (obtain ⟨A2, c2, rfl, _, _, _⟩ := own_slice hown3.out); clear hg3 hat3 hownB)
    have hB4 : Hid (Below w.heap.size w w3) := Lib.hid (hB2.out.trans (hb3.out.mono hB2.out.size))
    have HCur : Hid (Cur (w3.alloc (.cells #[.slice A2 l.length c2, .int .i64 0, .int .i64 0] 29)) gc vc l 0 0) := Lib.hid ((HMc.out.1.below hb3.out).below ((Below.refl _ _).alloc (Nat.le_refl _) _))
    have HRC : Hid (RC (w3.alloc (.cells #[.slice A2 l.length c2, .int .i64 0, .int .i64 0] 29)) w3.heap.size (.slice A2 l.length c2) l 0 0) := Lib.hid (rmade_new hown3.out hb3.out.size 0).1
    have HOwn : Hid (Own (w3.alloc (.cells #[.slice A2 l.length c2, .int .i64 0, .int .i64 0] 29)) w.heap.size (.slice A1 l.length c1) l) := Lib.hid (own_below (own_below hown2.out hb3.out) ((Below.refl _ _).alloc (Nat.le_refl _) _))
    have HBel : Hid (Below w.heap.size w (w3.alloc (.cells #[.slice A2 l.length c2, .int .i64 0, .int .i64 0] 29))) := Lib.hid (hB4.out.alloc hB4.out.size _)
    have HF : Hid (0 < l.length → ∃ g, A1 = some ⟨g, 0, none⟩ ∧ w.heap.size ≤ g ∧ g < w1.heap.size) := Lib.hid (fun h0 => by
      obtain ⟨g, cap, hv, h1, _⟩ := hown2.out.form h0
      injection hv with hv _ _
      subst hv
      exact ⟨g, rfl, h1, (hO1.out g rfl).2⟩)
    have G1 : Hid (w1.heap.size ≤ gc ∧ w1.heap.size ≤ w3.heap.size ∧ (∀ q, vc.ownBlock = some q → w1.heap.size ≤ q) ∧ (∀ q, (Value.slice A2 l.length c2).ownBlock = some q → w1.heap.size ≤ q)) := Lib.hid
      ⟨HMc.out.2.1, Nat.le_trans hs2.out hb3.out.size, HMc.out.2.2, fun q hq => Nat.le_trans hs2.out (own_ge hown3.out q hq).1⟩
    have G2 : Hid (w.heap.size ≤ gc ∧ w.heap.size ≤ w3.heap.size) := Lib.hid ⟨Nat.le_trans hb1.out.size HMc.out.2.1, Nat.le_trans hb1.out.size (Nat.le_trans hs2.out hb3.out.size)⟩
    have HWK := Lib.hid (fun W => works_any W)
    have hll : (l.length : Int) ≤ 5000 := by have := HL.out; omega
    clear hB4 hB2 hown2 hown3 hb1 hb3 hs2 HMc HR HL hO1
    go_loopw [26] (fun i wr => ∃ k : Nat, k ≤ l.length ∧ i = .int .i64 k ∧ Hid (Cur wr gc vc l 0 0 ∧ RC wr w3.heap.size (.slice A2 l.length c2) l 0 0 ∧ Below w.heap.size w wr) ∧ (∃ m : List UInt8, Hid (m.length = l.length) ∧ Hid (Own wr 0 (.slice A1 m.length c1) m))) (fun i _ => l.length - (intOf i).toNat)
    case atStart => exact ⟨0, Nat.zero_le _, rfl, Lib.hid ⟨HCur.out, HRC.out, HBel.out⟩, l, Lib.hid rfl, Lib.hid (own_base HOwn.out (Nat.zero_le _))⟩
    case round =>
      obtain ⟨k, hk, rfl, hSt, m, hm, hO⟩ := hrel
      clear HCur HRC HBel HOwn
      by_cases hlt : k < l.length
      · obtain ⟨g, hA1, hg0, hg1⟩ := HF.out (by omega)
        subst hA1
        have hkm : k < m.length := by have := hm.out; omega
        have hx := byte_turn m[k]
        have HS := Lib.hid (own_set (k := k) hO.out _ _ hx)
        have hcell := hO.out.cells (g := g) rfl k (.int .u8 (m[k].toNat : Int)) (by rw [u8s_get, List.getElem?_eq_getElem hkm]; rfl)
        rw [addr_add, Nat.zero_add] at hcell
        have hfr := hO.out.frozenAt k
        clear hx
        go_wp2
        go_roundw
        case rel => exact ⟨k + 1, by omega, by go_num, Lib.hid (two_row hSt.out HS.out.2 hg0 hg1 G1.out), m.set k (UInt8.ofNat (m[k].toNat ^^^ 255)), Lib.hid (by rw [List.length_set]; exact hm.out), Lib.hid (by rw [List.length_set]; exact HS.out.1)⟩
        case measure => simp [intOf]; omega
      · have HStart := hSt
        clear hm hO hSt HF G1
        go_wp2
        have HD := Lib.hid (fun W a e kind n hn (hc : Cur W gc vc l a e) (hr : RC W w3.heap.size (.slice A2 l.length c2) l a e) (hW : w.heap.size ≤ W.heap.size) => does_any hc hr G2.out.1 G2.out.2 hW HLL.out kind n hn)
        go_loopw [9] (fun i wr => ∃ k : Nat, k ≤ 60 ∧ k ≤ len1 ∧ i = .int .i64 k ∧ Hid ((∃ a e, Cur wr gc vc l a e ∧ RC wr w3.heap.size (.slice A2 l.length c2) l a e) ∧ Below w.heap.size w wr)) (fun i _ => 60 - (intOf i).toNat)
        case atStart => exact ⟨0, by omega, Nat.zero_le _, rfl, Lib.hid ⟨⟨0, 0, HStart.out.1, HStart.out.2.1⟩, HStart.out.2.2⟩⟩
        case round =>
          obtain ⟨k, hk60, hk1, rfl, hSt⟩ := hrel
          clear HStart
          by_cases hl1 : k < len1
          · by_cases hl6 : k < 60
            · obtain ⟨b, o, hA, hb0, hcells⟩ := hasks (by omega)
              obtain ⟨kind, n, _, hn, ka0, kb0⟩ := hcells k hl1
              subst hA
              obtain ⟨⟨a, e, hc, hr⟩, hB⟩ := hSt.out
              have hCC := Lib.hid hc
              have hRR := Lib.hid hr
              have hB4 := Lib.hid hB
              have HK := Lib.hid (fun (W : World) (hW : Below w.heap.size w W) => And.intro ((hW.cell (p := ⟨b, o + k * 2, none⟩) hb0).trans ka0) ((hW.cell (p := ⟨b, o + k * 2 + 1, none⟩) hb0).trans kb0))
              have ka := (HK.out _ hB).1
              have kb := (HK.out _ hB).2
              have q1 : (0 : Int) ≤ (k : Int) := by omega
              have q2 : (k : Int) < (len1 : Int) := by omega
              clear hcells hc hr hB ka0 kb0 hSt
              go_wp2
              refine wp_region_held_drew (S := fun W => W.cell? ⟨b, o + k * 2, none⟩ = some (.int .i64 kind) ∧ W.cell? ⟨b, o + k * 2 + 1, none⟩ = some (.int .u64 (n : Int))) (by kernel_rfl) (And.intro ka kb) (fun hHeld => ?_)
              refine take_at (i := 0) (v := ?_) rfl (by kernel_rfl) (by kernel_rfl) (by kernel_rfl) (fun _ _ _ h => h) (Or.inl ⟨by rfl, ?_⟩) hHeld ?_
              rotate_left
              · (intro wS hSw; (try dsimp only at hSw); go_simp; (try with_reducible rfl))
              try simp only [Act.put, List.setIfInBounds_toArray, List.set_cons_zero, List.set_cons_succ]
              refine take_at (i := 1) (v := ?_) rfl (by kernel_rfl) (by kernel_rfl) (by kernel_rfl) (fun _ _ _ h => h) (Or.inl ⟨by rfl, ?_⟩) hHeld ?_
              rotate_left
              · (intro wS hSw; (try dsimp only at hSw); go_simp; (try with_reducible rfl))
              try simp only [Act.put, List.setIfInBounds_toArray, List.set_cons_zero, List.set_cons_succ]
              refine take_at (i := 2) (v := ?_) rfl (by kernel_rfl) (by kernel_rfl) (by kernel_rfl) (fun _ _ _ h => h) (Or.inl ⟨by rfl, ?_⟩) hHeld ?_
              rotate_left
              · (intro wS hSw; (try dsimp only at hSw); go_simp; (try with_reducible rfl))
              try simp only [Act.put, List.setIfInBounds_toArray, List.set_cons_zero, List.set_cons_succ]
              refine take_at (i := 3) (v := ?_) rfl (by kernel_rfl) (by kernel_rfl) (by kernel_rfl) (fun _ _ _ h => h) (Or.inl ⟨by rfl, ?_⟩) hHeld ?_
              rotate_left
              · (intro wS hSw; (try dsimp only at hSw); go_simp; (try with_reducible rfl))
              try simp only [Act.put, List.setIfInBounds_toArray, List.set_cons_zero, List.set_cons_succ]
              refine take_at (i := 4) (v := ?_) rfl (by kernel_rfl) (by kernel_rfl) (by kernel_rfl) (fun _ _ _ h => h) (Or.inl ⟨by rfl, ?_⟩) hHeld ?_
              rotate_left
              · (intro wS hSw; (try dsimp only at hSw); go_simp; (try with_reducible rfl))
              try simp only [Act.put, List.setIfInBounds_toArray, List.set_cons_zero, List.set_cons_succ]
              refine take_at (i := 5) (v := ?_) rfl (by kernel_rfl) (by kernel_rfl) (by kernel_rfl) (fun _ _ _ h => h) (Or.inl ⟨by rfl, ?_⟩) hHeld ?_
              rotate_left
              · (intro wS hSw; (try dsimp only at hSw); go_simp; (try with_reducible rfl))
              try simp only [Act.put, List.setIfInBounds_toArray, List.set_cons_zero, List.set_cons_succ]
              refine wpAnyH_ready (rs := [6]) (by kernel_rfl) (by simp) ?_
              refine ready_at rfl (fun K hK => ?_)
              go_simp
              go_wp2_with (go_at_call 11; refine (HD.out _ _ _ kind n hn (hCC.out.drewN _) (hRR.out.drewN _) (by simpa using hB4.out.size)).mono ?_; rintro r w5 ⟨rfl, ⟨a', e', hC2, hR2⟩, hB5⟩; have hB6 := Lib.hid (hB4.out.trans (below_drew_left hB5)); have hHeld2 := HK.out _ hB6.out)
              refine hK.out _ _ ?_ (fun hNew => ?_)
              · exact hHeld2
              clear hHeld hK K
              rename _ => hHeld
              have y1 := hR2.1.cell 1
              have y2 := hR2.1.cell 2
              simp at y1 y2
              have HC2 := Lib.hid hC2
              have HR2 := Lib.hid hR2
              clear hC2 hR2 hB5 ka kb
              refine wpAnyH_turn (S' := fun W => (W.cell? ⟨b, o + k * 2, none⟩ = some (.int .i64 kind) ∧ W.cell? ⟨b, o + k * 2 + 1, none⟩ = some (.int .u64 (n : Int))) ∧ W.cell? ⟨w3.heap.size, 1, none⟩ = some (.int .i64 (a' : Int)) ∧ W.cell? ⟨w3.heap.size, 2, none⟩ = some (.int .i64 e')) (fun _ h => h.1) _ _ _ _ ?_
              have hTurn := And.intro hHeld2 (And.intro y1 y2)
              clear hHeld
              rename _ => hHeld
              clear y1 y2 hHeld2
              refine take_at (i := 7) (v := ?_) rfl (by kernel_rfl) (by kernel_rfl) (by kernel_rfl) (fun _ _ _ h => h) (Or.inl ⟨by rfl, ?_⟩) hHeld ?_
              rotate_left
              · (intro wS hSw; (try dsimp only at hSw); go_simp; (try with_reducible rfl))
              try simp only [Act.put, List.setIfInBounds_toArray, List.set_cons_zero, List.set_cons_succ]
              refine take_at (i := 8) (v := ?_) rfl (by kernel_rfl) (by kernel_rfl) (by kernel_rfl) (fun _ _ _ h => h) (Or.inl ⟨by rfl, ?_⟩) hHeld ?_
              rotate_left
              · (intro wS hSw; (try dsimp only at hSw); go_simp; (try with_reducible rfl))
              try simp only [Act.put, List.setIfInBounds_toArray, List.set_cons_zero, List.set_cons_succ]
              refine take_at (i := 9) (v := ?_) rfl (by kernel_rfl) (by kernel_rfl) (by kernel_rfl) (fun _ _ _ h => h) (Or.inl ⟨by rfl, ?_⟩) hHeld ?_
              rotate_left
              · (intro wS hSw; (try dsimp only at hSw); go_simp; (try with_reducible rfl))
              try simp only [Act.put, List.setIfInBounds_toArray, List.set_cons_zero, List.set_cons_succ]
              refine take_at (i := 11) (v := ?_) rfl (by kernel_rfl) (by kernel_rfl) (by kernel_rfl) (fun _ _ _ h => h) (Or.inl ⟨by rfl, ?_⟩) hHeld ?_
              rotate_left
              · (intro wS hSw; (try dsimp only at hSw); go_simp; (try with_reducible rfl))
              try simp only [Act.put, List.setIfInBounds_toArray, List.set_cons_zero, List.set_cons_succ]
              refine take_at (i := 12) (v := ?_) rfl (by kernel_rfl) (by kernel_rfl) (by kernel_rfl) (fun _ _ _ h => h) (Or.inl ⟨by rfl, ?_⟩) hHeld ?_
              rotate_left
              · (intro wS hSw; (try dsimp only at hSw); go_simp; (try with_reducible rfl))
              try simp only [Act.put, List.setIfInBounds_toArray, List.set_cons_zero, List.set_cons_succ]
              refine take_at (i := 13) (v := ?_) rfl (by kernel_rfl) (by kernel_rfl) (by kernel_rfl) (fun _ _ _ h => h) (Or.inl ⟨by rfl, ?_⟩) hHeld ?_
              rotate_left
              · (intro wS hSw; (try dsimp only at hSw); go_simp; (try with_reducible rfl))
              try simp only [Act.put, List.setIfInBounds_toArray, List.set_cons_zero, List.set_cons_succ]
              refine take_at (i := 14) (v := ?_) rfl (by kernel_rfl) (by kernel_rfl) (by kernel_rfl) (fun _ _ _ h => h) (Or.inl ⟨by rfl, ?_⟩) hHeld ?_
              rotate_left
              · (intro wS hSw; (try dsimp only at hSw); go_simp; (try with_reducible rfl))
              try simp only [Act.put, List.setIfInBounds_toArray, List.set_cons_zero, List.set_cons_succ]
              refine wpAnyH_ready (rs := [10]) (by kernel_rfl) (by simp) ?_
              refine ready_at rfl (fun K hK => ?_)
              go_simp
              go_wp2_with (go_at_call 12; refine (at_cur HC2.out).mono ?_; rintro r w6 ⟨rfl, rfl⟩)
              refine hK.out _ _ ?_ (fun hNew => ?_)
              · (first | exact hHeld | simpa using hHeld)
              clear hHeld hK K
              rename _ => hHeld
              refine take_at (i := 15) (v := ?_) rfl (by kernel_rfl) (by kernel_rfl) (by kernel_rfl) (fun _ _ _ h => h) (Or.inl ⟨by rfl, ?_⟩) hHeld ?_
              rotate_left
              · (intro wS hSw; (try dsimp only at hSw); go_simp; (try with_reducible rfl))
              try simp only [Act.put, List.setIfInBounds_toArray, List.set_cons_zero, List.set_cons_succ]
              refine take_at (i := 16) (v := ?_) rfl (by kernel_rfl) (by kernel_rfl) (by kernel_rfl) (fun _ _ _ h => h) (Or.inl ⟨by rfl, ?_⟩) hHeld ?_
              rotate_left
              · (intro wS hSw; (try dsimp only at hSw); go_simp; (try with_reducible rfl))
              try simp only [Act.put, List.setIfInBounds_toArray, List.set_cons_zero, List.set_cons_succ]
              refine take_at (i := 17) (v := ?_) rfl (by kernel_rfl) (by kernel_rfl) (by kernel_rfl) (fun _ _ _ h => h) (Or.inl ⟨by rfl, ?_⟩) hHeld ?_
              rotate_left
              · (intro wS hSw; (try dsimp only at hSw); go_simp; (try with_reducible rfl))
              try simp only [Act.put, List.setIfInBounds_toArray, List.set_cons_zero, List.set_cons_succ]
              refine take_at (i := 18) (v := ?_) rfl (by kernel_rfl) (by kernel_rfl) (by kernel_rfl) (fun _ _ _ h => h) (Or.inl ⟨by rfl, ?_⟩) hHeld ?_
              rotate_left
              · (intro wS hSw; (try dsimp only at hSw); go_simp; (try with_reducible rfl))
              try simp only [Act.put, List.setIfInBounds_toArray, List.set_cons_zero, List.set_cons_succ]
              refine take_at (i := 20) (v := ?_) rfl (by kernel_rfl) (by kernel_rfl) (by kernel_rfl) (fun _ _ _ h => h) (Or.inl ⟨by rfl, ?_⟩) hHeld ?_
              rotate_left
              · (intro wS hSw; (try dsimp only at hSw); go_simp; (try with_reducible rfl))
              try simp only [Act.put, List.setIfInBounds_toArray, List.set_cons_zero, List.set_cons_succ]
              refine wpAnyH_ready (rs := [19]) (by kernel_rfl) (by simp) ?_
              refine ready_at rfl (fun K hK => ?_)
              go_simp
              go_wp2_with (go_at_call 13; refine (left_cur HC2.out).mono ?_; rintro r w6 ⟨rfl, k6, rfl⟩)
              refine hK.out _ _ ?_ (fun hNew => ?_)
              · (first | exact hHeld | simpa using hHeld)
              clear hHeld hK K
              rename _ => hHeld
              refine wpAnyH_ready (rs := [21]) (by kernel_rfl) (by simp) ?_
              refine ready_at rfl (fun K hK => ?_)
              go_simp
              go_wp2_with (go_at_call 14; refine (rleft_cur (HR2.out.drewN _)).mono ?_; rintro r w7 ⟨rfl, k7, rfl⟩)
              refine hK.out _ _ ?_ (fun hNew => ?_)
              · (first | exact hHeld | simpa using hHeld)
              clear hHeld hK K
              rename _ => hHeld
              refine take_at (i := 22) (v := ?_) rfl (by kernel_rfl) (by kernel_rfl) (by kernel_rfl) (fun _ _ _ h => h) (Or.inl ⟨by rfl, ?_⟩) hHeld ?_
              rotate_left
              · (intro wS hSw; (try dsimp only at hSw); go_simp; (try with_reducible rfl))
              try simp only [Act.put, List.setIfInBounds_toArray, List.set_cons_zero, List.set_cons_succ]
              refine take_at (i := 23) (v := ?_) rfl (by kernel_rfl) (by kernel_rfl) (by kernel_rfl) (fun _ _ _ h => h) (Or.inl ⟨by rfl, ?_⟩) hHeld ?_
              rotate_left
              · (intro wS hSw; (try dsimp only at hSw); go_simp; (try with_reducible rfl))
              try simp only [Act.put, List.setIfInBounds_toArray, List.set_cons_zero, List.set_cons_succ]
              refine take_at (i := 24) (v := ?_) rfl (by kernel_rfl) (by kernel_rfl) (by kernel_rfl) (fun _ _ _ h => h) (Or.inl ⟨by rfl, ?_⟩) hHeld ?_
              rotate_left
              · (intro wS hSw; (try dsimp only at hSw); go_simp; (try with_reducible rfl))
              try simp only [Act.put, List.setIfInBounds_toArray, List.set_cons_zero, List.set_cons_succ]
              refine take_at (i := 25) (v := ?_) rfl (by kernel_rfl) (by kernel_rfl) (by kernel_rfl) (fun _ _ _ h => h) (Or.inl ⟨by rfl, ?_⟩) hHeld ?_
              rotate_left
              · (intro wS hSw; (try dsimp only at hSw); go_simp; (try with_reducible rfl))
              try simp only [Act.put, List.setIfInBounds_toArray, List.set_cons_zero, List.set_cons_succ]
              refine take_at (i := 27) (v := ?_) rfl (by kernel_rfl) (by kernel_rfl) (by kernel_rfl) (fun _ _ _ h => h) (Or.inl ⟨by rfl, ?_⟩) hHeld ?_
              rotate_left
              · (intro wS hSw; (try dsimp only at hSw); go_simp; (try with_reducible rfl))
              try simp only [Act.put, List.setIfInBounds_toArray, List.set_cons_zero, List.set_cons_succ]
              refine take_at (i := 28) (v := ?_) rfl (by kernel_rfl) (by kernel_rfl) (by kernel_rfl) (fun _ _ _ h => h) (Or.inl ⟨by rfl, ?_⟩) hHeld ?_
              rotate_left
              · (intro wS hSw; (try dsimp only at hSw); go_simp; (try with_reducible rfl))
              try simp only [Act.put, List.setIfInBounds_toArray, List.set_cons_zero, List.set_cons_succ]
              refine take_at (i := 29) (v := ?_) rfl (by kernel_rfl) (by kernel_rfl) (by kernel_rfl) (fun _ _ _ h => h) (Or.inl ⟨by rfl, ?_⟩) hHeld ?_
              rotate_left
              · (intro wS hSw; (try dsimp only at hSw); go_simp; (try with_reducible rfl))
              try simp only [Act.put, List.setIfInBounds_toArray, List.set_cons_zero, List.set_cons_succ]
              refine take_at (i := 30) (v := ?_) rfl (by kernel_rfl) (by kernel_rfl) (by kernel_rfl) (fun _ _ _ h => h) (Or.inl ⟨by rfl, ?_⟩) hHeld ?_
              rotate_left
              · (intro wS hSw; (try dsimp only at hSw); go_simp; (try with_reducible rfl))
              try simp only [Act.put, List.setIfInBounds_toArray, List.set_cons_zero, List.set_cons_succ]
              refine wpAnyH_ready (rs := [26]) (by kernel_rfl) (by simp) ?_
              refine ready_at rfl (fun K hK => ?_)
              go_simp
              go_wp2_with (go_at_call 15; refine (err_cur (HC2.out.drewN _)).mono ?_; rintro r w8 ⟨rfl, rfl⟩)
              refine hK.out _ _ ?_ (fun hNew => ?_)
              · (first | exact hHeld | simpa using hHeld)
              clear hHeld hK K
              rename _ => hHeld
              refine take_at (i := 31) (v := ?_) rfl (by kernel_rfl) (by kernel_rfl) (by kernel_rfl) (fun _ _ _ h => h) (Or.inl ⟨by rfl, ?_⟩) hHeld ?_
              rotate_left
              · (intro wS hSw; (try dsimp only at hSw); go_simp; (try with_reducible rfl))
              try simp only [Act.put, List.setIfInBounds_toArray, List.set_cons_zero, List.set_cons_succ]
              refine take_at (i := 32) (v := ?_) rfl (by kernel_rfl) (by kernel_rfl) (by kernel_rfl) (fun _ _ _ h => h) (Or.inl ⟨by rfl, ?_⟩) hHeld ?_
              rotate_left
              · (intro wS hSw; (try dsimp only at hSw); go_simp; (try with_reducible rfl))
              try simp only [Act.put, List.setIfInBounds_toArray, List.set_cons_zero, List.set_cons_succ]
              refine take_at (i := 33) (v := ?_) rfl (by kernel_rfl) (by kernel_rfl) (by kernel_rfl) (fun _ _ _ h => h) (Or.inl ⟨by rfl, ?_⟩) hHeld ?_
              rotate_left
              · (intro wS hSw; (try dsimp only at hSw); go_simp; (try with_reducible rfl))
              try simp only [Act.put, List.setIfInBounds_toArray, List.set_cons_zero, List.set_cons_succ]
              refine take_at (i := 34) (v := ?_) rfl (by kernel_rfl) (by kernel_rfl) (by kernel_rfl) (fun _ _ _ h => h) (Or.inl ⟨by rfl, ?_⟩) hHeld ?_
              rotate_left
              · (intro wS hSw; (try dsimp only at hSw); go_simp; (try with_reducible rfl))
              try simp only [Act.put, List.setIfInBounds_toArray, List.set_cons_zero, List.set_cons_succ]
              refine take_at (i := 36) (v := ?_) rfl (by kernel_rfl) (by kernel_rfl) (by kernel_rfl) (fun _ _ _ h => h) (Or.inl ⟨by rfl, ?_⟩) hHeld ?_
              rotate_left
              · (intro wS hSw; (try dsimp only at hSw); go_simp; (try with_reducible rfl))
              try simp only [Act.put, List.setIfInBounds_toArray, List.set_cons_zero, List.set_cons_succ]
              refine wpAnyH_ready (rs := [35]) (by kernel_rfl) (by simp) ?_
              refine ready_at rfl (fun K hK => ?_)
              go_simp
              go_wp2_with (go_at_call 16; refine (end_cur (HC2.out.drewN _)).mono ?_; rintro r w9 ⟨rfl, k9, rfl⟩)
              refine hK.out _ _ ?_ (fun hNew => ?_)
              · (first | exact hHeld | simpa using hHeld)
              clear hHeld hK K
              rename _ => hHeld
              refine wpAnyH_ready (rs := [37]) (by kernel_rfl) (by simp) ?_
              refine ready_at rfl (fun K hK => ?_)
              go_simp
              go_wp2_with (go_at_call 17; refine (rend_cur (HR2.out.drewN _)).mono ?_; rintro r w9 ⟨rfl, k10, rfl⟩)
              refine hK.out _ _ ?_ (fun hNew => ?_)
              · (first | exact hHeld | simpa using hHeld)
              clear hHeld hK K
              rename _ => hHeld
              refine take_at (i := 38) (v := ?_) rfl (by kernel_rfl) (by kernel_rfl) (by kernel_rfl) (fun _ _ _ h => h) (Or.inl ⟨by rfl, ?_⟩) hHeld ?_
              rotate_left
              · (intro wS hSw; (try dsimp only at hSw); go_simp; (try with_reducible rfl))
              try simp only [Act.put, List.setIfInBounds_toArray, List.set_cons_zero, List.set_cons_succ]
              refine take_at (i := 39) (v := ?_) rfl (by kernel_rfl) (by kernel_rfl) (by kernel_rfl) (fun _ _ _ h => h) (Or.inl ⟨by rfl, ?_⟩) hHeld ?_
              rotate_left
              · (intro wS hSw; (try dsimp only at hSw); go_simp; (try with_reducible rfl))
              try simp only [Act.put, List.setIfInBounds_toArray, List.set_cons_zero, List.set_cons_succ]
              refine wpAnyH_done (by kernel_rfl) ?_ _
              clear hHeld
              go_wp2
              go_roundw
              case rel => exact ⟨k + 1, by omega, by omega, by go_num, Lib.hid ⟨⟨a', e', HC2.out.drewN _, HR2.out.drewN _⟩, below_drewN hB6.out _⟩⟩
              case measure => simp [intOf]; omega
            · go_wp2_with (go_at_call 9; refine (HWK.out _).mono ?_; rintro r w' ⟨rfl, hb9⟩)
              go_ret
              exact ⟨rfl, hSt.out.2.trans (hb9.mono hSt.out.2.size)⟩
          · have hge : len1 ≤ k := by omega
            go_wp2_with (go_at_call 9; refine (HWK.out _).mono ?_; rintro r w' ⟨rfl, hb9⟩)
            go_ret
            exact ⟨rfl, hSt.out.2.trans (hb9.mono hSt.out.2.size)⟩

end Go.Proofs.Ytphnifkmcppflaa
