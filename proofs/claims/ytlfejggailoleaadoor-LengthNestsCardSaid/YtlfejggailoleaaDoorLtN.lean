/-
  The walk of LengthNests: what is wrapped in what is wrapped, in whichever forms, is taken out again, one by one, with nothing left.
-/
import Derived.Test.YtlfejggailoleaaDoorLtQ
namespace Go.Proofs.YtlfejggailoleaaDoor
open Go Go.RowKit

/-- Bools that came in: z, in a row of cells that lay there when the call began. -/
def IsBools (w : World) (a : Option Addr) (len cap : Nat) (z : List Bool) : Prop :=
  z.length = len ∧ len ≤ cap ∧ (0 < len → ∃ b o, a = some ⟨b, o, none⟩ ∧ b < w.heap.size ∧ ∀ j u, z[j]? = some u → w.cell? ⟨b, o + j, none⟩ = some (.bool u))

/-- Bytes wrapped again and again. -/
def nest (body : List UInt8) (ws : List Bool) : List UInt8 := ws.foldl (fun b u => lenB b.length u ++ b) body
theorem some_getD (ws : List Bool) (k : Nat) (hk : k < ws.length) : ws[k]? = some (ws.getD k false) := by
  rw [List.getElem?_eq_getElem hk]
  simp [List.getD, hk]
theorem nest_snoc (body : List UInt8) (ws : List Bool) (k : Nat) (hk : k < ws.length) : nest body (ws.take (k + 1)) = lenB (nest body (ws.take k)).length (ws.getD k false) ++ nest body (ws.take k) := by
  have e : ws.getD k false = ws[k] := by simp [List.getD, hk]
  unfold nest
  rw [List.take_succ_eq_append_getElem hk, List.foldl_append, e]
  rfl
theorem nest_le (body : List UInt8) (ws : List Bool) (k : Nat) (hk : k ≤ ws.length) : (nest body (ws.take k)).length ≤ body.length + 12 * k := by
  induction k with
  | zero => simp [nest]
  | succ k ih =>
    rw [nest_snoc body ws k (by omega)]
    have := ih (by omega)
    have := lenB_le (nest body (ws.take k)).length (ws.getD k false)
    rw [List.length_append]
    omega
theorem nest_nil (body : List UInt8) (ws : List Bool) : nest body (ws.take 0) = body := rfl

theorem end_back (body r : List UInt8) (wide : Bool) (h : r = []) : endOf (lenB body.length wide ++ (body ++ r)) ((lenB body.length wide).length + body.length) 0 = 0 := by
  subst h
  unfold endOf leftOf
  simp

set_option maxHeartbeats 4000000 in
set_option maxRecDepth 10000 in
theorem lnests_walk (a0 : Option Addr) (len0 cap0 : Nat) (z0 : List Int) (a1 : Option Addr) (len1 cap1 : Nat) (ws : List Bool) (w : World) (hs : Sz w) (w0 : IsRow .u8 w a0 len0 cap0 z0) (w1 : IsBools w a1 len1 cap1 ws) :
    Calls Tryd.prog 6 #[.slice a0 len0 cap0, .slice a1 len1 cap1] w fun e w' => e = .returned (.bool true) ∧ Below w.heap.size w w' := by
  obtain ⟨l, hlen, hrd, hlc, hcm⟩ := row_bytes w0
  obtain ⟨hwl, hwc, hrow⟩ := w1
  clear w0 hlc hcm
  have hW := Lib.hid (works_len hs)
  by_cases hbig : 2000 < len0
  · have hd : decide ((2000 : Int) < (len0 : Int)) = true := by simp; omega
    clear hs hrow
    go_enter Tryd.func6, Tryd.ntmps6
    go_wp2_with (go_at_call 7; refine hW.out.mono ?_; rintro r w1 ⟨rfl, hb1⟩)
    go_ret
    exact ⟨rfl, hb1⟩
  · have hd : decide ((2000 : Int) < (len0 : Int)) = false := by simp; omega
    by_cases hbig2 : 20 < len1
    · have hd2 : decide ((20 : Int) < (len1 : Int)) = true := by simp; omega
      clear hs hrow
      go_enter Tryd.func6, Tryd.ntmps6
      go_wp2_with (go_at_call 7; refine hW.out.mono ?_; rintro r w1 ⟨rfl, hb1⟩)
      go_ret
      exact ⟨rfl, hb1⟩
    · have hd2 : decide ((20 : Int) < (len1 : Int)) = false := by simp; omega
      have hN20 : len1 ≤ 20 := by omega
      have hsz : ∀ k, k ≤ len1 → (nest l (ws.take k)).length ≤ 1000000 := fun k hk => by
        have := nest_le l ws k (by omega)
        omega
      have HCELL := Lib.hid (fun (W : World) (hb : Below w.heap.size w W) (k : Nat) (hk : k < len1) => (show ∃ b o, a1 = some ⟨b, o, none⟩ ∧ W.cell? ⟨b, o + k, none⟩ = some (.bool (ws.getD k false)) from by
        obtain ⟨b, o, e, hlt, hc⟩ := hrow (by omega)
        exact ⟨b, o, e, (hb.cell (p := ⟨b, o + k, none⟩) hlt).trans (hc k _ (some_getD ws k (by omega)))⟩))
      obtain ⟨sB, hsB⟩ : ∃ s : ByteArray, s = ⟨l.toArray⟩ := ⟨_, rfl⟩
      have KS := Lib.hid (fun (W : World) (hW : Below w.heap.size w W) => (⟨hW, by rw [← hlen, hsB]; exact conv_rd (hrd.below hW) cap0⟩ : Below w.heap.size w W ∧ (convert 22 9 (.slice a0 len0 cap0)).run Tryd.prog W = .ok (.string sB) W))
      have ES := Lib.hid hsB
      have H0 := Lib.hid (fun (W : World) (hb : Below w.heap.size w W) => (show (nest l (ws.take 0)).length = len0 ∧ Rd W W.heap.size a0 (nest l (ws.take 0)) from ⟨hlen, (hrd.below hb).more hb.size⟩))
      have HA := Lib.hid (fun (W : World) (hb : Below w.heap.size w W) (k : Nat) (hk : k < len1) (A : Option Addr) (n c : Nat) (hR : (nest l (ws.take k)).length = n ∧ Rd W W.heap.size A (nest l (ws.take k))) =>
        (show Calls Tryd.prog 23 #[.slice none 0 0, .bool (ws.getD k false), .slice A n c] W fun r w' => ∃ A' n' c', r = .returned (.tuple #[.slice A' n' c', .int .i64 0]) ∧ ((nest l (ws.take (k + 1))).length = n' ∧ Rd w' w'.heap.size A' (nest l (ws.take (k + 1)))) ∧ Below w.heap.size w w' from by
          have h := wrap_len (hs.below hb hs.pos) (ws.getD k false) hR.2 (Nat.le_refl _) c (hsz k (by omega))
          rw [← nest_snoc l ws k (by omega), hR.1] at h
          refine h.mono ?_
          rintro r w' ⟨v', h1, h2, h3⟩
          obtain ⟨A', c', rfl, _, _, h4⟩ := own_slice h2
          exact ⟨A', _, c', h1, ⟨rfl, h4⟩, hb.trans (h3.mono hb.size)⟩))
      have HN := Lib.hid (fun (W : World) (hb : Below w.heap.size w W) (A : Option Addr) (n c : Nat) (hR : (nest l (ws.take len1)).length = n ∧ Rd W W.heap.size A (nest l (ws.take len1))) =>
        (show Calls Tryd.prog 8 #[.slice A n c] W fun r w' => ∃ g v', r = .returned (.pointer (some ⟨g, 0, none⟩)) ∧ (Cur w' g v' (nest l (ws.take len1)) 0 0 ∧ w.heap.size ≤ g) ∧ Below w.heap.size w w' from by
          have h := new_any c hR.2 (Nat.le_refl _) (by have := hsz len1 (Nat.le_refl _); omega)
          rw [hR.1] at h
          refine h.mono ?_
          rintro r w' ⟨g, v', h1, h2, h3⟩
          exact ⟨g, v', h1, ⟨h2.1, Nat.le_trans hb.size h2.2.1⟩, hb.trans (h3.mono hb.size)⟩))
      have HB := Lib.hid (fun (W : World) (hb : Below w.heap.size w W) (k : Nat) (hk : k < len1) (g : Nat) (v : Value) (hC : Cur W g v (nest l (ws.take (k + 1))) 0 0 ∧ w.heap.size ≤ g) =>
        (show Calls Tryd.prog 13 #[.pointer (some ⟨g, 0, none⟩)] W fun q w' => ∃ g2 v2 L p, q = .returned (.tuple #[.pointer (some ⟨g2, 0, none⟩), .bool (ws.getD k false)]) ∧ (Cur w' g2 v2 (nest l (ws.take k)) 0 0 ∧ w.heap.size ≤ g2) ∧ (Cur w' g v L p 0 ∧ endOf L p 0 = 0) ∧ Below w.heap.size w w' from by
          have hC1 := hC.1
          rw [nest_snoc l ws k (by omega), show lenB (nest l (ws.take k)).length (ws.getD k false) ++ nest l (ws.take k) = lenB (nest l (ws.take k)).length (ws.getD k false) ++ (nest l (ws.take k) ++ []) by rw [List.append_nil]] at hC1
          refine (body_back (hs.below hb hs.pos) hC1 (hsz k (by omega)) (by simp)).mono ?_
          rintro r w' ⟨g2, v2, h1, h2, h3, h4⟩
          exact ⟨g2, v2, _, _, h1, ⟨h2.1, Nat.le_trans hb.size h2.2.1⟩, ⟨h3, end_back _ _ _ rfl⟩, hb.trans (below_of_only h4 hb.size (fun q hq => by injection hq with hq; have := hC.2; omega))⟩))
      have HE := Lib.hid (fun (W : World) (g : Nat) (v : Value) (L : List UInt8) (p : Nat) (hC : Cur W g v L p 0 ∧ endOf L p 0 = 0) => (show Calls Tryd.prog 24 #[.pointer (some ⟨g, 0, none⟩)] W fun r w' => r = .returned (.int .i64 0) ∧ ∃ n, w' = W.drewN n from by
        have h := end_cur hC.1
        rwa [hC.2] at h))
      have HLx := Lib.hid (fun (W : World) (g : Nat) (v : Value) (hC : Cur W g v l 0 0) => (show Calls Tryd.prog 15 #[.pointer (some ⟨g, 0, none⟩)] W fun r w' => r = .returned (.int .i64 (len0 : Int)) ∧ ∃ n, w' = W.drewN n from by
        have h := left_cur hC
        rwa [left_all, hlen] at h))
      have HBx := Lib.hid (fun (W : World) (g : Nat) (v : Value) (hg : w.heap.size ≤ g) (hb : Below w.heap.size w W) (hC : Cur W g v l 0 0) => (show Calls Tryd.prog 17 #[.pointer (some ⟨g, 0, none⟩), .int .u64 (len0 : Int)] W fun r w' => ∃ u, r = .returned u ∧ (convert 22 9 u).run Tryd.prog w' = .ok (.string sB) w' ∧ Below w.heap.size w w' from by
        have h := bytes_cur hC l.length (by omega)
        rw [got_all, hlen] at h
        refine h.mono ?_
        rintro r w' ⟨u, h1, h2, h3, h4⟩
        exact ⟨u, h1, conv_as ES.out (conv_own h2), hb.trans (below_of_only h4 hb.size (fun k hk => by injection hk with hk; omega))⟩))
      have s1 : IntKind.u64.wrap (len0 : Int) = (len0 : Int) := by rw [IntWalk.u64_in _ (by omega)]
      have hcapi : (len1 : Int) ≤ (cap1 : Int) := by omega
      have HWL := Lib.hid hwl
      have hq : ∀ b : Bool, (b != b) = false := fun b => by cases b <;> rfl
      clear hlen hrd hbig hbig2 hsB hs hsz hrow hwl hwc
      go_enter Tryd.func6, Tryd.ntmps6
      go_wp2_with (first
        | (go_at_call 7; refine hW.out.mono ?_; rintro r w1 ⟨rfl, hb1⟩; have HB1 := Lib.hid hb1; clear hb1))
      go_loopw [5, 27] (fun b i wr => ∃ (k : Nat) (A : Option Addr) (n c : Nat), i = .int .i64 k ∧ k ≤ len1 ∧ b = .slice A n c ∧ Hid ((nest l (ws.take k)).length = n ∧ Rd wr wr.heap.size A (nest l (ws.take k))) ∧ Hid (Below w.heap.size w wr)) (fun _ i _ => len1 - (intOf i).toNat)
      case atStart => exact ⟨0, a0, len0, cap0, rfl, Nat.zero_le _, rfl, Lib.hid (H0.out _ HB1.out), HB1⟩
      case round =>
        obtain ⟨k, A, n, c, rfl, hk, rfl, T1, T2⟩ := hrel
        clear HB1
        by_cases hlt : k < len1
        · obtain ⟨b, o, rfl, hcell⟩ := HCELL.out wr T2.out k hlt
          have hA := HA.out wr T2.out k hlt A n c T1.out
          generalize ws.getD k false = u at *
          have hki : (k : Int) < (len1 : Int) := by omega
          go_wp2_with (go_at_call 23; refine hA.mono ?_; rintro r w2 ⟨A2, n2, c2, rfl, hR2, hb2⟩; have T3 := Lib.hid hR2; have T4 := Lib.hid hb2; clear hA hR2 hb2 hcell)
          go_roundw
          case rel => exact ⟨k + 1, A2, n2, c2, by go_num, by omega, rfl, T3, T4⟩
          case measure => simp [intOf]; omega
        · obtain rfl : k = len1 := by omega
          have hN := HN.out wr T2.out A n c T1.out
          go_wp2_with (go_at_call 8; refine hN.mono ?_; rintro r w3 ⟨g, v3, rfl, hC3, hb3⟩; have T5 := Lib.hid hC3; have T6 := Lib.hid hb3; clear hN hC3 hb3)
          generalize wr = wx at *
          go_loopw [10, 11] (fun c i wr => ∃ (j g : Nat) (v : Value), i = .int .i64 ((j : Int) - 1) ∧ j ≤ k ∧ c = .pointer (some ⟨g, 0, none⟩) ∧ Hid (Cur wr g v (nest l (ws.take j)) 0 0 ∧ w.heap.size ≤ g) ∧ Hid (Below w.heap.size w wr)) (fun _ i _ => (intOf i + 1).toNat)
          case atStart => exact ⟨k, g, v3, rfl, Nat.le_refl _, rfl, T5, T6⟩
          case round =>
            obtain ⟨j, gj, vj, hi, hj, rfl, T7, T8⟩ := hrel
            clear T5 T6 T1 T2
            rcases j with _ | m
            · have hi' : u11 = .int .i64 (-1) := hi
              subst hi'
              clear hi
              rw [nest_nil] at T7
              have hb6 := T8.out
              go_wp2_with fail
              go_region_held_law (fun W => Below w.heap.size w W ∧ (convert 22 9 (.slice a0 len0 cap0)).run Tryd.prog W = .ok (.string sB) W) ((refine KS.out _ ?_; (repeat' (first | assumption | (with_reducible refine below_drewN ?_ _) | (with_reducible refine Below.drew ?_))))) (first
                | (go_at_call 15; refine (HLx.out _ _ _ (T7.out.1.drewN _)).mono ?_; rintro r w7 ⟨rfl, n7, rfl⟩)
                | (go_at_call 17; refine (HBx.out _ _ _ T7.out.2 (below_drewN hb6 _) (T7.out.1.drewN _)).mono ?_; rintro r w8 ⟨u8, rfl, hc8, hb8⟩))
              all_goals go_wp2
              all_goals go_ret
              all_goals exact ⟨rfl, hb8⟩
            · have hi' : u11 = .int .i64 (m : Int) := by rw [hi]; congr 1; omega
              subst hi'
              clear hi
              have hB := HB.out wr T8.out m (by omega) gj vj T7.out
              have hcells := Lib.hid (fun (W : World) (hb : Below w.heap.size w W) => HCELL.out W hb m (by omega))
              obtain ⟨bb, oo, rfl, _⟩ := hcells.out w (Below.refl _ _)
              generalize ws.getD m false = u at *
              have hmi : (m : Int) < (k : Int) := by omega
              go_wp2_with (first
                | (go_at_call 13; refine hB.mono ?_; rintro r w4 ⟨g4, v4, L4, p4, rfl, hX4, hC4, hb4⟩; have T9 := Lib.hid hX4; have TA := Lib.hid hb4; have hcell : w4.cell? ⟨bb, oo + m, none⟩ = some (.bool u) := (by obtain ⟨b', o', e', hc'⟩ := hcells.out w4 hb4; injection e' with e'; injection e' with e1 e2; subst e1 e2; exact hc'); have TB := Lib.hid hC4; clear hB hX4 hb4 hC4)
                | (go_at_call 24; refine (HE.out _ _ _ _ _ TB.out).mono ?_; rintro r w5 ⟨rfl, n5, rfl⟩))
              go_roundw
              case rel => exact ⟨m, g4, v4, by go_num, by omega, rfl, Lib.hid ⟨T9.out.1.drewN n5, T9.out.2⟩, Lib.hid (below_drewN TA.out n5)⟩
              case measure => simp [intOf]

end Go.Proofs.YtlfejggailoleaaDoor
