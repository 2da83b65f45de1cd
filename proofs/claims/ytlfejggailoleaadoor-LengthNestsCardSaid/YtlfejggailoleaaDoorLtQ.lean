/-
  The walk of LengthBack: what is wrapped, in either form, is taken as it was, with what stands behind it left; any length in the wide form is.
-/
import Derived.Test.YtlfejggailoleaaDoorLtW
import Derived.Test.YtlfejggailoleaaDoorLtK
import Derived.Test.YtlfejggailoleaaDoorLawD
namespace Go.Proofs.YtlfejggailoleaaDoor
open Go Go.RowKit

theorem own_up {w : World} {base base' : Nat} {v : Value} {l : List UInt8} (h : Own w base' v l) (hb : base ≤ base') : Own w base v l :=
  ⟨h.1, h.2.imp id fun ⟨g, cap, cur, p, hg, q⟩ => ⟨g, cap, cur, p, Nat.le_trans hb hg, q⟩⟩

/-- Body over what was wrapped. -/
theorem body_back {w : World} {g : Nat} {v : Value} {body r : List UInt8} {wide : Bool} (hs : Sz w) (h : Cur w g v (lenB body.length wide ++ (body ++ r)) 0 0) (hn : body.length ≤ 1000000) (hr : r.length ≤ 1000000) :
    Calls Tryd.prog 13 #[.pointer (some ⟨g, 0, none⟩)] w fun q w' =>
      ∃ g2 v2, q = .returned (.tuple #[.pointer (some ⟨g2, 0, none⟩), .bool wide]) ∧ Made w.heap.size w' g2 v2 body 0 ∧ Cur w' g v (lenB body.length wide ++ (body ++ r)) ((lenB body.length wide).length + body.length) 0 ∧ w.grownBy w' (some g) := by
  have hl := lenB_le body.length wide
  have hb := body_len hs h (by simp; omega)
  obtain ⟨h1, h2, h3, h4⟩ := bd_lenB body r wide hn
  rwa [h1, h2, h3, h4] at hb
/-- Take over a wide length. -/
theorem take_back {w : World} {g : Nat} {v : Value} {n : Nat} (hs : Sz w) (h : Cur w g v (lenB n true) 0 0) (hn : n < two64) :
    Calls Tryd.prog 9 #[.pointer (some ⟨g, 0, none⟩)] w fun q w' => q = .returned (.tuple #[.int .u64 (n : Int), .bool true]) ∧ w.grownBy w' (some g) := by
  have hl := lenB_le n true
  have hb := take_len hs h (by omega)
  obtain ⟨h1, h2, _, _⟩ := tk_lenB n true [] hn (.inl rfl)
  rw [List.append_nil] at h1 h2
  rw [h1, h2] at hb
  exact hb.mono fun r w' ⟨k1, _, k3⟩ => ⟨k1, k3⟩

theorem Cur.drew {w : World} {g : Nat} {v : Value} {l : List UInt8} {a : Nat} {e : Int} (h : Cur w g v l a e) : Cur w.drew g v l a e := h

theorem left_all (l : List UInt8) : leftOf l 0 0 = l.length := by simp [leftOf]
theorem got_all (l : List UInt8) : nextGot l 0 0 l.length = l := by simp [nextGot]

set_option maxHeartbeats 1000000 in
set_option maxRecDepth 10000 in
theorem lnback_walk (a0 : Option Addr) (len0 cap0 : Nat) (z0 : List Int) (wide : Bool) (a2 : Option Addr) (len2 cap2 : Nat) (z2 : List Int) (a3 : Int) (w : World) (hs : Sz w) (w0 : IsRow .u8 w a0 len0 cap0 z0) (w2 : IsRow .u8 w a2 len2 cap2 z2) (w3 : (Lit.int .u64 a3).wf = true) :
    Calls Tryd.prog 5 #[.slice a0 len0 cap0, .bool wide, .slice a2 len2 cap2, .int .u64 a3] w fun e w' => e = .returned (.bool true) ∧ Below w.heap.size w w' := by
  obtain ⟨l, hlen, hrd, hlc, hcm⟩ := row_bytes w0
  obtain ⟨t, hlen2, hrd2, hlc2, hcm2⟩ := row_bytes w2
  obtain ⟨x, rfl, hx⟩ := nat_of_u64 w3
  clear w0 w2 w3 hlc hcm hlc2 hcm2
  obtain ⟨i0, hi, hz0, hz1, hz2⟩ := info_parts u8_info
  have hW := Lib.hid (works_len hs)
  by_cases hbig : 2000 < len0
  · have hd : decide ((2000 : Int) < (len0 : Int)) = true := by simp; omega
    clear hs
    go_enter Tryd.func5, Tryd.ntmps5
    go_wp2_with (go_at_call 7; refine hW.out.mono ?_; rintro r w1 ⟨rfl, hb1⟩)
    go_ret
    exact ⟨rfl, hb1⟩
  · have hd : decide ((2000 : Int) < (len0 : Int)) = false := by simp; omega
    by_cases hbig2 : 2000 < len2
    · have hd2 : decide ((2000 : Int) < (len2 : Int)) = true := by simp; omega
      clear hs
      go_enter Tryd.func5, Tryd.ntmps5
      go_wp2_with (go_at_call 7; refine hW.out.mono ?_; rintro r w1 ⟨rfl, hb1⟩)
      go_ret
      exact ⟨rfl, hb1⟩
    · have hd2 : decide ((2000 : Int) < (len2 : Int)) = false := by simp; omega
      have hq : (wide != wide) = false := by cases wide <;> rfl
      have hl12 := lenB_le l.length wide
      have hn1 : l.length ≤ 1000000 := by omega
      have hn2 : t.length ≤ 1000000 := by omega
      obtain ⟨sB, hsB⟩ : ∃ s : ByteArray, s = ⟨l.toArray⟩ := ⟨_, rfl⟩
      have s1 : IntKind.u64.wrap (len0 : Int) = (len0 : Int) := by rw [IntWalk.u64_in _ (by omega)]
      have KS := Lib.hid (fun (W : World) (hW : Below w.heap.size w W) => (⟨hW, by rw [← hlen, hsB]; exact conv_rd (hrd.below hW) cap0⟩ : Below w.heap.size w W ∧ (convert 22 9 (.slice a0 len0 cap0)).run Tryd.prog W = .ok (.string sB) W))
      have ES := Lib.hid hsB
      have HA := Lib.hid (fun (W : World) (hb : Below w.heap.size w W) => (show Calls Tryd.prog 23 #[.slice none 0 0, .bool wide, .slice a0 len0 cap0] W fun r w' => ∃ v', r = .returned (.tuple #[v', .int .i64 0]) ∧ Own w' w.heap.size v' (lenB l.length wide ++ l) ∧ Below w.heap.size w w' from by
        have := wrap_len (hs.below hb hs.pos) wide (hrd.below hb) hb.size cap0 hn1
        rw [hlen] at this
        refine this.mono ?_
        rintro r w' ⟨v', h1, h2, h3⟩
        rw [← hlen] at h2
        exact ⟨v', h1, own_up h2 hb.size, hb.trans (h3.mono hb.size)⟩))
      have HR := Lib.hid (fun (W : World) (hb : Below w.heap.size w W) => hrd2.below hb)
      have HL2 := Lib.hid hlen2
      have hsum : (lenB l.length wide ++ l).length + t.length ≤ 140737488355328 := by simp; omega
      have HN := Lib.hid (fun (W : World) (u : Value) (hb : Below w.heap.size w W) (ho : Own W w.heap.size u (lenB l.length wide ++ l ++ t)) => (show Calls Tryd.prog 8 #[u] W fun r w' => ∃ g v', r = .returned (.pointer (some ⟨g, 0, none⟩)) ∧ Made w.heap.size w' g v' (lenB l.length wide ++ (l ++ t)) 0 ∧ Below w.heap.size w w' from by
        refine (new_own ho (by simp; omega)).mono ?_
        rintro r w' ⟨g, v', h1, h2, h3⟩
        rw [List.append_assoc] at h2
        exact ⟨g, v', h1, made_up hb.size h2, hb.trans (h3.mono hb.size)⟩))
      have HB := Lib.hid (fun (W : World) (g : Nat) (v : Value) (hb : Below w.heap.size w W) (hM : Made w.heap.size W g v (lenB l.length wide ++ (l ++ t)) 0) => (show Calls Tryd.prog 13 #[.pointer (some ⟨g, 0, none⟩)] W fun q w' =>
          ∃ g2 v2, q = .returned (.tuple #[.pointer (some ⟨g2, 0, none⟩), .bool wide]) ∧ Made w.heap.size w' g2 v2 l 0 ∧ Cur w' g v (lenB l.length wide ++ (l ++ t)) ((lenB l.length wide).length + l.length) 0 ∧ Below w.heap.size w w' from by
        refine (body_back (hs.below hb hs.pos) hM.1 hn1 hn2).mono ?_
        rintro r w' ⟨g2, v2, h1, h2, h3, h4⟩
        exact ⟨g2, v2, h1, made_up hb.size h2, h3, hb.trans (below_of_only h4 hb.size (fun k hk => by injection hk with hk; have := hM.2.1; omega))⟩))
      have HLc := Lib.hid (fun (W : World) (g : Nat) (v : Value) (hC : Cur W g v (lenB l.length wide ++ (l ++ t)) ((lenB l.length wide).length + l.length) 0) => (show Calls Tryd.prog 15 #[.pointer (some ⟨g, 0, none⟩)] W fun r w' => r = .returned (.int .i64 (len2 : Int)) ∧ ∃ n, w' = W.drewN n from by
        have h := left_cur hC
        have e : leftOf (lenB l.length wide ++ (l ++ t)) ((lenB l.length wide).length + l.length) 0 = len2 := by rw [← hlen2]; simp [leftOf]; omega
        rwa [e] at h))
      have HLx := Lib.hid (fun (W : World) (g : Nat) (v : Value) (hC : Cur W g v l 0 0) => (show Calls Tryd.prog 15 #[.pointer (some ⟨g, 0, none⟩)] W fun r w' => r = .returned (.int .i64 (len0 : Int)) ∧ ∃ n, w' = W.drewN n from by
        have h := left_cur hC
        rwa [left_all, hlen] at h))
      have HBx := Lib.hid (fun (W : World) (g : Nat) (v : Value) (hg : w.heap.size ≤ g) (hb : Below w.heap.size w W) (hC : Cur W g v l 0 0) => (show Calls Tryd.prog 17 #[.pointer (some ⟨g, 0, none⟩), .int .u64 (len0 : Int)] W fun r w' => ∃ u, r = .returned u ∧ (convert 22 9 u).run Tryd.prog w' = .ok (.string sB) w' ∧ Below w.heap.size w w' from by
        have h := bytes_cur hC l.length (by omega)
        rw [got_all, hlen] at h
        refine h.mono ?_
        rintro r w' ⟨u, h1, h2, h3, h4⟩
        exact ⟨u, h1, conv_as ES.out (conv_own h2), hb.trans (below_of_only h4 hb.size (fun k hk => by injection hk with hk; omega))⟩))
      have HP := Lib.hid (fun (W : World) (hb : Below w.heap.size w W) => (show Calls Tryd.prog 19 #[.slice none 0 0, .int .u64 (x : Int), .bool true] W fun r w' => ∃ v', r = .returned (.tuple #[v', .int .i64 0]) ∧ Own w' w.heap.size v' (lenB x true) ∧ Below w.heap.size w w' from by
        have h := put_len (l := []) (hs.below hb hs.pos) (World.ownsRow_nil W w.heap.size 5 1) hs.pos hb.size x true (Nat.zero_le _)
        rw [List.nil_append, show lenE x true = 0 by simp [lenE]] at h
        refine h.mono ?_
        rintro r w' ⟨v', h1, h2⟩
        exact ⟨v', h1, h2.1, hb.trans (below_of_only h2.2.1 hb.size (by simp [Value.ownBlock]))⟩))
      have HM := Lib.hid (fun (W : World) (u : Value) (hb : Below w.heap.size w W) (ho : Own W w.heap.size u (lenB x true)) => (show Calls Tryd.prog 8 #[u] W fun r w' => ∃ g v', r = .returned (.pointer (some ⟨g, 0, none⟩)) ∧ Made w.heap.size w' g v' (lenB x true) 0 ∧ Below w.heap.size w w' from by
        refine (new_own ho (by have := lenB_le x true; omega)).mono ?_
        rintro r w' ⟨g, v', h1, h2, h3⟩
        exact ⟨g, v', h1, made_up hb.size h2, hb.trans (h3.mono hb.size)⟩))
      have HT := Lib.hid (fun (W : World) (g : Nat) (v : Value) (hb : Below w.heap.size w W) (hM : Made w.heap.size W g v (lenB x true) 0) => (show Calls Tryd.prog 9 #[.pointer (some ⟨g, 0, none⟩)] W fun q w' => q = .returned (.tuple #[.int .u64 (x : Int), .bool true]) ∧ Below w.heap.size w w' from by
        refine (take_back (hs.below hb hs.pos) hM.1 hx).mono ?_
        rintro r w' ⟨h1, h2⟩
        exact ⟨h1, hb.trans (below_of_only h2 hb.size (fun k hk => by injection hk with hk; have := hM.2.1; omega))⟩))
      clear hlen hrd hlen2 hrd2 hbig hbig2 hl12 hn1 hn2 hsB hx hs
      go_enter Tryd.func5, Tryd.ntmps5
      go_wp2_with (first
        | (go_at_call 7; refine hW.out.mono ?_; rintro r w1 ⟨rfl, hb1⟩)
        | (go_at_call 23; refine (HA.out _ hb1).mono ?_; rintro r w2 ⟨v2, rfl, hown2, hb2⟩)
        | (at_builtin; refine wpList_append_bytes (by rfl) (.tmp 32) (.tmp 33) _ (by rfl) w.heap.size i0 Tryd.underlying22 hi hz0 hz1 hz2 v2 _ (by rfl) hown2 w.heap.size a2 len2 cap2 t HL2.out (by rfl) (HR.out _ hb2) hsum hb2.size ?_; intro v3 w3 hown3 hg3 hat3; have hb3 := hb2.grown hg3 hb2.size (fun q hq => (own_ge hown2 q hq).1); clear hg3 hat3)
        | (go_at_call 8; refine (HN.out _ _ hb3 hown3).mono ?_; rintro r w4 ⟨g, v4, rfl, hM, hb4⟩)
        | (go_at_call 13; refine (HB.out _ _ _ hb4 hM).mono ?_; rintro r w5 ⟨g2, v5, rfl, hM2, hC5, hb5⟩))
      have hb6 := hb5
      have HX := Lib.hid hM2
      have HC := Lib.hid hC5
      clear hb1 hb2 hown2 hb3 hown3 hM hb4 hM2 hC5
      go_region_held_law (fun W => Below w.heap.size w W ∧ (convert 22 9 (.slice a0 len0 cap0)).run Tryd.prog W = .ok (.string sB) W) ((refine KS.out _ ?_; (repeat' (first | assumption | (with_reducible refine below_drewN ?_ _) | (with_reducible refine Below.drew ?_))))) (first
        | (go_at_call 15; refine (HLc.out _ _ _ (HC.out.drew)).mono ?_; rintro r w6 ⟨rfl, n6, rfl⟩; clear HLc)
        | (go_at_call 15; refine (HLx.out _ _ _ (HX.out.1.drewN _)).mono ?_; rintro r w7 ⟨rfl, n7, rfl⟩)
        | (go_at_call 17; refine (HBx.out _ _ _ HX.out.2.1 (below_drewN hb6 _) (HX.out.1.drewN _)).mono ?_; rintro r w8 ⟨u8, rfl, hc8, hb8⟩))
      all_goals go_wp2_with (first
        | (go_at_call 19; refine (HP.out _ hb8).mono ?_; rintro r w9 ⟨v9, rfl, hown9, hb9⟩)
        | (go_at_call 8; refine (HM.out _ _ hb9 hown9).mono ?_; rintro r wa ⟨ga, va, rfl, hMa, hba⟩)
        | (go_at_call 9; refine (HT.out _ _ _ hba hMa).mono ?_; rintro r wb ⟨rfl, hbb⟩))
      all_goals go_ret
      all_goals exact ⟨rfl, hbb⟩

end Go.Proofs.YtlfejggailoleaaDoor
