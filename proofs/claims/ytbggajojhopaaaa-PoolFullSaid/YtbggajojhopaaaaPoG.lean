/-
  The walk of PoolFull: a pool refuses just what would make its table too great, and keeps what it has.
-/
import Derived.Test.YtbggajojhopaaaaPoF
import Derived.Test.YtbggajojhopaaaaPoR
import Derived.Test.YtbggajojhopaaaaPoW
import Derived.Test.YtbggajojhopaaaaLawC
import Derived.Deep.RegionHeldLaw
namespace Go.Proofs.Ytbggajojhopaaaa
open Go Go.RowKit

theorem ref_made (w : World) (base : Nat) (hb : base ≤ w.heap.size) : RefAt (w.alloc (.cells #[.slice none 0 0] 78)) base w.heap.size (.slice none 0 0) [] :=
  ⟨Box.new _ _ _, hb, World.ownsRow_nil _ _ _ _⟩

theorem u64_nonneg (a : Int) : 0 ≤ IntKind.u64.wrap a := by
  simp [IntKind.wrap, IntKind.signed, IntKind.bits]
  omega

theorem two_bytes (w : World) (k : Nat) (h : k < 345) : (convert 22 9 (.slice (some ⟨w.heap.size, 0, none⟩) 2 2)).run Try.prog (w.alloc (.cells #[.int .u8 (97 + (k : Int) % 26), .int .u8 (97 + (k : Int) / 26)] 5)) =
    .ok (.string ⟨[UInt8.ofNat (97 + k % 26), UInt8.ofNat (97 + k / 26)].toArray⟩) (w.alloc (.cells #[.int .u8 (97 + (k : Int) % 26), .int .u8 (97 + (k : Int) / 26)] 5)) := by
  have e : #[Value.int .u8 (97 + (k : Int) % 26), Value.int .u8 (97 + (k : Int) / 26)] = (u8s [UInt8.ofNat (97 + k % 26), UInt8.ofNat (97 + k / 26)]).toArray := by
    have h1 : (UInt8.ofNat (97 + k % 26)).toNat = 97 + k % 26 := by simp; omega
    have h2 : (UInt8.ofNat (97 + k / 26)).toNat = 97 + k / 26 := by simp; omega
    simp only [u8s, List.map_cons, List.map_nil, h1, h2]
    simp
  rw [e]
  exact conv_rd (rd_lit w [UInt8.ofNat (97 + k % 26), UInt8.ofNat (97 + k / 26)]) 2

set_option maxRecDepth 10000 in
set_option maxHeartbeats 8000000 in
theorem pfull_walk (a0 : Int) (a1 : ByteArray) (w0 : (Lit.int .i64 a0).wf = true) (_w1 : a1.size ≤ maxLen) (w : World) :
    Calls Try.prog 14 #[.int .i64 a0, .string a1] w fun e w' => e = .returned (.bool true) ∧ Below w.heap.size w w' := by
  have hs := i64_of w0
  clear w0
  obtain ⟨m, hm, hm20⟩ : ∃ m : Nat, (IntKind.u64.wrap a0).tmod 20 = (m : Int) ∧ m < 20 := by
    have h0 : 0 ≤ IntKind.u64.wrap a0 := u64_nonneg a0
    exact ⟨((IntKind.u64.wrap a0).tmod 20).toNat, by rw [Int.tmod_eq_emod_of_nonneg h0]; omega, by rw [Int.tmod_eq_emod_of_nonneg h0]; omega⟩
  have hW := fun W => works4_any W
  have hP := pnew_any w
  have hz := Lib.hid longB_zero
  go_enter Try.func14, Try.ntmps14
  go_wp2_with (go_at_call 52; refine hP.mono ?_; rintro r w1 ⟨g, mb, rfl, hp1, hb1⟩; have HP1 := Lib.hid hp1; have HB1 := Lib.hid hb1; clear hp1 hb1 hP)
  have HP2 := Lib.hid (HP1.out.below ((Below.refl w1.heap.size w1).alloc (Nat.le_refl _) (.cells #[.slice none 0 0] 78)))
  have HR2 := Lib.hid (ref_made w1 w.heap.size HB1.out.size)
  have HB2 := Lib.hid (HB1.out.alloc HB1.out.size (.cells #[.slice none 0 0] 78))
  obtain ⟨w2, hw2⟩ : ∃ w2, w1.alloc (.cells #[.slice none 0 0] 78) = w2 := ⟨_, rfl⟩
  rw [hw2] at HP2 HR2 HB2 ⊢
  clear hw2 HP1 HB1
  rw [← hz.out]
  go_loop [7] (fun v => ∃ k : Nat, v = .string (longB k) ∧ k ≤ 19) (fun v => 19 - (match v with | .string b => b.size / 10 | _ => 0))
  case atStart => exact ⟨0, rfl, by omega⟩
  case round =>
    obtain ⟨k, rfl, hk⟩ := hrel
    have hsz := longB_size k
    by_cases hlt : k < 19
    · have hno : ¬ (9223372036854775807 < (longB k).size + (ByteArray.mk #[120, 120, 120, 120, 120, 120, 120, 120, 120, 120]).size) := by rw [hsz]; show ¬ (9223372036854775807 < 10 * k + 10); omega
      have hnx := longB_next k
      have hsz1 := longB_size (k + 1)
      have hd : decide (((longB k).size : Int) < 190) = true := by simp; omega
      go_wp2_with fail
      exact ⟨⟨k + 1, rfl, by omega⟩, by simp only [hsz, hsz1]; omega⟩
    · have hk2 : k = 19 := by omega
      subst hk2
      clear hk hlt
      have hd : decide (((longB 19).size : Int) < 190) = false := by rw [hsz]; rfl
      go_wp2_with fail
      have HL19 := Lib.hid hsz
      clear hsz hd hz
      go_loopw [31] (fun i wr => ∃ (k : Nat) (v u : Value), i = .int .i64 k ∧ k ≤ 325 + m ∧ Hid (PoolAt wr w.heap.size g mb v (fullT (tookT k))) ∧ Hid (RefAt wr w.heap.size w1.heap.size u (fullT (tookT k))) ∧ Hid (Below w.heap.size w wr)) (fun i _ => 345 - (intOf i).toNat)
      case atStart => exact ⟨0, _, _, rfl, by omega, HP2, HR2, HB2⟩
      case round =>
        obtain ⟨k, v, u, rfl, hk, HP, HR, HB⟩ := hrel
        clear HP2 HR2 HB2
        by_cases hlt : k < 325 + m
        · have hk5 : k < 345 := by omega
          have t1 : ((k : Int)).tmod 26 = ((k % 26 : Nat) : Int) := by rw [Int.tmod_eq_emod_of_nonneg (by omega)]; omega
          have t2 : ((k : Int)).tdiv 26 = ((k / 26 : Nat) : Int) := by rw [Int.tdiv_eq_ediv_of_nonneg (by omega)]; omega
          have hcv := two_bytes wr k hk5
          obtain ⟨bb, hbb⟩ : ∃ bb : ByteArray, bb = ⟨[UInt8.ofNat (97 + k % 26), UInt8.ofNat (97 + k / 26)].toArray⟩ := ⟨_, rfl⟩
          have hjoin := longB_text k
          have hbs : bb.size = 2 := by rw [hbb]; rfl
          rw [← hbb] at hcv hjoin
          clear hbb
          obtain ⟨tb, htb⟩ : ∃ tb : ByteArray, tb = ⟨(textN k).toArray⟩ := ⟨_, rfl⟩
          have HTB := Lib.hid htb
          rw [← htb] at hjoin
          clear htb
          have hno : ¬ (9223372036854775807 < (longB 19).size + bb.size) := by rw [HL19.out, hbs]; decide
          have hA := add_at HP.out (textN k) (by rw [textN_length]; decide)
          rw [← HTB.out] at hA
          have hb0 : Below wr.heap.size wr (wr.alloc (.cells #[.int .u8 (97 + (k : Int) % 26), .int .u8 (97 + (k : Int) / 26)] 5)) := (Below.refl _ _).alloc (Nat.le_refl _) _
          by_cases h339 : k < 339
          · have hA := add_at (HP.out.below hb0) (textN k) (by rw [textN_length]; decide)
            rw [← HTB.out, addT_took hk5 h339] at hA
            have HR0 := Lib.hid (HR.out.below hb0)
            have HB0 := Lib.hid (HB.out.trans (hb0.mono HB.out.size))
            have s1 : IntKind.u64.wrap (k : Int) = (k : Int) := by rw [IntWalk.u64_in _ (by omega)]
            have s2 : IntKind.u64.wrap ((k : Int) * 193) = (k : Int) * 193 := by rw [IntWalk.u64_in _ (by omega)]
            have hq : ((((193 * k : Nat) : Int)) != (k : Int) * 193) = false := by simp; omega
            dsimp only at hA
            generalize hmx : 193 * k = mx at *
            clear hmx hb0
            obtain ⟨i0, hi, hz0, hz1, hz2⟩ := info_parts str_info
            have HAP := Lib.hid (fun (W W4 : World) (v4 : Value) (o : Obj) (h1 : RefAt W w.heap.size w1.heap.size u (fullT (tookT k))) h2 h3 => ref_append (w := W) (w4 := W4) (v4 := v4) (t := textN k) (o := o) h1 h2 h3)
            rw [← HTB.out] at HAP
            have HEQ := Lib.hid (show fullT (tookT k) ++ [textN k] = fullT (tookT (k + 1)) by
              rw [show tookT k = k from if_pos h339, show tookT (k + 1) = k + 1 by unfold tookT; split <;> omega, fullT_succ])
            rw [HEQ.out] at HAP
            have hln : (fullT (tookT k)).length ≤ 339 := by rw [fullT_length]; exact (tookT_le k).2
            have h63 : (fullT (tookT k)).length + 1 ≤ maxLen := by unfold maxLen; omega
            have hby : ((fullT (tookT k)).length + 1) * 16 ≤ 140737488355328 := by omega
            have H63 := Lib.hid h63
            have HBY := Lib.hid hby
            clear hln h63 hby
            go_wp2_with (first
              | (go_at_call 54; refine hA.mono ?_; rintro r w3 ⟨rfl, ⟨v3, hp3⟩, ho3⟩; have HP3 := Lib.hid hp3; have HR3 := Lib.hid (HR0.out.pool ho3); have HB3 := Lib.hid (HB0.out.trans ho3.1); have c30 := HR3.out.1.cell 0; simp at c30; clear hp3 ho3 hA)
              | (at_builtin; refine wpList_append_own_at _ (by rfl) (.tmp 85) (.tmp 87) _ (by rfl) w.heap.size 9 i0 (.string ⟨#[]⟩) 1 16 Try.underlying63 hi hz0 hz1 hz2 rfl (by decide) u (fullT (tookT k)).length (strV (fullT (tookT k))) (by rfl) (HR3.out.2.2.alloc _) ⟨w3.heap.size, 0, none⟩ 1 1 [.string tb] (by rfl) rfl (cell_one_new _ _ _) (by simp [Value.oneCell']) H63.out HBY.out (by have := HB3.out.size; simp; omega) ?_; intro v4 w4 hown4 hg4 hn4 hat4; (obtain ⟨d0, f0, hr5, ho5⟩ := HAP.out _ _ _ _ HR3.out hg4 hown4); (obtain ⟨A4, d4, rfl⟩ := owns_slice hr5.2.2); have HR5 := Lib.hid hr5; have HP5 := Lib.hid (HP3.out.ref ho5); have HB5 := Lib.hid (HB3.out.trans ho5.1); clear hr5 ho5 hown4 hg4 hn4 hat4; generalize (fullT (tookT (k + 1))).length = n4 at *))
            go_roundw
            case rel => exact ⟨k + 1, _, _, by go_num, by omega, HP5, HR5, HB5⟩
            case measure => simp [intOf]; omega
          · have hA := add_at (HP.out.below hb0) (textN k) (by rw [textN_length]; decide)
            rw [← HTB.out, addT_full hk5 h339] at hA
            have HR0 := Lib.hid (HR.out.below hb0)
            have HB0 := Lib.hid (HB.out.trans (hb0.mono HB.out.size))
            have HEQ := Lib.hid (show fullT (tookT k) = fullT (tookT (k + 1)) by
              rw [show tookT k = 339 from if_neg h339, show tookT (k + 1) = 339 by unfold tookT; split <;> omega])
            rw [HEQ.out] at HR0
            dsimp only at hA
            obtain ⟨mm, s3, s4, hd⟩ : ∃ mm : Int, IntKind.i64.wrap (((k : Int) + 1) * 193) = mm ∧ wrap64 (((k : Int) + 1) * 193) = mm ∧ decide (mm ≤ 65536) = false :=
              ⟨((k : Int) + 1) * 193, by rw [IntWalk.i64_in _ (by omega)], by rw [IntWalk.wrap64_in _ (by omega)], decide_eq_false (by omega)⟩
            clear hb0 h339
            go_wp2_with (go_at_call 54; refine hA.mono ?_; rintro r w3 ⟨rfl, ⟨v3, hp3⟩, ho3⟩; have HP3 := Lib.hid hp3; have HR3 := Lib.hid (HR0.out.pool ho3); have HB3 := Lib.hid (HB0.out.trans ho3.1); clear hp3 ho3 hA)
            go_roundw
            case rel => exact ⟨k + 1, _, _, by go_num, by omega, HP3, HR3, HB3⟩
            case measure => simp [intOf]; omega
        · have hk2 : k = 325 + m := by omega
          subst hk2
          clear hlt hk
          obtain ⟨s, rfl⟩ : ∃ s : List UInt8, a1 = ⟨s.toArray⟩ := ⟨a1.data.toList, by apply ByteArray.ext; simp⟩
          have hssz : (ByteArray.mk s.toArray).size = s.length := rfl
          generalize fullT (tookT (325 + m)) = ps at *
          by_cases hs3 : s.length ≤ 300
          · have hd2 : decide ((300 : Int) < ((ByteArray.mk s.toArray).size : Int)) = false := by rw [hssz]; simp; omega
            have hA := add_at HP.out s (by omega)
            have HG := Lib.hid (goodT_add HP.out.2.2.2.2.2 s)
            have HRA := Lib.hid (fun W u (h : RefAt W w.heap.size w1.heap.size u ps) => radd_at h HP.out.2.2.2.2.2 s (by omega))
            obtain ⟨sb, hsb⟩ : ∃ sb : ByteArray, sb = ⟨s.toArray⟩ := ⟨_, rfl⟩
            rw [← hsb] at hA HRA hssz hd2 ⊢
            clear hsb
            generalize addT ps s = q at *
            obtain ⟨qs, qx, qe⟩ := q
            dsimp only at hA HG HRA
            have HC := Lib.hid (fun W v (h : PoolAt W w.heap.size g mb v qs) => count_at h)
            go_wp2_with (first
              | (go_at_call 54; refine hA.mono ?_; rintro r w3 ⟨rfl, ⟨v3, hp3⟩, ho3⟩; have HP3 := Lib.hid hp3; have HR3 := Lib.hid (HR.out.pool ho3); have HB3 := Lib.hid (HB.out.trans ho3.1); have hRA3 := HRA.out _ _ HR3.out; clear hp3 ho3 hA HRA)
              | (go_at_call 55; refine hRA3.mono ?_; rintro r w4 ⟨rfl, ⟨u4, hr4⟩, ho4⟩; have HR4 := Lib.hid hr4; have HP4 := Lib.hid (HP3.out.ref ho4); have HB4 := Lib.hid (HB3.out.trans ho4.1); clear hr4 ho4 hRA3))
            obtain ⟨Ar, cr, hur⟩ := owns_slice HR4.out.2.2
            subst hur
            have KS := Lib.hid (fun (W : World) (hW : Below w4.heap.size w4 W) => (⟨hW, by have := (HR4.out.below hW).1.cell 0; simpa using this⟩ : Below w4.heap.size w4 W ∧ W.cell? ⟨w1.heap.size, 0, none⟩ = some (.slice Ar qs.length cr)))
            have HC4 := Lib.hid (fun (W : World) (hW : Below w4.heap.size w4 W) => HC.out W _ (HP4.out.below hW))
            clear HC
            generalize qs.length = n at *
            go_region_held_law (fun W => Below w4.heap.size w4 W ∧ W.cell? ⟨w1.heap.size, 0, none⟩ = some (.slice Ar n cr)) ((refine KS.out _ ?_; first | assumption | exact (Below.refl _ _).drew)) (first
              | (go_at_call 60; refine (HC4.out _ ((Below.refl _ _).drew)).mono ?_; rintro r w7 ⟨rfl, rfl⟩)
              | (go_at_call 53; refine (hW _).mono ?_; rintro r w8 ⟨rfl, hb8⟩; have hb8' : Below w4.heap.size w4 w8 := ((Below.refl w4.heap.size w4).drew).trans hb8))
            all_goals go_wp2
            all_goals go_ret
            all_goals exact ⟨rfl, HB4.out.trans (hb8'.mono HB4.out.size)⟩
          · have hd2 : decide ((300 : Int) < ((ByteArray.mk s.toArray).size : Int)) = true := by rw [hssz]; simp; omega
            go_wp2_with (go_at_call 53; refine (hW _).mono ?_; rintro r w3 ⟨rfl, hb3⟩)
            go_ret
            exact ⟨rfl, HB.out.trans (hb3.mono HB.out.size)⟩

end Go.Proofs.Ytbggajojhopaaaa
