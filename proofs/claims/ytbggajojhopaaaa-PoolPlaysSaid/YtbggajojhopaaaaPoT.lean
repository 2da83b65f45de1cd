/-
  The walk of PoolPlays: wherever texts stand that are added to a pool, or why one is not added, and the table then, is as the document has it.
-/
import Derived.Test.YtbggajojhopaaaaPoR
import Derived.Test.YtbggajojhopaaaaPoW
import Derived.Test.YtbggajojhopaaaaCsB
import Derived.Test.YtbggajojhopaaaaLawC
import Derived.Deep.RegionHeldLaw
namespace Go.Proofs.Ytbggajojhopaaaa
open Go Go.RowKit

theorem ref_new (w : World) (base : Nat) (hb : base ≤ w.heap.size) : RefAt (w.alloc (.cells #[.slice none 0 0] 78)) base w.heap.size (.slice none 0 0) [] :=
  ⟨Box.new _ _ _, hb, World.ownsRow_nil _ _ _ _⟩

/-- Bytes of the call's own, to be written on. -/
def Writes (w : World) (base n : Nat) (A : Option Addr) : Prop := 0 < n → ∃ b cs, A = some ⟨b, 0, none⟩ ∧ base ≤ b ∧ Box w b 5 cs ∧ n ≤ cs.size

theorem writes_own {w : World} {base : Nat} {v : Value} {l : List UInt8} (h : Own w base v l) : ∃ A c, v = .slice A l.length c ∧ l.length ≤ c ∧ Writes w base l.length A := by
  rcases h.2 with ⟨rfl, h0⟩ | ⟨g, cap, cur, rfl, hb, hg, hc, hm, hs, ht⟩
  · rw [h0]; exact ⟨none, 0, rfl, Nat.le_refl _, fun h => by omega⟩
  · exact ⟨_, cap, rfl, hc, fun _ => ⟨g, cur, rfl, hb, hg, by omega⟩⟩

theorem writes_set {w : World} {base n b : Nat} {cs : Array Value} (hb : Box w b 5 cs) (hn : n ≤ cs.size) (hba : base ≤ b) (k : Nat) (u : Value) : Writes (w.setCell ⟨b, k, none⟩ u) base n (some ⟨b, 0, none⟩) := fun _ =>
  ⟨b, _, rfl, hba, hb.set k u, by simpa using hn⟩

theorem writes_up {w : World} {base base' n : Nat} {A : Option Addr} (h : Writes w base n A) (hb : base' ≤ base) : Writes w base' n A := fun h0 => by
  obtain ⟨b, cs, e, h1, h2⟩ := h h0
  exact ⟨b, cs, e, Nat.le_trans hb h1, h2⟩

theorem below_set (w : World) {B b : Nat} (h : B ≤ b) (k : Nat) (u : Value) : Below B w (w.setCell ⟨b, k, none⟩ u) :=
  ⟨rfl, rfl, rfl, by simp [World.setCell], fun j hj => Below.heap_setCell w ⟨b, k, none⟩ u j (Nat.ne_of_lt (Nat.lt_of_lt_of_le hj h))⟩

set_option maxRecDepth 10000 in
set_option maxHeartbeats 8000000 in
theorem pplays_walk (a0 : Option Addr) (cap0 : Nat) (ls : List (List UInt8)) (s : List UInt8) (w : World) (w0 : Txts w a0 ls) :
    Calls Try.prog 12 #[.slice a0 ls.length cap0, .string ⟨s.toArray⟩] w fun e w' => e = .returned (.bool true) ∧ Below w.heap.size w w' := by
  obtain ⟨N, hN⟩ : ∃ N, ls.length = N := ⟨_, rfl⟩
  have HN := Lib.hid hN
  have HX := Lib.hid w0
  have hW := fun W => works4_any W
  rw [hN]
  clear w0 hN
  have hP := pnew_any w
  have hssz : (ByteArray.mk s.toArray).size = s.length := rfl
  obtain ⟨sb, hsb⟩ : ∃ sb : ByteArray, sb = ⟨s.toArray⟩ := ⟨_, rfl⟩
  have HSB := Lib.hid hsb
  rw [← hsb] at hssz ⊢
  clear hsb
  go_enter Try.func12, Try.ntmps12
  go_wp2_with (go_at_call 52; refine hP.mono ?_; rintro r w1 ⟨g, mb, rfl, hp1, hb1⟩; have HP1 := Lib.hid hp1; have HB1 := Lib.hid hb1; clear hp1 hb1 hP)
  have HP2 := Lib.hid (HP1.out.below ((Below.refl w1.heap.size w1).alloc (Nat.le_refl _) (.cells #[.slice none 0 0] 78)))
  have HR2 := Lib.hid (ref_new w1 w.heap.size HB1.out.size)
  have HB2 := Lib.hid (HB1.out.alloc HB1.out.size (.cells #[.slice none 0 0] 78))
  go_loopw [7] (fun i wr => ∃ (k : Nat) (ps : List (List UInt8)) (v u : Value), i = .int .i64 k ∧ k ≤ N ∧ k ≤ 40 ∧ Hid (PoolAt wr w.heap.size g mb v ps) ∧ Hid (RefAt wr w.heap.size w1.heap.size u ps) ∧ Hid (Below w.heap.size w wr)) (fun i _ => N - (intOf i).toNat)
  case atStart => exact ⟨0, [], _, _, rfl, Nat.zero_le _, by omega, HP2, HR2, HB2⟩
  case round =>
    obtain ⟨k, ps, v, u, rfl, hk, hk4, HP, HR, HB⟩ := hrel
    clear HP1 HB1 HP2 HR2 HB2
    by_cases hlt : k < N
    · by_cases h40 : k < 40
      · obtain ⟨ab, ao, rfl, hab, hcell⟩ := HX.out (by rw [HN.out]; omega)
        obtain ⟨t, ht⟩ : ∃ t, ls[k]? = some t := ⟨ls[k]'(by rw [HN.out]; exact hlt), List.getElem?_eq_getElem _⟩
        have hck := (HB.out.cell (p := ⟨ab, ao + k, none⟩) hab).trans (hcell k t ht)
        have htsz : (ByteArray.mk t.toArray).size = t.length := rfl
        obtain ⟨tb, htb⟩ : ∃ tb : ByteArray, tb = ⟨t.toArray⟩ := ⟨_, rfl⟩
        have HTB := Lib.hid htb
        rw [← htb] at htsz hck
        clear htb hcell ht
        by_cases ht3 : t.length ≤ 300
        · by_cases hs3 : s.length ≤ 300
          · have hd1 : decide ((300 : Int) < (tb.size : Int)) = false := by simp; omega
            have hd2 : decide ((300 : Int) < (sb.size : Int)) = false := by simp; omega
            have hA := add_at HP.out t (by omega)
            have HG := Lib.hid (goodT_add HP.out.2.2.2.2.2 t)
            have HRA := Lib.hid (fun W u (h : RefAt W w.heap.size w1.heap.size u ps) => radd_at h HP.out.2.2.2.2.2 t (by omega))
            rw [← HTB.out] at hA HRA
            generalize addT ps t = q at *
            obtain ⟨qs, qx, qe⟩ := q
            dsimp only at hA HG HRA
            have HF := Lib.hid (fun W v (h : PoolAt W w.heap.size g mb v qs) => find_at h s (by unfold maxLen; omega))
            have HRF := Lib.hid (fun W u (h : RefAt W w.heap.size w1.heap.size u qs) => rfind_at h (by have := HG.out.2.1; omega) s)
            rw [← HSB.out] at HF HRF
            generalize findT qs s = f at *
            have HBY := Lib.hid (fun W v (h : PoolAt W w.heap.size g mb v qs) => bytes_at h)
            have HRB := Lib.hid (fun W u (h : RefAt W w.heap.size w1.heap.size u qs) => rbytes_at h (by have := HG.out.2.1; omega))
            have HC := Lib.hid (fun W v (h : PoolAt W w.heap.size g mb v qs) => count_at h)
            go_wp2_with (first
              | (go_at_call 54; refine hA.mono ?_; rintro r w3 ⟨rfl, ⟨v3, hp3⟩, ho3⟩; have HP3 := Lib.hid hp3; have HR3 := Lib.hid (HR.out.pool ho3); have HB3 := Lib.hid (HB.out.trans ho3.1); have hRA3 := HRA.out _ _ HR3.out; have hck3 := (ho3.1.cell (p := ⟨ab, ao + k, none⟩) hab).trans hck; clear hp3 ho3 hA HRA)
              | (go_at_call 55; refine hRA3.mono ?_; rintro r w4 ⟨rfl, ⟨u4, hr4⟩, ho4⟩; have HR4 := Lib.hid hr4; have HP4 := Lib.hid (HP3.out.ref ho4); have HB4 := Lib.hid (HB3.out.trans ho4.1); have hF4 := HF.out _ _ HP4.out; have hRF4 := HRF.out _ _ HR4.out; clear hr4 ho4 hRA3 HF HRF)
              | (go_at_call 56; refine hF4.mono ?_; rintro r w5 ⟨rfl, rfl⟩; clear hF4)
              | (go_at_call 57; refine hRF4.mono ?_; rintro r w6 ⟨rfl, rfl⟩; clear hRF4))
            obtain ⟨Ar, cr, hur⟩ := owns_slice HR4.out.2.2
            subst hur
            have KS := Lib.hid (fun (W : World) (hW : Below w4.heap.size w4 W) => (⟨hW, by have := (HR4.out.below hW).1.cell 0; simpa using this⟩ : Below w4.heap.size w4 W ∧ W.cell? ⟨w1.heap.size, 0, none⟩ = some (.slice Ar qs.length cr)))
            have HBY4 : Hid (∀ W, Below w4.heap.size w4 W → Calls Try.prog 58 #[.pointer (some ⟨g, 0, none⟩)] W fun r w' => ∃ u, r = .returned u ∧ Own w' W.heap.size u (putsT qs) ∧ Below W.heap.size W w' ∧ Below w4.heap.size w4 w') :=
              Lib.hid (fun W hW => (HBY.out W _ (HP4.out.below hW)).mono (by rintro r w' ⟨u, h1, h2, h3⟩; exact ⟨u, h1, h2, h3, hW.trans (h3.mono hW.size)⟩))
            have HRB4 : Hid (∀ W, Below w4.heap.size w4 W → Calls Try.prog 59 #[.pointer (some ⟨w1.heap.size, 0, none⟩)] W fun r w' => ∃ u, r = .returned u ∧ Own w' W.heap.size u (putsT qs) ∧ Below W.heap.size W w' ∧ Below w4.heap.size w4 w') :=
              Lib.hid (fun W hW => (HRB.out W _ (HR4.out.below hW)).mono (by rintro r w' ⟨u, h1, h2, h3⟩; exact ⟨u, h1, h2, h3, hW.trans (h3.mono hW.size)⟩))
            have HC4 := Lib.hid (fun (W : World) (hW : Below w4.heap.size w4 W) => HC.out W _ (HP4.out.below hW))
            clear HBY HRB HC
            obtain ⟨sM, hsM⟩ : ∃ sM : ByteArray, sM = ⟨(putsT qs).toArray⟩ := ⟨_, rfl⟩
            have EM := Lib.hid hsM
            clear hsM
            go_region_held_law (fun W => Below w4.heap.size w4 W ∧ W.cell? ⟨w1.heap.size, 0, none⟩ = some (.slice Ar qs.length cr)) ((refine KS.out _ ?_; first | assumption | exact (Below.refl _ _).drew)) (first
              | (go_at_call 58; refine (HBY4.out _ ((Below.refl _ _).drew)).mono ?_; rintro r w5 ⟨u5, rfl, ho5, hb5, hb5'⟩; have hc5 := conv_as EM.out (conv_own ho5))
              | (go_at_call 59; refine (HRB4.out _ hb5').mono ?_; rintro r w6 ⟨u6, rfl, ho6, hb6, hb6'⟩; have hc6 := conv_as EM.out (conv_own ho6); have hc7 := conv_as EM.out (conv_own (own_below ho5 hb6)))
              | (go_at_call 60; refine (HC4.out _ hb6').mono ?_; rintro r w7 ⟨rfl, rfl⟩))
            all_goals
              go_wp2_with (go_at_call 58; refine (HBY4.out _ hb6').mono ?_; rintro r w8 ⟨u8, rfl, ho8, hb8, hb8'⟩; (obtain ⟨A8, d8, rfl, hl8, hw8⟩ := writes_own ho8); have HW8 := Lib.hid (writes_up hw8 hb6'.size); have HB8 := Lib.hid hb8'; clear ho8 hb8 hb8' hw8)
              generalize wr = wx at *
              have hn8 : (putsT qs).length ≤ 65536 := by rw [spanT_puts HG.out.1]; exact HG.out.2.1
              generalize (putsT qs).length = n8 at *
              go_loopw [16] (fun i wr => ∃ j : Nat, i = .int .i64 j ∧ j ≤ n8 ∧ Hid (Writes wr w4.heap.size n8 A8) ∧ Hid (Below w4.heap.size w4 wr)) (fun i _ => n8 - (intOf i).toNat)
              case atStart => exact ⟨0, rfl, Nat.zero_le _, HW8, HB8⟩
              case round =>
                obtain ⟨j, rfl, hj, HWR, HBR⟩ := hrel
                by_cases hjn : j < n8
                · obtain ⟨b8, cs, rfl, hba, hbox, hcs⟩ := HWR.out (by omega)
                  obtain ⟨cj, hcj⟩ : ∃ cj, wr.cell? ⟨b8, j, none⟩ = some cj := ⟨_, (hbox.cell j).trans (Array.getElem?_eq_getElem (show j < cs.size by omega))⟩
                  have hfj := hbox.free j
                  have HWN := Lib.hid (writes_set hbox hcs hba j (.int .u8 0))
                  have HBN := Lib.hid (HBR.out.trans (below_set wr hba j (.int .u8 0)))
                  clear hbox hcs
                  go_wp2_with fail
                  go_roundw
                  case rel => exact ⟨j + 1, by go_num, by omega, HWN, HBN⟩
                  case measure => simp [intOf]; omega
                · go_wp2_with fail
                  go_roundw
                  case rel => exact ⟨k + 1, qs, _, _, by go_num, by omega, by omega, Lib.hid (HP4.out.below HBR.out), Lib.hid (HR4.out.below HBR.out), Lib.hid (HB4.out.trans (HBR.out.mono HB4.out.size))⟩
                  case measure => simp [intOf]; omega
          · have hd1 : decide ((300 : Int) < (tb.size : Int)) = false := by simp; omega
            have hd2 : decide ((300 : Int) < (sb.size : Int)) = true := by simp; omega
            go_wp2_with (go_at_call 53; refine (hW _).mono ?_; rintro r w3 ⟨rfl, hb3⟩)
            go_ret
            exact ⟨rfl, HB.out.trans (hb3.mono HB.out.size)⟩
        · have hd1 : decide ((300 : Int) < (tb.size : Int)) = true := by simp; omega
          go_wp2_with (go_at_call 53; refine (hW _).mono ?_; rintro r w3 ⟨rfl, hb3⟩)
          go_ret
          exact ⟨rfl, HB.out.trans (hb3.mono HB.out.size)⟩
      · go_wp2_with (go_at_call 53; refine (hW _).mono ?_; rintro r w3 ⟨rfl, hb3⟩)
        go_ret
        exact ⟨rfl, HB.out.trans (hb3.mono HB.out.size)⟩
    · go_wp2_with (go_at_call 53; refine (hW _).mono ?_; rintro r w3 ⟨rfl, hb3⟩)
      go_ret
      exact ⟨rfl, HB.out.trans (hb3.mono HB.out.size)⟩

end Go.Proofs.Ytbggajojhopaaaa
