/-
  The walk of PoolPlaces: each place that a pool told is still that of its text when others were added, also those again; and the table has each text once.
-/
import Derived.Test.YtbggajojhopaaaaPoX
import Derived.Test.YtbggajojhopaaaaPoW
import Derived.Deep.RegionHeldLaw
namespace Go.Proofs.Ytbggajojhopaaaa
open Go Go.RowKit

/-- Numbers that came in, as they lie in memory. -/
def Ints (w : World) (a : Option Addr) (n : Nat) : Prop :=
  0 < n → ∃ b o, a = some ⟨b, o, none⟩ ∧ b < w.heap.size ∧ ∀ j, j < n → ∃ z : Int, w.cell? ⟨b, o + j, none⟩ = some (.int .i64 z)

theorem ints_of {w : World} {a : Option Addr} {len cap : Nat} {zs : List Int} (h : IsRow .i64 w a len cap zs) : Ints w a len := by
  intro h0
  rcases h with ⟨rfl, rfl, rfl, rfl⟩ | ⟨x, rfl, hl, hm, hz, hcell, hwz⟩
  · omega
  · have hc0 := hcell 0 (by omega)
    obtain ⟨b, o, spot⟩ := x
    have hspot : spot = none := by simpa [Addr.add] using World.cell?_spot hc0
    subst hspot
    refine ⟨b, o, rfl, ?_, fun j hj => ⟨zs.getD j 0, ?_⟩⟩
    · have := World.block_lt_of_cell? w _ hc0
      simpa [addr_add] using this
    · have := hcell j (by omega)
      rwa [addr_add] at this

theorem u64_low (a : Int) : 0 ≤ IntKind.u64.wrap a := by
  simp [IntKind.wrap, IntKind.signed, IntKind.bits]
  omega

theorem u64_rest (a : Int) {n : Nat} (h : 0 < n) : ∃ r : Nat, (IntKind.u64.wrap a).tmod (n : Int) = (r : Int) ∧ r < n := by
  have h0 := u64_low a
  rw [Int.tmod_eq_emod_of_nonneg h0]
  have h1 := Int.emod_nonneg (IntKind.u64.wrap a) (show (n : Int) ≠ 0 by omega)
  have h2 := Int.emod_lt_of_pos (IntKind.u64.wrap a) (show (0 : Int) < (n : Int) by omega)
  exact ⟨((IntKind.u64.wrap a) % (n : Int)).toNat, by omega, by omega⟩

set_option maxRecDepth 10000 in
set_option maxHeartbeats 16000000 in
theorem pplaces_walk (a0 : Option Addr) (cap0 : Nat) (ls : List (List UInt8)) (a1 : Option Addr) (len1 cap1 : Nat) (w : World) (w0 : Txts w a0 ls) (w1 : Ints w a1 len1) (hm1 : len1 ≤ maxLen) :
    Calls Try.prog 15 #[.slice a0 ls.length cap0, .slice a1 len1 cap1] w fun e w' => e = .returned (.bool true) ∧ Below w.heap.size w w' := by
  obtain ⟨N, hN⟩ : ∃ N, ls.length = N := ⟨_, rfl⟩
  have HN := Lib.hid hN
  have HX := Lib.hid w0
  have HI := Lib.hid w1
  have hW := works4_any w
  have hP := fun W => pnew_any W
  have HM1 := Lib.hid (show len1 ≤ 9223372036854775807 from hm1)
  clear hm1
  rw [hN]
  clear w0 w1 hN
  go_enter Try.func15, Try.ntmps15
  go_wp2_with (first
    | (go_at_call 53; refine hW.mono ?_; rintro r w1 ⟨rfl, hb1⟩; have HB1 := Lib.hid hb1; clear hb1 hW)
    | (go_at_call 52; refine (hP _).mono ?_; rintro r w2 ⟨g, mb, rfl, hp2, hb2⟩; have HB2 := Lib.hid (HB1.out.trans (hb2.mono HB1.out.size)); have HP2 := Lib.hid (hp2.base_le HB1.out.size); clear hp2 hb2 hP))
  go_loopw [6, 7, 8] (fun ua us i wr => ∃ (k : Nat) (ps : List (List UInt8)) (v : Value) (ats : List Nat) (als : List (List UInt8)), i = .int .i64 k ∧ k ≤ N ∧ k ≤ 40 ∧ als.length ≤ k ∧
      Hid (PoolAt wr w.heap.size g mb v ps) ∧ Hid (OwnU wr w.heap.size ua ats) ∧ Hid (OwnS wr w.heap.size us als) ∧ Hid (Knows ps ats als) ∧ Hid (spanT ps ≤ 201 * k) ∧ Hid (Below w.heap.size w wr)) (fun _ _ i _ => N - (intOf i).toNat)
  case atStart => exact ⟨0, [], _, [], [], rfl, Nat.zero_le _, by omega, by simp, HP2, Lib.hid (World.ownsRow_nil _ _ _ _), Lib.hid (World.ownsRow_nil _ _ _ _), Lib.hid knows_nil, Lib.hid (by simp [spanT]), HB2⟩
  case round =>
    obtain ⟨k, ps, v, ats, als, rfl, hk, hk4, hal, HP, HU, HS, HK, HSP, HB⟩ := hrel
    clear HP2 HB2 HB1
    by_cases hgo : k < N ∧ k < 40
    · have hlt := hgo.1
      have h40 := hgo.2
      · obtain ⟨ab, ao, rfl, hab, hcell⟩ := HX.out (by rw [HN.out]; omega)
        obtain ⟨t, ht⟩ : ∃ t, ls[k]? = some t := ⟨ls[k]'(by rw [HN.out]; exact hlt), List.getElem?_eq_getElem _⟩
        have hck := (HB.out.cell (p := ⟨ab, ao + k, none⟩) hab).trans (hcell k t ht)
        obtain ⟨tb, htb⟩ : ∃ tb : ByteArray, tb = ⟨t.toArray⟩ := ⟨_, rfl⟩
        have HTB := Lib.hid htb
        rw [← htb] at hck
        have HCK := Lib.hid (fun (W : World) (hW : Below w.heap.size w W) => (by have := (hW.cell (p := ⟨ab, ao + k, none⟩) hab).trans (hcell k t ht); rwa [← htb] at this : W.cell? ⟨ab, ao + k, none⟩ = some (.string tb)))
        clear htb hcell ht
        have hA := add_every HP.out t
        rw [← HTB.out] at hA
        by_cases hr : rightT t = true
        · have hsp := HSP.out
          obtain ⟨e0, _, e2⟩ := addT_ok (l := ps) hr (by omega)
          have HK1 := Lib.hid (knows_next HK.out hr (by omega))
          have HSP1 := Lib.hid (show spanT (addT ps t).1 ≤ 201 * (k + 1) by omega)
          rw [e0] at hA
          clear hsp e0 e2
          generalize addT ps t = q at *
          obtain ⟨qs, qx, qe⟩ := q
          dsimp only at hA HK1 HSP1
          go_wp2_with (go_at_call 54; refine hA.mono ?_; rintro r w3 ⟨rfl, ⟨v3, hp3⟩, ho3⟩; have HP3 := Lib.hid hp3; have HU3 := Lib.hid (row_only HU.out ho3 (fun _ _ x => by rcases x with x | x <;> revert x <;> decide)); have HS3 := Lib.hid (row_only HS.out ho3 (fun _ _ x => by rcases x with x | x <;> revert x <;> decide)); have HB3 := Lib.hid (HB.out.trans ho3.1); clear hp3 ho3 hA)
          obtain ⟨i0, hi0, hz00, hz01, hz02⟩ := info_parts str_info
          obtain ⟨i1, hi1, hz10, hz11, hz12⟩ := info_parts u64_info
          have H63 := Lib.hid (show als.length + 1 ≤ maxLen by unfold maxLen; omega)
          have HBY := Lib.hid (show (als.length + 1) * 16 ≤ 140737488355328 by omega)
          have H63u := Lib.hid (show ats.length + 1 ≤ maxLen by have := HK.out.1; unfold maxLen; omega)
          have HBYu := Lib.hid (show (ats.length + 1) * 8 ≤ 140737488355328 by have := HK.out.1; omega)
          have KS := Lib.hid (fun (X : World) (hX : Below w.heap.size w X) => (⟨hX, HCK.out X hX⟩ : Below w.heap.size w X ∧ X.cell? ⟨ab, ao + k, none⟩ = some (.string tb)))
          have hb3 := HB3.out
          have hs3 := hb3.size
          have HEU := Lib.hid (fun (W : World) (v : Value) (h : W.ownsRow w.heap.size 31 1 v (ats.length + 1) (placeV ats ++ [.int .u64 (qx : Int)])) => (by rw [OwnU, placeV_append, List.length_append]; exact h : OwnU W w.heap.size v (ats ++ [qx])))
          have HES := Lib.hid (fun (W : World) (v : Value) (h : W.ownsRow w.heap.size 9 1 v (als.length + 1) (strV als ++ [.string tb])) => (by rw [OwnS, strV_append, List.length_append]; rw [HTB.out] at h; exact h : OwnS W w.heap.size v (als ++ [t])))
          go_region_held_law (fun X => Below w.heap.size w X ∧ X.cell? ⟨ab, ao + k, none⟩ = some (.string tb)) ((refine KS.out _ ?_; repeat' (first | (with_reducible assumption) | (with_reducible refine Below.drew ?_) | (with_reducible refine Below.alloc ?_ ?_ _) | omega | (simp; omega)))) (first
            | (refine step_push (w := w3) (by rfl) (.tmp 51) (.tmp 53) _ (by rfl) w.heap.size 31 i1 (.int .u64 0) 8 Try.underlying93 hi1 hz10 hz11 hz12 rfl u6 ats.length (placeV ats) (by rfl) HU3.out (by repeat' (first | (with_reducible exact Below.refl _ _) | (with_reducible refine Below.drew ?_) | (with_reducible refine Below.alloc ?_ ?_ _) | (simp; done) | omega)) _ _ (.int .u64 (qx : Int)) (by rfl) (by first | exact heap_alloc_new _ _ | exact lit_first _ _ _ | exact lit_second _ _ _) rfl H63u.out HBYu.out hs3 ?_; intro g4 c4 w4 hu4 hon4 hon4'; have HU4 := Lib.hid (HEU.out _ _ hu4); have HS4 := Lib.hid (row_only HS3.out hon4' (fun _ _ x => absurd (show 9 = 31 from x) (by decide))); have HP4 := Lib.hid (HP3.out.rows hon4' (by decide) (by decide)); have hb4 := hb3.trans hon4'.1; have hs4 := hb4.size; clear hu4 hon4')
            | (refine step_push (w := w4) (by rfl) (.tmp 55) (.tmp 60) _ (by rfl) w.heap.size 9 i0 (.string ⟨#[]⟩) 16 Try.underlying63 hi0 hz00 hz01 hz02 rfl u7 als.length (strV als) (by rfl) HS4.out (by repeat' (first | (with_reducible exact Below.refl _ _) | (with_reducible refine Below.drew ?_) | (with_reducible refine Below.alloc ?_ ?_ _) | (simp; done) | omega)) _ _ (.string tb) (by rfl) (by first | exact heap_alloc_new _ _ | exact hon4.2 _ _ (lit_first _ _ _) (fun x => absurd (show 9 = 31 from x) (by decide)) | exact hon4.2 _ _ (lit_second _ _ _) (fun x => absurd (show 9 = 31 from x) (by decide))) rfl H63.out HBY.out hs4 ?_; intro g5 c5 w5 hs5 hon5 hon5'; have HS5 := Lib.hid (HES.out _ _ hs5); have HU5 := Lib.hid (row_only HU4.out hon5' (fun _ _ x => absurd (show 31 = 9 from x) (by decide))); have HP5 := Lib.hid (HP4.out.rows hon5' (by decide) (by decide)); have hb5 := hb4.trans hon5'.1; clear hs5 hon5'))
          all_goals
            go_wp2
            go_roundw
            case rel => exact ⟨k + 1, qs, v3, ats ++ [qx], als ++ [t], by go_num, by omega, by omega, by simp; omega, HP5, HU5, HS5, HK1, HSP1, Lib.hid hb5⟩
            case measure => simp [intOf]; omega
        · have hr' : rightT t = false := by simpa using hr
          have hR := fun W => right_all t W
          rw [hr', ← HTB.out] at hR
          rw [addT_wrong hr'] at hA
          have HSP1 := Lib.hid (show spanT ps ≤ 201 * (k + 1) by have := HSP.out; omega)
          clear hr hr'
          dsimp only at hA
          go_wp2_with (first
            | (go_at_call 54; refine hA.mono ?_; rintro r w3 ⟨rfl, ⟨v3, hp3⟩, ho3⟩; have HP3 := Lib.hid hp3; have HU3 := Lib.hid (row_only HU.out ho3 (fun _ _ x => by rcases x with x | x <;> revert x <;> decide)); have HS3 := Lib.hid (row_only HS.out ho3 (fun _ _ x => by rcases x with x | x <;> revert x <;> decide)); have HB3 := Lib.hid (HB.out.trans ho3.1); have hck3 := HCK.out _ HB3.out; clear hp3 ho3 hA)
            | (go_at_call 48; refine (hR _).mono ?_; rintro r w4 ⟨rfl, rfl⟩))
          go_roundw
          case rel => exact ⟨k + 1, ps, v3, ats, als, by go_num, by omega, by omega, by omega, HP3, HU3, HS3, HK, HSP1, HB3⟩
          case measure => simp [intOf]; omega
    · have hstop : ¬ k < N ∨ (k < N ∧ ¬ k < 40) := by omega
      have hBy := bytes_at HP.out
      obtain ⟨n, hn⟩ : ∃ n, als.length = n := ⟨_, rfl⟩
      have HNL := Lib.hid hn
      have hn4 : n ≤ 40 := by omega
      obtain ⟨A7, c7, h7, hc7, hx7⟩ := owns_at HS.out
      obtain ⟨A6, c6, h6, hx6⟩ := ownu_at HU.out
      rw [HK.out.1, hn] at h6
      rw [hn] at h7 hc7
      have HU7 := Lib.hid h7
      have HU6 := Lib.hid h6
      subst h7 h6
      clear hgo hn hal hx7 hx6
      have HCU := Lib.hid (fun (W : World) (h : OwnU W w.heap.size (.slice A6 n c6) ats) (j : Nat) (p : Nat) (hj : ats[j]? = some p) => (by
        obtain ⟨A, c, e, hx⟩ := ownu_at h
        injection e with e1 e2 e3
        subst e1
        obtain ⟨gb, e, _, hc⟩ := hx (by have := (List.getElem?_eq_some_iff.1 hj).1; omega)
        exact ⟨gb, e, hc j p hj⟩ : ∃ gb, A6 = some ⟨gb, 0, none⟩ ∧ W.cell? ⟨gb, j, none⟩ = some (.int .u64 (p : Int))))
      have HCS := Lib.hid (fun (W : World) (h : OwnS W w.heap.size (.slice A7 n c7) als) (j : Nat) (t : List UInt8) (hj : als[j]? = some t) => (by
        obtain ⟨A, c, e, _, hx⟩ := owns_at h
        injection e with e1 e2 e3
        subst e1
        obtain ⟨gb, e, _, hc⟩ := hx (by have := (List.getElem?_eq_some_iff.1 hj).1; omega)
        exact ⟨gb, e, hc j t hj⟩ : ∃ gb, A7 = some ⟨gb, 0, none⟩ ∧ W.cell? ⟨gb, j, none⟩ = some (.string ⟨t.toArray⟩)))
      have HKJ := Lib.hid (fun (j : Nat) (hj : j < n) => (by
        have hj' : j < als.length := by rw [HNL.out]; exact hj
        have h1 := List.getElem?_eq_getElem hj'
        obtain ⟨h2, p, h3, h4⟩ := HK.out.2 j _ h1
        exact ⟨_, p, h1, h3, h4, h2⟩ : ∃ t p, als[j]? = some t ∧ ats[j]? = some p ∧ findT ps t = some p ∧ rightT t = true))
      obtain ⟨sM, hsM⟩ : ∃ sM : ByteArray, sM = ⟨(putsT ps).toArray⟩ := ⟨_, rfl⟩
      have EM := Lib.hid hsM
      clear hsM
      have HGD := Lib.hid HP.out.2.2.2.2.2
      rcases hstop with hlt | ⟨hlt, h40⟩
      all_goals
        generalize wr = wx at *
        go_wp2_with (go_at_call 58; refine hBy.mono ?_; rintro r w3 ⟨u3, rfl, ho3, hb3⟩; have hc3 := conv_as EM.out (conv_own ho3); have HP3 := Lib.hid (HP.out.below hb3); have HU3 := Lib.hid (row_only HU.out (Only.below (base := 0) (bad := fun _ => False) hb3 (Nat.zero_le _)) (fun _ _ x => x)); have HS3 := Lib.hid (row_only HS.out (Only.below (base := 0) (bad := fun _ => False) hb3 (Nat.zero_le _)) (fun _ _ x => x)); have HB3 := Lib.hid (HB.out.trans (hb3.mono HB.out.size)); clear ho3 hb3 hBy)
        clear hc3
        go_loopw [12] (fun i wr => ∃ (j : Nat) (v' : Value), i = .int .i64 j ∧ j ≤ len1 ∧ j ≤ 40 ∧ Hid (PoolAt wr w.heap.size g mb v' ps) ∧ Hid (OwnU wr w.heap.size (.slice A6 n c6) ats) ∧ Hid (OwnS wr w.heap.size (.slice A7 n c7) als) ∧ Hid (Below w.heap.size w wr)) (fun i _ => 41 - (intOf i).toNat)
        case atStart => exact ⟨0, v, rfl, Nat.zero_le _, by omega, HP3, HU3, HS3, HB3⟩
        case round =>
          obtain ⟨j, v', rfl, hj, hj4, HPR, HUR, HSR, HBR⟩ := hrel
          by_cases hgo : j < len1 ∧ j < 40 ∧ 0 < n
          · obtain ⟨hjl, hj40, hn0⟩ := hgo
            obtain ⟨ib, io, rfl, hib, hci⟩ := HI.out (by omega)
            obtain ⟨z, hz⟩ := hci j hjl
            have hzr := (HBR.out.cell (p := ⟨ib, io + j, none⟩) hib).trans hz
            obtain ⟨rr, hrr, hrn⟩ := u64_rest z hn0
            obtain ⟨t, p, ht, hp, hf, hr⟩ := HKJ.out rr hrn
            obtain ⟨g7, rfl, hx7⟩ := HCS.out _ HSR.out rr t ht
            obtain ⟨g6, rfl, _⟩ := HCU.out _ HUR.out rr p hp
            have hA := add_at HPR.out t (by have := (rightT_spec hr).1; omega)
            rw [addT_again HK.out ht hp] at hA
            dsimp only at hA
            have hn00 : ((n : Int) == 0) = false := by simp; omega
            have HCU1 := Lib.hid (fun (W : World) (h : OwnU W w.heap.size (.slice (some ⟨g6, 0, none⟩) n c6) ats) => (by
              obtain ⟨gb, e, hc⟩ := HCU.out W h rr p hp
              injection e with e
              injection e with e
              subst e
              exact hc : W.cell? ⟨g6, rr, none⟩ = some (.int .u64 (p : Int))))
            clear hz hci ht hp hf hr
            generalize ByteArray.mk t.toArray = tb at *
            go_wp2_with (go_at_call 54; refine hA.mono ?_; rintro r w4 ⟨rfl, ⟨v4, hp4⟩, ho4⟩; have HP4 := Lib.hid hp4; have HU4 := Lib.hid (row_only HUR.out ho4 (fun _ _ x => by rcases x with x | x <;> revert x <;> decide)); have HS4 := Lib.hid (row_only HSR.out ho4 (fun _ _ x => by rcases x with x | x <;> revert x <;> decide)); have HB4 := Lib.hid (HBR.out.trans ho4.1); have hx6 := HCU1.out _ HU4.out; clear hp4 ho4 hA)
            go_roundw
            case rel => exact ⟨j + 1, v4, by go_num, by omega, by omega, HP4, HU4, HS4, HB4⟩
            case measure => simp [intOf]; omega
          · have hstop2 : ¬ j < len1 ∨ (j < len1 ∧ ¬ j < 40) ∨ (j < len1 ∧ j < 40 ∧ n = 0) := by omega
            clear hgo
            generalize wr = wy at *
            have hl11 := HM1.out
            rcases hstop2 with hjl | ⟨hjl, hj40⟩ | ⟨hjl, hj40, hn0⟩
            all_goals
              go_wp2_with fail
              clear hl11
              go_loopw [111] (fun i wr => ∃ (m : Nat), i = .int .i64 m ∧ m ≤ n ∧ Hid (PoolAt wr w.heap.size g mb v' ps) ∧ Hid (OwnU wr w.heap.size (.slice A6 n c6) ats) ∧ Hid (OwnS wr w.heap.size (.slice A7 n c7) als) ∧ Hid (Below w.heap.size w wr)) (fun i _ => n - (intOf i).toNat)
              case atStart => exact ⟨0, rfl, Nat.zero_le _, HPR, HUR, HSR, HBR⟩
              case round =>
                obtain ⟨m, rfl, hmn, HPQ, HUQ, HSQ, HBQ⟩ := hrel
                have hBy2 := bytes_at HPQ.out
                have hpl : (putsT ps).length ≤ 65536 := by rw [pool_len HPQ.out]; exact HGD.out.2.1
                by_cases hlt : m < n
                · first
                  | (exfalso; omega)
                  | (
                      obtain ⟨t, p, ht, hp, hf, hr⟩ := HKJ.out m hlt
                      obtain ⟨g7, rfl, hx7⟩ := HCS.out _ HSQ.out m t ht
                      obtain ⟨g6, rfl, hx6⟩ := HCU.out _ HUQ.out m p hp
                      have hp64 : p < two64 := by have := findT_lt hf; have := HGD.out.2.1; unfold two64; omega
                      have HAT := Lib.hid (fun (W : World) (A : Option Addr) (c : Nat) (hrd : Rd W W.heap.size A (putsT ps)) (hlc : (putsT ps).length ≤ c) => (by
                        have := at_any hrd (Nat.le_refl _) c hlc (by omega) p hp64
                        rwa [atT_find HGD.out.1 hf] at this : Calls Try.prog 43 #[.slice A (putsT ps).length c, .int .u64 (p : Int)] W fun r w' => r = .returned (.tuple #[.string ⟨t.toArray⟩, .int .i64 0]) ∧ Below W.heap.size W w'))
                      have HXS := Lib.hid (fun (W : World) (hW : Below wr.heap.size wr W) => ((hW.cell (p := ⟨g7, m, none⟩) (World.block_lt_of_cell? wr _ hx7)).trans hx7 : W.cell? ⟨g7, m, none⟩ = some (.string ⟨t.toArray⟩)))
                      clear ht hp hf hr hp64
                      generalize ByteArray.mk t.toArray = tb at *
                      go_wp2_with (first
                        | (go_at_call 58; refine hBy2.mono ?_; rintro r w5 ⟨u5, rfl, ho5, hb5⟩; (obtain ⟨A5, d5, rfl, hlc5, _, hrd5⟩ := own_slice ho5); have hA5 := HAT.out _ _ _ hrd5 hlc5; have HB5 := Lib.hid hb5; clear ho5 hb5 hrd5 hlc5 hBy2)
                        | (go_at_call 43; refine hA5.mono ?_; rintro r w6 ⟨rfl, hb6⟩; have HB6 := Lib.hid (HB5.out.trans (hb6.mono HB5.out.size)); have hx8 := HXS.out _ HB6.out; clear hb6 hA5))
                      go_roundw
                      case rel => exact ⟨m + 1, by go_num, by omega, Lib.hid (HPQ.out.below HB6.out), Lib.hid (row_only HUQ.out (Only.below (base := 0) (bad := fun _ => False) HB6.out (Nat.zero_le _)) (fun _ _ x => x)), Lib.hid (row_only HSQ.out (Only.below (base := 0) (bad := fun _ => False) HB6.out (Nat.zero_le _)) (fun _ _ x => x)), Lib.hid (HBQ.out.trans (HB6.out.mono HBQ.out.size))⟩
                      case measure => simp [intOf]; omega)
                · have HON := Lib.hid (fun (W : World) (A : Option Addr) (c : Nat) (hrd : Rd W W.heap.size A (putsT ps)) => (by
                    have := once_any hrd (Nat.le_refl _) c (by omega)
                    rwa [(once_puts HGD.out).1, (once_puts HGD.out).2] at this : Calls Try.prog 61 #[.slice A (putsT ps).length c] W fun r w' => r = .returned (.tuple #[.bool true, .int .i64 0]) ∧ Below W.heap.size W w'))
                  go_wp2_with (first
                    | (go_at_call 58; refine hBy2.mono ?_; rintro r w5 ⟨u5, rfl, ho5, hb5⟩; (obtain ⟨A5, d5, rfl, _, _, hrd5⟩ := own_slice ho5); have hA5 := HON.out _ _ d5 hrd5; have HB5 := Lib.hid hb5; clear ho5 hb5 hrd5 hBy2)
                    | (go_at_call 61; refine hA5.mono ?_; rintro r w6 ⟨rfl, hb6⟩; have HB6 := Lib.hid (HB5.out.trans (hb6.mono HB5.out.size)); have hBy3 := bytes_at (HPQ.out.below HB6.out); clear hb6 hA5)
                    | (go_at_call 58; refine hBy3.mono ?_; rintro r w7 ⟨u7, rfl, ho7, hb7⟩; have hc7 := conv_as EM.out (conv_own ho7); have HB7 := Lib.hid (HB6.out.trans (hb7.mono HB6.out.size)); clear ho7 hb7 hBy3))
                  go_ret
                  exact ⟨rfl, HBQ.out.trans (HB7.out.mono HBQ.out.size)⟩

end Go.Proofs.Ytbggajojhopaaaa
