/-
  The walk of CstrBack: texts that may be, put one behind the other, are taken one by one, are all that there is, and stand where their sizes say.
-/
import Derived.Test.YtbggajojhopaaaaCsV
import Derived.Test.YtbggajojhopaaaaLawC
namespace Go.Proofs.Ytbggajojhopaaaa
open Go Go.RowKit

/-- Texts that came in, as they lie in memory. -/
def Txts (w : World) (a : Option Addr) (ls : List (List UInt8)) : Prop :=
  0 < ls.length → ∃ b o, a = some ⟨b, o, none⟩ ∧ b < w.heap.size ∧ ∀ (j : Nat) (t : List UInt8), ls[j]? = some t → w.cell? ⟨b, o + j, none⟩ = some (.string ⟨t.toArray⟩)

theorem right_all (s : List UInt8) (w : World) :
    Calls Try.prog 48 #[.string ⟨s.toArray⟩] w fun r w' => r = .returned (.bool (rightT s)) ∧ w = w' := by
  by_cases hs : s.length ≤ 140737488355328
  · exact right_any s w hs
  · have hsz : (ByteArray.mk s.toArray).size = s.length := rfl
    have hd : decide ((s.length : Int) ≤ 200) = false := by simp; omega
    have HR := Lib.hid (show rightT s = false by unfold rightT; rw [decide_eq_false (by omega)]; rfl)
    clear hs
    generalize ByteArray.mk s.toArray = b at *
    generalize s.length = n at *
    subst hsz
    go_enter Try.func48, Try.ntmps48
    go_wp2_with fail
    go_ret
    exact ⟨by rw [HR.out]; rfl, rfl⟩

/-- Where the k-th text begins. -/
def begT (ls : List (List UInt8)) (k : Nat) : Nat := (putsT (ls.take k)).length

theorem putsT_drop (ls : List (List UInt8)) (k : Nat) : (putsT ls).drop (begT ls k) = putsT (ls.drop k) := by
  have h := putsT_append (ls.take k) (ls.drop k)
  rw [List.take_append_drop] at h
  rw [h, begT, List.drop_left]

theorem begT_next {ls : List (List UInt8)} {k : Nat} {t : List UInt8} (h : ls[k]? = some t) (hr : rightT t = true) : begT ls (k + 1) = begT ls k + (t.length + 1) := by
  obtain ⟨hk, rfl⟩ := List.getElem?_eq_some_iff.1 h
  unfold begT
  rw [List.take_succ_eq_append_getElem hk, putsT_append, List.length_append]
  have := (rightT_spec hr).2.2
  simp [putsT, this]

theorem begT_le (ls : List (List UInt8)) (k : Nat) : begT ls k ≤ (putsT ls).length := by
  have h := putsT_append (ls.take k) (ls.drop k)
  rw [List.take_append_drop] at h
  rw [h, List.length_append, begT]
  omega

theorem begT_all (ls : List (List UInt8)) : begT ls ls.length = (putsT ls).length := by unfold begT; rw [List.take_length]

theorem readT_at {ls : List (List UInt8)} {k : Nat} {t : List UInt8} (h : ls[k]? = some t) (hr : rightT t = true) : readT ((putsT ls).drop (begT ls k)) = (t, t.length + 1, 0) := by
  obtain ⟨hk, rfl⟩ := List.getElem?_eq_some_iff.1 h
  rw [putsT_drop, List.drop_eq_getElem_cons hk]
  exact readT_put hr _

theorem atT_at {ls : List (List UInt8)} {k : Nat} {t : List UInt8} (h : ls[k]? = some t) (hr : rightT t = true) : atT (putsT ls) (begT ls k) = (t, 0) := by
  have h1 := begT_next h hr
  have h2 := begT_le ls (k + 1)
  unfold atT
  rw [if_pos (by omega), readT_at h hr]

theorem putsT_size {ls : List (List UInt8)} (h : ∀ s ∈ ls, rightT s = true) : (putsT ls).length ≤ 201 * ls.length := by
  induction ls with
  | nil => simp [putsT]
  | cons s l ih =>
    have h1 := rightT_spec (h s (by simp))
    have h2 := ih fun x hx => h x (by simp [hx])
    simp only [putsT, List.length_append, List.length_cons, h1.2.2, List.length_nil]
    omega

set_option maxRecDepth 20000 in
set_option maxHeartbeats 8000000 in
theorem cback_walk (a0 : Option Addr) (cap0 : Nat) (ls : List (List UInt8)) (w : World) (w0 : Txts w a0 ls) (hlc : ls.length ≤ cap0) :
    Calls Try.prog 11 #[.slice a0 ls.length cap0] w fun e w' => e = .returned (.bool true) ∧ Below w.heap.size w w' := by
  obtain ⟨n, hn⟩ : ∃ n, ls.length = n := ⟨_, rfl⟩
  have HN := Lib.hid hn
  have HX := Lib.hid w0
  have hW := works3_any w
  rw [hn] at hlc ⊢
  clear w0 hn
  by_cases hbig : 60 < n
  · have hd : decide ((60 : Int) < (n : Int)) = true := by simp; omega
    go_enter Try.func11, Try.ntmps11
    go_wp2_with (go_at_call 39; refine hW.mono ?_; rintro r w1 ⟨rfl, hb1⟩)
    go_ret
    exact ⟨rfl, hb1⟩
  · have hd : decide ((60 : Int) < (n : Int)) = false := by simp; omega
    have hnil := Lib.hid (World.ownsRow_nil w w.heap.size 5 1)
    go_enter Try.func11, Try.ntmps11
    go_wp2_with (go_at_call 39; refine hW.mono ?_; rintro r w1 ⟨rfl, hb1⟩; have HB1 := Lib.hid hb1; clear hb1 hW)
    go_loopw [3, 21] (fun b i wr => ∃ k : Nat, i = .int .i64 k ∧ k ≤ n ∧ Hid (∀ s ∈ ls.take k, rightT s = true) ∧ Hid (Own wr w.heap.size b (putsT (ls.take k))) ∧ Hid (Below w.heap.size w wr)) (fun _ i _ => n - (intOf i).toNat)
    case atStart => exact ⟨0, rfl, Nat.zero_le _, Lib.hid (by simp), Lib.hid (World.ownsRow_nil _ _ _ _), HB1⟩
    case round =>
      obtain ⟨k, rfl, hk, HRT, HOW, HB⟩ := hrel
      clear HB1
      by_cases hlt : k < n
      · obtain ⟨ab, ao, rfl, hab, hcell⟩ := HX.out (by rw [HN.out]; omega)
        obtain ⟨t, ht⟩ : ∃ t, ls[k]? = some t := ⟨ls[k]'(by rw [HN.out]; exact hlt), List.getElem?_eq_getElem _⟩
        have hck := (HB.out.cell (p := ⟨ab, ao + k, none⟩) hab).trans (hcell k t ht)
        have hRi := fun W => right_all t W
        by_cases hr : rightT t = true
        · have HRT1 := Lib.hid (show ∀ s ∈ ls.take (k + 1), rightT s = true by
            obtain ⟨hk', e⟩ := List.getElem?_eq_some_iff.1 ht
            rw [List.take_succ_eq_append_getElem hk']
            intro s hs
            rcases List.mem_append.1 hs with h1 | h1
            · exact HRT.out s h1
            · have : s = ls[k] := by simpa using h1
              rw [this, e]; exact hr)
          have h200 := (rightT_spec hr).1
          have hsz := putsT_size HRT.out
          have hP := Lib.hid (putt_any HOW.out HB.out.size t (by simp at hsz; omega))
          have HE := Lib.hid (show putsT (ls.take (k + 1)) = putsT (ls.take k) ++ putT t by
            obtain ⟨hk', e⟩ := List.getElem?_eq_some_iff.1 ht
            rw [List.take_succ_eq_append_getElem hk', putsT_append, e]; simp [putsT])
          rw [hr] at hRi
          clear hsz h200 hcell ht hr
          generalize ByteArray.mk t.toArray = tb at *
          go_wp2_with (first
            | (go_at_call 48; refine (hRi _).mono ?_; rintro r w2 ⟨rfl, rfl⟩)
            | (go_at_call 50; refine hP.out.mono ?_; rintro r w3 ⟨v3, rfl, hL3⟩; have HOW3 := Lib.hid (show Own w3 w.heap.size v3 (putsT (ls.take (k + 1))) by rw [HE.out]; exact hL3.1); have HB3 := Lib.hid (below_laid HB.out HOW.out hL3); clear hL3))
          go_roundw
          case rel => exact ⟨k + 1, by go_num, by omega, HRT1, HOW3, HB3⟩
          case measure => simp [intOf]; omega
        · have hr' : rightT t = false := by simpa using hr
          rw [hr'] at hRi
          clear hcell ht hr hr'
          generalize ByteArray.mk t.toArray = tb at *
          go_wp2_with (go_at_call 48; refine (hRi _).mono ?_; rintro r w2 ⟨rfl, rfl⟩)
          go_ret
          exact ⟨rfl, HB.out⟩
      · have hkn : k = n := by omega
        subst hkn
        generalize wr = wx at *
        have hall : ∀ s ∈ ls, rightT s = true := by
          have := HRT.out
          rwa [← HN.out, List.take_length] at this
        obtain ⟨L, hL⟩ : ∃ L, L = putsT ls := ⟨_, rfl⟩
        have hown : Own wx w.heap.size u3 L := by
          have := HOW.out
          rwa [← HN.out, List.take_length, ← hL] at this
        have hsz : L.length ≤ 12060 := by
          have := putsT_size hall
          rw [HN.out] at this
          rw [hL]; omega
        obtain ⟨A, c, rfl, hLc, hcm, hrd⟩ := own_slice hown
        have hall0 : allT L = (ls, 0) := by rw [hL]; exact allT_puts ls hall
        have hAll := (by
          have := all_any hrd (Nat.le_refl _) c (by omega)
          rwa [show (allT L).2 = 0 by rw [hall0], show resT L = ls by unfold resT; rw [hall0]; rfl] at this : Calls Try.prog 45 #[.slice A L.length c] wx fun r w' => ∃ u, r = .returned (.tuple #[u, .int .i64 0]) ∧ OwnS w' wx.heap.size u ls ∧ Below wx.heap.size wx w')
        have HALL := Lib.hid hall
        have HLL := Lib.hid hL
        have HRD := Lib.hid hrd
        have HSZ := Lib.hid hsz
        have HLC := Lib.hid hLc
        have hN := Lib.hid (fun (W : World) (hW : Below wx.heap.size wx W) => new_any c (hrd.below hW) hW.size (by omega))
        clear hall hown hcm hrd hall0 HRT HOW hlt hL hsz hLc
        go_wp2_with (first
          | (go_at_call 45; refine hAll.mono ?_; rintro r w2 ⟨u, rfl, hO2, hb2⟩; (obtain ⟨Au, cu, rfl⟩ := owns_slice hO2); rw [HN.out]; have hN2 := hN.out _ hb2; have HO2 := Lib.hid hO2; have HB2 := Lib.hid hb2; clear hO2 hb2)
          | (go_at_call 17; refine hN2.mono ?_; rintro r w3 ⟨g, v, rfl, hM3, hb3⟩; have HM3 := Lib.hid hM3; have HB3 := Lib.hid hb3; clear hM3 hb3 hN2))
        rw [HN.out] at HO2
        clear hAll hN
        go_loopw [9, 50] (fun p i wr => ∃ j : Nat, i = .int .i64 j ∧ j ≤ k ∧ p = .int .u64 (begT ls j : Int) ∧ Hid (Below w2.heap.size w2 wr) ∧ Hid (Cur wr g v L (begT ls j) 0)) (fun _ i _ => k - (intOf i).toNat)
        case atStart => exact ⟨0, rfl, Nat.zero_le _, rfl, HB3, Lib.hid HM3.out.1⟩
        case round =>
          obtain ⟨j, rfl, hj, rfl, HBQ, HCQ⟩ := hrel
          have HBW := Lib.hid (show Below wx.heap.size wx wr from HB2.out.trans (HBQ.out.mono HB2.out.size))
          have HBA := Lib.hid (show Below w.heap.size w wr from HB.out.trans (HBW.out.mono HB.out.size))
          by_cases hjk : j < k
          · obtain ⟨ab, ao, rfl, hab, hcell⟩ := HX.out (by rw [HN.out]; omega)
            obtain ⟨gm, cm, hum, hkc, hcm2, hxm⟩ := owns_cell (owns_below HO2.out HBQ.out) (by rw [HN.out]; omega)
            injection hum with hum1 hum2 hum3
            subst hum1 hum3
            clear hum2
            obtain ⟨t, ht⟩ : ∃ t, ls[j]? = some t := ⟨ls[j]'(by rw [HN.out]; exact hjk), List.getElem?_eq_getElem _⟩
            have hck := (HBA.out.cell (p := ⟨ab, ao + j, none⟩) hab).trans (hcell j t ht)
            have hcm := hxm j t ht
            have hgm : gm < wr.heap.size := World.block_lt_of_cell? wr _ hcm
            have hrt := HALL.out t (List.mem_of_getElem? ht)
            have hnx := begT_next ht hrt
            have hble := begT_le ls j
            rw [← HLL.out] at hble
            have h200 := (rightT_spec hrt).1
            have hL47 := HSZ.out
            have hA1 := at_any (HRD.out.below HBW.out) HBW.out.size c HLC.out (by omega) (begT ls j) (by unfold two64; omega)
            rw [show atT L (begT ls j) = (t, 0) by rw [HLL.out]; exact atT_at ht hrt] at hA1
            have hT1 := Lib.hid (fun (W : World) (h : Cur W g v L (begT ls j) 0) => (by
              have h1 := take_cur h (by omega)
              rw [takeT_zero, show readT (L.drop (begT ls j)) = (t, t.length + 1, 0) by rw [HLL.out]; exact readT_at ht hrt] at h1
              rw [hnx]
              exact h1 : Calls Try.prog 41 #[.pointer (some ⟨g, 0, none⟩)] W fun x w' => x = .returned (.string ⟨t.toArray⟩) ∧ Cur w' g v L (begT ls (j + 1)) 0 ∧ W.grownBy w' (some g)))
            have hgW := HM3.out.2.1
            have hsz : (ByteArray.mk t.toArray).size = t.length := rfl
            have HP1 := Lib.hid (show ((begT ls j : Nat) : Int) + ((t.length : Int) + 1) = ((begT ls (j + 1) : Nat) : Int) by rw [hnx]; omega)
            have s1 : IntKind.u64.wrap (t.length : Int) = (t.length : Int) := by rw [IntWalk.u64_in _ (by omega)]
            have s2 : IntKind.u64.wrap ((t.length : Int) + 1) = (t.length : Int) + 1 := by rw [IntWalk.u64_in _ (by omega)]
            have s3 : IntKind.u64.wrap ((begT ls j : Int) + ((t.length : Int) + 1)) = (begT ls j : Int) + ((t.length : Int) + 1) := by rw [IntWalk.u64_in _ (by omega)]
            clear hcell hxm ht hrt hnx hble h200 hL47
            generalize ByteArray.mk t.toArray = tb at *
            generalize t.length = m at *
            subst hsz
            generalize begT ls j = P at *
            go_wp2_with (first
              | (go_at_call 43; refine hA1.mono ?_; rintro r w5 ⟨rfl, hb5⟩; have hcm5 := (hb5.cell (p := ⟨gm, j, none⟩) hgm).trans hcm; have hT5 := hT1.out _ (HCQ.out.below hb5); have HB5 := Lib.hid hb5; clear hb5)
              | (go_at_call 41; refine hT5.mono ?_; rintro r w6 ⟨rfl, hC6, hG6⟩; have HC6 := Lib.hid hC6; have HB6 := Lib.hid (show Below w2.heap.size w2 w6 from (HBQ.out.trans (HB5.out.mono HBQ.out.size)).trans (below_of_only hG6 (Nat.le_trans HBQ.out.size HB5.out.size) (fun x hx => by cases hx; exact hgW))); clear hC6 hG6))
            go_roundw
            case rel => exact ⟨j + 1, by go_num, by omega, by rw [HP1.out], HB6, HC6⟩
            case measure => simp [intOf]; omega
          · have hjk2 : j = k := by omega
            subst hjk2
            have hbeg : begT ls j = L.length := by rw [HLL.out, ← begT_all, HN.out]
            have hE := end_cur HCQ.out
            rw [hbeg, show endOf L L.length 0 = 0 by unfold endOf leftOf; simp] at hE
            rw [hbeg]
            have s1 : IntKind.u64.wrap (L.length : Int) = (L.length : Int) := by have := HSZ.out; rw [IntWalk.u64_in _ (by omega)]
            generalize L.length = m at *
            go_wp2_with (go_at_call 23; refine hE.mono ?_; rintro r w9 ⟨rfl, q, rfl⟩)
            go_ret
            exact ⟨rfl, below_drewN HBA.out q⟩

end Go.Proofs.Ytbggajojhopaaaa
