/-
  Package tables: the chapter's example (works); the walks of TablesTakes and TablesPuts.
-/
import Derived.Test.YtpmpgfngogdfhaaDoorTbH
import Derived.Test.YtpmpgfngogdfhaaDoorUnE
import Derived.Test.YtpmpgfngogdfhaaDoorRefE
import Derived.Deep.RegionHeldLaw
import Derived.Test.YtpmpgfngogdfhaaDoorPutR
import Derived.Test.YtpmpgfngogdfhaaDoorLtC
import Derived.Test.YtpmpgfngogdfhaaDoorLawC
namespace Go.Proofs.YtpmpgfngogdfhaaDoor
open Go Go.RowKit

def exB16 : List UInt8 := [12, 0, 0, 0, 5, 0, 8, 0, 0, 16, 0, 0, 0, 0, 0, 0]
def exT16 : Tbl := ⟨false, 8, [4096]⟩
theorem ex16_put : putTbB true false [4096] = exB16 := by decide
theorem ex16_err : putTbE true false [4096] = 0 := by decide
theorem ex16_allE : allTbE exB16 true = 0 := by decide
theorem ex16_allL : allTbL exB16 true = [exT16] := by kernel_rfl
theorem ex16_at : atTb [exT16] 8 0 = (4096, true) := by kernel_rfl
theorem row_one16 (w : World) : Row 1 numC (w.alloc (.cells #[.int .u64 4096] 41)) (w.heap.size + 1) (some ⟨w.heap.size, 0, none⟩) [4096] := lit_row num_oneT w 41 [4096]

set_option maxRecDepth 10000 in
set_option maxHeartbeats 1600000 in
theorem works16_any {w : World} (hs : Sz w) : Calls Tryd.prog 25 #[] w fun r w' => r = .returned (.bool true) ∧ Below w.heap.size w w' := by
  have hb1 : Below w.heap.size w (w.alloc (.cells #[.int .u64 4096] 41)) := (Below.refl _ _).alloc (Nat.le_refl _) _
  have HB1 := Lib.hid hb1
  have HS1 := Lib.hid (hs.below hb1 hs.pos)
  have P1 := Lib.hid (show Calls Tryd.prog 35 #[.bool false, .slice (some ⟨w.heap.size, 0, none⟩) 1 1] (w.alloc (.cells #[.int .u64 4096] 41)) fun r w' => ∃ A c, r = .returned (.tuple #[.slice A 16 c, .int .i64 0]) ∧ Rd w' w'.heap.size A exB16 ∧ Own w' w.heap.size (.slice A 16 c) exB16 ∧ Below (w.alloc (.cells #[.int .u64 4096] 41)).heap.size (w.alloc (.cells #[.int .u64 4096] 41)) w' from
    (puts_addrs (l := [4096]) false HS1.out (row_one16 w) (by simp) 1 (by decide) (by decide)).mono fun r w' ⟨u, e, ho, hb⟩ => by
      rw [ex16_put] at ho
      rw [ex16_err] at e
      obtain ⟨A, c, rfl, -, -, hrd⟩ := own_slice ho
      exact ⟨A, c, e, hrd, row_base ho hb1.size, hb⟩)
  have A1 := Lib.hid (fun (W : World) (A : Option Addr) (c : Nat) (hS : Sz W) (hr : Rd W W.heap.size A exB16) => (show Calls Tryd.prog 28 #[.slice A 16 c] W fun r w' => ∃ A2 c2 M, r = .returned (.tuple #[.slice A2 1 c2, .int .i64 0]) ∧ Tabs w' w'.heap.size A2 M ∧ M.length = 1 ∧ M.map TLay.x = [exT16] ∧ Below W.heap.size W w' from
    (tables_addrs hS c hr (Nat.le_refl _) (by decide)).mono fun r w' ⟨u, M, e, hM, ho, hb⟩ => by
      rw [ex16_allL] at hM
      rw [ex16_allE] at e
      have hl : M.length = 1 := by rw [← List.length_map (f := TLay.x), hM]; rfl
      obtain ⟨A', c', hu, -, -, hrow⟩ := ho.lies
      rw [hl] at hu
      subst hu
      exact ⟨A', c', M, e, hrow, hl, hM, hb⟩))
  have T1 := Lib.hid (fun (W : World) (A : Option Addr) (c : Nat) (M : List TLay) (h : Tabs W W.heap.size A M) (hl : M.length = 1) (hM : M.map TLay.x = [exT16]) => (show Calls Tryd.prog 31 #[.slice A 1 c, .int .u64 8, .int .u64 0] W fun r w' => r = .returned (.tuple #[.int .u64 4096, .bool true]) ∧ Below W.heap.size W w' from (by
    have hi : ∀ y ∈ M, y.x.items.length ≤ 1000000000 := fun y hy => by
      have : y.x ∈ M.map TLay.x := List.mem_map_of_mem hy
      rw [hM] at this
      rw [List.mem_singleton.1 this]
      decide
    have := at_tb h (Nat.le_refl _) c 8 0 (by omega) hi
    rw [hl, hM, ex16_at] at this
    exact this)))
  obtain ⟨s1, hs1⟩ : ∃ s : ByteArray, s = ⟨exB16.toArray⟩ := ⟨_, rfl⟩
  have E1 := Lib.hid hs1
  have q1 : (s1.toList == [12, 0, 0, 0, 5, 0, 8, 0, 0, 16, 0, 0, 0, 0, 0, 0]) = true := by rw [hs1, Lib.toList_data]; rfl
  clear hs hb1 hs1
  go_enter Tryd.func25, Tryd.ntmps25
  go_upto_region 2 with (go_at_call 35; refine P1.out.mono ?_; rintro r w1 ⟨A, c, rfl, hr, ho, hb⟩; have HR1 := Lib.hid hr; have HO1 := Lib.hid ho; have HS2 := Lib.hid (HS1.out.below hb HS1.out.pos); have HB2 := Lib.hid (HB1.out.trans (hb.mono HB1.out.size)); clear hr ho hb)
  go_upto_region 3 with (go_at_call 28; refine (A1.out _ _ _ HS2.out HR1.out).mono ?_; rintro r w2 ⟨A2, c2, M, rfl, hrow, hl, hM, hb⟩; have HRW := Lib.hid hrow; have HL := Lib.hid hl; have HM := Lib.hid hM; have HB3 := Lib.hid (HB2.out.trans (hb.mono HB2.out.size)); have HO3 := Lib.hid (own_below HO1.out hb); clear hrow hl hM hb)
  go_upto_region 4 with (go_at_call 31; refine (T1.out _ _ _ _ HRW.out HL.out HM.out).mono ?_; rintro r w3 ⟨rfl, hb⟩; have HB4 := Lib.hid (HB3.out.trans (hb.mono HB3.out.size)); have HO4 := Lib.hid (own_below HO3.out hb); clear hb)
  have cv : (convert 65 9 (.slice A 16 c)).run Tryd.prog w3 = .ok (.string s1) w3 := by rw [E1.out]; exact conv_own HO4.out
  go_wp2_with fail
  go_ret
  exact ⟨rfl, HB4.out⟩

theorem allTbL_len (sec : List UInt8) (ad : Bool) : (allTbL sec ad).length ≤ 61 := by
  have key : ∀ (n : Nat) (s : TAt), (runTb sec ad n s).L.length ≤ n + s.L.length := by
    intro n
    induction n with
    | zero => intro s; simp [runTb]
    | succ n ih =>
      intro s
      rw [runTb]
      split
      · have := ih (stepTb sec ad s)
        have h2 : (stepTb sec ad s).L.length = s.L.length + 1 := by simp [stepTb]
        omega
      · omega
  unfold allTbL
  split
  · exact key 61 _
  · exact Nat.zero_le _
theorem tTb_len (sec : List UInt8) (a : Nat) (ad : Bool) (h : a ≤ sec.length) : (tTb sec a ad).items.length ≤ sec.length := by
  have h1 := (lT_mod (bdG sec a 0) (bdE sec a 0) (szT ad (bdW sec a 0)) ad).2
  have h2 := bd_len sec a 0
  have h3 := bdA_to (e := 0) h
  show (itemsTb _ _ (lT _ _ _ _ / _)).length ≤ _
  rw [itemsTb_len]
  have := Nat.div_le_self (lT (bdG sec a 0) (bdE sec a 0) (szT ad (bdW sec a 0)) ad) (szT ad (bdW sec a 0))
  omega
theorem allTbL_items (sec : List UInt8) (ad : Bool) : ∀ t ∈ allTbL sec ad, t.items.length ≤ sec.length := by
  have key : ∀ (n : Nat) (s : TAt), s.a ≤ sec.length → (∀ t ∈ s.L, t.items.length ≤ sec.length) → ∀ t ∈ (runTb sec ad n s).L, t.items.length ≤ sec.length := by
    intro n
    induction n with
    | zero => intro s _ h; exact h
    | succ n ih =>
      intro s ha h
      rw [runTb]
      split
      · refine ih (stepTb sec ad s) (bdA_to ha) (fun t ht => ?_)
        rcases List.mem_append.1 (show t ∈ s.L ++ [tTb sec s.a ad] from ht) with ht | ht
        · exact h t ht
        · rw [List.mem_singleton.1 ht]; exact tTb_len sec s.a ad ha
      · exact h
  unfold allTbL
  split
  · exact key 61 _ (Nat.zero_le _) (fun t ht => by cases ht)
  · exact fun t ht => by cases ht

set_option maxRecDepth 10000 in
set_option maxHeartbeats 3200000 in
theorem ttakes16_walk (a0 : Option Addr) (len0 cap0 : Nat) (z0 : List Int) (a1 a2 : Int) (w : World) (hs : Sz w) (w0 : IsRow .u8 w a0 len0 cap0 z0) (w1 : (Lit.int .u64 a1).wf = true) (w2 : (Lit.int .u64 a2).wf = true) :
    Calls Tryd.prog 4 #[.slice a0 len0 cap0, .int .u64 a1, .int .u64 a2] w fun e w' => e = .returned (.bool true) ∧ Below w.heap.size w w' := by
  obtain ⟨l, hlen, hrd, hlc, hcm⟩ := row_bytes w0
  obtain ⟨bs, rfl, hx1⟩ := nat_of_u64 w1
  obtain ⟨ix, rfl, hx2⟩ := nat_of_u64 w2
  clear w0 w1 w2 hx1 hx2
  have HWK := Lib.hid (fun (W : World) (hb : Below w.heap.size w W) => works16_any (hs.below hb hs.pos))
  by_cases h5 : 5000 < len0
  · have d : decide ((5000 : Int) < (len0 : Int)) = true := by simp; omega
    have d' : decide (5000 < len0) = true := by simpa using h5
    clear h5 hrd hlen
    go_enter Tryd.func4, Tryd.ntmps4
    go_wp2_with (go_at_call 25; refine (HWK.out _ (Below.refl _ _)).mono ?_; rintro r w2 ⟨rfl, hb2⟩; have HB2 := Lib.hid hb2; clear hb2)
    go_ret
    exact ⟨rfl, HB2.out⟩
  have d : decide ((5000 : Int) < (len0 : Int)) = false := by simp; omega
  have d' : decide (5000 < len0) = false := by simpa using h5
  subst hlen
  have LD := fun (ad : Bool) (T : TypeId) (r : Ending) (W w' : World) (u : Value) (M : List TLay) (hM : M.map TLay.x = allTbL l ad) (ho : OwnTb T w' W.heap.size u M) => (by
    obtain ⟨A', c', hu, -, -, hrow⟩ := ho.lies
    have hl : M.length = (allTbL l ad).length := by rw [← hM, List.length_map]
    rw [hl] at hu
    refine ⟨A', c', hu, hrow, hl, fun y hy => ?_⟩
    have h1 := allTbL_items l ad y.x (hM ▸ List.mem_map_of_mem hy)
    omega : ∃ A' c', u = .slice A' (allTbL l ad).length c' ∧ Tabs w' w'.heap.size A' M ∧ M.length = (allTbL l ad).length ∧ ∀ y ∈ M, y.x.items.length ≤ 1000000000)
  have PS := Lib.hid (fun (W : World) (hb : Below w.heap.size w W) => (show Calls Tryd.prog 26 #[.slice a0 l.length cap0] W fun r w' => ∃ A' c' M, r = .returned (.tuple #[.slice A' (allTbL l false).length c', .int .i64 (allTbE l false)]) ∧ M.map TLay.x = allTbL l false ∧ Tabs w' w'.heap.size A' M ∧ M.length = (allTbL l false).length ∧ (∀ y ∈ M, y.x.items.length ≤ 1000000000) ∧ Below W.heap.size W w' from
    (tables_strs (hs.below hb hs.pos) cap0 (hrd.below hb) hb.size (by omega)).mono fun r w' ⟨u, M, e, hM, ho, hb⟩ => by
      obtain ⟨A', c', hu, hrow, hl, hit⟩ := LD false _ r W w' u M hM ho
      subst hu
      exact ⟨A', c', M, e, hM, hrow, hl, hit, hb⟩))
  have PA := Lib.hid (fun (W : World) (hb : Below w.heap.size w W) => (show Calls Tryd.prog 28 #[.slice a0 l.length cap0] W fun r w' => ∃ A' c' M, r = .returned (.tuple #[.slice A' (allTbL l true).length c', .int .i64 (allTbE l true)]) ∧ M.map TLay.x = allTbL l true ∧ Tabs w' w'.heap.size A' M ∧ M.length = (allTbL l true).length ∧ (∀ y ∈ M, y.x.items.length ≤ 1000000000) ∧ Below W.heap.size W w' from
    (tables_addrs (hs.below hb hs.pos) cap0 (hrd.below hb) hb.size (by omega)).mono fun r w' ⟨u, M, e, hM, ho, hb⟩ => by
      obtain ⟨A', c', hu, hrow, hl, hit⟩ := LD true _ r W w' u M hM ho
      subst hu
      exact ⟨A', c', M, e, hM, hrow, hl, hit, hb⟩))
  have RS := Lib.hid (fun (W : World) (hb : Below w.heap.size w W) => (show Calls Tryd.prog 27 #[.slice a0 l.length cap0, .bool false] W fun r w' => ∃ A' c' M, r = .returned (.tuple #[.slice A' (allTbL l false).length c', .int .i64 (allTbE l false)]) ∧ M.map TLay.x = allTbL l false ∧ Tabs w' w'.heap.size A' M ∧ M.length = (allTbL l false).length ∧ (∀ y ∈ M, y.x.items.length ≤ 1000000000) ∧ Below W.heap.size W w' from
    (rall_strs (B := w.heap.size) cap0 (hrd.below hb) hb.size hlc hcm (by omega)).mono fun r w' ⟨u, M, e, hM, ho, hb⟩ => by
      obtain ⟨A', c', hu, hrow, hl, hit⟩ := LD false _ r W w' u M hM ho
      subst hu
      exact ⟨A', c', M, e, hM, hrow, hl, hit, hb⟩))
  have RA := Lib.hid (fun (W : World) (hb : Below w.heap.size w W) => (show Calls Tryd.prog 27 #[.slice a0 l.length cap0, .bool true] W fun r w' => ∃ A' c' M, r = .returned (.tuple #[.slice A' (allTbL l true).length c', .int .i64 (allTbE l true)]) ∧ M.map TLay.x = allTbL l true ∧ Tabs w' w'.heap.size A' M ∧ M.length = (allTbL l true).length ∧ (∀ y ∈ M, y.x.items.length ≤ 1000000000) ∧ Below W.heap.size W w' from
    (rall_addrs (B := w.heap.size) cap0 (hrd.below hb) hb.size hlc hcm (by omega)).mono fun r w' ⟨u, M, e, hM, ho, hb⟩ => by
      obtain ⟨A', c', hu, hrow, hl, hit⟩ := LD true _ r W w' u M hM ho
      subst hu
      exact ⟨A', c', M, e, hM, hrow, hl, hit, hb⟩))
  have hls := allTbL_len l false
  have hla := allTbL_len l true
  clear LD h5 hrd hs
  generalize allTbE l false = Es at *
  generalize allTbE l true = Ea at *
  generalize allTbL l false = Ls at *
  generalize allTbL l true = La at *
  obtain ⟨Ns, hNs⟩ : ∃ N, Ls.length = N := ⟨_, rfl⟩
  obtain ⟨Na, hNa⟩ : ∃ N, La.length = N := ⟨_, rfl⟩
  rw [hNs] at PS RS hls
  rw [hNa] at PA RA hla
  clear hNs hNa
  generalize l.length = n at *
  go_enter Tryd.func4, Tryd.ntmps4
  go_upto_region 4 with (go_at_call 26; refine (PS.out _ (Below.refl _ _)).mono ?_; rintro r w1 ⟨A1, c1, M1, rfl, hM, hT, hl, hi, hb⟩; have HM1 := Lib.hid hM; have HT1 := Lib.hid hT; have HL1 := Lib.hid hl; have HI1 := Lib.hid hi; have HB1 := Lib.hid hb; clear hM hT hl hi hb)
  go_upto_region 5 with (go_at_call 27; refine (RS.out _ HB1.out).mono ?_; rintro r w2 ⟨A2, c2, M2, rfl, hM, hT, hl, hi, hb⟩; have HM2 := Lib.hid hM; have HT2 := Lib.hid hT; have HL2 := Lib.hid hl; have HI2 := Lib.hid hi; have HB2 := Lib.hid (HB1.out.trans (hb.mono HB1.out.size)); have HT12 := Lib.hid (HT1.out.up hb); clear hM hT hl hi hb)
  go_upto_region 6 with (go_at_call 28; refine (PA.out _ HB2.out).mono ?_; rintro r w3 ⟨A3, c3, M3, rfl, hM, hT, hl, hi, hb⟩; have HM3 := Lib.hid hM; have HT3 := Lib.hid hT; have HL3 := Lib.hid hl; have HI3 := Lib.hid hi; have HB3 := Lib.hid (HB2.out.trans (hb.mono HB2.out.size)); have HT13 := Lib.hid (HT12.out.up hb); have HT23 := Lib.hid (HT2.out.up hb); clear hM hT hl hi hb)
  go_upto_region 7 with (go_at_call 27; refine (RA.out _ HB3.out).mono ?_; rintro r w4 ⟨A4, c4, M4, rfl, hM, hT, hl, hi, hb⟩; have HM4 := Lib.hid hM; have HT4 := Lib.hid hT; have HL4 := Lib.hid hl; have HI4 := Lib.hid hi; have HB4 := Lib.hid (HB3.out.trans (hb.mono HB3.out.size)); have HT14 := Lib.hid (HT13.out.up hb); have HT24 := Lib.hid (HT23.out.up hb); have HT34 := Lib.hid (HT3.out.up hb); clear hM hT hl hi hb)
  clear PS PA RS RA HT1 HT2 HT3 HT12 HT13 HT23 HB1 HB2 HB3
  have TO := Lib.hid (fun (W : World) (A : Option Addr) (c N : Nat) (M : List TLay) (h : Tabs W W.heap.size A M) (hl : M.length = N) (hN : N ≤ 61) => (show Calls Tryd.prog 30 #[.slice A N c] W fun r w' => ∃ A' c', r = .returned (.slice A' N c') ∧ Tabs w' w'.heap.size A' M ∧ Below W.heap.size W w' from (by
    have := told_tb h (Nat.le_refl _) c (by omega)
    rw [hl] at this
    exact this.mono fun r w' ⟨u, e, ho, hb⟩ => by
      rw [← hl] at ho
      obtain ⟨A', c', hu, ht⟩ := told_lies h hb hb.size ho
      rw [hl] at hu
      subst hu
      exact ⟨A', c', e, ht, hb⟩)))
  have SA := Lib.hid (fun (W : World) (A A' : Option Addr) (c c' N : Nat) (M M' : List TLay) (h : Tabs W W.heap.size A M) (h' : Tabs W W.heap.size A' M') (hl : M.length = N) (hN : N ≤ 61) (hi : ∀ y ∈ M, y.x.items.length ≤ 1000000000) (he : M.map TLay.x = M'.map TLay.x) => (show Calls Tryd.prog 29 #[.slice A N c, .slice A' N c'] W fun r w' => r = .returned (.bool true) ∧ ∃ q, w' = W.drewN q from (by
    have := rsame_tb h h' he c c' (by omega) hi
    rw [hl] at this
    exact this)))
  have q1 : (Es != Es) = false := by simp
  have q2 : (Ea != Ea) = false := by simp
  go_upto_region 9 with (first
    | (go_at_call 30; refine (TO.out _ _ _ _ _ HT14.out HL1.out hls).mono ?_; rintro r w5 ⟨A5, c5, rfl, hT, hb⟩; have HT5 := Lib.hid hT; have HB5 := Lib.hid (HB4.out.trans (hb.mono HB4.out.size)); have HT15 := Lib.hid (HT14.out.up hb); have HT25 := Lib.hid (HT24.out.up hb); have HT35 := Lib.hid (HT34.out.up hb); have HT45 := Lib.hid (HT4.out.up hb); clear hT hb HT14)
    | (go_at_call 29; refine (SA.out _ _ _ _ _ _ _ _ HT5.out HT25.out HL1.out hls HI1.out (by rw [HM1.out, HM2.out])).mono ?_; rintro r w6 ⟨rfl, nq, rfl⟩; have HT16 := Lib.hid (HT15.out.up (below_drewN (Below.refl _ _) nq)); have HT26 := Lib.hid (HT25.out.up (below_drewN (Below.refl _ _) nq)); have HT36 := Lib.hid (HT35.out.up (below_drewN (Below.refl _ _) nq)); have HT46 := Lib.hid (HT45.out.up (below_drewN (Below.refl _ _) nq)); have HB6 := Lib.hid (below_drewN HB5.out nq); clear HT5)
    | (go_at_call 30; refine (TO.out _ _ _ _ _ HT36.out HL3.out hla).mono ?_; rintro r w7 ⟨A7, c7, rfl, hT, hb⟩; have HT7 := Lib.hid hT; have HB7 := Lib.hid (HB6.out.trans (hb.mono HB6.out.size)); have HT17 := Lib.hid (HT16.out.up hb); have HT27 := Lib.hid (HT26.out.up hb); have HT37 := Lib.hid (HT36.out.up hb); have HT47 := Lib.hid (HT46.out.up hb); clear hT hb)
    | (go_at_call 29; refine (SA.out _ _ _ _ _ _ _ _ HT7.out HT47.out HL3.out hla HI3.out (by rw [HM3.out, HM4.out])).mono ?_; rintro r w8 ⟨rfl, nq2, rfl⟩; have HT18 := Lib.hid (HT17.out.up (below_drewN (Below.refl _ _) nq2)); have HT28 := Lib.hid (HT27.out.up (below_drewN (Below.refl _ _) nq2)); have HT38 := Lib.hid (HT37.out.up (below_drewN (Below.refl _ _) nq2)); have HT48 := Lib.hid (HT47.out.up (below_drewN (Below.refl _ _) nq2)); have HB8 := Lib.hid (below_drewN HB7.out nq2)))
  clear TO SA HT15 HT25 HT35 HT45 HT16 HT26 HT36 HT46 HT7 HT17 HT27 HT37 HT47 HB5 HB6 HB7
  have AT := Lib.hid (fun (W : World) (A : Option Addr) (c N : Nat) (M : List TLay) (L : List Tbl) (h : Tabs W W.heap.size A M) (hl : M.length = N) (hN : N ≤ 61) (hi : ∀ y ∈ M, y.x.items.length ≤ 1000000000) (hM : M.map TLay.x = L) => (show Calls Tryd.prog 31 #[.slice A N c, .int .u64 (bs : Int), .int .u64 (ix : Int)] W fun r w' => r = .returned (.tuple #[.int .u64 ((atTb L bs ix).1 : Int), .bool (atTb L bs ix).2]) ∧ Below W.heap.size W w' from (by
    have := at_tb h (Nat.le_refl _) c bs ix (by omega) hi
    rw [hl, hM] at this
    exact this)))
  have RT := Lib.hid (fun (W : World) (A : Option Addr) (c N : Nat) (M : List TLay) (L : List Tbl) (h : Tabs W W.heap.size A M) (hl : M.length = N) (hN : N ≤ 61) (hi : ∀ y ∈ M, y.x.items.length ≤ 1000000000) (hM : M.map TLay.x = L) => (show Calls Tryd.prog 32 #[.slice A N c, .int .u64 (bs : Int), .int .u64 (ix : Int)] W fun r w' => r = .returned (.tuple #[.int .u64 ((atTb L bs ix).1 : Int), .bool (atTb L bs ix).2]) ∧ W = w' from (by
    have := rat_tb h c bs ix (by omega) hi
    rw [hl, hM] at this
    exact this)))
  generalize World.drewN _ _ = wd at *
  go_upto_region 10 with (go_at_call 31; refine (AT.out _ _ _ _ _ _ HT18.out HL1.out hls HI1.out HM1.out).mono ?_; rintro r w9 ⟨rfl, hb⟩; have HB9 := Lib.hid (HB8.out.trans (hb.mono HB8.out.size)); have HT29 := Lib.hid (HT28.out.up hb); have HT39 := Lib.hid (HT38.out.up hb); have HT49 := Lib.hid (HT48.out.up hb); clear hb)
  go_upto_region 11 with (go_at_call 32; refine (RT.out _ _ _ _ _ _ HT29.out HL2.out hls HI2.out HM2.out).mono ?_; rintro r w10 ⟨rfl, rfl⟩)
  go_upto_region 12 with (go_at_call 31; refine (AT.out _ _ _ _ _ _ HT39.out HL3.out hla HI3.out HM3.out).mono ?_; rintro r w11 ⟨rfl, hb⟩; have HB11 := Lib.hid (HB9.out.trans (hb.mono HB9.out.size)); have HT411 := Lib.hid (HT49.out.up hb); clear hb)
  go_upto_region 13 with (go_at_call 32; refine (RT.out _ _ _ _ _ _ HT411.out HL4.out hla HI4.out HM4.out).mono ?_; rintro r w12 ⟨rfl, rfl⟩)
  clear AT RT
  generalize (atTb Ls bs ix).1 = v1 at *
  generalize (atTb Ls bs ix).2 = o1 at *
  generalize (atTb La bs ix).1 = v2 at *
  generalize (atTb La bs ix).2 = o2 at *
  have p1 : ((v1 : Int) == (v1 : Int)) = true := by simp
  have p2 : ((v2 : Int) == (v2 : Int)) = true := by simp
  have p3 : (o1 == o1) = true := by simp
  have p4 : (o2 == o2) = true := by simp
  go_wp2_with (go_at_call 25; refine (HWK.out _ HB11.out).mono ?_; rintro r w13 ⟨rfl, hb⟩; have HB13 := Lib.hid (HB11.out.trans (hb.mono HB11.out.size)); clear hb)
  go_ret
  exact ⟨rfl, HB13.out⟩

end Go.Proofs.YtpmpgfngogdfhaaDoor
