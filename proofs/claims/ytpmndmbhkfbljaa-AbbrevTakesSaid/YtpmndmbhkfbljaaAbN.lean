/-
  The document's Take of tables.
-/
import Derived.Test.YtpmndmbhkfbljaaAbQ
import Derived.Deep.DeepCutAuto
import Derived.Deep.LoopGhost
namespace Go.Proofs.Ytpmndmbhkfbljaa
open Go Go.RowKit Go.Maps

theorem rrn_append {B : Nat} {w W W1 : World} {g : Nat} {v u : Value} {l : List UInt8} {a : Nat} {e : Int} {o : Obj} {n m base : Nat} {xs : List Value} {t : TypeId} (h : RR B W g v l a e) (hG : w.grownBy W (some g)) (hrow : W.ownsRow base t m u n xs) (hbase : w.heap.size ≤ base) (h2 : (W.alloc o).grownBy W1 u.ownBlock) (hlt : g < w.heap.size) :
    RR B W1 g v l a e ∧ w.grownBy W1 (some g) := by
  have hge := fun k hk => (hrow.lt k hk).1
  have hBg := h.2.2.2
  have h3 : RR B (W.alloc o) g v l a e := h.below ((Below.refl _ _).alloc (Nat.le_refl _) o)
  refine ⟨h3.grown h2 (fun e => by have := hge g e.symm; omega) (fun x hx => by have := hge x hx; omega), ?_⟩
  exact only_trans (only_then_below hG ((Below.refl _ _).alloc (Nat.le_refl _) o)) h2 (.inr fun x hx => by have := hge x hx; omega)
theorem box_row {W W1 : World} {H base n m : Nat} {T t : TypeId} {cs : Array Value} {u : Value} {xs : List Value} (hX : Box W H T cs) (hrow : W.ownsRow base t m u n xs) (hT : T ≠ t) (hg : W.grownBy W1 u.ownBlock) : Box W1 H T cs := by
  refine hX.grown hg ?_
  rcases hrow.2 with ⟨rfl, _⟩ | ⟨g, cap, cur, rfl, _, hh, _⟩
  · simp [Value.ownBlock]
  · intro e
    have e' : H = g := by simpa [Value.ownBlock] using e
    subst e'
    unfold Box at hX
    rw [hX] at hh
    injection hh with hh
    injection hh with _ hh
    exact hT hh

/-- The document's inner loop: the cursor, the abbreviation that is made, its pairs. -/
structure TSt (B : Nat) (w0 W : World) (g : Nat) (v : Value) (l : List UInt8) (s : CSt) (H : Nat) (cs : List Value) (u : Value) (X : List Spc) : Prop where
  rr : RR B W g v l s.1 s.2
  gr : w0.grownBy W (some g)
  box : Box W H 50 (cs ++ [u]).toArray
  row : W.ownsRow (H + 1) 56 3 u X.length (cellsF Spc.cells X)
section
variable {B : Nat} {w0 W W1 : World} {g : Nat} {v u : Value} {l : List UInt8} {s s1 : CSt} {H : Nat} {cs : List Value} {X : List Spc}
theorem TSt.cur (h : TSt B w0 W g v l s H cs u X) (hg : g < w0.heap.size) (hH : w0.heap.size ≤ H) (hC : RR B W1 g v l s1.1 s1.2) (hG : W.grownBy W1 (some g)) : TSt B w0 W1 g v l s1 H cs u X :=
  ⟨hC, h.gr.trans hG, h.box.grown hG (by simp; omega), rown_past h.row hG (by omega)⟩
theorem TSt.below (h : TSt B w0 W g v l s H cs u X) (hb : Below W.heap.size W W1) : TSt B w0 W1 g v l s H cs u X :=
  ⟨h.rr.below hb, only_then_below h.gr hb, h.box.below hb h.box.lt, row_below h.row hb⟩
theorem TSt.put (h : TSt B w0 W g v l s H cs u X) (hg : g < w0.heap.size) (hH : w0.heap.size ≤ H) {o : Obj} {x : Spc} {u1 : Value} (hown : W1.ownsRow (H + 1) 56 3 u1 (X.length + 1) (cellsF Spc.cells X ++ x.cells)) (hg4 : (W.alloc o).grownBy W1 u.ownBlock) (hcs : cs.length = 3) :
    TSt B w0 (W1.setCell ⟨H, 3, none⟩ u1) g v l s H cs u1 (X ++ [x]) := by
  have hB := (Below.refl W.heap.size W).alloc (Nat.le_refl _) o
  have hwW := h.gr.size
  obtain ⟨h1, h2⟩ := rrn_append h.rr h.gr h.row (by omega) hg4 hg
  have h3 := box_row (h.box.below hB h.box.lt) (row_below h.row hB) (by decide) hg4
  have hs : W1.grownBy (W1.setCell ⟨H, 3, none⟩ u1) (some H) := only_set (only_refl _ _) 3 u1
  have hgH : g < H := by omega
  refine ⟨h1.grown hs (by simp; omega) (fun x hx => by cases hx; have := h1.2.2.2; omega), only_trans h2 hs (.inr fun x hx => by cases hx; exact hH), ?_, ?_⟩
  · have := h3.set 3 u1
    match cs, hcs with
    | [c0, c1, c2], _ => simpa using this
  · rw [List.length_append, cellsF_append, cellsF_one]
    exact rown_past hown hs (by omega)
theorem TSt.side (h : TSt B w0 W g v l s H cs u X) {H2 : Nat} (hg : W.grownBy W1 (some H2)) (hH : H < H2) (hw : w0.heap.size ≤ H) (hg2 : g < H2) (hu : ∀ k, u.ownBlock = some k → k < H2) : TSt B w0 W1 g v l s H cs u X :=
  ⟨h.rr.grown hg (by simp; omega) (fun x hx => by cases hx; have := h.rr.2.2.2; omega), only_trans h.gr hg (.inr fun x hx => by cases hx; omega), h.box.grown hg (by simp; omega), h.row.kept hg (by
    rcases hb : u.ownBlock with _ | k
    · exact .inl rfl
    · exact .inr fun e => by injection e with e; have := hu k hb; omega)⟩
end
theorem tag_ok {l : List UInt8} {s : CSt} (h : (tagS l s).2 = 0) : tU l s ≤ 65535 ∧ tagT l s = tU l s := by
  unfold tagS at h
  unfold tagT
  split at h
  · exact absurd h (sF_ne _ (by decide))
  · rename_i hn
    exact ⟨by omega, if_neg hn⟩
theorem abb_one' (A : Nat) (tv : Int) (kd : Bool) (a : Option Addr) (n c : Nat) : ∀ u ∈ ([.int .u64 (A : Int), .int .i64 tv, .bool kd, .slice a n c] : List Value), u.oneCell' = true := by
  intro u hu
  simp only [List.mem_cons, List.not_mem_nil, or_false] at hu
  rcases hu with rfl | rfl | rfl | rfl <;> rfl
theorem kid_back {l : List UInt8} {s : CSt} (h : s.2 ≠ 0) : (kidS l s).2 ≠ 0 := by rw [kidS_ref h]; exact h
theorem specs_back {l : List UInt8} {s : CSt} (h : s.2 ≠ 0) : (specsF l 41 s).2.2 ≠ 0 := by rw [specsF_ref h]; exact h

def TakeEnd (B : Nat) (w : World) (g : Nat) (v : Value) (l : List UInt8) (E : Int) (R : List Abb) (P : Nat) (x : Ending) (w' : World) : Prop :=
  ∃ u L, x = .returned (.tuple #[u, .int .i64 E]) ∧ OwnA w' w.heap.size u L ∧ L.map ALay.x = R ∧ (∀ y ∈ L, y.x.In) ∧ L.length ≤ 300 ∧ RR B w' g v l P E ∧ w.grownBy w' (some g)
set_option maxRecDepth 10000 in
set_option maxHeartbeats 6400000 in
theorem rtakeA_st {B : Nat} {w : World} {g : Nat} {v : Value} {l : List UInt8} {s : CSt} (h : RR B w g v l s.1 s.2) (hlen : l.length ≤ 140737488355328) :
    Calls Try.prog 8 #[.pointer (some ⟨g, 0, none⟩)] w fun x w' => TakeEnd B w g v l (takeAE l s) (takeAL l s) (takeAP l s) x w' := by
  have hgw := h.1.lt
  have HC := Lib.hid h
  have HL := Lib.hid hlen
  have HP := Lib.hid (show takeAP l s = (tabF l 301 s).2.1 from rfl)
  have H1 := Lib.hid (@take_ok l s)
  have H2 := Lib.hid (@take_no l s)
  have H3 := Lib.hid (@take_bad l s)
  clear h hlen
  generalize takeAP l s = P at *
  generalize takeAE l s = E at *
  generalize takeAL l s = R at *
  obtain ⟨T, hT⟩ : ∃ T, tabF l 301 s = T := ⟨_, rfl⟩
  have HT := Lib.hid hT
  rw [hT] at HP H1 H2 H3
  clear hT
  obtain ⟨i1, hj1, hy0, hy1, hy2⟩ := info_parts abb_info
  obtain ⟨i2, hk1, hz0, hz1, hz2⟩ := info_parts spec_info
  have HO0 := Lib.hid (OwnA.nil w w.heap.size)
  go_enter Try.func8, Try.ntmps8
  go_wp2_with fail
  go_loopg [4] 301 (fun gk u wr => ∃ (k : Nat) (X : List ALay) (s1 : CSt), k ≤ 300 ∧ gk = 301 - k ∧ Hid (X.length = k) ∧ Hid (OwnA wr w.heap.size u X) ∧ Hid (∀ y ∈ X, y.x.In) ∧ Hid (RR B wr g v l s1.1 s1.2) ∧ Hid (w.grownBy wr (some g)) ∧ Hid (T = (X.map ALay.x ++ (tabF l (300 - k + 1) s1).1, (tabF l (300 - k + 1) s1).2)))
  case atStart => exact ⟨0, [], s, Nat.zero_le _, rfl, Lib.hid rfl, HO0, Lib.hid (by intro y hy; cases hy), HC, Lib.hid (only_refl _ _), Lib.hid HT.out.symm⟩
  case round =>
    obtain ⟨k, X, s1, hk, rfl, HX, HO, HIN, HCU, HG, HTT⟩ := hrel
    clear HO0 HC HT
    have HU := Lib.hid (ru_st HCU.out HL.out)
    have HA64 := Lib.hid (tU_lt l s1)
    have HE1 := Lib.hid (@tabF_end l (300 - k) s1)
    have HE2 := Lib.hid (@tabF_full l s1)
    have HE3 := Lib.hid (@tabF_more l (300 - k) s1)
    have HUB := Lib.hid (@sU_bad l s1)
    generalize tU l s1 = A at *
    obtain ⟨s2, hs2⟩ : ∃ s2, sU l s1 = s2 := ⟨_, rfl⟩
    rw [hs2] at HU HE1 HE2 HE3 HUB
    clear hs2
    obtain ⟨a2, e2⟩ := s2
    go_upto_region 3 with (go_at_call 25; refine HU.out.mono ?_; rintro x w1 ⟨rfl, hC1, hG1⟩; have hcE := cell_e hC1; have HC1 := Lib.hid hC1; have HG1 := Lib.hid hG1; clear hC1 hG1 HU)
    have HO1 := Lib.hid (HO.out.past HG1.out hgw)
    have HGG := Lib.hid (HG.out.trans HG1.out)
    clear HG1 HCU HO HG
    by_cases he : e2 = 0
    · subst he
      by_cases hA : A = 0
      · have n1 : ((A : Int) == 0) = true := by simp [hA]
        have hz := HE1.out hA
        have HZ := Lib.hid (show T = (X.map ALay.x, (a2, 0)) by rw [HTT.out, hz, List.append_nil])
        obtain ⟨A3, c3, hu, -, -, hlies⟩ := HO1.out.lies
        have HR := Lib.hid (rrightA_any hlies c3 (by rw [HX.out]; omega) (lays_in HIN.out))
        rw [HX.out] at hu HR
        subst hu
        obtain ⟨b, hb⟩ : ∃ b, rightA (absOf X) = b := ⟨_, rfl⟩
        have HB := Lib.hid hb
        rw [hb] at HR
        clear hlies hz hA HE1 HE2 HE3 HTT hb
        cases b with
        | true =>
          have HH := Lib.hid (H1.out (by rw [HZ.out]) (by rw [HZ.out]; exact HB.out))
          go_wp2_with (go_at_call 18; refine HR.out.mono ?_; rintro x w2 ⟨rfl, hb2⟩; have HB2 := Lib.hid hb2; clear hb2)
          go_ret2
          exact ⟨_, X, by rw [HH.out.1]; rfl, HO1.out.below HB2.out, by rw [HH.out.2, HZ.out], HIN.out, by rw [HX.out]; exact hk, by rw [HH.out.1, HP.out, HZ.out]; exact HC1.out.below HB2.out, HGG.out.trans (only_below HB2.out _)⟩
        | false =>
          have HH := Lib.hid (H2.out (by rw [HZ.out]) (by rw [HZ.out]; exact HB.out))
          go_wp2_with (first
            | (go_at_call 18; refine HR.out.mono ?_; rintro x w2 ⟨rfl, hb2⟩; have HB2 := Lib.hid hb2; have hF2 := qfail (HC1.out.below hb2) 40; clear hb2)
            | (go_at_call 26; refine hF2.mono ?_; rintro x w3 ⟨rfl, hC3, hG3⟩; have HC3 := Lib.hid hC3; have HG3 := Lib.hid hG3; clear hF2 hC3 hG3))
          go_ret2
          exact ⟨_, [], by rw [HH.out.1]; rfl, OwnA.nil _ _, by rw [HH.out.2]; rfl, (fun y hy => by cases hy), Nat.zero_le _, by rw [HH.out.1, HP.out, HZ.out]; exact HC3.out, (HGG.out.trans (only_below HB2.out _)).trans HG3.out⟩
      · have n1 : ((A : Int) == 0) = false := by simp [hA]
        obtain ⟨A3, c3, hu⟩ := HO1.out.slice
        rw [HX.out] at hu
        subst hu
        have HAN := Lib.hid hA
        have HTN := Lib.hid (show T = (X.map ALay.x ++ (tabF l (300 - k + 1) s1).1, (tabF l (300 - k + 1) s1).2) from HTT.out)
        obtain ⟨sc, hsc⟩ : ∃ sc : CSt, sc = if k = 300 then sF (a2, 0) 3 else (a2, 0) := ⟨_, rfl⟩
        have HSC := Lib.hid hsc
        have hk3 : k ≤ 300 := hk
        clear hsc hA HTT HE1
        go_upto_if 26 with fail
        clear hcE
        go_cut [] (fun wx => RR B wx g v l sc.1 sc.2 ∧ w1.grownBy wx (some g))
        case first =>
          by_cases hk30 : k = 300
          · have e30 : ((k : Int) == 300) = true := by simp; omega
            have HF := Lib.hid (rf_st (s := (a2, 0)) HC1.out 3)
            have HSE := Lib.hid (show sc = sF (a2, 0) 3 by rw [HSC.out, if_pos hk30])
            clear hk30
            go_wp2_with (go_at_call 26; refine HF.out.mono ?_; rintro x w2 ⟨rfl, hC2, hG2⟩; have HC2 := Lib.hid hC2; have HG2 := Lib.hid hG2; clear hC2 hG2)
            go_meet
            case rel => exact ⟨by rw [HSE.out]; exact HC2.out, HG2.out⟩
          · have e30 : ((k : Int) == 300) = false := by simp; omega
            have HSE := Lib.hid (show sc = (a2, 0) by rw [HSC.out, if_neg hk30])
            clear hk30
            go_wp2_with fail
            go_meet
            case rel => exact ⟨by rw [HSE.out]; exact HC1.out, only_refl _ _⟩
        case rest =>
          obtain ⟨hCc, hGc⟩ := hcut
          have HCc := Lib.hid hCc
          have HGW := Lib.hid (HGG.out.trans hGc)
          have HOc := Lib.hid (HO1.out.past hGc hgw)
          clear hCc hGc HC1 HO1 HGG
          generalize wc = wb at *
          have hgb : g < wb.heap.size := Nat.lt_of_lt_of_le hgw HGW.out.size
          have HX3 := Box.new wb 50 #[.int .u64 (A : Int), .int .i64 0, .bool false, .slice none 0 0]
          have hA3 := (Below.refl wb.heap.size wb).alloc (Nat.le_refl _) (.cells #[.int .u64 (A : Int), .int .i64 0, .bool false, .slice none 0 0] 50)
          go_upto_region 9 with fail
          generalize hw3 : wb.alloc (.cells #[.int .u64 (A : Int), .int .i64 0, .bool false, .slice none 0 0] 50) = w3 at *
          have HS3 := Lib.hid (show TSt B wb w3 g v l sc wb.heap.size [.int .u64 (A : Int), .int .i64 0, .bool false] (.slice none 0 0) [] from ⟨HCc.out.below hA3, only_below hA3 _, HX3, World.ownsRow_nil _ _ _ _⟩)
          have HU3 := Lib.hid (ru_st HS3.out.rr HL.out)
          clear hw3 hA3 HX3
          have HAB := Lib.hid (show abbS l sc = (specsF l 41 (kidS l (tagS l sc))).2 ∧ abbT l A sc = ⟨A, (tagT l sc : Int), kidT l (tagS l sc), (specsF l 41 (kidS l (tagS l sc))).1⟩ from ⟨rfl, rfl⟩)
          have HTG := Lib.hid (show tagS l sc = if 65535 < tU l sc then sF (sU l sc) 40 else sU l sc from rfl)
          have HTK := Lib.hid (@tag_ok l sc)
          generalize tU l sc = tt at *
          generalize sU l sc = sd at *
          obtain ⟨qb, hqb⟩ : ∃ q, decide ((65535 : Int) < (tt : Int)) = q := ⟨_, rfl⟩
          have HQB := Lib.hid (show qb = decide (65535 < tt) by rw [← hqb, Bool.eq_iff_iff]; simp; omega)
          go_upto_if 34 with (go_at_call 25; refine HU3.out.mono ?_; rintro x w4 ⟨rfl, hC4, hG4⟩; have HS4 := Lib.hid (HS3.out.cur hgb (Nat.le_refl _) hC4 hG4); clear hC4 hG4)
          go_cut [] (fun wx => TSt B wb wx g v l (tagS l sc) wb.heap.size [.int .u64 (A : Int), .int .i64 0, .bool false] (.slice none 0 0) [])
          case first =>
            have HF := Lib.hid (rf_st HS4.out.rr 40)
            cases qb with
            | true =>
              rw [if_pos (of_decide_eq_true HQB.out.symm)] at HTG
              go_wp2_with (go_at_call 26; refine HF.out.mono ?_; rintro x w5 ⟨rfl, hC5, hG5⟩; have HS5 := Lib.hid (HS4.out.cur hgb (Nat.le_refl _) hC5 hG5); clear hC5 hG5)
              go_meet
              case rel => rw [HTG.out]; exact HS5.out
            | false =>
              rw [if_neg (of_decide_eq_false HQB.out.symm)] at HTG
              go_wp2_with fail
              go_meet
              case rel => rw [HTG.out]; exact HS4.out
          case rest =>
            have HS5 := Lib.hid hcut
            clear hcut HS4 HS3 HU3 HTG
            have HU5 := Lib.hid (rb_st HS5.out.rr HL.out)
            have HKG := Lib.hid (show kidS l (tagS l sc) = if 1 < tB l (tagS l sc) then sF (sB l (tagS l sc)) 40 else sB l (tagS l sc) from rfl)
            have HKD := Lib.hid (show kidT l (tagS l sc) = decide (tB l (tagS l sc) = 1) from rfl)
            generalize tB l (tagS l sc) = kb at *
            generalize sB l (tagS l sc) = se at *
            generalize wc = w5 at *
            clear hqb HQB
            obtain ⟨qk, hqk⟩ : ∃ q, decide ((1 : Int) < (kb : Int)) = q := ⟨_, rfl⟩
            have HQK := Lib.hid (show qk = decide (1 < kb) by rw [← hqk, Bool.eq_iff_iff]; simp; omega)
            go_upto_if 40 with (go_at_call 27; refine HU5.out.mono ?_; rintro x w6 ⟨rfl, hC6, hG6⟩; have HS6 := Lib.hid (HS5.out.cur hgb (Nat.le_refl _) hC6 hG6); clear hC6 hG6)
            go_cut [] (fun wx => TSt B wb wx g v l (kidS l (tagS l sc)) wb.heap.size [.int .u64 (A : Int), .int .i64 0, .bool false] (.slice none 0 0) [])
            case first =>
              have HF := Lib.hid (rf_st HS6.out.rr 40)
              cases qk with
              | true =>
                rw [if_pos (of_decide_eq_true HQK.out.symm)] at HKG
                go_wp2_with (go_at_call 26; refine HF.out.mono ?_; rintro x w7 ⟨rfl, hC7, hG7⟩; have HS7 := Lib.hid (HS6.out.cur hgb (Nat.le_refl _) hC7 hG7); clear hC7 hG7)
                go_meet
                case rel => rw [HKG.out]; exact HS7.out
              | false =>
                rw [if_neg (of_decide_eq_false HQK.out.symm)] at HKG
                go_wp2_with fail
                go_meet
                case rel => rw [HKG.out]; exact HS6.out
            case rest =>
              have HS7 := Lib.hid hcut
              clear hcut HS5 HS6 HU5 HKG
              generalize wc = w7 at *
              obtain ⟨sk, hsk⟩ : ∃ sk, kidS l (tagS l sc) = sk := ⟨_, rfl⟩
              have HSK := Lib.hid hsk
              rw [hsk] at HS7 HAB
              clear hsk
              have hkb : ((kb : Int) == 1) = kidT l (tagS l sc) := by rw [HKD.out, Bool.eq_iff_iff]; simp; omega
              obtain ⟨kd, hkd⟩ : ∃ b, kidT l (tagS l sc) = b := ⟨_, rfl⟩
              rw [hkd] at hkb HAB
              clear hkd HKD
              obtain ⟨q0, q1, q2, q3⟩ := four_cells HS7.out.box
              have f1 := HS7.out.box.free 1
              have f2 := HS7.out.box.free 2
              clear hqk HQK
              have hng1 : g ≠ wb.heap.size := by omega
              obtain ⟨tv, hv1, hv2⟩ : ∃ tv, IntKind.i64.wrap (tt : Int) = tv ∧ wrap64 (tt : Int) = tv := ⟨_, rfl, (i64_wrap_eq _).symm⟩
              have HTV := Lib.hid (show tt ≤ 65535 → tv = (tt : Int) from fun h => by rw [← hv1]; exact IntWalk.i64_in _ (by omega))
              have HS8 := Lib.hid (show TSt B wb ((w7.setCell ⟨wb.heap.size, 1, none⟩ (.int .i64 tv)).setCell ⟨wb.heap.size, 2, none⟩ (.bool kd)) g v l sk wb.heap.size [.int .u64 (A : Int), .int .i64 tv, .bool kd] (.slice none 0 0) [] from by
                have hg : w7.grownBy ((w7.setCell ⟨wb.heap.size, 1, none⟩ (.int .i64 tv)).setCell ⟨wb.heap.size, 2, none⟩ (.bool kd)) (some wb.heap.size) := only_set (only_set (only_refl _ _) 1 _) 2 _
                refine ⟨HS7.out.rr.grown hg (by simp; omega) (fun x hx => by cases hx; have := HS7.out.rr.2.2.2; omega), only_trans HS7.out.gr hg (.inr fun x hx => by cases hx; exact Nat.le_refl _), ?_, World.ownsRow_nil _ _ _ _⟩
                have := (HS7.out.box.set 1 (.int .i64 tv)).set 2 (.bool kd)
                simpa using this)
              obtain ⟨SP, hSP⟩ : ∃ SP, specsF l 41 sk = SP := ⟨_, rfl⟩
              rw [hSP] at HAB
              have HSPE := Lib.hid hSP
              have HT2 := Lib.hid (show SP.2.2 ≠ 0 → T.2 = SP.2 from fun hne => by
                by_cases hk30 : k = 300
                · have h1 : sc = sF (a2, 0) 3 := by rw [HSC.out, if_pos hk30]
                  have h2 := HE2.out HAN.out
                  have h3 : sc.2 ≠ 0 := by rw [h1]; exact sF_ne _ (by decide)
                  have h4 := HAB.out.1
                  rw [abbS_ref h3, h1] at h4
                  rw [HTN.out, hk30, Nat.sub_self, h2]
                  exact h4
                · have h1 : sc = (a2, 0) := by rw [HSC.out, if_neg hk30]
                  have h2 := HE3.out (by omega) HAN.out
                  have h4 := HAB.out.1
                  rw [h1] at h4
                  rw [HTN.out, h2, h4]
                  have h5 : 300 - k = (300 - k - 1) + 1 := by omega
                  rw [h5, tabF_ref hne])
              have HT3 := Lib.hid (show SP.2.2 = 0 → k < 300 ∧ T = (X.map ALay.x ++ [⟨A, tv, kd, SP.1⟩] ++ (tabF l (300 - (k + 1) + 1) SP.2).1, (tabF l (300 - (k + 1) + 1) SP.2).2) ∧ (⟨A, tv, kd, SP.1⟩ : Abb).In from fun hz => by
                have hk30 : k ≠ 300 := fun hk30 => by
                  have h1 : sc = sF (a2, 0) 3 := by rw [HSC.out, if_pos hk30]
                  have h3 : sc.2 ≠ 0 := by rw [h1]; exact sF_ne _ (by decide)
                  have h4 := HAB.out.1
                  rw [abbS_ref h3] at h4
                  rw [← h4] at hz
                  exact h3 hz
                have h1 : sc = (a2, 0) := by rw [HSC.out, if_neg hk30]
                have hts : (tagS l sc).2 = 0 := by
                  by_cases ht : (tagS l sc).2 = 0
                  · exact ht
                  · have h5 := kid_back (l := l) ht
                    rw [HSK.out] at h5
                    have h6 := specs_back (l := l) h5
                    rw [HSPE.out] at h6
                    exact absurd hz h6
                obtain ⟨h65, htt⟩ := HTK.out hts
                have hab : abbT l A sc = ⟨A, tv, kd, SP.1⟩ := by rw [HAB.out.2, htt, HTV.out h65]
                have h2 := HE3.out (by omega) HAN.out
                have h4 := HAB.out.1
                rw [h1] at h4 hab
                refine ⟨by omega, ?_, ?_⟩
                · rw [HTN.out, h2, h4, hab, List.append_assoc, show 300 - (k + 1) + 1 = 300 - k by omega]
                  rfl
                · rw [← hab]
                  exact abbT_in l A HA64.out _)
              clear hSP HAB HSK HTK HTV HE2 HE3 HSC HAN HTN
              have HST := Lib.hid (show SP = (([] : List Spc) ++ (specsF l (40 - 0 + 1) sk).1, (specsF l (40 - 0 + 1) sk).2) from HSPE.out.symm)
              go_upto_region 17 with fail
              generalize hw8 : (w7.setCell ⟨wb.heap.size, 1, none⟩ (.int .i64 tv)).setCell ⟨wb.heap.size, 2, none⟩ (.bool kd) = w8 at *
              clear hw8 q0 q1 q2 q3 f1 f2 HS7 hkb hv1 hv2
              generalize wr = wr0 at *
              go_loopg [] 41 (fun gk wr => ∃ (j : Nat) (Y : List Spc) (s5 : CSt) (u : Value), j ≤ 40 ∧ gk = 41 - j ∧ Hid (Y.length = j) ∧ Hid (TSt B wb wr g v l s5 wb.heap.size [.int .u64 (A : Int), .int .i64 tv, .bool kd] u Y) ∧ Hid (SP = (Y ++ (specsF l (40 - j + 1) s5).1, (specsF l (40 - j + 1) s5).2)))
              case atStart => exact ⟨0, [], sk, _, Nat.zero_le _, rfl, Lib.hid rfl, HS8, HST⟩
              case round =>
                obtain ⟨j, Y, s5, u5, hj, rfl, HY, HS, HSPJ⟩ := hrel
                clear HST HS8
                have HPR := Lib.hid (rpair_st HS.out.rr HL.out)
                go_upto_region 18 with (go_at_call 28; refine HPR.out.mono ?_; rintro r w10 ⟨x, b, s6, rfl, hPI, hC, hG⟩; have HPI := Lib.hid hPI; have HS10 := Lib.hid (HS.out.cur hgb (Nat.le_refl _) hC hG); clear hPI hC hG)
                have hA10 := (Below.refl w10.heap.size w10).alloc (Nat.le_refl _) (.cells #[.int .i64 x.at_, .int .i64 x.form, .int .i64 x.imp] 56)
                rcases HPI.out with ⟨rfl, hq⟩ | ⟨rfl, hx, hs6, hz6, hno, hbp⟩
                · have HSP := Lib.hid (show SP = (Y, s6) by rw [HSPJ.out, hq, List.append_nil])
                  have HSE := Lib.hid (HS10.out.below hA10)
                  have HYL := Lib.hid (show Y.length ≤ 40 by rw [HY.out]; exact hj)
                  clear hq HSPJ HPI HPR HS HS10 hA10
                  go_upto_region 24 with fail
                  clear HY
                  generalize hsE : s6 = sE at *
                  obtain ⟨a5, e5⟩ := sE
                  have hcE5 := cell_e HSE.out.rr
                  by_cases he5 : e5 = 0
                  · subst he5
                    obtain ⟨hk30, hTT, hin⟩ := HT3.out (by rw [HSP.out])
                    have HTT2 := Lib.hid hTT
                    have HIN2 := Lib.hid hin
                    rw [HSP.out] at HTT2 HIN2
                    obtain ⟨A5, c5, rfl⟩ := owns_slc HSE.out.row
                    have hYL : Y.length ≤ 40 := by have := hin.len; rw [HSP.out] at this; have h40 := HYL.out; omega
                    obtain ⟨z0, z1, z2, z3⟩ := four_cells HSE.out.box
                    have hmx : k + 1 ≤ maxLen := by unfold maxLen; omega
                    have hby : (k + 1) * 48 ≤ 140737488355328 := by omega
                    clear hTT hin
                    generalize hWE : w10.alloc (.cells #[.int .i64 x.at_, .int .i64 x.form, .int .i64 x.imp] 56) = wE at *
                    clear hWE
                    have HOE := Lib.hid (HOc.out.past HSE.out.gr hgw)
                    have HGE := Lib.hid (HGW.out.trans HSE.out.gr)
                    have HRW := Lib.hid (show wE.ownsRow w.heap.size 50 4 (.slice A3 k c3) k (cellsF ALay.cells X) from by have := HOE.out.row; rwa [HX.out] at this)
                    have hAE := (Below.refl wE.heap.size wE).alloc (Nat.le_refl _) (.cells #[.int .u64 (A : Int), .int .i64 tv, .bool kd, .slice A5 Y.length c5] 50)
                    have HOA := Lib.hid (row_below HRW.out hAE)
                    have hsz : w.heap.size ≤ wE.heap.size + 1 := by have := HGE.out.size; omega
                    obtain ⟨yn, hyn⟩ : ∃ n, Y.length = n := ⟨_, rfl⟩
                    have HYN := Lib.hid hyn
                    rw [hyn] at z3 hYL HOA hAE
                    clear hyn
                    go_wp2_with (at_builtin; refine wpList_append_own_at _ (by rfl) (.tmp 82) (.tmp 84) _ (by rfl) w.heap.size 50 i1 _ 4 48 Try.underlying30 hj1 hy0 hy1 hy2 rfl (by decide) _ k (cellsF ALay.cells X) (by rfl) HOA.out ⟨wE.heap.size, 0, none⟩ 1 1 [.int .u64 (A : Int), .int .i64 tv, .bool kd, .slice A5 yn c5] (by rfl) rfl (fun j u h => cells_newA wE [.int .u64 (A : Int), .int .i64 tv, .bool kd, .slice A5 yn c5] _ j u h) (abb_one' _ _ _ _ _ _) hmx hby (by simpa using hsz) ?_; intro v6 w6 hown6 hg6 hn6 hat6; clear hn6 hat6; have HO6 := Lib.hid hown6; have HG6 := Lib.hid hg6; clear hown6 hg6)
                    obtain ⟨hr6, hgr6⟩ := rrn_append HSE.out.rr HGE.out HRW.out (Nat.le_refl _) HG6.out hgw
                    have HR6 := Lib.hid hr6
                    have HGR6 := Lib.hid hgr6
                    have HON := Lib.hid (show OwnA w6 w.heap.size v6 (X ++ [⟨⟨A, tv, kd, Y⟩, A5, c5⟩]) from ⟨by
                      rw [List.length_append, HX.out, cellsF_append, cellsF_one]
                      have := HO6.out
                      rw [← HYN.out] at this
                      exact this, fun y hy => by
                      rcases List.mem_append.1 hy with hy | hy
                      · exact own_apart (row_below (HOE.out.spcs y hy) hAE) HOA.out (by decide) HG6.out
                      · rw [List.mem_singleton.1 hy]
                        refine own_apart (row_below (own_lower (by have := HSE.out.row; exact this) (by have := HGW.out.size; omega)) hAE) HOA.out (by decide) HG6.out⟩)
                    clear hr6 hgr6 HG6 HO6 hAE
                    go_roundg (301 - (k + 1))
                    case measure => omega
                    case rel => exact ⟨k + 1, _, (a5, 0), by omega, rfl, Lib.hid (by rw [List.length_append, HX.out]; rfl), HON, Lib.hid (fun y hy => by
                      rcases List.mem_append.1 hy with hy | hy
                      · exact HIN.out y hy
                      · rw [List.mem_singleton.1 hy]; exact HIN2.out), HR6, HGR6, Lib.hid (by rw [List.map_append]; exact HTT2.out)⟩
                  · have hne5 : (e5 != 0) = true := by simp [he5]
                    have ht2 := HT2.out (by rw [HSP.out]; exact he5)
                    rw [HSP.out] at ht2
                    have HT2' := Lib.hid ht2
                    have HH := Lib.hid (H3.out (by rw [ht2]; exact he5))
                    clear ht2
                    go_upto_region 25 with fail
                    go_quiet (fail)
                    go_wp2_with fail
                    go_ret2
                    exact ⟨_, [], by rw [HH.out.1, HT2'.out]; rfl, OwnA.nil _ _, by rw [HH.out.2]; rfl, (fun y hy => by cases hy), Nat.zero_le _, by rw [HH.out.1, HP.out, HT2'.out]; exact HSE.out.rr.drewN nq, only_drewN (HGW.out.trans HSE.out.gr) nq⟩
                · subst hx hs6
                  have HEF := Lib.hid (@specsF_full l s5)
                  have HEI := Lib.hid (@specsF_imp l (40 - j) s5)
                  have HEM := Lib.hid (@specsF_more l (40 - j) s5)
                  have HNO := Lib.hid hno
                  have HBP := Lib.hid hbp
                  have HS11 := Lib.hid (HS10.out.below hA10)
                  have HX11 := Lib.hid (Box.new w10 56 #[.int .i64 (tU l s5 : Int), .int .i64 (tU l (sU l s5) : Int), .int .i64 0])
                  have HULT := Lib.hid (fun k hk => (HS10.out.row.lt k hk).2)
                  have hHH : wb.heap.size < w10.heap.size := Nat.lt_of_lt_of_le (by have := HS10.out.box.lt; exact this) (Nat.le_refl _)
                  clear hno hbp hA10 HPI HPR HS
                  simp only at HS11 HX11
                  generalize tU l s5 = A' at *
                  generalize tU l (sU l s5) = F' at *
                  obtain ⟨s6, hs6⟩ : ∃ s6, sU l (sU l s5) = s6 := ⟨_, rfl⟩
                  rw [hs6] at HS10 HS11 HEF HEI HEM hz6
                  clear hs6
                  obtain ⟨A6, c6, rfl⟩ := owns_slc HS10.out.row
                  obtain ⟨z0, z1, z2, z3⟩ := four_cells HS11.out.box
                  rw [HY.out] at z3
                  generalize hw11 : w10.alloc (.cells #[.int .i64 (A' : Int), .int .i64 (F' : Int), .int .i64 0] 56) = w11 at *
                  by_cases hj40 : j = 40
                  · subst hj40
                    have e40 : ((40 : Nat) : Int) = 40 := rfl
                    have HSP := Lib.hid (show SP = (Y, sF s6 3) by rw [HSPJ.out, Nat.sub_self, HEF.out HNO.out HBP.out, List.append_nil])
                    have HFF := Lib.hid (rf_st HS11.out.rr 3)
                    have HYL := Lib.hid (show Y.length ≤ 40 by rw [HY.out]; exact hj)
                    clear hw11 HEF HEI HEM HNO HBP HSPJ HULT
                    go_upto_region 24 with (go_at_call 26; refine HFF.out.mono ?_; rintro r w12 ⟨rfl, hC12, hG12⟩; have HSE := Lib.hid (HS11.out.cur hgb (Nat.le_refl _) hC12 hG12); clear hC12 hG12)
                    clear z0 z1 z2 z3
                    generalize hsE : sF s6 3 = sE at *
                    obtain ⟨a5, e5⟩ := sE
                    have hcE5 := cell_e HSE.out.rr
                    by_cases he5 : e5 = 0
                    · subst he5
                      obtain ⟨hk30, hTT, hin⟩ := HT3.out (by rw [HSP.out])
                      have HTT2 := Lib.hid hTT
                      have HIN2 := Lib.hid hin
                      rw [HSP.out] at HTT2 HIN2
                      have hYL : Y.length ≤ 40 := by have := hin.len; rw [HSP.out] at this; have h40 := HYL.out; omega
                      obtain ⟨z0, z1, z2, z3⟩ := four_cells HSE.out.box
                      have hmx : k + 1 ≤ maxLen := by unfold maxLen; omega
                      have hby : (k + 1) * 48 ≤ 140737488355328 := by omega
                      clear hTT hin
                      generalize hWE : w12 = wE at *
                      clear hWE
                      have HOE := Lib.hid (HOc.out.past HSE.out.gr hgw)
                      have HGE := Lib.hid (HGW.out.trans HSE.out.gr)
                      have HRW := Lib.hid (show wE.ownsRow w.heap.size 50 4 (.slice A3 k c3) k (cellsF ALay.cells X) from by have := HOE.out.row; rwa [HX.out] at this)
                      have hAE := (Below.refl wE.heap.size wE).alloc (Nat.le_refl _) (.cells #[.int .u64 (A : Int), .int .i64 tv, .bool kd, .slice A6 Y.length c6] 50)
                      have HOA := Lib.hid (row_below HRW.out hAE)
                      have hsz : w.heap.size ≤ wE.heap.size + 1 := by have := HGE.out.size; omega
                      obtain ⟨yn, hyn⟩ : ∃ n, Y.length = n := ⟨_, rfl⟩
                      have HYN := Lib.hid hyn
                      rw [hyn] at z3 hYL HOA hAE
                      clear hyn
                      go_wp2_with (at_builtin; refine wpList_append_own_at _ (by rfl) (.tmp 82) (.tmp 84) _ (by rfl) w.heap.size 50 i1 _ 4 48 Try.underlying30 hj1 hy0 hy1 hy2 rfl (by decide) _ k (cellsF ALay.cells X) (by rfl) HOA.out ⟨wE.heap.size, 0, none⟩ 1 1 [.int .u64 (A : Int), .int .i64 tv, .bool kd, .slice A6 yn c6] (by rfl) rfl (fun j u h => cells_newA wE [.int .u64 (A : Int), .int .i64 tv, .bool kd, .slice A6 yn c6] _ j u h) (abb_one' _ _ _ _ _ _) hmx hby (by simpa using hsz) ?_; intro v6 w6 hown6 hg6 hn6 hat6; clear hn6 hat6; have HO6 := Lib.hid hown6; have HG6 := Lib.hid hg6; clear hown6 hg6)
                      obtain ⟨hr6, hgr6⟩ := rrn_append HSE.out.rr HGE.out HRW.out (Nat.le_refl _) HG6.out hgw
                      have HR6 := Lib.hid hr6
                      have HGR6 := Lib.hid hgr6
                      have HON := Lib.hid (show OwnA w6 w.heap.size v6 (X ++ [⟨⟨A, tv, kd, Y⟩, A6, c6⟩]) from ⟨by
                        rw [List.length_append, HX.out, cellsF_append, cellsF_one]
                        have := HO6.out
                        rw [← HYN.out] at this
                        exact this, fun y hy => by
                        rcases List.mem_append.1 hy with hy | hy
                        · exact own_apart (row_below (HOE.out.spcs y hy) hAE) HOA.out (by decide) HG6.out
                        · rw [List.mem_singleton.1 hy]
                          refine own_apart (row_below (own_lower (by have := HSE.out.row; exact this) (by have := HGW.out.size; omega)) hAE) HOA.out (by decide) HG6.out⟩)
                      clear hr6 hgr6 HG6 HO6 hAE
                      go_roundg (301 - (k + 1))
                      case measure => omega
                      case rel => exact ⟨k + 1, _, (a5, 0), by omega, rfl, Lib.hid (by rw [List.length_append, HX.out]; rfl), HON, Lib.hid (fun y hy => by
                        rcases List.mem_append.1 hy with hy | hy
                        · exact HIN.out y hy
                        · rw [List.mem_singleton.1 hy]; exact HIN2.out), HR6, HGR6, Lib.hid (by rw [List.map_append]; exact HTT2.out)⟩
                    · have hne5 : (e5 != 0) = true := by simp [he5]
                      have ht2 := HT2.out (by rw [HSP.out]; exact he5)
                      rw [HSP.out] at ht2
                      have HT2' := Lib.hid ht2
                      have HH := Lib.hid (H3.out (by rw [ht2]; exact he5))
                      clear ht2
                      go_upto_region 25 with fail
                      go_quiet (fail)
                      go_wp2_with fail
                      go_ret2
                      exact ⟨_, [], by rw [HH.out.1, HT2'.out]; rfl, OwnA.nil _ _, by rw [HH.out.2]; rfl, (fun y hy => by cases hy), Nat.zero_le _, by rw [HH.out.1, HP.out, HT2'.out]; exact HSE.out.rr.drewN nq, only_drewN (HGW.out.trans HSE.out.gr) nq⟩
                  · have hjl : j < 40 := by omega
                    have e40 : ((j : Int) == 40) = false := by simp; omega
                    have hmx : j + 1 ≤ maxLen := by unfold maxLen; omega
                    have hby : (j + 1) * 24 ≤ 140737488355328 := by omega
                    obtain ⟨t0, t1, t2⟩ := three_cells13 HX11.out
                    have ft2 := HX11.out.free 2
                    have HROW := Lib.hid (show w11.ownsRow (wb.heap.size + 1) 56 3 (.slice A6 j c6) j (cellsF Spc.cells Y) from by have := HS11.out.row; rwa [HY.out] at this)
                    have hgH : g < w10.heap.size := by omega
                    by_cases h33 : F' = 33
                    · have n5 : ((F' : Int) == 33) = true := by simp [h33]
                      have hz := HEI.out (by omega) HNO.out HBP.out h33
                      have HZ := Lib.hid (show SP = ((Y ++ [⟨(A' : Int), (F' : Int), tS l s6⟩]) ++ (specsF l (40 - (j + 1) + 1) (sS l s6)).1, (specsF l (40 - (j + 1) + 1) (sS l s6)).2) by
                        rw [HSPJ.out, hz, List.append_assoc, show 40 - (j + 1) + 1 = 40 - j by omega]; rfl)
                      have HSS := Lib.hid (rs_st HS11.out.rr HL.out)
                      generalize tS l s6 = im at *
                      generalize sS l s6 = s7 at *
                      clear hz HEF HEI HEM HNO HBP HSPJ h33 hj40
                      go_upto_region 23 with (go_at_call 29; refine HSS.out.mono ?_; rintro r w12 ⟨rfl, hC12, hG12⟩; have HS12 := Lib.hid (HS11.out.cur hgb (Nat.le_refl _) hC12 hG12); have HX12 := Lib.hid (HX11.out.grown hG12 (by simp; omega)); (obtain ⟨t0', t1', t2'⟩ := three_cells13 HX12.out); have ft2' := HX12.out.free 2; clear hC12 hG12)
                      clear t0 t1 t2 z0 z1 z2 z3 ft2 t0' t1' t2' ft2'
                      have hsx : w12.grownBy (w12.setCell ⟨w10.heap.size, 2, none⟩ (.int .i64 im)) (some w10.heap.size) := only_set (only_refl _ _) 2 _
                      have HSx := Lib.hid (HS12.out.side hsx hHH (Nat.le_refl _) hgH HULT.out)
                      have HXx := Lib.hid (show Box (w12.setCell ⟨w10.heap.size, 2, none⟩ (.int .i64 im)) w10.heap.size 56 #[.int .i64 (A' : Int), .int .i64 (F' : Int), .int .i64 im] from by
                        have := HX12.out.set 2 (.int .i64 im)
                        simpa using this)
                      generalize hwX : w12.setCell ⟨w10.heap.size, 2, none⟩ (.int .i64 im) = wX at *
                      clear hwX hsx HS12 HX12 HS11 HX11 hw11
                      obtain ⟨z0, z1, z2, z3⟩ := four_cells HSx.out.box
                      obtain ⟨t0, t1, t2⟩ := three_cells13 HXx.out
                      obtain ⟨-, -, -, fz3⟩ := four_free HSx.out.box
                      rw [HY.out] at z3
                      have hAx := (Below.refl wX.heap.size wX).alloc (Nat.le_refl _) (.cells #[.int .i64 (A' : Int), .int .i64 (F' : Int), .int .i64 im] 56)
                      have HROWx := Lib.hid (show wX.ownsRow (wb.heap.size + 1) 56 3 (.slice A6 j c6) j (cellsF Spc.cells Y) from by have := HSx.out.row; rwa [HY.out] at this)
                      have HOAx := Lib.hid (row_below HROWx.out hAx)
                      have hszx : wb.heap.size + 1 ≤ wX.heap.size + 1 := by have := HSx.out.gr.size; omega
                      clear HROW
                      go_wp2_with (at_builtin; refine wpList_append_own_at _ (by rfl) (.tmp 68) (.tmp 70) _ (by rfl) (wb.heap.size + 1) 56 i2 _ 3 24 Try.underlying48 hk1 hz0 hz1 hz2 rfl (by decide) _ j (cellsF Spc.cells Y) (by rfl) HOAx.out ⟨wX.heap.size, 0, none⟩ 1 1 (Spc.cells ⟨(A' : Int), (F' : Int), im⟩) (by rfl) rfl (fun j u h => cells_newA wX (Spc.cells ⟨(A' : Int), (F' : Int), im⟩) _ j u h) (spc_one _) hmx hby (by simpa using hszx) ?_; intro v4 w9 hown4 hg4 hn4 hat4; clear hn4 hat4; have HO4 := Lib.hid hown4; have HG4 := Lib.hid hg4; (obtain ⟨A9, c9, rfl⟩ := owns_slc hown4); have z9 := (four_cells (box_row (HSx.out.box.below hAx HSx.out.box.lt) HOAx.out (by decide) hg4)).2.2.2; have f9 := (four_free (box_row (HSx.out.box.below hAx HSx.out.box.lt) HOAx.out (by decide) hg4)).2.2.2; clear hown4 hg4)
                      have HSN := Lib.hid (HSx.out.put hgb (Nat.le_refl _) (x := ⟨(A' : Int), (F' : Int), im⟩) (by rw [HY.out]; exact HO4.out) (by rw [HY.out]; exact HG4.out) rfl)
                      go_roundg (41 - (j + 1))
                      case measure => omega
                      case rel => exact ⟨j + 1, _, s7, _, by omega, rfl, Lib.hid (by rw [List.length_append, HY.out]; rfl), HSN, HZ⟩
                    · have n5 : ((F' : Int) == 33) = false := by simp; omega
                      have hz := HEM.out (by omega) HNO.out HBP.out h33
                      have HZ := Lib.hid (show SP = ((Y ++ [⟨(A' : Int), (F' : Int), 0⟩]) ++ (specsF l (40 - (j + 1) + 1) s6).1, (specsF l (40 - (j + 1) + 1) s6).2) by
                        rw [HSPJ.out, hz, List.append_assoc, show 40 - (j + 1) + 1 = 40 - j by omega]; rfl)
                      clear hz HEF HEI HEM HNO HBP HSPJ h33 hj40
                      go_upto_region 23 with fail
                      clear t0 t1 t2 z0 z1 z2 z3 ft2 hw11
                      have HSx := HS11
                      have HXx := HX11
                      generalize w11 = wX at *
                      clear HS11 HX11
                      obtain ⟨z0, z1, z2, z3⟩ := four_cells HSx.out.box
                      obtain ⟨t0, t1, t2⟩ := three_cells13 HXx.out
                      obtain ⟨-, -, -, fz3⟩ := four_free HSx.out.box
                      rw [HY.out] at z3
                      have hAx := (Below.refl wX.heap.size wX).alloc (Nat.le_refl _) (.cells #[.int .i64 (A' : Int), .int .i64 (F' : Int), .int .i64 0] 56)
                      have HROWx := Lib.hid (show wX.ownsRow (wb.heap.size + 1) 56 3 (.slice A6 j c6) j (cellsF Spc.cells Y) from by have := HSx.out.row; rwa [HY.out] at this)
                      have HOAx := Lib.hid (row_below HROWx.out hAx)
                      have hszx : wb.heap.size + 1 ≤ wX.heap.size + 1 := by have := HSx.out.gr.size; omega
                      clear HROW
                      go_wp2_with (at_builtin; refine wpList_append_own_at _ (by rfl) (.tmp 68) (.tmp 70) _ (by rfl) (wb.heap.size + 1) 56 i2 _ 3 24 Try.underlying48 hk1 hz0 hz1 hz2 rfl (by decide) _ j (cellsF Spc.cells Y) (by rfl) HOAx.out ⟨wX.heap.size, 0, none⟩ 1 1 (Spc.cells ⟨(A' : Int), (F' : Int), 0⟩) (by rfl) rfl (fun j u h => cells_newA wX (Spc.cells ⟨(A' : Int), (F' : Int), 0⟩) _ j u h) (spc_one _) hmx hby (by simpa using hszx) ?_; intro v4 w9 hown4 hg4 hn4 hat4; clear hn4 hat4; have HO4 := Lib.hid hown4; have HG4 := Lib.hid hg4; (obtain ⟨A9, c9, rfl⟩ := owns_slc hown4); have z9 := (four_cells (box_row (HSx.out.box.below hAx HSx.out.box.lt) HOAx.out (by decide) hg4)).2.2.2; have f9 := (four_free (box_row (HSx.out.box.below hAx HSx.out.box.lt) HOAx.out (by decide) hg4)).2.2.2; clear hown4 hg4)
                      have HSN := Lib.hid (HSx.out.put hgb (Nat.le_refl _) (x := ⟨(A' : Int), (F' : Int), 0⟩) (by rw [HY.out]; exact HO4.out) (by rw [HY.out]; exact HG4.out) rfl)
                      go_roundg (41 - (j + 1))
                      case measure => omega
                      case rel => exact ⟨j + 1, _, s6, _, by omega, rfl, Lib.hid (by rw [List.length_append, HY.out]; rfl), HSN, HZ⟩
    · have hne : (e2 != 0) = true := by simp [he]
      have hz := HE1.out (HUB.out he)
      have HZ := Lib.hid (show T = (X.map ALay.x, (a2, e2)) by rw [HTT.out, hz, List.append_nil])
      have HH := Lib.hid (H3.out (by rw [HZ.out]; exact he))
      clear hz HE1 HE2 HE3 HTT HUB
      go_upto_region 4 with fail
      go_quiet (fail)
      go_wp2_with fail
      go_ret2
      exact ⟨_, [], by rw [HH.out.1, HZ.out]; rfl, OwnA.nil _ _, by rw [HH.out.2]; rfl, (fun y hy => by cases hy), Nat.zero_le _, by rw [HH.out.1, HP.out, HZ.out]; exact HC1.out.drewN nq, only_drewN HGG.out nq⟩

end Go.Proofs.Ytpmndmbhkfbljaa
