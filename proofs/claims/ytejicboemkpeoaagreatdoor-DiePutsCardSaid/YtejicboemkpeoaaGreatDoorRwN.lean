/-
  The document's put and Put of values.
-/
import Derived.Test.YtejicboemkpeoaaGreatDoorRwM
import Derived.Test.YtejicboemkpeoaaGreatDoorDiO
import Derived.Test.YtejicboemkpeoaaGreatDoorRefP
import Derived.Test.YtejicboemkpeoaaGreatDoorLawA
namespace Go.Proofs.YtejicboemkpeoaaGreatDoor
open Go Go.RowKit

set_option maxRecDepth 10000 in
theorem rputN_any (w : World) {f : Nat} (hf : f < 45) (hk : kindF (f : Int) ≠ 0) (h25 : f ≠ 25) (h33 : f ≠ 33) (h8 : f ≠ 8) (h30 : f ≠ 30) (wide : Bool) (n : Nat) (hn : n < two64) :
    Calls Tryz.prog 108 #[.int .u64 (n : Int), .int .i64 (f : Int), .bool wide] w fun r w' => ∃ v', r = .returned v' ∧ Own w' w.heap.size v' (numB (widF (f : Int) wide) n) ∧ Below w.heap.size w w' := by
  have HS := Lib.hid (fun W => rsize_any W (f : Int) wide)
  have HU := Lib.hid (rputU_any w n (by unfold two64 at hn; omega))
  have hzi := widF_in f hf wide
  have HP := Lib.hid (rput_any w n hn (widF (f : Int) wide) hzi)
  have hw := rsizF_ways hf hk h25 h33 h8 h30 wide
  generalize widF (f : Int) wide = z at *
  generalize rsizF (f : Int) wide = y at *
  clear hf hk h25 h33 h8 h30 hn hzi
  rcases hw with ⟨h0, h1⟩ | ⟨h0, h1, h2⟩
  · have q : (y == 0) = true := by simpa using h0
    have HE := Lib.hid (show numB z n = lebPut (sizeU n) (n : Int) by unfold numB; rw [if_pos h1])
    clear h0 h1
    go_enter Tryz.func108, Tryz.ntmps108
    go_wp2_with (first
      | (go_at_call 148; refine (HS.out _).mono ?_; rintro r w1 ⟨rfl, rfl⟩)
      | (go_at_call 69; refine HU.out.mono ?_; rintro r w2 ⟨v2, rfl, hO2, hb2⟩; have HO2 := Lib.hid hO2; have HB2 := Lib.hid hb2; clear hO2 hb2))
    go_ret
    exact ⟨_, rfl, by rw [HE.out]; exact HO2.out, HB2.out⟩
  · have q : (y == 0) = false := by simpa using h0
    have HE := Lib.hid (show numB z n = leBytes n (clampOf z) by unfold numB; rw [if_neg h2])
    subst h1
    clear h0 h2
    go_enter Tryz.func108, Tryz.ntmps108
    go_wp2_with (first
      | (go_at_call 148; refine (HS.out _).mono ?_; rintro r w1 ⟨rfl, rfl⟩)
      | (go_at_call 149; refine HP.out.mono ?_; rintro r w2 ⟨v2, rfl, hO2, hb2⟩; have HO2 := Lib.hid hO2; have HB2 := Lib.hid hb2; clear hO2 hb2))
    go_ret
    exact ⟨_, rfl, by rw [HE.out]; exact HO2.out, HB2.out⟩
theorem numB_none {n : Nat} : numB 0 n = [] := by
  unfold numB
  rw [if_neg (by decide)]
  rfl
/-- What the document's Put puts. -/
def rputV (x : RV) (wide : Bool) : List UInt8 := if rightV x wide = true then putV x wide else []
def RPutIs (w' : World) (E : Int) (B : List UInt8) (r : Ending) : Prop := ∃ A c, r = .returned (.tuple #[.slice A B.length c, .int .i64 E]) ∧ Rd w' w'.heap.size A B
theorem rput_mk {w' : World} {E : Int} {B B' : List UInt8} {A : Option Addr} {n c : Nat} (hB : B = B') (hn : B'.length = n) (h : Rd w' w'.heap.size A B') : RPutIs w' E B (.returned (.tuple #[.slice A n c, .int .i64 E])) := by
  subst hB hn
  exact ⟨A, c, rfl, h⟩

set_option maxRecDepth 10000 in
set_option maxHeartbeats 3200000 in
theorem rputW_any {w : World} (y : WLay) (hy : Rd w w.heap.size y.a y.x.b) (hu : y.x.u < two64) (hs : InI y.x.s) (hb : y.x.b.length ≤ 9223372036854775807) (ht : y.x.t.length ≤ 140737488355000) (wide : Bool) :
    Calls Tryz.prog 70 #[.agg #[.int .i64 y.x.form, .int .u64 (y.x.u : Int), .int .i64 y.x.s, .slice y.a y.x.b.length y.c, .string ⟨y.x.t.toArray⟩], .bool wide] w fun r w' => RPutIs w' (putWE y.x wide) (rputV y.x wide) r ∧ Below w.heap.size w w' := by
  obtain ⟨i0, hi, hz0, hz1, hz2⟩ := info_parts u8_info
  have hA := (Below.refl w.heap.size w).alloc (Nat.le_refl _) (.cells #[.int .i64 y.x.form, .int .u64 (y.x.u : Int), .int .i64 y.x.s, .slice y.a y.x.b.length y.c, .string ⟨y.x.t.toArray⟩] 63)
  have hX0 := Box.new w 63 #[.int .i64 y.x.form, .int .u64 (y.x.u : Int), .int .i64 y.x.s, .slice y.a y.x.b.length y.c, .string ⟨y.x.t.toArray⟩]
  have HR := Lib.hid (fun W => rrightV_any (w := W) y hu hb (by omega) wide)
  obtain ⟨rr, hrr⟩ : ∃ rr, rightV y.x wide = rr := ⟨_, rfl⟩
  rw [hrr] at HR
  have HE := Lib.hid (show putWE y.x wide = if rr = true then 0 else 2 by rw [← hrr]; rfl)
  have HV := Lib.hid (show rputV y.x wide = if rr = true then putV y.x wide else [] by unfold rputV; rw [hrr])
  cases rr with
  | false =>
    have HA := Lib.hid hA
    clear hA hy hu hs hb ht hrr
    obtain ⟨x0, x1, x2, x3, x4⟩ := five_cellsR hX0
    clear hX0
    generalize y.x.b.length = bn at *
    generalize (ByteArray.mk y.x.t.toArray) = ts at *
    go_enter Tryz.func70, Tryz.ntmps70
    go_wp2_with (go_at_call 104; refine (HR.out _).mono ?_; rintro r w2 ⟨rfl, hb2⟩; have HB2 := Lib.hid (HA.out.trans (hb2.mono HA.out.size)); clear hb2)
    go_ret2
    refine ⟨?_, HB2.out⟩
    rw [HE.out, HV.out]
    exact rput_mk (B' := []) (A := none) (c := 0) (if_neg (by decide)) rfl (fun h => absurd h (by decide))
  | true =>
    obtain ⟨hk0, hb9, ht5⟩ := rightV_spec hrr
    obtain ⟨n, hfn, hn⟩ := kindF_in hk0
    have HVV := Lib.hid (show rputV y.x wide = wholeV y.x (widF y.x.form wide) by rw [HV.out]; rfl)
    have HEE := Lib.hid (show putWE y.x wide = 0 by rw [HE.out]; rfl)
    have HWV := Lib.hid (show wholeV y.x (widF y.x.form wide) = if kindF y.x.form = 5 then putT y.x.t
      else if kindF y.x.form = 9 ∨ kindF y.x.form = 10 then numB (widF y.x.form wide) y.x.b.length ++ y.x.b
      else if kindF y.x.form = 3 then (if y.x.form = 33 then [] else lebPut (sizeS y.x.s) y.x.s)
      else numB (widF y.x.form wide) y.x.u from rfl)
    have HA := Lib.hid hA
    have HX0 := Lib.hid hX0
    have HK := Lib.hid (fun W => rkind_any W y.x.form)
    have HPN := Lib.hid (fun W (h25 : n ≠ 25) (h33 : n ≠ 33) (h8 : n ≠ 8) (h30 : n ≠ 30) (m : Nat) (hm : m < two64) => (by have := rputN_any W hn (hfn ▸ hk0) h25 h33 h8 h30 wide m hm; rwa [← hfn] at this : Calls Tryz.prog 108 #[.int .u64 (m : Int), .int .i64 y.x.form, .bool wide] W fun r w' => ∃ v', r = .returned v' ∧ Own w' W.heap.size v' (numB (widF y.x.form wide) m) ∧ Below W.heap.size W w'))
    have HPS := Lib.hid (fun W => rputS_any W y.x.s hs)
    have HPT := Lib.hid (fun W => rputt_any y.x.t W ht)
    have HY := Lib.hid (fun W (hW : Below w.heap.size w W) => (hy.below hW).more hW.size)
    have HU := Lib.hid hu
    have h5v := fun (h : kindF y.x.form = 5) => kind5 hn (hfn ▸ h)
    have h3v := fun (h : kindF y.x.form = 3) => kind3 hn (hfn ▸ h)
    have HFN := Lib.hid hfn
    have HNN := Lib.hid hn
    obtain ⟨k, hk⟩ : ∃ k, kindF y.x.form = k := ⟨_, rfl⟩
    have HKK := Lib.hid hk
    rw [hk] at HWV hb9 h5v h3v
    obtain ⟨bn, hbn⟩ : ∃ bn, y.x.b.length = bn := ⟨_, rfl⟩
    have HBN := Lib.hid hbn
    rw [hbn] at HR HA HX0 hb9 HWV ⊢
    obtain ⟨ts, hts⟩ : ∃ ts : ByteArray, ts = ⟨y.x.t.toArray⟩ := ⟨_, rfl⟩
    rw [← hts] at HR HPT HA HX0 ⊢
    clear hA hX0 hy hu hs hb ht hrr hk0 ht5 hfn hn hbn hts hk HE HV
    go_enter Tryz.func70, Tryz.ntmps70
    go_upto_region 1 with fail
    generalize hw1 : w.alloc (.cells #[.int .i64 y.x.form, .int .u64 (y.x.u : Int), .int .i64 y.x.s, .slice y.a bn y.c, .string ts] 63) = w1 at *
    clear hw1
    obtain ⟨x0, x1, x2, x3, x4⟩ := five_cellsR HX0.out
    go_upto_region 3 with (go_at_call 104; refine (HR.out _).mono ?_; rintro r w2 ⟨rfl, hb2⟩; have HB12 := Lib.hid hb2; clear hb2)
    have HB2 := Lib.hid (HA.out.trans (HB12.out.mono HA.out.size))
    have HX2 := Lib.hid (HX0.out.below HB12.out HX0.out.lt)
    clear x0 x1 x2 x3 x4
    obtain ⟨x0, x1, x2, x3, x4⟩ := five_cellsR HX2.out
    generalize hf : y.x.form = f at *
    go_upto_region 4 with (go_at_call 105; refine (HK.out _).mono ?_; rw [HKK.out]; rintro r w3 ⟨rfl, rfl⟩)
    by_cases h25 : f = 25
    · have q25 : (f == 25) = true := by simpa using h25
      have HZ := Lib.hid (show rputV y.x wide = [] by
        have hk4 : k = 4 := by rw [← HKK.out, h25]; rfl
        rw [HVV.out, HWV.out, hk4, if_neg (by decide), if_neg (by decide), if_neg (by decide), h25]
        exact numB_none)
      clear h25 hf
      go_wp2_with fail
      go_ret2
      refine ⟨?_, HB2.out⟩
      rw [HEE.out]
      exact rput_mk (A := none) (c := 0) HZ.out rfl (fun h => absurd h (by decide))
    have q25 : (f == 25) = false := by simpa using h25
    by_cases h33 : f = 33
    · have q33 : (f == 33) = true := by simpa using h33
      have HZ := Lib.hid (show rputV y.x wide = [] by
        have hk4 : k = 3 := by rw [← HKK.out, h33]; rfl
        rw [HVV.out, HWV.out, hk4, if_neg (by decide), if_neg (by decide), if_pos rfl, if_pos h33])
      clear h25 h33 hf
      go_wp2_with fail
      go_ret2
      refine ⟨?_, HB2.out⟩
      rw [HEE.out]
      exact rput_mk (A := none) (c := 0) HZ.out rfl (fun h => absurd h (by decide))
    have q33 : (f == 33) = false := by simpa using h33
    by_cases h13 : f = 13
    · have q13 : (f == 13) = true := by simpa using h13
      have HZ := Lib.hid (show rputV y.x wide = lebPut (sizeS y.x.s) y.x.s by
        have hk4 : k = 3 := by rw [← HKK.out, h13]; rfl
        rw [HVV.out, HWV.out, hk4, if_neg (by decide), if_neg (by decide), if_pos rfl, if_neg h33])
      clear h25 h33 h13 hf
      go_wp2_with (go_at_call 106; refine (HPS.out _).mono ?_; rintro r w3 ⟨v3, rfl, hO3, hb3⟩; have HO3 := Lib.hid hO3; have HB3 := Lib.hid (HB2.out.trans (hb3.mono HB2.out.size)); (obtain ⟨A3, c3, rfl, -, -, -⟩ := own_slice hO3); have HR3 := Lib.hid (own_slice hO3); clear hO3 hb3)
      go_ret2
      refine ⟨?_, HB3.out⟩
      rw [HEE.out]
      obtain ⟨A4, c4, he, -, -, hr4⟩ := HR3.out
      injection he with he1 he2 he3
      subst he1
      exact rput_mk HZ.out rfl hr4
    have q13 : (f == 13) = false := by simpa using h13
    by_cases h5 : k = 5
    · have q5 : (k == 5) = true := by simpa using h5
      rw [if_pos h5] at HWV
      clear h25 h33 h13 h5 hf
      go_wp2_with (go_at_call 107; refine (HPT.out _).mono ?_; rintro r w3 ⟨v3, rfl, hO3, hb3⟩; have HO3 := Lib.hid hO3; have HB3 := Lib.hid (HB2.out.trans (hb3.mono HB2.out.size)); (obtain ⟨A3, c3, rfl, -, -, -⟩ := own_slice hO3); have HR3 := Lib.hid (own_slice hO3); clear hO3 hb3)
      go_ret2
      refine ⟨?_, HB3.out⟩
      rw [HEE.out]
      obtain ⟨A4, c4, he, -, -, hr4⟩ := HR3.out
      injection he with he1 he2 he3
      subst he1
      exact rput_mk (HVV.out.trans HWV.out) rfl hr4
    have q5 : (k == 5) = false := by simpa using h5
    rw [if_neg h5] at HWV
    by_cases h30 : f = 30
    · have q30 : (f == 30) = true := by simpa using h30
      have HZ := Lib.hid (show rputV y.x wide = y.x.b by
        have hk4 : k = 9 := by rw [← HKK.out, h30]; rfl
        rw [HVV.out, HWV.out, if_pos (.inl hk4), h30]
        exact congrArg (· ++ y.x.b) numB_none)
      have HYY := Lib.hid (HY.out _ HB2.out)
      clear h25 h33 h13 h5 h30 hf
      go_wp2_with fail
      go_ret2
      refine ⟨?_, HB2.out⟩
      rw [HEE.out]
      exact rput_mk HZ.out HBN.out HYY.out
    have q30 : (f == 30) = false := by simpa using h30
    have n25 : n ≠ 25 := fun e => h25 (by rw [HFN.out, e]; rfl)
    have n33 : n ≠ 33 := fun e => h33 (by rw [HFN.out, e]; rfl)
    have n30 : n ≠ 30 := fun e => h30 (by rw [HFN.out, e]; rfl)
    have n8 : n ≠ 8 := fun e => h5 (by rw [← HKK.out, HFN.out, e]; rfl)
    by_cases h9 : k = 9 ∨ k = 10
    · have q9 : (k == 9) = true ∨ (k == 9) = false ∧ (k == 10) = true := by
        rcases h9 with rfl | rfl
        · exact .inl rfl
        · exact .inr ⟨rfl, rfl⟩
      rw [if_pos h9] at HWV
      have hb6 := hb9 h9
      have hwb : IntKind.u64.wrap (bn : Int) = (bn : Int) := by rw [IntWalk.u64_in _ (by omega)]
      have HNB := Lib.hid (fun W => HPN.out W n25 n33 n8 n30 bn (by unfold two64; omega))
      have HNL := Lib.hid (show (numB (widF f wide) bn).length + y.x.b.length ≤ 140737488355328 by rw [HBN.out]; have := numB_len (z := widF f wide) (n := bn) (by unfold two64; omega); omega)
      have HSZ := Lib.hid (show w.heap.size ≤ w2.heap.size from HB2.out.size)
      have hlt := HX2.out.lt
      have KS := Lib.hid (fun X (hX : Below w2.heap.size w2 X) => (⟨hX, (hX.cell (p := ⟨w.heap.size, 0, none⟩) hlt).trans x0, (hX.cell (p := ⟨w.heap.size, 3, none⟩) hlt).trans x3⟩ : Below w2.heap.size w2 X ∧ X.cell? ⟨w.heap.size, 0, none⟩ = some (.int .i64 f) ∧ X.cell? ⟨w.heap.size, 3, none⟩ = some (.slice y.a bn y.c)))
      have hrf := Below.refl w2.heap.size w2
      generalize numB (widF f wide) bn = M at *
      obtain ⟨mn, hmn⟩ : ∃ mn, (M ++ y.x.b).length = mn := ⟨_, rfl⟩
      have HMN := Lib.hid hmn
      clear hmn
      clear h25 h33 h13 h5 h30 h9 hb9 hb6 n25 n33 n30 n8 h5v h3v hlt hf HPN
      rcases q9 with q9 | ⟨q9, q10⟩
      all_goals
        go_upto_region 13 with fail
        first
        | (go_region_held_law (fun X => Below w2.heap.size w2 X ∧ X.cell? ⟨w.heap.size, 0, none⟩ = some (.int .i64 f) ∧ X.cell? ⟨w.heap.size, 3, none⟩ = some (.slice y.a bn y.c))
          ((refine KS.out _ ?_; repeat' (first | (with_reducible assumption) | (with_reducible refine below_drewN ?_ _) | (with_reducible refine Below.drew ?_))))
          (first
            | (go_at_call 108; refine (HNB.out _).mono ?_; rintro r w3 ⟨v3, rfl, hO3, hb3⟩; have hB3 : Below w2.heap.size w2 w3 := (show Below w2.heap.size w2 _ from (by repeat' (first | (with_reducible assumption) | (with_reducible refine below_drewN ?_ _) | (with_reducible refine Below.drew ?_)))).trans hb3; have HB3 := Lib.hid hB3; have HO3 := Lib.hid (show Own w3 w2.heap.size v3 M from hO3); clear hb3 hO3)
            | (refine step_append_bytes (by rfl) (.tmp 51) (.tmp 53) _ (by rfl) w2.heap.size i0 Tryz.underlying26 hi hz0 hz1 hz2 v3 M (by rfl) HO3.out w3.heap.size y.a bn y.c y.x.b HBN.out (by rfl) (HY.out _ (HB2.out.trans (HB3.out.mono HSZ.out))) HNL.out HB3.out.size ?_; intro v4 w4 hown4 hg4 hat4; have hB4 : Below w2.heap.size w2 w4 := HB3.out.trans (below_of_only hg4 HB3.out.size (fun x hx => (own_ge HO3.out x hx).1)); have HB4 := Lib.hid hB4; (obtain ⟨A4, c4, rfl, -, -, hr4⟩ := own_slice hown4); rw [HMN.out]; have HR4 := Lib.hid hr4; clear hown4 hg4 hat4 hr4)))
        | fail "no"
        all_goals simp only [List.getElem_toArray, List.getElem_cons_succ, List.getElem_cons_zero]
        all_goals go_wp2_with fail
        all_goals go_ret2
        all_goals refine ⟨?_, HB2.out.trans (HB4.out.mono HSZ.out)⟩
        all_goals rw [HEE.out]
        all_goals exact rput_mk (HVV.out.trans HWV.out) HMN.out HR4.out
    have q9 : (k == 9) = false := by simp; omega
    have q10 : (k == 10) = false := by simp; omega
    have h3 : k ≠ 3 := fun e => by
      rcases h3v e with e | e
      · exact h13 (by rw [HFN.out, e]; rfl)
      · exact n33 e
    rw [if_neg h9, if_neg h3] at HWV
    have HNB := Lib.hid (fun W => HPN.out W n25 n33 n8 n30 y.x.u HU.out)
    generalize numB (widF f wide) y.x.u = M at *
    clear h25 h33 h13 h5 h30 h9 h3 hb9 n25 n33 n30 n8 h5v h3v hf HPN
    go_wp2_with (go_at_call 108; refine (HNB.out _).mono ?_; rintro r w3 ⟨v3, rfl, hO3, hb3⟩; have HO3 := Lib.hid hO3; have HB3 := Lib.hid (HB2.out.trans (hb3.mono HB2.out.size)); (obtain ⟨A3, c3, rfl, -, -, -⟩ := own_slice hO3); have HR3 := Lib.hid (own_slice hO3); clear hO3 hb3)
    go_ret2
    refine ⟨?_, HB3.out⟩
    rw [HEE.out]
    obtain ⟨A4, c4, he, -, -, hr4⟩ := HR3.out
    injection he with he1 he2 he3
    subst he1
    exact rput_mk (HVV.out.trans HWV.out) rfl hr4

end Go.Proofs.YtejicboemkpeoaaGreatDoor
