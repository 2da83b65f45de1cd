/-
  RawPuts' walk.
-/
import Derived.Test.YtpmndmbhkfbljaaDoorRwM
import Derived.Test.YtpmndmbhkfbljaaDoorRwL
import Derived.Test.YtpmndmbhkfbljaaDoorRefP
import Derived.Test.YtpmndmbhkfbljaaDoorPutR
import Derived.Test.YtpmndmbhkfbljaaDoorRoundRegion
namespace Go.Proofs.YtpmndmbhkfbljaaDoor
open Go Go.RowKit

set_option maxRecDepth 10000 in
theorem rputN_any (w : World) {f : Nat} (hf : f < 45) (hk : kindF (f : Int) ≠ 0) (h25 : f ≠ 25) (h33 : f ≠ 33) (h8 : f ≠ 8) (h30 : f ≠ 30) (wide : Bool) (n : Nat) (hn : n < two64) :
    Calls Tryd.prog 40 #[.int .u64 (n : Int), .int .i64 (f : Int), .bool wide] w fun r w' => ∃ v', r = .returned v' ∧ Own w' w.heap.size v' (numB (widF (f : Int) wide) n) ∧ Below w.heap.size w w' := by
  have HS := Lib.hid (fun W => rsize_any W (f : Int) wide)
  have HU := Lib.hid (rputU_any w n (by unfold two64 at hn; omega))
  have hzi := widF_in f hf wide
  have HP := Lib.hid (rput_any w n hn (widF (f : Int) wide) hzi)
  have hw := rsizF_ways hf hk h25 h33 h8 h30 wide
  generalize widF (f : Int) wide = z at *
  generalize rsizF (f : Int) wide = y at *
  clear hf hk h25 h33 h8 h30 hn hzi
  rcases hw with ⟨h0, h1⟩ | ⟨h0, h1, h2⟩
  · have q : (y == 0) = true := by simpa using h0
    have HE := Lib.hid (show numB z n = lebPut (sizeU n) (n : Int) by unfold numB; rw [if_pos h1])
    clear h0 h1
    go_enter Tryd.func40, Tryd.ntmps40
    go_wp2_with (first
      | (go_at_call 56; refine (HS.out _).mono ?_; rintro r w1 ⟨rfl, rfl⟩)
      | (go_at_call 62; refine HU.out.mono ?_; rintro r w2 ⟨v2, rfl, hO2, hb2⟩; have HO2 := Lib.hid hO2; have HB2 := Lib.hid hb2; clear hO2 hb2))
    go_ret
    exact ⟨_, rfl, by rw [HE.out]; exact HO2.out, HB2.out⟩
  · have q : (y == 0) = false := by simpa using h0
    have HE := Lib.hid (show numB z n = leBytes n (clampOf z) by unfold numB; rw [if_neg h2])
    subst h1
    clear h0 h2
    go_enter Tryd.func40, Tryd.ntmps40
    go_wp2_with (first
      | (go_at_call 56; refine (HS.out _).mono ?_; rintro r w1 ⟨rfl, rfl⟩)
      | (go_at_call 63; refine HP.out.mono ?_; rintro r w2 ⟨v2, rfl, hO2, hb2⟩; have HO2 := Lib.hid hO2; have HB2 := Lib.hid hb2; clear hO2 hb2))
    go_ret
    exact ⟨_, rfl, by rw [HE.out]; exact HO2.out, HB2.out⟩
theorem numB_none {n : Nat} : numB 0 n = [] := by
  unfold numB
  rw [if_neg (by decide)]
  rfl
/-- What the document's Put puts. -/
def rputV (x : RV) (wide : Bool) : List UInt8 := if rightV x wide = true then putV x wide else []
def RPutIs (w' : World) (E : Int) (B : List UInt8) (r : Ending) : Prop := ∃ A c, r = .returned (.tuple #[.slice A B.length c, .int .i64 E]) ∧ Rd w' w'.heap.size A B
theorem rput_mk {w' : World} {E : Int} {B B' : List UInt8} {A : Option Addr} {n c : Nat} (hB : B = B') (hn : B'.length = n) (h : Rd w' w'.heap.size A B') : RPutIs w' E B (.returned (.tuple #[.slice A n c, .int .i64 E])) := by
  subst hB hn
  exact ⟨A, c, rfl, h⟩

set_option maxRecDepth 10000 in
set_option maxHeartbeats 3200000 in
theorem rputW_any {w : World} (y : WLay) (hy : Rd w w.heap.size y.a y.x.b) (hu : y.x.u < two64) (hs : InI y.x.s) (hb : y.x.b.length ≤ 9223372036854775807) (ht : y.x.t.length ≤ 140737488355000) (wide : Bool) :
    Calls Tryd.prog 17 #[.agg #[.int .i64 y.x.form, .int .u64 (y.x.u : Int), .int .i64 y.x.s, .slice y.a y.x.b.length y.c, .string ⟨y.x.t.toArray⟩], .bool wide] w fun r w' => RPutIs w' (putWE y.x wide) (rputV y.x wide) r ∧ Below w.heap.size w w' := by
  obtain ⟨i0, hi, hz0, hz1, hz2⟩ := info_parts u8_info
  have hA := (Below.refl w.heap.size w).alloc (Nat.le_refl _) (.cells #[.int .i64 y.x.form, .int .u64 (y.x.u : Int), .int .i64 y.x.s, .slice y.a y.x.b.length y.c, .string ⟨y.x.t.toArray⟩] 33)
  have hX0 := Box.new w 33 #[.int .i64 y.x.form, .int .u64 (y.x.u : Int), .int .i64 y.x.s, .slice y.a y.x.b.length y.c, .string ⟨y.x.t.toArray⟩]
  have HR := Lib.hid (fun W => rrightV_any (w := W) y hu hb (by omega) wide)
  obtain ⟨rr, hrr⟩ : ∃ rr, rightV y.x wide = rr := ⟨_, rfl⟩
  rw [hrr] at HR
  have HE := Lib.hid (show putWE y.x wide = if rr = true then 0 else 2 by rw [← hrr]; rfl)
  have HV := Lib.hid (show rputV y.x wide = if rr = true then putV y.x wide else [] by unfold rputV; rw [hrr])
  cases rr with
  | false =>
    have HA := Lib.hid hA
    clear hA hy hu hs hb ht hrr
    obtain ⟨x0, x1, x2, x3, x4⟩ := five_cellsR hX0
    clear hX0
    generalize y.x.b.length = bn at *
    generalize (ByteArray.mk y.x.t.toArray) = ts at *
    go_enter Tryd.func17, Tryd.ntmps17
    go_wp2_with (go_at_call 19; refine (HR.out _).mono ?_; rintro r w2 ⟨rfl, hb2⟩; have HB2 := Lib.hid (HA.out.trans (hb2.mono HA.out.size)); clear hb2)
    go_ret2
    refine ⟨?_, HB2.out⟩
    rw [HE.out, HV.out]
    exact rput_mk (B' := []) (A := none) (c := 0) (if_neg (by decide)) rfl (fun h => absurd h (by decide))
  | true =>
    obtain ⟨hk0, hb9, ht5⟩ := rightV_spec hrr
    obtain ⟨n, hfn, hn⟩ := kindF_in hk0
    have HVV := Lib.hid (show rputV y.x wide = wholeV y.x (widF y.x.form wide) by rw [HV.out]; rfl)
    have HEE := Lib.hid (show putWE y.x wide = 0 by rw [HE.out]; rfl)
    have HWV := Lib.hid (show wholeV y.x (widF y.x.form wide) = if kindF y.x.form = 5 then putT y.x.t
      else if kindF y.x.form = 9 ∨ kindF y.x.form = 10 then numB (widF y.x.form wide) y.x.b.length ++ y.x.b
      else if kindF y.x.form = 3 then (if y.x.form = 33 then [] else lebPut (sizeS y.x.s) y.x.s)
      else numB (widF y.x.form wide) y.x.u from rfl)
    have HA := Lib.hid hA
    have HX0 := Lib.hid hX0
    have HK := Lib.hid (fun W => rkind_any W y.x.form)
    have HPN := Lib.hid (fun W (h25 : n ≠ 25) (h33 : n ≠ 33) (h8 : n ≠ 8) (h30 : n ≠ 30) (m : Nat) (hm : m < two64) => (by have := rputN_any W hn (hfn ▸ hk0) h25 h33 h8 h30 wide m hm; rwa [← hfn] at this : Calls Tryd.prog 40 #[.int .u64 (m : Int), .int .i64 y.x.form, .bool wide] W fun r w' => ∃ v', r = .returned v' ∧ Own w' W.heap.size v' (numB (widF y.x.form wide) m) ∧ Below W.heap.size W w'))
    have HPS := Lib.hid (fun W => rputS_any W y.x.s hs)
    have HPT := Lib.hid (fun W => rputt_any y.x.t W ht)
    have HY := Lib.hid (fun W (hW : Below w.heap.size w W) => (hy.below hW).more hW.size)
    have HU := Lib.hid hu
    have h5v := fun (h : kindF y.x.form = 5) => kind5 hn (hfn ▸ h)
    have h3v := fun (h : kindF y.x.form = 3) => kind3 hn (hfn ▸ h)
    have HFN := Lib.hid hfn
    have HNN := Lib.hid hn
    obtain ⟨k, hk⟩ : ∃ k, kindF y.x.form = k := ⟨_, rfl⟩
    have HKK := Lib.hid hk
    rw [hk] at HWV hb9 h5v h3v
    obtain ⟨bn, hbn⟩ : ∃ bn, y.x.b.length = bn := ⟨_, rfl⟩
    have HBN := Lib.hid hbn
    rw [hbn] at HR HA HX0 hb9 HWV ⊢
    obtain ⟨ts, hts⟩ : ∃ ts : ByteArray, ts = ⟨y.x.t.toArray⟩ := ⟨_, rfl⟩
    rw [← hts] at HR HPT HA HX0 ⊢
    clear hA hX0 hy hu hs hb ht hrr hk0 ht5 hfn hn hbn hts hk HE HV
    go_enter Tryd.func17, Tryd.ntmps17
    go_upto_region 1 with fail
    generalize hw1 : w.alloc (.cells #[.int .i64 y.x.form, .int .u64 (y.x.u : Int), .int .i64 y.x.s, .slice y.a bn y.c, .string ts] 33) = w1 at *
    clear hw1
    obtain ⟨x0, x1, x2, x3, x4⟩ := five_cellsR HX0.out
    go_upto_region 3 with (go_at_call 19; refine (HR.out _).mono ?_; rintro r w2 ⟨rfl, hb2⟩; have HB12 := Lib.hid hb2; clear hb2)
    have HB2 := Lib.hid (HA.out.trans (HB12.out.mono HA.out.size))
    have HX2 := Lib.hid (HX0.out.below HB12.out HX0.out.lt)
    clear x0 x1 x2 x3 x4
    obtain ⟨x0, x1, x2, x3, x4⟩ := five_cellsR HX2.out
    generalize hf : y.x.form = f at *
    go_upto_region 4 with (go_at_call 15; refine (HK.out _).mono ?_; rw [HKK.out]; rintro r w3 ⟨rfl, rfl⟩)
    by_cases h25 : f = 25
    · have q25 : (f == 25) = true := by simpa using h25
      have HZ := Lib.hid (show rputV y.x wide = [] by
        have hk4 : k = 4 := by rw [← HKK.out, h25]; rfl
        rw [HVV.out, HWV.out, hk4, if_neg (by decide), if_neg (by decide), if_neg (by decide), h25]
        exact numB_none)
      clear h25 hf
      go_wp2_with fail
      go_ret2
      refine ⟨?_, HB2.out⟩
      rw [HEE.out]
      exact rput_mk (A := none) (c := 0) HZ.out rfl (fun h => absurd h (by decide))
    have q25 : (f == 25) = false := by simpa using h25
    by_cases h33 : f = 33
    · have q33 : (f == 33) = true := by simpa using h33
      have HZ := Lib.hid (show rputV y.x wide = [] by
        have hk4 : k = 3 := by rw [← HKK.out, h33]; rfl
        rw [HVV.out, HWV.out, hk4, if_neg (by decide), if_neg (by decide), if_pos rfl, if_pos h33])
      clear h25 h33 hf
      go_wp2_with fail
      go_ret2
      refine ⟨?_, HB2.out⟩
      rw [HEE.out]
      exact rput_mk (A := none) (c := 0) HZ.out rfl (fun h => absurd h (by decide))
    have q33 : (f == 33) = false := by simpa using h33
    by_cases h13 : f = 13
    · have q13 : (f == 13) = true := by simpa using h13
      have HZ := Lib.hid (show rputV y.x wide = lebPut (sizeS y.x.s) y.x.s by
        have hk4 : k = 3 := by rw [← HKK.out, h13]; rfl
        rw [HVV.out, HWV.out, hk4, if_neg (by decide), if_neg (by decide), if_pos rfl, if_neg h33])
      clear h25 h33 h13 hf
      go_wp2_with (go_at_call 38; refine (HPS.out _).mono ?_; rintro r w3 ⟨v3, rfl, hO3, hb3⟩; have HO3 := Lib.hid hO3; have HB3 := Lib.hid (HB2.out.trans (hb3.mono HB2.out.size)); (obtain ⟨A3, c3, rfl, -, -, -⟩ := own_slice hO3); have HR3 := Lib.hid (own_slice hO3); clear hO3 hb3)
      go_ret2
      refine ⟨?_, HB3.out⟩
      rw [HEE.out]
      obtain ⟨A4, c4, he, -, -, hr4⟩ := HR3.out
      injection he with he1 he2 he3
      subst he1
      exact rput_mk HZ.out rfl hr4
    have q13 : (f == 13) = false := by simpa using h13
    by_cases h5 : k = 5
    · have q5 : (k == 5) = true := by simpa using h5
      rw [if_pos h5] at HWV
      clear h25 h33 h13 h5 hf
      go_wp2_with (go_at_call 39; refine (HPT.out _).mono ?_; rintro r w3 ⟨v3, rfl, hO3, hb3⟩; have HO3 := Lib.hid hO3; have HB3 := Lib.hid (HB2.out.trans (hb3.mono HB2.out.size)); (obtain ⟨A3, c3, rfl, -, -, -⟩ := own_slice hO3); have HR3 := Lib.hid (own_slice hO3); clear hO3 hb3)
      go_ret2
      refine ⟨?_, HB3.out⟩
      rw [HEE.out]
      obtain ⟨A4, c4, he, -, -, hr4⟩ := HR3.out
      injection he with he1 he2 he3
      subst he1
      exact rput_mk (HVV.out.trans HWV.out) rfl hr4
    have q5 : (k == 5) = false := by simpa using h5
    rw [if_neg h5] at HWV
    by_cases h30 : f = 30
    · have q30 : (f == 30) = true := by simpa using h30
      have HZ := Lib.hid (show rputV y.x wide = y.x.b by
        have hk4 : k = 9 := by rw [← HKK.out, h30]; rfl
        rw [HVV.out, HWV.out, if_pos (.inl hk4), h30]
        exact congrArg (· ++ y.x.b) numB_none)
      have HYY := Lib.hid (HY.out _ HB2.out)
      clear h25 h33 h13 h5 h30 hf
      go_wp2_with fail
      go_ret2
      refine ⟨?_, HB2.out⟩
      rw [HEE.out]
      exact rput_mk HZ.out HBN.out HYY.out
    have q30 : (f == 30) = false := by simpa using h30
    have n25 : n ≠ 25 := fun e => h25 (by rw [HFN.out, e]; rfl)
    have n33 : n ≠ 33 := fun e => h33 (by rw [HFN.out, e]; rfl)
    have n30 : n ≠ 30 := fun e => h30 (by rw [HFN.out, e]; rfl)
    have n8 : n ≠ 8 := fun e => h5 (by rw [← HKK.out, HFN.out, e]; rfl)
    by_cases h9 : k = 9 ∨ k = 10
    · have q9 : (k == 9) = true ∨ (k == 9) = false ∧ (k == 10) = true := by
        rcases h9 with rfl | rfl
        · exact .inl rfl
        · exact .inr ⟨rfl, rfl⟩
      rw [if_pos h9] at HWV
      have hb6 := hb9 h9
      have hwb : IntKind.u64.wrap (bn : Int) = (bn : Int) := by rw [IntWalk.u64_in _ (by omega)]
      have HNB := Lib.hid (fun W => HPN.out W n25 n33 n8 n30 bn (by unfold two64; omega))
      have HNL := Lib.hid (show (numB (widF f wide) bn).length + y.x.b.length ≤ 140737488355328 by rw [HBN.out]; have := numB_len (z := widF f wide) (n := bn) (by unfold two64; omega); omega)
      have HSZ := Lib.hid (show w.heap.size ≤ w2.heap.size from HB2.out.size)
      have hlt := HX2.out.lt
      have KS := Lib.hid (fun X (hX : Below w2.heap.size w2 X) => (⟨hX, (hX.cell (p := ⟨w.heap.size, 0, none⟩) hlt).trans x0, (hX.cell (p := ⟨w.heap.size, 3, none⟩) hlt).trans x3⟩ : Below w2.heap.size w2 X ∧ X.cell? ⟨w.heap.size, 0, none⟩ = some (.int .i64 f) ∧ X.cell? ⟨w.heap.size, 3, none⟩ = some (.slice y.a bn y.c)))
      have hrf := Below.refl w2.heap.size w2
      generalize numB (widF f wide) bn = M at *
      obtain ⟨mn, hmn⟩ : ∃ mn, (M ++ y.x.b).length = mn := ⟨_, rfl⟩
      have HMN := Lib.hid hmn
      clear hmn
      clear h25 h33 h13 h5 h30 h9 hb9 hb6 n25 n33 n30 n8 h5v h3v hlt hf HPN
      rcases q9 with q9 | ⟨q9, q10⟩
      all_goals
        go_upto_region 13 with fail
        first
        | (go_region_held_law (fun X => Below w2.heap.size w2 X ∧ X.cell? ⟨w.heap.size, 0, none⟩ = some (.int .i64 f) ∧ X.cell? ⟨w.heap.size, 3, none⟩ = some (.slice y.a bn y.c))
          ((refine KS.out _ ?_; repeat' (first | (with_reducible assumption) | (with_reducible refine below_drewN ?_ _) | (with_reducible refine Below.drew ?_))))
          (first
            | (go_at_call 40; refine (HNB.out _).mono ?_; rintro r w3 ⟨v3, rfl, hO3, hb3⟩; have hB3 : Below w2.heap.size w2 w3 := (show Below w2.heap.size w2 _ from (by repeat' (first | (with_reducible assumption) | (with_reducible refine below_drewN ?_ _) | (with_reducible refine Below.drew ?_)))).trans hb3; have HB3 := Lib.hid hB3; have HO3 := Lib.hid (show Own w3 w2.heap.size v3 M from hO3); clear hb3 hO3)
            | (refine step_append_bytes (by rfl) (.tmp 51) (.tmp 53) _ (by rfl) w2.heap.size i0 Tryd.underlying22 hi hz0 hz1 hz2 v3 M (by rfl) HO3.out w3.heap.size y.a bn y.c y.x.b HBN.out (by rfl) (HY.out _ (HB2.out.trans (HB3.out.mono HSZ.out))) HNL.out HB3.out.size ?_; intro v4 w4 hown4 hg4 hat4; have hB4 : Below w2.heap.size w2 w4 := HB3.out.trans (below_of_only hg4 HB3.out.size (fun x hx => (own_ge HO3.out x hx).1)); have HB4 := Lib.hid hB4; (obtain ⟨A4, c4, rfl, -, -, hr4⟩ := own_slice hown4); rw [HMN.out]; have HR4 := Lib.hid hr4; clear hown4 hg4 hat4 hr4)))
        | fail "no"
        all_goals simp only [List.getElem_toArray, List.getElem_cons_succ, List.getElem_cons_zero]
        all_goals go_wp2_with fail
        all_goals go_ret2
        all_goals refine ⟨?_, HB2.out.trans (HB4.out.mono HSZ.out)⟩
        all_goals rw [HEE.out]
        all_goals exact rput_mk (HVV.out.trans HWV.out) HMN.out HR4.out
    have q9 : (k == 9) = false := by simp; omega
    have q10 : (k == 10) = false := by simp; omega
    have h3 : k ≠ 3 := fun e => by
      rcases h3v e with e | e
      · exact h13 (by rw [HFN.out, e]; rfl)
      · exact n33 e
    rw [if_neg h9, if_neg h3] at HWV
    have HNB := Lib.hid (fun W => HPN.out W n25 n33 n8 n30 y.x.u HU.out)
    generalize numB (widF f wide) y.x.u = M at *
    clear h25 h33 h13 h5 h30 h9 h3 hb9 n25 n33 n30 n8 h5v h3v hf HPN
    go_wp2_with (go_at_call 40; refine (HNB.out _).mono ?_; rintro r w3 ⟨v3, rfl, hO3, hb3⟩; have HO3 := Lib.hid hO3; have HB3 := Lib.hid (HB2.out.trans (hb3.mono HB2.out.size)); (obtain ⟨A3, c3, rfl, -, -, -⟩ := own_slice hO3); have HR3 := Lib.hid (own_slice hO3); clear hO3 hb3)
    go_ret2
    refine ⟨?_, HB3.out⟩
    rw [HEE.out]
    obtain ⟨A4, c4, he, -, -, hr4⟩ := HR3.out
    injection he with he1 he2 he3
    subst he1
    exact rput_mk (HVV.out.trans HWV.out) rfl hr4

end Go.Proofs.YtpmndmbhkfbljaaDoor

namespace Go.Proofs.YtpmndmbhkfbljaaDoor
open Go Go.RowKit

set_option maxRecDepth 10000 in
set_option maxHeartbeats 6400000 in
theorem rputs14_walk (a0 : Option Addr) (len0 cap0 : Nat) (z0 : List Int) (y z : WLay) (wide : Bool) (w : World) (hF : Ft w) (hS : Sz w) (w0 : IsRow .u8 w a0 len0 cap0 z0) (hy : y.In w) (hz : z.In w) :
    Calls Tryd.prog 4 #[.slice a0 len0 cap0, .agg #[.int .i64 y.x.form, .int .u64 (y.x.u : Int), .int .i64 y.x.s, .slice y.a y.x.b.length y.c, .string ⟨y.x.t.toArray⟩], .agg #[.int .i64 z.x.form, .int .u64 (z.x.u : Int), .int .i64 z.x.s, .slice z.a z.x.b.length z.c, .string ⟨z.x.t.toArray⟩], .bool wide] w fun r w' => r = .returned (.bool true) ∧ Below w.heap.size w w' := by
  obtain ⟨bl, hlen, hrd, hlc, hcm⟩ := row_bytes w0
  clear w0
  obtain ⟨i0, hi, hz0, hz1, hz2⟩ := info_parts u8_info
  have HRD := Lib.hid hrd
  have HTL := Lib.hid hlen
  have hA0 := (Below.refl w.heap.size w).alloc (Nat.le_refl _) (.cells #[.int .i64 y.x.form, .int .u64 (y.x.u : Int), .int .i64 y.x.s, .slice y.a y.x.b.length y.c, .string ⟨y.x.t.toArray⟩] 33)
  have hA := hA0.alloc hA0.size (.cells #[.int .i64 z.x.form, .int .u64 (z.x.u : Int), .int .i64 z.x.s, .slice z.a z.x.b.length z.c, .string ⟨z.x.t.toArray⟩] 33)
  have hX0 := (Box.new w 33 #[.int .i64 y.x.form, .int .u64 (y.x.u : Int), .int .i64 y.x.s, .slice y.a y.x.b.length y.c, .string ⟨y.x.t.toArray⟩]).below ((Below.refl _ _).alloc (Nat.le_refl _) (.cells #[.int .i64 z.x.form, .int .u64 (z.x.u : Int), .int .i64 z.x.s, .slice z.a z.x.b.length z.c, .string ⟨z.x.t.toArray⟩] 33)) (Box.new w 33 #[.int .i64 y.x.form, .int .u64 (y.x.u : Int), .int .i64 y.x.s, .slice y.a y.x.b.length y.c, .string ⟨y.x.t.toArray⟩]).lt
  have hZ0 := Box.new (w.alloc (.cells #[.int .i64 y.x.form, .int .u64 (y.x.u : Int), .int .i64 y.x.s, .slice y.a y.x.b.length y.c, .string ⟨y.x.t.toArray⟩] 33)) 33 #[.int .i64 z.x.form, .int .u64 (z.x.u : Int), .int .i64 z.x.s, .slice z.a z.x.b.length z.c, .string ⟨z.x.t.toArray⟩]
  have hsz : (w.alloc (.cells #[.int .i64 y.x.form, .int .u64 (y.x.u : Int), .int .i64 y.x.s, .slice y.a y.x.b.length y.c, .string ⟨y.x.t.toArray⟩] 33)).heap.size = w.heap.size + 1 := by simp
  rw [hsz] at hZ0
  have HWK := Lib.hid (fun W (hW : Below w.heap.size w W) => works14_any (hF.up hW) (hS.below hW hS.pos))
  have HP := Lib.hid (fun W (B : Nat) (v : Value) (hB : w.heap.size ≤ B) (hBW : B ≤ W.heap.size) (hW : Below w.heap.size w W) (hO : Own W B v ([] ++ bl)) (hl3 : len0 ≤ 3000) => putW_any (v := v) (l := [] ++ bl) hO hBW (hF.up hW) (hS.below hW hS.pos) y ((hy.rd.below hW).more hB) hy.u hy.s hy.b wide (show ([] ++ bl : List UInt8).length ≤ 140737488280000 by rw [List.nil_append, hlen]; omega))
  have HQ := Lib.hid (fun W (hW : Below w.heap.size w W) (ht : y.x.t.length ≤ 3000) => rputW_any y (hy.up hW).rd hy.u hy.s hy.b (by omega) wide)
  have HR1 := Lib.hid (fun W (hW : Below w.heap.size w W) => rightV_any (hF.up hW) (hS.below hW hS.pos) y (hy.up hW).rd hy.u hy.b wide)
  have HR2 := Lib.hid (fun W (ht : y.x.t.length ≤ 3000) => rrightV_any (w := W) y hy.u hy.b (by omega) wide)
  have HM1 := Lib.hid (fun W (hW : Below w.heap.size w W) => sameV_any (w := W) y z (hy.up hW).rd (hz.up hW).rd)
  have HM2 := Lib.hid (fun W (hW : Below w.heap.size w W) => rsameV_any (w := W) y z (hy.up hW).rd (hz.up hW).rd)
  have HM3 := Lib.hid (fun W (hW : Below w.heap.size w W) => (by
    have := sameV_any (w := W) y y (hy.up hW).rd (hy.up hW).rd
    rwa [show sameV y.x y.x = true from sameV_self _] at this : Calls Tryd.prog 20 #[.agg #[.int .i64 y.x.form, .int .u64 (y.x.u : Int), .int .i64 y.x.s, .slice y.a y.x.b.length y.c, .string ⟨y.x.t.toArray⟩], .agg #[.int .i64 y.x.form, .int .u64 (y.x.u : Int), .int .i64 y.x.s, .slice y.a y.x.b.length y.c, .string ⟨y.x.t.toArray⟩]] W fun r w' => r = .returned (.bool true) ∧ Below W.heap.size W w'))
  obtain ⟨rr, hrr⟩ : ∃ rr, rightV y.x wide = rr := ⟨_, rfl⟩
  obtain ⟨sm, hsm⟩ : ∃ sm, sameV y.x z.x = sm := ⟨_, rfl⟩
  obtain ⟨pe, hpe⟩ : ∃ pe, putWE y.x wide = pe := ⟨_, rfl⟩
  have HPE := Lib.hid (show pe = if rr = true then 0 else 2 by rw [← hpe, ← hrr]; rfl)
  obtain ⟨P, hP⟩ : ∃ P, putV y.x wide = P := ⟨_, rfl⟩
  obtain ⟨R, hR⟩ : ∃ R, rputV y.x wide = R := ⟨_, rfl⟩
  have HRE := Lib.hid (show R = if rr = true then P else [] by rw [← hR, ← hrr, ← hP]; rfl)
  have HPL := Lib.hid (show rr = true → P.length ≤ 65600 from fun h => by
    obtain ⟨hk0, hb9, ht5⟩ := rightV_spec (hrr.trans h)
    rw [← hP]
    exact wholeV_len hy.u hy.s hb9 ht5)
  simp only [hrr, hpe, hP, hR] at HP HQ HR1 HR2
  simp only [hsm] at HM1 HM2
  have HLT := Lib.hid (show (ByteArray.mk y.x.t.toArray).size = y.x.t.length from by simp [ByteArray.size])
  have HBB := Lib.hid hy.b
  have HZB := Lib.hid hz.b
  clear hF hS hy hz hrr hsm hpe hP hR hrd hsz hA0
  obtain ⟨f, hf⟩ : ∃ f, y.x.form = f := ⟨_, rfl⟩
  obtain ⟨u, hu⟩ : ∃ u, y.x.u = u := ⟨_, rfl⟩
  obtain ⟨s, hs⟩ : ∃ s, y.x.s = s := ⟨_, rfl⟩
  obtain ⟨yn, hyn⟩ : ∃ n, y.x.b.length = n := ⟨_, rfl⟩
  obtain ⟨ts, hts⟩ : ∃ ts : ByteArray, ts = ⟨y.x.t.toArray⟩ := ⟨_, rfl⟩
  obtain ⟨f', hf'⟩ : ∃ f, z.x.form = f := ⟨_, rfl⟩
  obtain ⟨u', hu'⟩ : ∃ u, z.x.u = u := ⟨_, rfl⟩
  obtain ⟨s', hs'⟩ : ∃ s, z.x.s = s := ⟨_, rfl⟩
  obtain ⟨zn, hzn⟩ : ∃ n, z.x.b.length = n := ⟨_, rfl⟩
  obtain ⟨tz, htz⟩ : ∃ ts : ByteArray, ts = ⟨z.x.t.toArray⟩ := ⟨_, rfl⟩
  simp only [hf, hu, hs, hyn, ← hts] at HP HQ HR1 HR2 HM1 HM2 HM3 HLT HBB hA hX0 hZ0 ⊢
  simp only [hf', hu', hs', hzn, ← htz] at HM1 HM2 HZB hA hX0 hZ0 ⊢
  clear hf hu hs hyn hts hf' hu' hs' hzn htz
  generalize y.a = ya at *
  generalize y.c = yc at *
  generalize z.a = za at *
  generalize z.c = zc at *
  go_enter Tryd.func4, Tryd.ntmps4
  go_upto_region 1 with fail
  generalize hw2 : (w.alloc (.cells #[.int .i64 f, .int .u64 (u : Int), .int .i64 s, .slice ya yn yc, .string ts] 33)).alloc (.cells #[.int .i64 f', .int .u64 (u' : Int), .int .i64 s', .slice za zn zc, .string tz] 33) = w2 at *
  clear hw2
  have HX0 := Lib.hid hX0
  have HZ0 := Lib.hid hZ0
  have HA := Lib.hid hA
  clear hA hX0 hZ0
  obtain ⟨x0, x1, x2, x3, x4⟩ := five_cellsR HX0.out
  obtain ⟨y0, y1, y2, y3, y4⟩ := five_cellsR HZ0.out
  by_cases h1 : 3000 < len0
  · have d1 : decide ((3000 : Int) < (len0 : Int)) = true := decide_eq_true (by omega)
    clear h1 hlen
    go_wp2_with (go_at_call 7; refine (HWK.out _ HA.out).mono ?_; rintro r w3 ⟨rfl, hb3⟩; have HB3 := Lib.hid (HA.out.trans (hb3.mono HA.out.size)); clear hb3)
    go_ret
    exact ⟨rfl, HB3.out⟩
  have d1 : decide ((3000 : Int) < (len0 : Int)) = false := decide_eq_false (by omega)
  by_cases h2 : 3000 < yn
  · have d2 : decide ((3000 : Int) < (yn : Int)) = true := decide_eq_true (by omega)
    clear h1 h2 hlen
    go_wp2_with (go_at_call 7; refine (HWK.out _ HA.out).mono ?_; rintro r w3 ⟨rfl, hb3⟩; have HB3 := Lib.hid (HA.out.trans (hb3.mono HA.out.size)); clear hb3)
    go_ret
    exact ⟨rfl, HB3.out⟩
  have d2 : decide ((3000 : Int) < (yn : Int)) = false := decide_eq_false (by omega)
  by_cases h3 : 3000 < ts.size
  · have d3 : decide ((3000 : Int) < (ts.size : Int)) = true := decide_eq_true (by omega)
    clear h1 h2 h3 hlen
    go_wp2_with (go_at_call 7; refine (HWK.out _ HA.out).mono ?_; rintro r w3 ⟨rfl, hb3⟩; have HB3 := Lib.hid (HA.out.trans (hb3.mono HA.out.size)); clear hb3)
    go_ret
    exact ⟨rfl, HB3.out⟩
  have d3 : decide ((3000 : Int) < (ts.size : Int)) = false := decide_eq_false (by omega)
  by_cases h4 : 3000 < zn
  · have d4 : decide ((3000 : Int) < (zn : Int)) = true := decide_eq_true (by omega)
    clear h1 h2 h3 h4 hlen
    go_wp2_with (go_at_call 7; refine (HWK.out _ HA.out).mono ?_; rintro r w3 ⟨rfl, hb3⟩; have HB3 := Lib.hid (HA.out.trans (hb3.mono HA.out.size)); clear hb3)
    go_ret
    exact ⟨rfl, HB3.out⟩
  have d4 : decide ((3000 : Int) < (zn : Int)) = false := decide_eq_false (by omega)
  go_upto_region 3 with fail
  have HL3 := Lib.hid (show len0 ≤ 3000 by omega)
  have HQ' := Lib.hid (fun W hW => HQ.out W hW (by rw [← HLT.out]; omega))
  have HR2' := Lib.hid (fun W => HR2.out W (by rw [← HLT.out]; omega))
  clear h1 h2 h3 h4 d1 d2 d3 d4 x0 x1 x2 x3 x4 y0 y1 y2 y3 y4 hlc hcm hlen HQ HR2 HLT
  have KS := Lib.hid (fun X (hX : Below w2.heap.size w2 X) => (⟨hX, five_cellsR (HX0.out.below hX HX0.out.lt)⟩ : Below w2.heap.size w2 X ∧ X.cell? ⟨w.heap.size, 0, none⟩ = some (.int .i64 f) ∧ X.cell? ⟨w.heap.size, 1, none⟩ = some (.int .u64 (u : Int)) ∧ X.cell? ⟨w.heap.size, 2, none⟩ = some (.int .i64 s) ∧ X.cell? ⟨w.heap.size, 3, none⟩ = some (.slice ya yn yc) ∧ X.cell? ⟨w.heap.size, 4, none⟩ = some (.string ts)))
  have HRA := Lib.hid (fun X (hX : Below w2.heap.size w2 X) => HRD.out.below (HA.out.trans (hX.mono HA.out.size)))
  have hsum : ([] : List UInt8).length + bl.length ≤ 140737488355328 := by rw [HTL.out]; have := HL3.out; simp; omega
  cases rr with
  | false =>
    have hpe := HPE.out
    have hre := HRE.out
    rw [if_neg (by decide)] at hpe hre
    subst hpe hre
    first
      | (go_region_held_law (fun X => Below w2.heap.size w2 X ∧ X.cell? ⟨w.heap.size, 0, none⟩ = some (.int .i64 f) ∧ X.cell? ⟨w.heap.size, 1, none⟩ = some (.int .u64 (u : Int)) ∧ X.cell? ⟨w.heap.size, 2, none⟩ = some (.int .i64 s) ∧ X.cell? ⟨w.heap.size, 3, none⟩ = some (.slice ya yn yc) ∧ X.cell? ⟨w.heap.size, 4, none⟩ = some (.string ts)) ((refine KS.out _ ?_; go_grown)) (first
          | (refine step_append_bytes (by rfl) (.tmp 36) (.tmp 37) _ (by rfl) w2.heap.size i0 Tryd.underlying22 hi hz0 hz1 hz2 (.slice (some ⟨w2.heap.size, 0, none⟩) 0 0) [] (by rfl) (by exact own_new w2) w.heap.size a0 len0 cap0 bl HTL.out (by rfl) (HRA.out _ (by go_grown)) hsum (by simp) ?_; intro v1 w1 hown1 hg1 hat1; have hb1 := below_new hg1; clear hg1 hat1)
          | (go_at_call 16; refine (HP.out _ w2.heap.size _ HA.out.size hb1.size (HA.out.trans (hb1.mono HA.out.size)) hown1 HL3.out).mono ?_; rintro r w3 ⟨v3, rfl, -, hf3⟩; (obtain ⟨rfl, hb13⟩ := hf3 (by first | rfl | trivial)); have hb3 := hb1.trans (hb13.mono hb1.size); have HB23 := Lib.hid hb3; clear hf3 hb13)))
      | fail "no"
    all_goals (try simp only [List.getElem_toArray, List.getElem_cons_succ, List.getElem_cons_zero])
    clear hb1 hb3 hown1
    have HB3 := Lib.hid (HA.out.trans (HB23.out.mono HA.out.size))
    have HX3 := Lib.hid (HX0.out.below HB23.out HX0.out.lt)
    obtain ⟨x0, x1, x2, x3, x4⟩ := five_cellsR HX3.out
    go_upto_region 5 with (go_at_call 17; refine (HQ'.out _ HB3.out).mono ?_; rintro r w4 ⟨⟨A4, c4, rfl, hr4⟩, hb4⟩; have HB34 := Lib.hid hb4; have HR4 := Lib.hid hr4; clear hb4 hr4)
    clear x0 x1 x2 x3 x4
    have HB24 := Lib.hid (HB23.out.trans (HB34.out.mono HB23.out.size))
    go_upto_region 7 with fail
    have HX4 := Lib.hid (HX0.out.below HB24.out HX0.out.lt)
    have HZ4 := Lib.hid (HZ0.out.below HB24.out HZ0.out.lt)
    have HB4 := Lib.hid (HA.out.trans (HB24.out.mono HA.out.size))
    have HR1' := Lib.hid (fun W (hW : Below w4.heap.size w4 W) => (HR1.out W (HB4.out.trans (hW.mono HB4.out.size))).mono fun r w' h => (⟨h.1, hW.trans (h.2.mono hW.size)⟩ : r = .returned (.bool false) ∧ Below w4.heap.size w4 w'))
    have HM1' := Lib.hid (fun W (hW : Below w4.heap.size w4 W) => (HM1.out W (HB4.out.trans (hW.mono HB4.out.size))).mono fun r w' h => (⟨h.1, hW.trans (h.2.mono hW.size)⟩ : r = .returned (.bool sm) ∧ Below w4.heap.size w4 w'))
    have HM2' := Lib.hid (fun W (hW : Below w4.heap.size w4 W) => (HM2.out W (HB4.out.trans (hW.mono HB4.out.size))).mono fun r w' h => (⟨h.1, hW.trans (h.2.mono hW.size)⟩ : r = .returned (.bool sm) ∧ Below w4.heap.size w4 w'))
    have HM3' := Lib.hid (fun W (hW : Below w4.heap.size w4 W) => (HM3.out W (HB4.out.trans (hW.mono HB4.out.size))).mono fun r w' h => (⟨h.1, hW.trans (h.2.mono hW.size)⟩ : r = .returned (.bool true) ∧ Below w4.heap.size w4 w'))
    have HWK' := Lib.hid (fun W (hW : Below w4.heap.size w4 W) => (HWK.out W (HB4.out.trans (hW.mono HB4.out.size))).mono fun r w' h => (⟨h.1, hW.trans (h.2.mono hW.size)⟩ : r = .returned (.bool true) ∧ Below w4.heap.size w4 w'))
    have HRR' := Lib.hid (fun W (hW : Below w4.heap.size w4 W) => (HR2'.out W).mono fun r w' h => (⟨h.1, hW.trans (h.2.mono hW.size)⟩ : r = .returned (.bool false) ∧ Below w4.heap.size w4 w'))
    have K7 := Lib.hid (fun X (hX : Below w4.heap.size w4 X) => (⟨hX, five_cellsR (HX4.out.below hX HX4.out.lt), five_cellsR (HZ4.out.below hX HZ4.out.lt)⟩ : Below w4.heap.size w4 X ∧ (X.cell? ⟨w.heap.size, 0, none⟩ = some (.int .i64 f) ∧ X.cell? ⟨w.heap.size, 1, none⟩ = some (.int .u64 (u : Int)) ∧ X.cell? ⟨w.heap.size, 2, none⟩ = some (.int .i64 s) ∧ X.cell? ⟨w.heap.size, 3, none⟩ = some (.slice ya yn yc) ∧ X.cell? ⟨w.heap.size, 4, none⟩ = some (.string ts)) ∧ (X.cell? ⟨(w.heap.size + 1), 0, none⟩ = some (.int .i64 f') ∧ X.cell? ⟨(w.heap.size + 1), 1, none⟩ = some (.int .u64 (u' : Int)) ∧ X.cell? ⟨(w.heap.size + 1), 2, none⟩ = some (.int .i64 s') ∧ X.cell? ⟨(w.heap.size + 1), 3, none⟩ = some (.slice za zn zc) ∧ X.cell? ⟨(w.heap.size + 1), 4, none⟩ = some (.string tz))))
    have q1 : (sm == sm) = true := by cases sm <;> rfl
    have hrf := Below.refl w4.heap.size w4
    clear HR1 HM1 HM2 HM3 HWK HR2' HQ' HP KS HRA hsum
    refine wp_region_held_drew (S := (fun X => Below w4.heap.size w4 X ∧ (X.cell? ⟨w.heap.size, 0, none⟩ = some (.int .i64 f) ∧ X.cell? ⟨w.heap.size, 1, none⟩ = some (.int .u64 (u : Int)) ∧ X.cell? ⟨w.heap.size, 2, none⟩ = some (.int .i64 s) ∧ X.cell? ⟨w.heap.size, 3, none⟩ = some (.slice ya yn yc) ∧ X.cell? ⟨w.heap.size, 4, none⟩ = some (.string ts)) ∧ (X.cell? ⟨(w.heap.size + 1), 0, none⟩ = some (.int .i64 f') ∧ X.cell? ⟨(w.heap.size + 1), 1, none⟩ = some (.int .u64 (u' : Int)) ∧ X.cell? ⟨(w.heap.size + 1), 2, none⟩ = some (.int .i64 s') ∧ X.cell? ⟨(w.heap.size + 1), 3, none⟩ = some (.slice za zn zc) ∧ X.cell? ⟨(w.heap.size + 1), 4, none⟩ = some (.string tz)))) (by kernel_rfl) ?_ (fun hHeld => ?_)
    · exact K7.out _ (by go_grown)
    refine take_r (i := 0) (v := ?_) rfl (by kernel_rfl) (by kernel_rfl) (by kernel_rfl) (fun _ _ _ h => h) (Or.inl ⟨by rfl, ?_⟩) hHeld ?_
    rotate_left
    · (intro wS hSw; (try dsimp only at hSw); go_simp; (try with_reducible rfl))
    try simp only [Act.put, List.setIfInBounds_toArray, List.set_cons_zero, List.set_cons_succ]
    refine take_r (i := 1) (v := ?_) rfl (by kernel_rfl) (by kernel_rfl) (by kernel_rfl) (fun _ _ _ h => h) (Or.inl ⟨by rfl, ?_⟩) hHeld ?_
    rotate_left
    · (intro wS hSw; (try dsimp only at hSw); go_simp; (try with_reducible rfl))
    try simp only [Act.put, List.setIfInBounds_toArray, List.set_cons_zero, List.set_cons_succ]
    refine take_r (i := 3) (v := ?_) rfl (by kernel_rfl) (by kernel_rfl) (by kernel_rfl) (fun _ _ _ h => h) (Or.inl ⟨by rfl, ?_⟩) hHeld ?_
    rotate_left
    · (intro wS hSw; (try dsimp only at hSw); go_simp; (try with_reducible rfl))
    try simp only [Act.put, List.setIfInBounds_toArray, List.set_cons_zero, List.set_cons_succ]
    refine take_r (i := 4) (v := ?_) rfl (by kernel_rfl) (by kernel_rfl) (by kernel_rfl) (fun _ _ _ h => h) (Or.inl ⟨by rfl, ?_⟩) hHeld ?_
    rotate_left
    · (intro wS hSw; (try dsimp only at hSw); go_simp; (try with_reducible rfl))
    try simp only [Act.put, List.setIfInBounds_toArray, List.set_cons_zero, List.set_cons_succ]
    refine wpAnyH_ready (rs := [2]) (by kernel_rfl) (by simp) ?_
    refine ready_r rfl (fun K hK => ?_)
    go_simp
    go_wp2_with ((go_at_call 18; refine (HR1'.out _ hHeld.1).mono ?_; rintro r w5 ⟨rfl, hb5⟩))
    refine hK.out _ _ ?_ (fun hNew => ?_)
    · exact K7.out _ hb5
    clear hHeld hK K
    have hHeld := hNew
    clear hNew
    refine wpAnyH_ready (rs := [5]) (by kernel_rfl) (by simp) ?_
    refine ready_r rfl (fun K hK => ?_)
    go_simp
    go_wp2_with ((go_at_call 19; refine (HRR'.out _ hHeld.1).mono ?_; rintro r w6 ⟨rfl, hb6⟩))
    refine hK.out _ _ ?_ (fun hNew => ?_)
    · exact K7.out _ hb6
    clear hHeld hK K
    have hHeld := hNew
    clear hNew
    refine take_r (i := 6) (v := ?_) rfl (by kernel_rfl) (by kernel_rfl) (by kernel_rfl) (fun _ _ _ h => h) (Or.inl ⟨by rfl, ?_⟩) hHeld ?_
    rotate_left
    · (intro wS hSw; (try dsimp only at hSw); go_simp; (try with_reducible rfl))
    try simp only [Act.put, List.setIfInBounds_toArray, List.set_cons_zero, List.set_cons_succ]
    refine take_r (i := 7) (v := ?_) rfl (by kernel_rfl) (by kernel_rfl) (by kernel_rfl) (fun _ _ _ h => h) (Or.inl ⟨by rfl, ?_⟩) hHeld ?_
    rotate_left
    · (intro wS hSw; (try dsimp only at hSw); go_simp; (try with_reducible rfl))
    try simp only [Act.put, List.setIfInBounds_toArray, List.set_cons_zero, List.set_cons_succ]
    refine take_r (i := 8) (v := ?_) rfl (by kernel_rfl) (by kernel_rfl) (by kernel_rfl) (fun _ _ _ h => h) (Or.inl ⟨by rfl, ?_⟩) hHeld ?_
    rotate_left
    · (intro wS hSw; (try dsimp only at hSw); go_simp; (try with_reducible rfl))
    try simp only [Act.put, List.setIfInBounds_toArray, List.set_cons_zero, List.set_cons_succ]
    refine take_r (i := 9) (v := ?_) rfl (by kernel_rfl) (by kernel_rfl) (by kernel_rfl) (fun _ _ _ h => h) (Or.inl ⟨by rfl, ?_⟩) hHeld ?_
    rotate_left
    · (intro wS hSw; (try dsimp only at hSw); go_simp; (try with_reducible rfl))
    try simp only [Act.put, List.setIfInBounds_toArray, List.set_cons_zero, List.set_cons_succ]
    refine take_r (i := 11) (v := ?_) rfl (by kernel_rfl) (by kernel_rfl) (by kernel_rfl) (fun _ _ _ h => h) (Or.inl ⟨by rfl, ?_⟩) hHeld ?_
    rotate_left
    · (intro wS hSw; (try dsimp only at hSw); go_simp; (try with_reducible rfl))
    try simp only [Act.put, List.setIfInBounds_toArray, List.set_cons_zero, List.set_cons_succ]
    refine take_r (i := 12) (v := ?_) rfl (by kernel_rfl) (by kernel_rfl) (by kernel_rfl) (fun _ _ _ h => h) (Or.inl ⟨by rfl, ?_⟩) hHeld ?_
    rotate_left
    · (intro wS hSw; (try dsimp only at hSw); go_simp; (try with_reducible rfl))
    try simp only [Act.put, List.setIfInBounds_toArray, List.set_cons_zero, List.set_cons_succ]
    refine wpAnyH_ready (rs := [10]) (by kernel_rfl) (by simp) ?_
    refine ready_r rfl (fun K hK => ?_)
    go_simp
    go_wp2_with ((go_at_call 20; refine (HM1'.out _ hHeld.1).mono ?_; rintro r w7 ⟨rfl, hb7⟩))
    refine hK.out _ _ ?_ (fun hNew => ?_)
    · exact K7.out _ hb7
    clear hHeld hK K
    have hHeld := hNew
    clear hNew
    refine wpAnyH_ready (rs := [13]) (by kernel_rfl) (by simp) ?_
    refine ready_r rfl (fun K hK => ?_)
    go_simp
    go_wp2_with ((go_at_call 11; refine (HM2'.out _ hHeld.1).mono ?_; rintro r w8 ⟨rfl, hb8⟩))
    refine hK.out _ _ ?_ (fun hNew => ?_)
    · exact K7.out _ hb8
    clear hHeld hK K
    have hHeld := hNew
    clear hNew
    refine take_r (i := 14) (v := ?_) rfl (by kernel_rfl) (by kernel_rfl) (by kernel_rfl) (fun _ _ _ h => h) (Or.inl ⟨by rfl, ?_⟩) hHeld ?_
    rotate_left
    · (intro wS hSw; (try dsimp only at hSw); go_simp; (try with_reducible rfl))
    try simp only [Act.put, List.setIfInBounds_toArray, List.set_cons_zero, List.set_cons_succ]
    refine take_r (i := 15) (v := ?_) rfl (by kernel_rfl) (by kernel_rfl) (by kernel_rfl) (fun _ _ _ h => h) (Or.inl ⟨by rfl, ?_⟩) hHeld ?_
    rotate_left
    · (intro wS hSw; (try dsimp only at hSw); go_simp; (try with_reducible rfl))
    try simp only [Act.put, List.setIfInBounds_toArray, List.set_cons_zero, List.set_cons_succ]
    refine take_r (i := 16) (v := ?_) rfl (by kernel_rfl) (by kernel_rfl) (by kernel_rfl) (fun _ _ _ h => h) (Or.inl ⟨by rfl, ?_⟩) hHeld ?_
    rotate_left
    · (intro wS hSw; (try dsimp only at hSw); go_simp; (try with_reducible rfl))
    try simp only [Act.put, List.setIfInBounds_toArray, List.set_cons_zero, List.set_cons_succ]
    refine take_r (i := 17) (v := ?_) rfl (by kernel_rfl) (by kernel_rfl) (by kernel_rfl) (fun _ _ _ h => h) (Or.inl ⟨by rfl, ?_⟩) hHeld ?_
    rotate_left
    · (intro wS hSw; (try dsimp only at hSw); go_simp; (try with_reducible rfl))
    try simp only [Act.put, List.setIfInBounds_toArray, List.set_cons_zero, List.set_cons_succ]
    refine take_r (i := 18) (v := ?_) rfl (by kernel_rfl) (by kernel_rfl) (by kernel_rfl) (fun _ _ _ h => h) (Or.inl ⟨by rfl, ?_⟩) hHeld ?_
    rotate_left
    · (intro wS hSw; (try dsimp only at hSw); go_simp; (try with_reducible rfl))
    try simp only [Act.put, List.setIfInBounds_toArray, List.set_cons_zero, List.set_cons_succ]
    refine wpAnyH_ready (rs := [19]) (by kernel_rfl) (by simp) ?_
    refine ready_r rfl (fun K hK => ?_)
    go_simp
    go_wp2_with ((go_at_call 20; refine (HM3'.out _ hHeld.1).mono ?_; rintro r w9 ⟨rfl, hb9⟩))
    refine hK.out _ _ ?_ (fun hNew => ?_)
    · exact K7.out _ hb9
    clear hHeld hK K
    have hHeld := hNew
    clear hNew
    refine take_r (i := 20) (v := ?_) rfl (by kernel_rfl) (by kernel_rfl) (by kernel_rfl) (fun _ _ _ h => h) (Or.inl ⟨by rfl, ?_⟩) hHeld ?_
    rotate_left
    · (intro wS hSw; (try dsimp only at hSw); go_simp; (try with_reducible rfl))
    try simp only [Act.put, List.setIfInBounds_toArray, List.set_cons_zero, List.set_cons_succ]
    refine take_r (i := 21) (v := ?_) rfl (by kernel_rfl) (by kernel_rfl) (by kernel_rfl) (fun _ _ _ h => h) (Or.inl ⟨by rfl, ?_⟩) hHeld ?_
    rotate_left
    · (intro wS hSw; (try dsimp only at hSw); go_simp; (try with_reducible rfl))
    try simp only [Act.put, List.setIfInBounds_toArray, List.set_cons_zero, List.set_cons_succ]
    refine wpAnyH_ready (rs := [22]) (by kernel_rfl) (by simp) ?_
    refine ready_r rfl (fun K hK => ?_)
    go_simp
    go_wp2_with ((go_at_call 7; refine (HWK'.out _ hHeld.1).mono ?_; rintro r w10 ⟨rfl, hb10⟩))
    refine hK.out _ _ ?_ (fun hNew => ?_)
    · exact K7.out _ hb10
    clear hHeld hK K
    have hHeld := hNew
    clear hNew
    refine take_r (i := 23) (v := ?_) rfl (by kernel_rfl) (by kernel_rfl) (by kernel_rfl) (fun _ _ _ h => h) (Or.inl ⟨by rfl, ?_⟩) hHeld ?_
    rotate_left
    · (intro wS hSw; (try dsimp only at hSw); go_simp; (try with_reducible rfl))
    try simp only [Act.put, List.setIfInBounds_toArray, List.set_cons_zero, List.set_cons_succ]
    refine take_r (i := 24) (v := ?_) rfl (by kernel_rfl) (by kernel_rfl) (by kernel_rfl) (fun _ _ _ h => h) (Or.inl ⟨by rfl, ?_⟩) hHeld ?_
    rotate_left
    · (intro wS hSw; (try dsimp only at hSw); go_simp; (try with_reducible rfl))
    try simp only [Act.put, List.setIfInBounds_toArray, List.set_cons_zero, List.set_cons_succ]
    refine wpAnyH_done (by kernel_rfl) ?_ _
    go_wp2_with fail
    go_ret
    exact ⟨rfl, HB4.out.trans (hb10.mono HB4.out.size)⟩
  | true =>
    have hpe := HPE.out
    have hre := HRE.out
    rw [if_pos rfl] at hpe hre
    have hpl := HPL.out (by first | rfl | trivial)
    have HPL2 := Lib.hid hpl
    clear hpl
    subst hpe hre
    first
      | (go_region_held_law (fun X => Below w2.heap.size w2 X ∧ X.cell? ⟨w.heap.size, 0, none⟩ = some (.int .i64 f) ∧ X.cell? ⟨w.heap.size, 1, none⟩ = some (.int .u64 (u : Int)) ∧ X.cell? ⟨w.heap.size, 2, none⟩ = some (.int .i64 s) ∧ X.cell? ⟨w.heap.size, 3, none⟩ = some (.slice ya yn yc) ∧ X.cell? ⟨w.heap.size, 4, none⟩ = some (.string ts)) ((refine KS.out _ ?_; go_grown)) (first
          | (refine step_append_bytes (by rfl) (.tmp 36) (.tmp 37) _ (by rfl) w2.heap.size i0 Tryd.underlying22 hi hz0 hz1 hz2 (.slice (some ⟨w2.heap.size, 0, none⟩) 0 0) [] (by rfl) (by exact own_new w2) w.heap.size a0 len0 cap0 bl HTL.out (by rfl) (HRA.out _ (by go_grown)) hsum (by simp) ?_; intro v1 w1 hown1 hg1 hat1; have hb1 := below_new hg1; clear hg1 hat1)
          | (go_at_call 16; refine (HP.out _ w2.heap.size _ HA.out.size hb1.size (HA.out.trans (hb1.mono HA.out.size)) hown1 HL3.out).mono ?_; rintro r w3 ⟨v3, rfl, hL3, -⟩; have hLL := hL3 (by first | rfl | trivial); have hb3 := below_laid hb1 hown1 hLL; have HB23 := Lib.hid hb3; have HO3 := Lib.hid hLL.1; clear hL3 hLL)))
      | fail "no"
    all_goals (try simp only [List.getElem_toArray, List.getElem_cons_succ, List.getElem_cons_zero])
    clear hb1 hb3 hown1
    have HB3 := Lib.hid (HA.out.trans (HB23.out.mono HA.out.size))
    have HX3 := Lib.hid (HX0.out.below HB23.out HX0.out.lt)
    obtain ⟨x0, x1, x2, x3, x4⟩ := five_cellsR HX3.out
    obtain ⟨A3, c3, rfl, -, -, -⟩ := own_slice HO3.out
    obtain ⟨n3, hn3⟩ : ∃ n, ([] ++ bl ++ R).length = n := ⟨_, rfl⟩
    rw [hn3]
    have HO3' := Lib.hid (by have := HO3.out; rwa [hn3] at this : Own w3 w2.heap.size (.slice A3 n3 c3) ([] ++ bl ++ R))
    clear hn3 HO3
    go_upto_region 5 with (go_at_call 17; refine (HQ'.out _ HB3.out).mono ?_; rintro r w4 ⟨⟨A4, c4, rfl, hr4⟩, hb4⟩; have HB34 := Lib.hid hb4; have HR4 := Lib.hid hr4; clear hb4 hr4)
    clear x0 x1 x2 x3 x4
    have HB24 := Lib.hid (HB23.out.trans (HB34.out.mono HB23.out.size))
    have hT4 := HPL2.out
    obtain ⟨pn, hpn⟩ : ∃ n, R.length = n := ⟨_, rfl⟩
    rw [hpn] at hT4 ⊢
    obtain ⟨sX, hsX⟩ : ∃ s : ByteArray, s = ⟨([] ++ bl ++ R).toArray⟩ := ⟨_, rfl⟩
    obtain ⟨sB, hsB⟩ : ∃ s : ByteArray, s = ⟨bl.toArray⟩ := ⟨_, rfl⟩
    obtain ⟨sT, hsT⟩ : ∃ s : ByteArray, s = ⟨R.toArray⟩ := ⟨_, rfl⟩
    have hno : ¬ (9223372036854775807 < sB.size + sT.size) := by
      have h1 := HTL.out
      have h2 := HL3.out
      subst hsB hsT
      simp [ByteArray.size]; omega
    have heq : (sX.toList == (sB ++ sT).toList) = true := by
      subst hsX hsB hsT
      simp [ByteArray.mk_append_mk]
    have hne : (sX.toList != (sB ++ sT).toList) = false := by rw [bne, heq]; rfl
    have cvx := conv_as hsX (conv_own (own_below HO3'.out HB34.out))
    have cvb : (convert 22 9 (.slice a0 len0 cap0)).run Tryd.prog w4 = .ok (.string sB) w4 := by have := conv_rd (HRD.out.below (HB3.out.trans (HB34.out.mono HB3.out.size))) cap0; rw [HTL.out] at this; exact conv_as hsB this
    have cvt : (convert 22 9 (.slice A4 pn c4)).run Tryd.prog w4 = .ok (.string sT) w4 := by have := conv_rd HR4.out c4; rw [hpn] at this; exact conv_as hsT this
    clear hpn hsX hsB hsT hT4
    go_upto_region 7 with fail
    clear cvx cvb cvt hne heq hno
    have HX4 := Lib.hid (HX0.out.below HB24.out HX0.out.lt)
    have HZ4 := Lib.hid (HZ0.out.below HB24.out HZ0.out.lt)
    have HB4 := Lib.hid (HA.out.trans (HB24.out.mono HA.out.size))
    have HR1' := Lib.hid (fun W (hW : Below w4.heap.size w4 W) => (HR1.out W (HB4.out.trans (hW.mono HB4.out.size))).mono fun r w' h => (⟨h.1, hW.trans (h.2.mono hW.size)⟩ : r = .returned (.bool true) ∧ Below w4.heap.size w4 w'))
    have HM1' := Lib.hid (fun W (hW : Below w4.heap.size w4 W) => (HM1.out W (HB4.out.trans (hW.mono HB4.out.size))).mono fun r w' h => (⟨h.1, hW.trans (h.2.mono hW.size)⟩ : r = .returned (.bool sm) ∧ Below w4.heap.size w4 w'))
    have HM2' := Lib.hid (fun W (hW : Below w4.heap.size w4 W) => (HM2.out W (HB4.out.trans (hW.mono HB4.out.size))).mono fun r w' h => (⟨h.1, hW.trans (h.2.mono hW.size)⟩ : r = .returned (.bool sm) ∧ Below w4.heap.size w4 w'))
    have HM3' := Lib.hid (fun W (hW : Below w4.heap.size w4 W) => (HM3.out W (HB4.out.trans (hW.mono HB4.out.size))).mono fun r w' h => (⟨h.1, hW.trans (h.2.mono hW.size)⟩ : r = .returned (.bool true) ∧ Below w4.heap.size w4 w'))
    have HWK' := Lib.hid (fun W (hW : Below w4.heap.size w4 W) => (HWK.out W (HB4.out.trans (hW.mono HB4.out.size))).mono fun r w' h => (⟨h.1, hW.trans (h.2.mono hW.size)⟩ : r = .returned (.bool true) ∧ Below w4.heap.size w4 w'))
    have HRR' := Lib.hid (fun W (hW : Below w4.heap.size w4 W) => (HR2'.out W).mono fun r w' h => (⟨h.1, hW.trans (h.2.mono hW.size)⟩ : r = .returned (.bool true) ∧ Below w4.heap.size w4 w'))
    have K7 := Lib.hid (fun X (hX : Below w4.heap.size w4 X) => (⟨hX, five_cellsR (HX4.out.below hX HX4.out.lt), five_cellsR (HZ4.out.below hX HZ4.out.lt)⟩ : Below w4.heap.size w4 X ∧ (X.cell? ⟨w.heap.size, 0, none⟩ = some (.int .i64 f) ∧ X.cell? ⟨w.heap.size, 1, none⟩ = some (.int .u64 (u : Int)) ∧ X.cell? ⟨w.heap.size, 2, none⟩ = some (.int .i64 s) ∧ X.cell? ⟨w.heap.size, 3, none⟩ = some (.slice ya yn yc) ∧ X.cell? ⟨w.heap.size, 4, none⟩ = some (.string ts)) ∧ (X.cell? ⟨(w.heap.size + 1), 0, none⟩ = some (.int .i64 f') ∧ X.cell? ⟨(w.heap.size + 1), 1, none⟩ = some (.int .u64 (u' : Int)) ∧ X.cell? ⟨(w.heap.size + 1), 2, none⟩ = some (.int .i64 s') ∧ X.cell? ⟨(w.heap.size + 1), 3, none⟩ = some (.slice za zn zc) ∧ X.cell? ⟨(w.heap.size + 1), 4, none⟩ = some (.string tz))))
    have q1 : (sm == sm) = true := by cases sm <;> rfl
    have hrf := Below.refl w4.heap.size w4
    clear HR1 HM1 HM2 HM3 HWK HR2' HQ' HP KS HRA hsum
    refine wp_region_held_drew (S := (fun X => Below w4.heap.size w4 X ∧ (X.cell? ⟨w.heap.size, 0, none⟩ = some (.int .i64 f) ∧ X.cell? ⟨w.heap.size, 1, none⟩ = some (.int .u64 (u : Int)) ∧ X.cell? ⟨w.heap.size, 2, none⟩ = some (.int .i64 s) ∧ X.cell? ⟨w.heap.size, 3, none⟩ = some (.slice ya yn yc) ∧ X.cell? ⟨w.heap.size, 4, none⟩ = some (.string ts)) ∧ (X.cell? ⟨(w.heap.size + 1), 0, none⟩ = some (.int .i64 f') ∧ X.cell? ⟨(w.heap.size + 1), 1, none⟩ = some (.int .u64 (u' : Int)) ∧ X.cell? ⟨(w.heap.size + 1), 2, none⟩ = some (.int .i64 s') ∧ X.cell? ⟨(w.heap.size + 1), 3, none⟩ = some (.slice za zn zc) ∧ X.cell? ⟨(w.heap.size + 1), 4, none⟩ = some (.string tz)))) (by kernel_rfl) ?_ (fun hHeld => ?_)
    · exact K7.out _ (by go_grown)
    refine take_r (i := 0) (v := ?_) rfl (by kernel_rfl) (by kernel_rfl) (by kernel_rfl) (fun _ _ _ h => h) (Or.inl ⟨by rfl, ?_⟩) hHeld ?_
    rotate_left
    · (intro wS hSw; (try dsimp only at hSw); go_simp; (try with_reducible rfl))
    try simp only [Act.put, List.setIfInBounds_toArray, List.set_cons_zero, List.set_cons_succ]
    refine take_r (i := 1) (v := ?_) rfl (by kernel_rfl) (by kernel_rfl) (by kernel_rfl) (fun _ _ _ h => h) (Or.inl ⟨by rfl, ?_⟩) hHeld ?_
    rotate_left
    · (intro wS hSw; (try dsimp only at hSw); go_simp; (try with_reducible rfl))
    try simp only [Act.put, List.setIfInBounds_toArray, List.set_cons_zero, List.set_cons_succ]
    refine take_r (i := 3) (v := ?_) rfl (by kernel_rfl) (by kernel_rfl) (by kernel_rfl) (fun _ _ _ h => h) (Or.inl ⟨by rfl, ?_⟩) hHeld ?_
    rotate_left
    · (intro wS hSw; (try dsimp only at hSw); go_simp; (try with_reducible rfl))
    try simp only [Act.put, List.setIfInBounds_toArray, List.set_cons_zero, List.set_cons_succ]
    refine take_r (i := 4) (v := ?_) rfl (by kernel_rfl) (by kernel_rfl) (by kernel_rfl) (fun _ _ _ h => h) (Or.inl ⟨by rfl, ?_⟩) hHeld ?_
    rotate_left
    · (intro wS hSw; (try dsimp only at hSw); go_simp; (try with_reducible rfl))
    try simp only [Act.put, List.setIfInBounds_toArray, List.set_cons_zero, List.set_cons_succ]
    refine wpAnyH_ready (rs := [2]) (by kernel_rfl) (by simp) ?_
    refine ready_r rfl (fun K hK => ?_)
    go_simp
    go_wp2_with ((go_at_call 18; refine (HR1'.out _ hHeld.1).mono ?_; rintro r w5 ⟨rfl, hb5⟩))
    refine hK.out _ _ ?_ (fun hNew => ?_)
    · exact K7.out _ hb5
    clear hHeld hK K
    have hHeld := hNew
    clear hNew
    refine wpAnyH_ready (rs := [5]) (by kernel_rfl) (by simp) ?_
    refine ready_r rfl (fun K hK => ?_)
    go_simp
    go_wp2_with ((go_at_call 19; refine (HRR'.out _ hHeld.1).mono ?_; rintro r w6 ⟨rfl, hb6⟩))
    refine hK.out _ _ ?_ (fun hNew => ?_)
    · exact K7.out _ hb6
    clear hHeld hK K
    have hHeld := hNew
    clear hNew
    refine take_r (i := 6) (v := ?_) rfl (by kernel_rfl) (by kernel_rfl) (by kernel_rfl) (fun _ _ _ h => h) (Or.inl ⟨by rfl, ?_⟩) hHeld ?_
    rotate_left
    · (intro wS hSw; (try dsimp only at hSw); go_simp; (try with_reducible rfl))
    try simp only [Act.put, List.setIfInBounds_toArray, List.set_cons_zero, List.set_cons_succ]
    refine take_r (i := 7) (v := ?_) rfl (by kernel_rfl) (by kernel_rfl) (by kernel_rfl) (fun _ _ _ h => h) (Or.inl ⟨by rfl, ?_⟩) hHeld ?_
    rotate_left
    · (intro wS hSw; (try dsimp only at hSw); go_simp; (try with_reducible rfl))
    try simp only [Act.put, List.setIfInBounds_toArray, List.set_cons_zero, List.set_cons_succ]
    refine take_r (i := 8) (v := ?_) rfl (by kernel_rfl) (by kernel_rfl) (by kernel_rfl) (fun _ _ _ h => h) (Or.inl ⟨by rfl, ?_⟩) hHeld ?_
    rotate_left
    · (intro wS hSw; (try dsimp only at hSw); go_simp; (try with_reducible rfl))
    try simp only [Act.put, List.setIfInBounds_toArray, List.set_cons_zero, List.set_cons_succ]
    refine take_r (i := 9) (v := ?_) rfl (by kernel_rfl) (by kernel_rfl) (by kernel_rfl) (fun _ _ _ h => h) (Or.inl ⟨by rfl, ?_⟩) hHeld ?_
    rotate_left
    · (intro wS hSw; (try dsimp only at hSw); go_simp; (try with_reducible rfl))
    try simp only [Act.put, List.setIfInBounds_toArray, List.set_cons_zero, List.set_cons_succ]
    refine take_r (i := 11) (v := ?_) rfl (by kernel_rfl) (by kernel_rfl) (by kernel_rfl) (fun _ _ _ h => h) (Or.inl ⟨by rfl, ?_⟩) hHeld ?_
    rotate_left
    · (intro wS hSw; (try dsimp only at hSw); go_simp; (try with_reducible rfl))
    try simp only [Act.put, List.setIfInBounds_toArray, List.set_cons_zero, List.set_cons_succ]
    refine take_r (i := 12) (v := ?_) rfl (by kernel_rfl) (by kernel_rfl) (by kernel_rfl) (fun _ _ _ h => h) (Or.inl ⟨by rfl, ?_⟩) hHeld ?_
    rotate_left
    · (intro wS hSw; (try dsimp only at hSw); go_simp; (try with_reducible rfl))
    try simp only [Act.put, List.setIfInBounds_toArray, List.set_cons_zero, List.set_cons_succ]
    refine wpAnyH_ready (rs := [10]) (by kernel_rfl) (by simp) ?_
    refine ready_r rfl (fun K hK => ?_)
    go_simp
    go_wp2_with ((go_at_call 20; refine (HM1'.out _ hHeld.1).mono ?_; rintro r w7 ⟨rfl, hb7⟩))
    refine hK.out _ _ ?_ (fun hNew => ?_)
    · exact K7.out _ hb7
    clear hHeld hK K
    have hHeld := hNew
    clear hNew
    refine wpAnyH_ready (rs := [13]) (by kernel_rfl) (by simp) ?_
    refine ready_r rfl (fun K hK => ?_)
    go_simp
    go_wp2_with ((go_at_call 11; refine (HM2'.out _ hHeld.1).mono ?_; rintro r w8 ⟨rfl, hb8⟩))
    refine hK.out _ _ ?_ (fun hNew => ?_)
    · exact K7.out _ hb8
    clear hHeld hK K
    have hHeld := hNew
    clear hNew
    refine take_r (i := 14) (v := ?_) rfl (by kernel_rfl) (by kernel_rfl) (by kernel_rfl) (fun _ _ _ h => h) (Or.inl ⟨by rfl, ?_⟩) hHeld ?_
    rotate_left
    · (intro wS hSw; (try dsimp only at hSw); go_simp; (try with_reducible rfl))
    try simp only [Act.put, List.setIfInBounds_toArray, List.set_cons_zero, List.set_cons_succ]
    refine take_r (i := 15) (v := ?_) rfl (by kernel_rfl) (by kernel_rfl) (by kernel_rfl) (fun _ _ _ h => h) (Or.inl ⟨by rfl, ?_⟩) hHeld ?_
    rotate_left
    · (intro wS hSw; (try dsimp only at hSw); go_simp; (try with_reducible rfl))
    try simp only [Act.put, List.setIfInBounds_toArray, List.set_cons_zero, List.set_cons_succ]
    refine take_r (i := 16) (v := ?_) rfl (by kernel_rfl) (by kernel_rfl) (by kernel_rfl) (fun _ _ _ h => h) (Or.inl ⟨by rfl, ?_⟩) hHeld ?_
    rotate_left
    · (intro wS hSw; (try dsimp only at hSw); go_simp; (try with_reducible rfl))
    try simp only [Act.put, List.setIfInBounds_toArray, List.set_cons_zero, List.set_cons_succ]
    refine take_r (i := 17) (v := ?_) rfl (by kernel_rfl) (by kernel_rfl) (by kernel_rfl) (fun _ _ _ h => h) (Or.inl ⟨by rfl, ?_⟩) hHeld ?_
    rotate_left
    · (intro wS hSw; (try dsimp only at hSw); go_simp; (try with_reducible rfl))
    try simp only [Act.put, List.setIfInBounds_toArray, List.set_cons_zero, List.set_cons_succ]
    refine take_r (i := 18) (v := ?_) rfl (by kernel_rfl) (by kernel_rfl) (by kernel_rfl) (fun _ _ _ h => h) (Or.inl ⟨by rfl, ?_⟩) hHeld ?_
    rotate_left
    · (intro wS hSw; (try dsimp only at hSw); go_simp; (try with_reducible rfl))
    try simp only [Act.put, List.setIfInBounds_toArray, List.set_cons_zero, List.set_cons_succ]
    refine wpAnyH_ready (rs := [19]) (by kernel_rfl) (by simp) ?_
    refine ready_r rfl (fun K hK => ?_)
    go_simp
    go_wp2_with ((go_at_call 20; refine (HM3'.out _ hHeld.1).mono ?_; rintro r w9 ⟨rfl, hb9⟩))
    refine hK.out _ _ ?_ (fun hNew => ?_)
    · exact K7.out _ hb9
    clear hHeld hK K
    have hHeld := hNew
    clear hNew
    refine take_r (i := 20) (v := ?_) rfl (by kernel_rfl) (by kernel_rfl) (by kernel_rfl) (fun _ _ _ h => h) (Or.inl ⟨by rfl, ?_⟩) hHeld ?_
    rotate_left
    · (intro wS hSw; (try dsimp only at hSw); go_simp; (try with_reducible rfl))
    try simp only [Act.put, List.setIfInBounds_toArray, List.set_cons_zero, List.set_cons_succ]
    refine take_r (i := 21) (v := ?_) rfl (by kernel_rfl) (by kernel_rfl) (by kernel_rfl) (fun _ _ _ h => h) (Or.inl ⟨by rfl, ?_⟩) hHeld ?_
    rotate_left
    · (intro wS hSw; (try dsimp only at hSw); go_simp; (try with_reducible rfl))
    try simp only [Act.put, List.setIfInBounds_toArray, List.set_cons_zero, List.set_cons_succ]
    refine wpAnyH_ready (rs := [22]) (by kernel_rfl) (by simp) ?_
    refine ready_r rfl (fun K hK => ?_)
    go_simp
    go_wp2_with ((go_at_call 7; refine (HWK'.out _ hHeld.1).mono ?_; rintro r w10 ⟨rfl, hb10⟩))
    refine hK.out _ _ ?_ (fun hNew => ?_)
    · exact K7.out _ hb10
    clear hHeld hK K
    have hHeld := hNew
    clear hNew
    refine take_r (i := 23) (v := ?_) rfl (by kernel_rfl) (by kernel_rfl) (by kernel_rfl) (fun _ _ _ h => h) (Or.inl ⟨by rfl, ?_⟩) hHeld ?_
    rotate_left
    · (intro wS hSw; (try dsimp only at hSw); go_simp; (try with_reducible rfl))
    try simp only [Act.put, List.setIfInBounds_toArray, List.set_cons_zero, List.set_cons_succ]
    refine take_r (i := 24) (v := ?_) rfl (by kernel_rfl) (by kernel_rfl) (by kernel_rfl) (fun _ _ _ h => h) (Or.inl ⟨by rfl, ?_⟩) hHeld ?_
    rotate_left
    · (intro wS hSw; (try dsimp only at hSw); go_simp; (try with_reducible rfl))
    try simp only [Act.put, List.setIfInBounds_toArray, List.set_cons_zero, List.set_cons_succ]
    refine wpAnyH_done (by kernel_rfl) ?_ _
    go_wp2_with fail
    go_ret
    exact ⟨rfl, HB4.out.trans (hb10.mono HB4.out.size)⟩

end Go.Proofs.YtpmndmbhkfbljaaDoor
