/-
  Package raw: numeral, whole, Put.
-/
import Derived.Test.YtpmndmbhkfbljaaDoorAbG
import Derived.Test.YtpmndmbhkfbljaaDoorLebP
import Derived.Test.YtpmndmbhkfbljaaDoorRwA
import Derived.Test.YtpmndmbhkfbljaaDoorLawA
import Derived.Test.YtpmndmbhkfbljaaDoorRwJ
namespace Go.Proofs.YtpmndmbhkfbljaaDoor
open Go Go.RowKit Go.Maps

section
variable {w W W1 : World} {base g : Nat} {v u u1 : Value} {l L L1 : List UInt8} {T : TypeId} {cs : Array Value}
end
theorem putU_len {n : Nat} (hn : n < 2 ^ 64) : (lebPut (sizeU n) (n : Int)).length ≤ 10 := by
  have h := sizeU_range n hn
  rw [lebPut_length _ _ h.1]
  exact h.2
theorem putS_len {n : Int} (hn : InI n) : (lebPut (sizeS n) n).length ≤ 10 := by
  have h := sizeS_range n hn
  rw [lebPut_length _ _ h.1]
  exact h.2
end Go.Proofs.YtpmndmbhkfbljaaDoor

namespace Go.Proofs.YtpmndmbhkfbljaaDoor
open Go Go.RowKit

/-- A number's bytes. -/
def numB (z : Int) (n : Nat) : List UInt8 := if z = -1 then lebPut (sizeU n) (n : Int) else leBytes n (clampOf z)
def wholeV (x : RV) (z : Int) : List UInt8 :=
  if kindF x.form = 5 then putT x.t
  else if kindF x.form = 9 ∨ kindF x.form = 10 then numB z x.b.length ++ x.b
  else if kindF x.form = 3 then (if x.form = 33 then [] else lebPut (sizeS x.s) x.s)
  else numB z x.u
/-- A value's bytes. -/
def putV (x : RV) (wide : Bool) : List UInt8 := wholeV x (widF x.form wide)
theorem numB_len {z : Int} {n : Nat} (hn : n < two64) : (numB z n).length ≤ 10 := by
  unfold numB
  split
  · exact putU_len (by unfold two64 at hn; omega)
  · have := clampOf_le z
    rw [leBytes_length]; omega
theorem laid_nilR {w w' : World} {base : Nat} {v' : Value} {l' : List UInt8} (h : Laid w w' base (.slice none 0 0) v' l') (hb : base ≤ w.heap.size) : Below base w w' := below_of_only h.2.1 hb (by simp [Value.ownBlock])
theorem own_nil0 (w : World) : Own w w.heap.size (.slice none 0 0) [] := World.ownsRow_nil _ _ _ _

set_option maxRecDepth 10000 in
theorem numeral_any (w : World) (n : Nat) (hn : n < two64) (z : Int) (hz : -9223372036854775808 ≤ z ∧ z ≤ 9223372036854775807) :
    Calls Tryd.prog 59 #[.int .u64 (n : Int), .int .i64 z] w fun r w' => ∃ v', r = .returned v' ∧ Own w' w.heap.size v' (numB z n) ∧ Below w.heap.size w w' := by
  have HU := Lib.hid (putU_any (own_nil0 w) (Nat.le_refl _) n (by unfold two64 at hn; omega) (show 0 ≤ 140737488355000 by decide))
  have HP := Lib.hid (put_any (own_nil0 w) (Nat.le_refl _) n z hz (show 0 ≤ 140737488355000 by decide))
  by_cases h1 : z = -1
  · have q : (z == (-1 : Int)) = true := by simpa using h1
    have HE := Lib.hid (show numB z n = [] ++ lebPut (sizeU n) (n : Int) by unfold numB; rw [if_pos h1]; rfl)
    clear h1 hn hz
    go_enter Tryd.func59, Tryd.ntmps59
    go_wp2_with (go_at_call 75; refine HU.out.mono ?_; rintro r w1 ⟨v1, rfl, hL1⟩; have HL1 := Lib.hid hL1; clear hL1)
    go_ret
    exact ⟨_, rfl, by rw [HE.out]; exact HL1.out.1, laid_nilR HL1.out (Nat.le_refl _)⟩
  · have q : (z == (-1 : Int)) = false := by simpa using h1
    have HE := Lib.hid (show numB z n = [] ++ leBytes n (clampOf z) by unfold numB; rw [if_neg h1]; rfl)
    clear h1 hn hz
    go_enter Tryd.func59, Tryd.ntmps59
    go_wp2_with (go_at_call 76; refine HP.out.mono ?_; rintro r w1 ⟨v1, rfl, hL1⟩; have HL1 := Lib.hid hL1; clear hL1)
    go_ret
    exact ⟨_, rfl, by rw [HE.out]; exact HL1.out.1, laid_nilR HL1.out (Nat.le_refl _)⟩

set_option maxRecDepth 10000 in
set_option maxHeartbeats 3200000 in
theorem whole_any {w : World} (hF : Ft w) (y : WLay) (hy : Rd w w.heap.size y.a y.x.b) (hu : y.x.u < two64) (hs : InI y.x.s) (hb : kindF y.x.form = 9 ∨ kindF y.x.form = 10 → y.x.b.length ≤ 65536) (ht : kindF y.x.form = 5 → y.x.t.length ≤ 200) (z : Int) (hz : -9223372036854775808 ≤ z ∧ z ≤ 9223372036854775807) :
    Calls Tryd.prog 36 #[.agg #[.int .i64 y.x.form, .int .u64 (y.x.u : Int), .int .i64 y.x.s, .slice y.a y.x.b.length y.c, .string ⟨y.x.t.toArray⟩], .int .i64 z] w fun r w' => ∃ v', r = .returned v' ∧ Own w' w.heap.size v' (wholeV y.x z) ∧ Below w.heap.size w w' := by
  obtain ⟨i0, hi, hz0, hz1, hz2⟩ := info_parts u8_info
  have HE := Lib.hid (show wholeV y.x z = if kindF y.x.form = 5 then putT y.x.t
    else if kindF y.x.form = 9 ∨ kindF y.x.form = 10 then numB z y.x.b.length ++ y.x.b
    else if kindF y.x.form = 3 then (if y.x.form = 33 then [] else lebPut (sizeS y.x.s) y.x.s)
    else numB z y.x.u from rfl)
  have hA := (Below.refl w.heap.size w).alloc (Nat.le_refl _) (.cells #[.int .i64 y.x.form, .int .u64 (y.x.u : Int), .int .i64 y.x.s, .slice y.a y.x.b.length y.c, .string ⟨y.x.t.toArray⟩] 33)
  have hX0 := Box.new w 33 #[.int .i64 y.x.form, .int .u64 (y.x.u : Int), .int .i64 y.x.s, .slice y.a y.x.b.length y.c, .string ⟨y.x.t.toArray⟩]
  have HK := Lib.hid (fun W (hW : Below w.heap.size w W) => kind_any (hF.up hW) y.x.form)
  have HY := Lib.hid (fun W (hW : Below w.heap.size w W) => hy.below hW)
  have HU := Lib.hid hu
  have HZ := Lib.hid hz
  have HSS := Lib.hid hs
  have HNU := Lib.hid (fun W n (hn : n < two64) => numeral_any W n hn z hz)
  obtain ⟨k, hk⟩ : ∃ k, kindF y.x.form = k := ⟨_, rfl⟩
  have HKK := Lib.hid hk
  rw [hk] at hb ht HE
  obtain ⟨bn, hbn⟩ : ∃ bn, y.x.b.length = bn := ⟨_, rfl⟩
  have HBN := Lib.hid hbn
  rw [hbn] at hA hX0 hb ⊢
  clear hF hy hu hs hz hk hbn
  go_enter Tryd.func36, Tryd.ntmps36
  generalize hw1 : w.alloc (.cells #[.int .i64 y.x.form, .int .u64 (y.x.u : Int), .int .i64 y.x.s, .slice y.a bn y.c, .string ⟨y.x.t.toArray⟩] 33) = w1 at *
  have HA := Lib.hid hA
  obtain ⟨x0, x1, x2, x3, x4⟩ := five_cellsR hX0
  have HX0 := Lib.hid hX0
  have HSZ := Lib.hid (show w.heap.size ≤ w1.heap.size from hA.size)
  go_upto_region 1 with fail
  try rw [hw1]
  clear hw1 hA hX0
  go_upto_region 2 with (go_at_call 14; refine (HK.out _ HA.out).mono ?_; rw [HKK.out]; rintro r w2 ⟨rfl, rfl⟩)
  by_cases h5 : k = 5
  · have q5 : (k == 5) = true := by simpa using h5
    rw [if_pos h5] at HE
    have HPT := Lib.hid (putt_any (own_nil0 w1) (Nat.le_refl _) y.x.t (show 0 + y.x.t.length ≤ 140737488355000 by have := ht h5; omega))
    clear h5 hb ht
    go_wp2_with (go_at_call 58; refine HPT.out.mono ?_; rintro r w3 ⟨v3, rfl, hL3⟩; have HL3 := Lib.hid hL3; clear hL3)
    go_ret
    exact ⟨_, rfl, by rw [HE.out]; exact own_base HL3.out.1 HSZ.out, HA.out.trans ((laid_nilR HL3.out (Nat.le_refl _)).mono HSZ.out)⟩
  have q5 : (k == 5) = false := by simpa using h5
  rw [if_neg h5] at HE
  clear h5 ht
  by_cases h9 : k = 9 ∨ k = 10
  · have q9 : (k == 9) = true ∨ (k == 9) = false ∧ (k == 10) = true := by
      rcases h9 with rfl | rfl
      · exact .inl rfl
      · exact .inr ⟨rfl, rfl⟩
    rw [if_pos h9] at HE
    have hb6 := hb h9
    have HB6 := Lib.hid hb6
    have hwb : IntKind.u64.wrap (bn : Int) = (bn : Int) := by rw [IntWalk.u64_in _ (by omega)]
    have HNB := Lib.hid (fun W => HNU.out W bn (by unfold two64; omega))
    have HNL := Lib.hid (show (numB z bn).length + y.x.b.length ≤ 140737488355328 by rw [HBN.out]; have := numB_len (z := z) (n := bn) (by unfold two64; omega); omega)
    rw [HBN.out] at HE
    clear h9 hb hb6
    rcases q9 with q9 | ⟨q9, q10⟩
    all_goals
      have hlt := HX0.out.lt
      have KS := Lib.hid (fun X (hX : Below w1.heap.size w1 X) => (⟨hX, (hX.cell (p := ⟨w.heap.size, 3, none⟩) hlt).trans x3⟩ : Below w1.heap.size w1 X ∧ X.cell? ⟨w.heap.size, 3, none⟩ = some (.slice y.a bn y.c)))
      have hrf := Below.refl w1.heap.size w1
      clear hlt
      go_upto_region 6 with fail
      first
      | (go_region_held_law (fun X => Below w1.heap.size w1 X ∧ X.cell? ⟨w.heap.size, 3, none⟩ = some (.slice y.a bn y.c))
        ((refine KS.out _ ?_; repeat' (first | (with_reducible assumption) | (with_reducible refine below_drewN ?_ _) | (with_reducible refine Below.drew ?_))))
        (first
          | (go_at_call 59; refine (HNB.out _).mono ?_; rintro r w3 ⟨v3, rfl, hO3, hb3⟩; have hB3 : Below w1.heap.size w1 w3 := (show Below w1.heap.size w1 _ from (by repeat' (first | (with_reducible assumption) | (with_reducible refine below_drewN ?_ _) | (with_reducible refine Below.drew ?_)))).trans hb3; have HB3 := Lib.hid hB3; have HO3 := Lib.hid (show Own w3 w1.heap.size v3 (numB z bn) from hO3); clear hb3 hO3)
          | (refine step_append_bytes (by rfl) (.tmp 21) (.tmp 23) _ (by rfl) w1.heap.size i0 Tryd.underlying22 hi hz0 hz1 hz2 v3 (numB z bn) (by rfl) HO3.out w.heap.size y.a bn y.c y.x.b HBN.out (by rfl) (HY.out _ (HA.out.trans (HB3.out.mono HSZ.out))) HNL.out HB3.out.size ?_; intro v4 w4 hown4 hg4 hat4; have hB4 : Below w1.heap.size w1 w4 := HB3.out.trans (below_of_only hg4 HB3.out.size (fun x hx => (own_ge HO3.out x hx).1)); have HB4 := Lib.hid hB4; have HO4 := Lib.hid hown4; clear hown4 hg4 hat4)))
      | fail "no"
      all_goals simp only [List.getElem_toArray, List.getElem_cons_succ, List.getElem_cons_zero]
      all_goals go_wp2_with fail
      all_goals go_ret
      all_goals exact ⟨v4, rfl, by rw [HE.out]; exact own_base HO4.out HSZ.out, HA.out.trans (HB4.out.mono HSZ.out)⟩
  have q9 : (k == 9) = false := by simp; omega
  have q10 : (k == 10) = false := by simp; omega
  rw [if_neg h9] at HE
  clear h9 hb
  by_cases h3 : k = 3
  · have q3 : (k == 3) = true := by simpa using h3
    rw [if_pos h3] at HE
    clear h3
    by_cases h33 : y.x.form = 33
    · have q33 : (y.x.form == 33) = true := by simpa using h33
      rw [if_pos h33] at HE
      clear h33
      go_wp2_with fail
      go_ret
      exact ⟨_, rfl, by rw [HE.out]; exact World.ownsRow_nil _ _ _ _, HA.out⟩
    · have q33 : (y.x.form == 33) = false := by simpa using h33
      rw [if_neg h33] at HE
      have HPS := Lib.hid (putS_any (own_nil0 w1) (Nat.le_refl _) y.x.s HSS.out (show 0 ≤ 140737488355000 by decide))
      clear h33
      go_wp2_with (go_at_call 60; refine HPS.out.mono ?_; rintro r w3 ⟨v3, rfl, hL3⟩; have HL3 := Lib.hid hL3; clear hL3)
      go_ret
      exact ⟨_, rfl, by rw [HE.out]; exact own_base HL3.out.1 HSZ.out, HA.out.trans ((laid_nilR HL3.out (Nat.le_refl _)).mono HSZ.out)⟩
  · have q3 : (k == 3) = false := by simpa using h3
    rw [if_neg h3] at HE
    clear h3
    go_wp2_with (go_at_call 59; refine (HNU.out _ _ HU.out).mono ?_; rintro r w3 ⟨v3, rfl, hO3, hb3⟩; have HO3 := Lib.hid hO3; have HB3 := Lib.hid hb3; clear hO3 hb3)
    go_ret
    exact ⟨_, rfl, by rw [HE.out]; exact own_base HO3.out HSZ.out, HA.out.trans (HB3.out.mono HSZ.out)⟩

theorem rightV_spec {x : RV} {wide : Bool} (h : rightV x wide = true) : kindF x.form ≠ 0 ∧ (kindF x.form = 9 ∨ kindF x.form = 10 → x.b.length ≤ 65536) ∧ (kindF x.form = 5 → x.t.length ≤ 200) := by
  unfold rightV at h
  simp only [Bool.and_eq_true, Bool.not_eq_true', decide_eq_false_iff_not] at h
  obtain ⟨h0, -, hf⟩ := h
  refine ⟨h0, fun h9 => ?_, fun h5 => ?_⟩
  · unfold fitsV at hf
    rw [if_neg (by omega), if_pos h9] at hf
    split at hf
    · have := of_decide_eq_true hf; omega
    · rw [Bool.and_eq_true, decide_eq_true_eq] at hf; exact hf.1
  · unfold fitsV at hf
    rw [if_pos h5] at hf
    exact (rightT_spec hf).1
theorem wholeV_len {x : RV} {z : Int} (hu : x.u < two64) (hs : InI x.s) (hb : kindF x.form = 9 ∨ kindF x.form = 10 → x.b.length ≤ 65536) (ht : kindF x.form = 5 → x.t.length ≤ 200) : (wholeV x z).length ≤ 65600 := by
  unfold wholeV
  split
  · rename_i h
    have := ht h
    rw [putT_length]
    have := tlen_le x.t
    omega
  · split
    · rename_i h
      have := hb h
      have h1 := numB_len (z := z) (n := x.b.length) (by unfold two64; omega)
      rw [List.length_append]; omega
    · split
      · split
        · simp
        · have := putS_len hs; omega
      · have := numB_len (z := z) hu; omega

def putWE (x : RV) (wide : Bool) : Int := if rightV x wide = true then 0 else 2
set_option maxRecDepth 10000 in
set_option maxHeartbeats 3200000 in
theorem putW_any {w : World} {base : Nat} {v : Value} {l : List UInt8} (hown : Own w base v l) (hbase : base ≤ w.heap.size) (hF : Ft w) (hS : Sz w) (y : WLay) (hy : Rd w base y.a y.x.b) (hu : y.x.u < two64) (hs : InI y.x.s) (hb : y.x.b.length ≤ 9223372036854775807) (wide : Bool) (hlen : l.length ≤ 140737488280000) :
    Calls Tryd.prog 16 #[v, .agg #[.int .i64 y.x.form, .int .u64 (y.x.u : Int), .int .i64 y.x.s, .slice y.a y.x.b.length y.c, .string ⟨y.x.t.toArray⟩], .bool wide] w fun r w' => ∃ v', r = .returned (.tuple #[v', .int .i64 (putWE y.x wide)]) ∧
      (rightV y.x wide = true → Laid w w' base v v' (l ++ putV y.x wide)) ∧ (rightV y.x wide = false → v' = .slice none 0 0 ∧ Below w.heap.size w w') := by
  obtain ⟨i0, hi, hz0, hz1, hz2⟩ := info_parts u8_info
  have hA := (Below.refl w.heap.size w).alloc (Nat.le_refl _) (.cells #[.int .i64 y.x.form, .int .u64 (y.x.u : Int), .int .i64 y.x.s, .slice y.a y.x.b.length y.c, .string ⟨y.x.t.toArray⟩] 33)
  have hX0 := Box.new w 33 #[.int .i64 y.x.form, .int .u64 (y.x.u : Int), .int .i64 y.x.s, .slice y.a y.x.b.length y.c, .string ⟨y.x.t.toArray⟩]
  have HR := Lib.hid (fun W (hW : Below w.heap.size w W) => rightV_any (hF.up hW) (hS.below hW hS.pos) y (((hy.more hbase).below hW).more hW.size) hu hb wide)
  obtain ⟨rr, hrr⟩ : ∃ rr, rightV y.x wide = rr := ⟨_, rfl⟩
  rw [hrr] at HR ⊢
  have HE := Lib.hid (show putWE y.x wide = if rr = true then 0 else 2 by rw [← hrr]; rfl)
  cases rr with
  | false =>
    have HA := Lib.hid hA
    clear hA hX0 hF hS hy hu hs hb hlen hown hbase hrr
    obtain ⟨x0, x1, x2, x3, x4⟩ := five_cellsR (Box.new w 33 #[.int .i64 y.x.form, .int .u64 (y.x.u : Int), .int .i64 y.x.s, .slice y.a y.x.b.length y.c, .string ⟨y.x.t.toArray⟩])
    generalize y.x.b.length = bn at *
    generalize (ByteArray.mk y.x.t.toArray) = ts at *
    go_enter Tryd.func16, Tryd.ntmps16
    go_wp2_with (go_at_call 18; refine (HR.out _ HA.out).mono ?_; rintro r w2 ⟨rfl, hb2⟩; have HB2 := Lib.hid (HA.out.trans (hb2.mono HA.out.size)); clear hb2)
    go_ret2
    refine ⟨.slice none 0 0, ?_, (fun h => by cases h), fun _ => ⟨rfl, HB2.out⟩⟩
    rw [HE.out]; rfl
  | true =>
    obtain ⟨hk0, hb9, ht5⟩ := rightV_spec hrr
    obtain ⟨n, hfn, hn⟩ := kindF_in hk0
    have HWD := Lib.hid (fun W (hW : Below w.heap.size w W) => (by have := width_any (hF.up hW) (hS.below hW hS.pos) hn wide; rwa [← hfn] at this : Calls Tryd.prog 37 #[.int .i64 y.x.form, .bool wide] W fun r w' => r = .returned (.int .i64 (widF y.x.form wide)) ∧ W = w'))
    have hzi := widF_in n hn wide
    rw [← hfn] at hzi
    have HWH := Lib.hid (fun W (hW : Below w.heap.size w W) => whole_any (hF.up hW) y (((hy.more hbase).below hW).more hW.size) hu hs hb9 ht5 (widF y.x.form wide) hzi)
    have HPV := Lib.hid (show putV y.x wide = wholeV y.x (widF y.x.form wide) from rfl)
    have HLN := Lib.hid (show l.length + (wholeV y.x (widF y.x.form wide)).length ≤ 140737488355328 by
      have := wholeV_len (z := widF y.x.form wide) hu hs hb9 ht5
      omega)
    have HA := Lib.hid hA
    have HX0 := Lib.hid hX0
    have HOW := Lib.hid hown
    have HBS := Lib.hid hbase
    generalize wholeV y.x (widF y.x.form wide) = M at *
    generalize widF y.x.form wide = z at *
    obtain ⟨bn, hbn⟩ : ∃ bn, y.x.b.length = bn := ⟨_, rfl⟩
    rw [hbn] at HR HWH HA HX0 ⊢
    obtain ⟨ts, hts⟩ : ∃ ts : ByteArray, ts = ⟨y.x.t.toArray⟩ := ⟨_, rfl⟩
    rw [← hts] at HR HWH HA HX0 ⊢
    obtain ⟨mn, hmn⟩ : ∃ mn, M.length = mn := ⟨_, rfl⟩
    have HMN := Lib.hid hmn
    clear hA hX0 hF hS hy hu hs hb hlen hown hbase hrr hk0 hb9 ht5 hfn hn hzi hbn hts hmn
    go_enter Tryd.func16, Tryd.ntmps16
    go_upto_region 1 with fail
    generalize hw1 : w.alloc (.cells #[.int .i64 y.x.form, .int .u64 (y.x.u : Int), .int .i64 y.x.s, .slice y.a bn y.c, .string ts] 33) = w1 at *
    clear hw1
    obtain ⟨x0, x1, x2, x3, x4⟩ := five_cellsR HX0.out
    go_upto_region 3 with (go_at_call 18; refine (HR.out _ HA.out).mono ?_; rintro r w2 ⟨rfl, hb2⟩; have HB12 := Lib.hid hb2; clear hb2)
    have HB2 := Lib.hid (HA.out.trans (HB12.out.mono HA.out.size))
    have HX2 := Lib.hid (HX0.out.below HB12.out HX0.out.lt)
    clear x0 x1 x2 x3 x4
    have KS := Lib.hid (fun X (hX : Below w2.heap.size w2 X) => (five_cellsR (HX2.out.below hX HX2.out.lt) : X.cell? ⟨w.heap.size, 0, none⟩ = some (.int .i64 y.x.form) ∧ X.cell? ⟨w.heap.size, 1, none⟩ = some (.int .u64 (y.x.u : Int)) ∧ X.cell? ⟨w.heap.size, 2, none⟩ = some (.int .i64 y.x.s) ∧ X.cell? ⟨w.heap.size, 3, none⟩ = some (.slice y.a bn y.c) ∧ X.cell? ⟨w.heap.size, 4, none⟩ = some (.string ts)))
    have hrf := Below.refl w2.heap.size w2
    first
      | (go_region_held_law (fun X => X.cell? ⟨w.heap.size, 0, none⟩ = some (.int .i64 y.x.form) ∧ X.cell? ⟨w.heap.size, 1, none⟩ = some (.int .u64 (y.x.u : Int)) ∧ X.cell? ⟨w.heap.size, 2, none⟩ = some (.int .i64 y.x.s) ∧ X.cell? ⟨w.heap.size, 3, none⟩ = some (.slice y.a bn y.c) ∧ X.cell? ⟨w.heap.size, 4, none⟩ = some (.string ts))
        ((first | (refine KS.out _ ?_; (repeat' (first | (with_reducible assumption) | (with_reducible refine below_drewN ?_ _) | (with_reducible refine Below.drew ?_))); done) | (refine K5.out _ ?_; (repeat' (first | (with_reducible assumption) | (with_reducible refine below_drewN ?_ _) | (with_reducible refine Below.drew ?_))); done)))
        (first
          | (go_at_call 37; refine (HWD.out _ (HB2.out.trans ((show Below w2.heap.size w2 _ from (by repeat' (first | (with_reducible assumption) | (with_reducible refine below_drewN ?_ _) | (with_reducible refine Below.drew ?_)))).mono HB2.out.size))).mono ?_; rintro r w3 ⟨rfl, rfl⟩)
          | (go_at_call 36; refine (HWH.out _ (HB2.out.trans ((show Below w2.heap.size w2 _ from (by repeat' (first | (with_reducible assumption) | (with_reducible refine below_drewN ?_ _) | (with_reducible refine Below.drew ?_)))).mono HB2.out.size))).mono ?_; rintro r w4 ⟨v4, rfl, hO4, hb4⟩; have hB4 : Below w2.heap.size w2 w4 := (show Below w2.heap.size w2 _ from (by repeat' (first | (with_reducible assumption) | (with_reducible refine below_drewN ?_ _) | (with_reducible refine Below.drew ?_)))).trans hb4; have HB4 := Lib.hid hB4; (obtain ⟨A4, c4, rfl, -, -, hr4⟩ := own_slice hO4); rw [HMN.out]; have HR4 := Lib.hid hr4; clear hb4 hO4 hr4)
          | (refine step_append_bytes (by rfl) (.tmp 12) (.tmp 18) _ (by rfl) base i0 Tryd.underlying22 hi hz0 hz1 hz2 v l (by rfl) (own_below HOW.out (HB2.out.trans (HB4.out.mono HB2.out.size))) w4.heap.size A4 mn c4 M HMN.out (by rfl) HR4.out HLN.out (Nat.le_trans HBS.out (HB2.out.trans (HB4.out.mono HB2.out.size)).size) ?_; intro v5 w5 hown5 hg5 hat5; have HL5 := Lib.hid (Laid.of_append (HB2.out.trans (HB4.out.mono HB2.out.size)) hown5 hg5 hat5); have K5 := Lib.hid (fun X (hX : Below w5.heap.size w5 X) => (five_cellsR (((HX2.out.below HB4.out HX2.out.lt).grown hg5 (fun e => own_other (own_below HOW.out (HB2.out.trans (HB4.out.mono HB2.out.size))) (HX2.out.below HB4.out HX2.out.lt) (by decide) e.symm)).below hX (Box.lt ((HX2.out.below HB4.out HX2.out.lt).grown hg5 (fun e => own_other (own_below HOW.out (HB2.out.trans (HB4.out.mono HB2.out.size))) (HX2.out.below HB4.out HX2.out.lt) (by decide) e.symm)))) : X.cell? ⟨w.heap.size, 0, none⟩ = some (.int .i64 y.x.form) ∧ X.cell? ⟨w.heap.size, 1, none⟩ = some (.int .u64 (y.x.u : Int)) ∧ X.cell? ⟨w.heap.size, 2, none⟩ = some (.int .i64 y.x.s) ∧ X.cell? ⟨w.heap.size, 3, none⟩ = some (.slice y.a bn y.c) ∧ X.cell? ⟨w.heap.size, 4, none⟩ = some (.string ts))); have hrf5 := Below.refl w5.heap.size w5; clear hown5 hg5 hat5)))
      | fail "no"
    all_goals simp only [List.getElem_toArray, List.getElem_cons_succ, List.getElem_cons_zero]
    all_goals go_wp2_with fail
    all_goals go_ret2
    all_goals refine ⟨v5, ?_, (fun _ => by rw [HPV.out]; exact HL5.out), fun h => by cases h⟩
    all_goals rw [HE.out]
    all_goals rfl

end Go.Proofs.YtpmndmbhkfbljaaDoor
