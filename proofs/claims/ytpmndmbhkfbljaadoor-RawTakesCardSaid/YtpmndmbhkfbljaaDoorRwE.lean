/-
  Package raw: Take.
-/
import Derived.Test.YtpmndmbhkfbljaaDoorRwJ
import Derived.Test.YtpmndmbhkfbljaaDoorLebP
import Derived.Test.YtpmndmbhkfbljaaDoorRwB
import Derived.Test.YtpmndmbhkfbljaaDoorLawA
namespace Go.Proofs.YtpmndmbhkfbljaaDoor
open Go Go.RowKit Go.Maps

/-- An abbreviation whose numbers are numbers of 64 bits. -/
structure Abb.In (x : Abb) : Prop where
  code : x.code < two64
  tag : InI x.tag
  len : x.l.length ≤ 100000
  spcs : ∀ y ∈ x.l, y.In
end Go.Proofs.YtpmndmbhkfbljaaDoor

namespace Go.Proofs.YtpmndmbhkfbljaaDoor
open Go Go.RowKit Go.Maps

section
variable {w W W1 : World} {base g : Nat} {v u u1 : Value} {l L L1 : List UInt8} {T : TypeId} {cs : Array Value}
end
theorem putU_len {n : Nat} (hn : n < 2 ^ 64) : (lebPut (sizeU n) (n : Int)).length ≤ 10 := by
  have h := sizeU_range n hn
  rw [lebPut_length _ _ h.1]
  exact h.2
theorem putS_len {n : Int} (hn : InI n) : (lebPut (sizeS n) n).length ≤ 10 := by
  have h := sizeS_range n hn
  rw [lebPut_length _ _ h.1]
  exact h.2
end Go.Proofs.YtpmndmbhkfbljaaDoor

namespace Go.Proofs.YtpmndmbhkfbljaaDoor
open Go Go.RowKit

/-- A number's bytes. -/
def numB (z : Int) (n : Nat) : List UInt8 := if z = -1 then lebPut (sizeU n) (n : Int) else leBytes n (clampOf z)
def wholeV (x : RV) (z : Int) : List UInt8 :=
  if kindF x.form = 5 then putT x.t
  else if kindF x.form = 9 ∨ kindF x.form = 10 then numB z x.b.length ++ x.b
  else if kindF x.form = 3 then (if x.form = 33 then [] else lebPut (sizeS x.s) x.s)
  else numB z x.u
/-- A value's bytes. -/
def putV (x : RV) (wide : Bool) : List UInt8 := wholeV x (widF x.form wide)
theorem numB_len {z : Int} {n : Nat} (hn : n < two64) : (numB z n).length ≤ 10 := by
  unfold numB
  split
  · exact putU_len (by unfold two64 at hn; omega)
  · have := clampOf_le z
    rw [leBytes_length]; omega
theorem laid_nilR {w w' : World} {base : Nat} {v' : Value} {l' : List UInt8} (h : Laid w w' base (.slice none 0 0) v' l') (hb : base ≤ w.heap.size) : Below base w w' := below_of_only h.2.1 hb (by simp [Value.ownBlock])
theorem own_nil0 (w : World) : Own w w.heap.size (.slice none 0 0) [] := World.ownsRow_nil _ _ _ _

set_option maxRecDepth 10000 in
theorem numeral_any (w : World) (n : Nat) (hn : n < two64) (z : Int) (hz : -9223372036854775808 ≤ z ∧ z ≤ 9223372036854775807) :
    Calls Tryd.prog 59 #[.int .u64 (n : Int), .int .i64 z] w fun r w' => ∃ v', r = .returned v' ∧ Own w' w.heap.size v' (numB z n) ∧ Below w.heap.size w w' := by
  have HU := Lib.hid (putU_any (own_nil0 w) (Nat.le_refl _) n (by unfold two64 at hn; omega) (show 0 ≤ 140737488355000 by decide))
  have HP := Lib.hid (put_any (own_nil0 w) (Nat.le_refl _) n z hz (show 0 ≤ 140737488355000 by decide))
  by_cases h1 : z = -1
  · have q : (z == (-1 : Int)) = true := by simpa using h1
    have HE := Lib.hid (show numB z n = [] ++ lebPut (sizeU n) (n : Int) by unfold numB; rw [if_pos h1]; rfl)
    clear h1 hn hz
    go_enter Tryd.func59, Tryd.ntmps59
    go_wp2_with (go_at_call 75; refine HU.out.mono ?_; rintro r w1 ⟨v1, rfl, hL1⟩; have HL1 := Lib.hid hL1; clear hL1)
    go_ret
    exact ⟨_, rfl, by rw [HE.out]; exact HL1.out.1, laid_nilR HL1.out (Nat.le_refl _)⟩
  · have q : (z == (-1 : Int)) = false := by simpa using h1
    have HE := Lib.hid (show numB z n = [] ++ leBytes n (clampOf z) by unfold numB; rw [if_neg h1]; rfl)
    clear h1 hn hz
    go_enter Tryd.func59, Tryd.ntmps59
    go_wp2_with (go_at_call 76; refine HP.out.mono ?_; rintro r w1 ⟨v1, rfl, hL1⟩; have HL1 := Lib.hid hL1; clear hL1)
    go_ret
    exact ⟨_, rfl, by rw [HE.out]; exact HL1.out.1, laid_nilR HL1.out (Nat.le_refl _)⟩

set_option maxRecDepth 10000 in
set_option maxHeartbeats 3200000 in
theorem whole_any {w : World} (hF : Ft w) (y : WLay) (hy : Rd w w.heap.size y.a y.x.b) (hu : y.x.u < two64) (hs : InI y.x.s) (hb : kindF y.x.form = 9 ∨ kindF y.x.form = 10 → y.x.b.length ≤ 65536) (ht : kindF y.x.form = 5 → y.x.t.length ≤ 200) (z : Int) (hz : -9223372036854775808 ≤ z ∧ z ≤ 9223372036854775807) :
    Calls Tryd.prog 36 #[.agg #[.int .i64 y.x.form, .int .u64 (y.x.u : Int), .int .i64 y.x.s, .slice y.a y.x.b.length y.c, .string ⟨y.x.t.toArray⟩], .int .i64 z] w fun r w' => ∃ v', r = .returned v' ∧ Own w' w.heap.size v' (wholeV y.x z) ∧ Below w.heap.size w w' := by
  obtain ⟨i0, hi, hz0, hz1, hz2⟩ := info_parts u8_info
  have HE := Lib.hid (show wholeV y.x z = if kindF y.x.form = 5 then putT y.x.t
    else if kindF y.x.form = 9 ∨ kindF y.x.form = 10 then numB z y.x.b.length ++ y.x.b
    else if kindF y.x.form = 3 then (if y.x.form = 33 then [] else lebPut (sizeS y.x.s) y.x.s)
    else numB z y.x.u from rfl)
  have hA := (Below.refl w.heap.size w).alloc (Nat.le_refl _) (.cells #[.int .i64 y.x.form, .int .u64 (y.x.u : Int), .int .i64 y.x.s, .slice y.a y.x.b.length y.c, .string ⟨y.x.t.toArray⟩] 33)
  have hX0 := Box.new w 33 #[.int .i64 y.x.form, .int .u64 (y.x.u : Int), .int .i64 y.x.s, .slice y.a y.x.b.length y.c, .string ⟨y.x.t.toArray⟩]
  have HK := Lib.hid (fun W (hW : Below w.heap.size w W) => kind_any (hF.up hW) y.x.form)
  have HY := Lib.hid (fun W (hW : Below w.heap.size w W) => hy.below hW)
  have HU := Lib.hid hu
  have HZ := Lib.hid hz
  have HSS := Lib.hid hs
  have HNU := Lib.hid (fun W n (hn : n < two64) => numeral_any W n hn z hz)
  obtain ⟨k, hk⟩ : ∃ k, kindF y.x.form = k := ⟨_, rfl⟩
  have HKK := Lib.hid hk
  rw [hk] at hb ht HE
  obtain ⟨bn, hbn⟩ : ∃ bn, y.x.b.length = bn := ⟨_, rfl⟩
  have HBN := Lib.hid hbn
  rw [hbn] at hA hX0 hb ⊢
  clear hF hy hu hs hz hk hbn
  go_enter Tryd.func36, Tryd.ntmps36
  generalize hw1 : w.alloc (.cells #[.int .i64 y.x.form, .int .u64 (y.x.u : Int), .int .i64 y.x.s, .slice y.a bn y.c, .string ⟨y.x.t.toArray⟩] 33) = w1 at *
  have HA := Lib.hid hA
  obtain ⟨x0, x1, x2, x3, x4⟩ := five_cellsR hX0
  have HX0 := Lib.hid hX0
  have HSZ := Lib.hid (show w.heap.size ≤ w1.heap.size from hA.size)
  go_upto_region 1 with fail
  try rw [hw1]
  clear hw1 hA hX0
  go_upto_region 2 with (go_at_call 14; refine (HK.out _ HA.out).mono ?_; rw [HKK.out]; rintro r w2 ⟨rfl, rfl⟩)
  by_cases h5 : k = 5
  · have q5 : (k == 5) = true := by simpa using h5
    rw [if_pos h5] at HE
    have HPT := Lib.hid (putt_any (own_nil0 w1) (Nat.le_refl _) y.x.t (show 0 + y.x.t.length ≤ 140737488355000 by have := ht h5; omega))
    clear h5 hb ht
    go_wp2_with (go_at_call 58; refine HPT.out.mono ?_; rintro r w3 ⟨v3, rfl, hL3⟩; have HL3 := Lib.hid hL3; clear hL3)
    go_ret
    exact ⟨_, rfl, by rw [HE.out]; exact own_base HL3.out.1 HSZ.out, HA.out.trans ((laid_nilR HL3.out (Nat.le_refl _)).mono HSZ.out)⟩
  have q5 : (k == 5) = false := by simpa using h5
  rw [if_neg h5] at HE
  clear h5 ht
  by_cases h9 : k = 9 ∨ k = 10
  · have q9 : (k == 9) = true ∨ (k == 9) = false ∧ (k == 10) = true := by
      rcases h9 with rfl | rfl
      · exact .inl rfl
      · exact .inr ⟨rfl, rfl⟩
    rw [if_pos h9] at HE
    have hb6 := hb h9
    have HB6 := Lib.hid hb6
    have hwb : IntKind.u64.wrap (bn : Int) = (bn : Int) := by rw [IntWalk.u64_in _ (by omega)]
    have HNB := Lib.hid (fun W => HNU.out W bn (by unfold two64; omega))
    have HNL := Lib.hid (show (numB z bn).length + y.x.b.length ≤ 140737488355328 by rw [HBN.out]; have := numB_len (z := z) (n := bn) (by unfold two64; omega); omega)
    rw [HBN.out] at HE
    clear h9 hb hb6
    rcases q9 with q9 | ⟨q9, q10⟩
    all_goals
      have hlt := HX0.out.lt
      have KS := Lib.hid (fun X (hX : Below w1.heap.size w1 X) => (⟨hX, (hX.cell (p := ⟨w.heap.size, 3, none⟩) hlt).trans x3⟩ : Below w1.heap.size w1 X ∧ X.cell? ⟨w.heap.size, 3, none⟩ = some (.slice y.a bn y.c)))
      have hrf := Below.refl w1.heap.size w1
      clear hlt
      go_upto_region 6 with fail
      first
      | (go_region_held_law (fun X => Below w1.heap.size w1 X ∧ X.cell? ⟨w.heap.size, 3, none⟩ = some (.slice y.a bn y.c))
        ((refine KS.out _ ?_; repeat' (first | (with_reducible assumption) | (with_reducible refine below_drewN ?_ _) | (with_reducible refine Below.drew ?_))))
        (first
          | (go_at_call 59; refine (HNB.out _).mono ?_; rintro r w3 ⟨v3, rfl, hO3, hb3⟩; have hB3 : Below w1.heap.size w1 w3 := (show Below w1.heap.size w1 _ from (by repeat' (first | (with_reducible assumption) | (with_reducible refine below_drewN ?_ _) | (with_reducible refine Below.drew ?_)))).trans hb3; have HB3 := Lib.hid hB3; have HO3 := Lib.hid (show Own w3 w1.heap.size v3 (numB z bn) from hO3); clear hb3 hO3)
          | (refine step_append_bytes (by rfl) (.tmp 21) (.tmp 23) _ (by rfl) w1.heap.size i0 Tryd.underlying22 hi hz0 hz1 hz2 v3 (numB z bn) (by rfl) HO3.out w.heap.size y.a bn y.c y.x.b HBN.out (by rfl) (HY.out _ (HA.out.trans (HB3.out.mono HSZ.out))) HNL.out HB3.out.size ?_; intro v4 w4 hown4 hg4 hat4; have hB4 : Below w1.heap.size w1 w4 := HB3.out.trans (below_of_only hg4 HB3.out.size (fun x hx => (own_ge HO3.out x hx).1)); have HB4 := Lib.hid hB4; have HO4 := Lib.hid hown4; clear hown4 hg4 hat4)))
      | fail "no"
      all_goals simp only [List.getElem_toArray, List.getElem_cons_succ, List.getElem_cons_zero]
      all_goals go_wp2_with fail
      all_goals go_ret
      all_goals exact ⟨v4, rfl, by rw [HE.out]; exact own_base HO4.out HSZ.out, HA.out.trans (HB4.out.mono HSZ.out)⟩
  have q9 : (k == 9) = false := by simp; omega
  have q10 : (k == 10) = false := by simp; omega
  rw [if_neg h9] at HE
  clear h9 hb
  by_cases h3 : k = 3
  · have q3 : (k == 3) = true := by simpa using h3
    rw [if_pos h3] at HE
    clear h3
    by_cases h33 : y.x.form = 33
    · have q33 : (y.x.form == 33) = true := by simpa using h33
      rw [if_pos h33] at HE
      clear h33
      go_wp2_with fail
      go_ret
      exact ⟨_, rfl, by rw [HE.out]; exact World.ownsRow_nil _ _ _ _, HA.out⟩
    · have q33 : (y.x.form == 33) = false := by simpa using h33
      rw [if_neg h33] at HE
      have HPS := Lib.hid (putS_any (own_nil0 w1) (Nat.le_refl _) y.x.s HSS.out (show 0 ≤ 140737488355000 by decide))
      clear h33
      go_wp2_with (go_at_call 60; refine HPS.out.mono ?_; rintro r w3 ⟨v3, rfl, hL3⟩; have HL3 := Lib.hid hL3; clear hL3)
      go_ret
      exact ⟨_, rfl, by rw [HE.out]; exact own_base HL3.out.1 HSZ.out, HA.out.trans ((laid_nilR HL3.out (Nat.le_refl _)).mono HSZ.out)⟩
  · have q3 : (k == 3) = false := by simpa using h3
    rw [if_neg h3] at HE
    clear h3
    go_wp2_with (go_at_call 59; refine (HNU.out _ _ HU.out).mono ?_; rintro r w3 ⟨v3, rfl, hO3, hb3⟩; have HO3 := Lib.hid hO3; have HB3 := Lib.hid hb3; clear hO3 hb3)
    go_ret
    exact ⟨_, rfl, by rw [HE.out]; exact own_base HO3.out HSZ.out, HA.out.trans (HB3.out.mono HSZ.out)⟩

theorem rightV_spec {x : RV} {wide : Bool} (h : rightV x wide = true) : kindF x.form ≠ 0 ∧ (kindF x.form = 9 ∨ kindF x.form = 10 → x.b.length ≤ 65536) ∧ (kindF x.form = 5 → x.t.length ≤ 200) := by
  unfold rightV at h
  simp only [Bool.and_eq_true, Bool.not_eq_true', decide_eq_false_iff_not] at h
  obtain ⟨h0, -, hf⟩ := h
  refine ⟨h0, fun h9 => ?_, fun h5 => ?_⟩
  · unfold fitsV at hf
    rw [if_neg (by omega), if_pos h9] at hf
    split at hf
    · have := of_decide_eq_true hf; omega
    · rw [Bool.and_eq_true, decide_eq_true_eq] at hf; exact hf.1
  · unfold fitsV at hf
    rw [if_pos h5] at hf
    exact (rightT_spec hf).1
theorem wholeV_len {x : RV} {z : Int} (hu : x.u < two64) (hs : InI x.s) (hb : kindF x.form = 9 ∨ kindF x.form = 10 → x.b.length ≤ 65536) (ht : kindF x.form = 5 → x.t.length ≤ 200) : (wholeV x z).length ≤ 65600 := by
  unfold wholeV
  split
  · rename_i h
    have := ht h
    rw [putT_length]
    have := tlen_le x.t
    omega
  · split
    · rename_i h
      have := hb h
      have h1 := numB_len (z := z) (n := x.b.length) (by unfold two64; omega)
      rw [List.length_append]; omega
    · split
      · split
        · simp
        · have := putS_len hs; omega
      · have := numB_len (z := z) hu; omega

def putWE (x : RV) (wide : Bool) : Int := if rightV x wide = true then 0 else 2
set_option maxRecDepth 10000 in
set_option maxHeartbeats 3200000 in
theorem putW_any {w : World} {base : Nat} {v : Value} {l : List UInt8} (hown : Own w base v l) (hbase : base ≤ w.heap.size) (hF : Ft w) (hS : Sz w) (y : WLay) (hy : Rd w base y.a y.x.b) (hu : y.x.u < two64) (hs : InI y.x.s) (hb : y.x.b.length ≤ 9223372036854775807) (wide : Bool) (hlen : l.length ≤ 140737488280000) :
    Calls Tryd.prog 16 #[v, .agg #[.int .i64 y.x.form, .int .u64 (y.x.u : Int), .int .i64 y.x.s, .slice y.a y.x.b.length y.c, .string ⟨y.x.t.toArray⟩], .bool wide] w fun r w' => ∃ v', r = .returned (.tuple #[v', .int .i64 (putWE y.x wide)]) ∧
      (rightV y.x wide = true → Laid w w' base v v' (l ++ putV y.x wide)) ∧ (rightV y.x wide = false → v' = .slice none 0 0 ∧ Below w.heap.size w w') := by
  obtain ⟨i0, hi, hz0, hz1, hz2⟩ := info_parts u8_info
  have hA := (Below.refl w.heap.size w).alloc (Nat.le_refl _) (.cells #[.int .i64 y.x.form, .int .u64 (y.x.u : Int), .int .i64 y.x.s, .slice y.a y.x.b.length y.c, .string ⟨y.x.t.toArray⟩] 33)
  have hX0 := Box.new w 33 #[.int .i64 y.x.form, .int .u64 (y.x.u : Int), .int .i64 y.x.s, .slice y.a y.x.b.length y.c, .string ⟨y.x.t.toArray⟩]
  have HR := Lib.hid (fun W (hW : Below w.heap.size w W) => rightV_any (hF.up hW) (hS.below hW hS.pos) y (((hy.more hbase).below hW).more hW.size) hu hb wide)
  obtain ⟨rr, hrr⟩ : ∃ rr, rightV y.x wide = rr := ⟨_, rfl⟩
  rw [hrr] at HR ⊢
  have HE := Lib.hid (show putWE y.x wide = if rr = true then 0 else 2 by rw [← hrr]; rfl)
  cases rr with
  | false =>
    have HA := Lib.hid hA
    clear hA hX0 hF hS hy hu hs hb hlen hown hbase hrr
    obtain ⟨x0, x1, x2, x3, x4⟩ := five_cellsR (Box.new w 33 #[.int .i64 y.x.form, .int .u64 (y.x.u : Int), .int .i64 y.x.s, .slice y.a y.x.b.length y.c, .string ⟨y.x.t.toArray⟩])
    generalize y.x.b.length = bn at *
    generalize (ByteArray.mk y.x.t.toArray) = ts at *
    go_enter Tryd.func16, Tryd.ntmps16
    go_wp2_with (go_at_call 18; refine (HR.out _ HA.out).mono ?_; rintro r w2 ⟨rfl, hb2⟩; have HB2 := Lib.hid (HA.out.trans (hb2.mono HA.out.size)); clear hb2)
    go_ret2
    refine ⟨.slice none 0 0, ?_, (fun h => by cases h), fun _ => ⟨rfl, HB2.out⟩⟩
    rw [HE.out]; rfl
  | true =>
    obtain ⟨hk0, hb9, ht5⟩ := rightV_spec hrr
    obtain ⟨n, hfn, hn⟩ := kindF_in hk0
    have HWD := Lib.hid (fun W (hW : Below w.heap.size w W) => (by have := width_any (hF.up hW) (hS.below hW hS.pos) hn wide; rwa [← hfn] at this : Calls Tryd.prog 37 #[.int .i64 y.x.form, .bool wide] W fun r w' => r = .returned (.int .i64 (widF y.x.form wide)) ∧ W = w'))
    have hzi := widF_in n hn wide
    rw [← hfn] at hzi
    have HWH := Lib.hid (fun W (hW : Below w.heap.size w W) => whole_any (hF.up hW) y (((hy.more hbase).below hW).more hW.size) hu hs hb9 ht5 (widF y.x.form wide) hzi)
    have HPV := Lib.hid (show putV y.x wide = wholeV y.x (widF y.x.form wide) from rfl)
    have HLN := Lib.hid (show l.length + (wholeV y.x (widF y.x.form wide)).length ≤ 140737488355328 by
      have := wholeV_len (z := widF y.x.form wide) hu hs hb9 ht5
      omega)
    have HA := Lib.hid hA
    have HX0 := Lib.hid hX0
    have HOW := Lib.hid hown
    have HBS := Lib.hid hbase
    generalize wholeV y.x (widF y.x.form wide) = M at *
    generalize widF y.x.form wide = z at *
    obtain ⟨bn, hbn⟩ : ∃ bn, y.x.b.length = bn := ⟨_, rfl⟩
    rw [hbn] at HR HWH HA HX0 ⊢
    obtain ⟨ts, hts⟩ : ∃ ts : ByteArray, ts = ⟨y.x.t.toArray⟩ := ⟨_, rfl⟩
    rw [← hts] at HR HWH HA HX0 ⊢
    obtain ⟨mn, hmn⟩ : ∃ mn, M.length = mn := ⟨_, rfl⟩
    have HMN := Lib.hid hmn
    clear hA hX0 hF hS hy hu hs hb hlen hown hbase hrr hk0 hb9 ht5 hfn hn hzi hbn hts hmn
    go_enter Tryd.func16, Tryd.ntmps16
    go_upto_region 1 with fail
    generalize hw1 : w.alloc (.cells #[.int .i64 y.x.form, .int .u64 (y.x.u : Int), .int .i64 y.x.s, .slice y.a bn y.c, .string ts] 33) = w1 at *
    clear hw1
    obtain ⟨x0, x1, x2, x3, x4⟩ := five_cellsR HX0.out
    go_upto_region 3 with (go_at_call 18; refine (HR.out _ HA.out).mono ?_; rintro r w2 ⟨rfl, hb2⟩; have HB12 := Lib.hid hb2; clear hb2)
    have HB2 := Lib.hid (HA.out.trans (HB12.out.mono HA.out.size))
    have HX2 := Lib.hid (HX0.out.below HB12.out HX0.out.lt)
    clear x0 x1 x2 x3 x4
    have KS := Lib.hid (fun X (hX : Below w2.heap.size w2 X) => (five_cellsR (HX2.out.below hX HX2.out.lt) : X.cell? ⟨w.heap.size, 0, none⟩ = some (.int .i64 y.x.form) ∧ X.cell? ⟨w.heap.size, 1, none⟩ = some (.int .u64 (y.x.u : Int)) ∧ X.cell? ⟨w.heap.size, 2, none⟩ = some (.int .i64 y.x.s) ∧ X.cell? ⟨w.heap.size, 3, none⟩ = some (.slice y.a bn y.c) ∧ X.cell? ⟨w.heap.size, 4, none⟩ = some (.string ts)))
    have hrf := Below.refl w2.heap.size w2
    first
      | (go_region_held_law (fun X => X.cell? ⟨w.heap.size, 0, none⟩ = some (.int .i64 y.x.form) ∧ X.cell? ⟨w.heap.size, 1, none⟩ = some (.int .u64 (y.x.u : Int)) ∧ X.cell? ⟨w.heap.size, 2, none⟩ = some (.int .i64 y.x.s) ∧ X.cell? ⟨w.heap.size, 3, none⟩ = some (.slice y.a bn y.c) ∧ X.cell? ⟨w.heap.size, 4, none⟩ = some (.string ts))
        ((first | (refine KS.out _ ?_; (repeat' (first | (with_reducible assumption) | (with_reducible refine below_drewN ?_ _) | (with_reducible refine Below.drew ?_))); done) | (refine K5.out _ ?_; (repeat' (first | (with_reducible assumption) | (with_reducible refine below_drewN ?_ _) | (with_reducible refine Below.drew ?_))); done)))
        (first
          | (go_at_call 37; refine (HWD.out _ (HB2.out.trans ((show Below w2.heap.size w2 _ from (by repeat' (first | (with_reducible assumption) | (with_reducible refine below_drewN ?_ _) | (with_reducible refine Below.drew ?_)))).mono HB2.out.size))).mono ?_; rintro r w3 ⟨rfl, rfl⟩)
          | (go_at_call 36; refine (HWH.out _ (HB2.out.trans ((show Below w2.heap.size w2 _ from (by repeat' (first | (with_reducible assumption) | (with_reducible refine below_drewN ?_ _) | (with_reducible refine Below.drew ?_)))).mono HB2.out.size))).mono ?_; rintro r w4 ⟨v4, rfl, hO4, hb4⟩; have hB4 : Below w2.heap.size w2 w4 := (show Below w2.heap.size w2 _ from (by repeat' (first | (with_reducible assumption) | (with_reducible refine below_drewN ?_ _) | (with_reducible refine Below.drew ?_)))).trans hb4; have HB4 := Lib.hid hB4; (obtain ⟨A4, c4, rfl, -, -, hr4⟩ := own_slice hO4); rw [HMN.out]; have HR4 := Lib.hid hr4; clear hb4 hO4 hr4)
          | (refine step_append_bytes (by rfl) (.tmp 12) (.tmp 18) _ (by rfl) base i0 Tryd.underlying22 hi hz0 hz1 hz2 v l (by rfl) (own_below HOW.out (HB2.out.trans (HB4.out.mono HB2.out.size))) w4.heap.size A4 mn c4 M HMN.out (by rfl) HR4.out HLN.out (Nat.le_trans HBS.out (HB2.out.trans (HB4.out.mono HB2.out.size)).size) ?_; intro v5 w5 hown5 hg5 hat5; have HL5 := Lib.hid (Laid.of_append (HB2.out.trans (HB4.out.mono HB2.out.size)) hown5 hg5 hat5); have K5 := Lib.hid (fun X (hX : Below w5.heap.size w5 X) => (five_cellsR (((HX2.out.below HB4.out HX2.out.lt).grown hg5 (fun e => own_other (own_below HOW.out (HB2.out.trans (HB4.out.mono HB2.out.size))) (HX2.out.below HB4.out HX2.out.lt) (by decide) e.symm)).below hX (Box.lt ((HX2.out.below HB4.out HX2.out.lt).grown hg5 (fun e => own_other (own_below HOW.out (HB2.out.trans (HB4.out.mono HB2.out.size))) (HX2.out.below HB4.out HX2.out.lt) (by decide) e.symm)))) : X.cell? ⟨w.heap.size, 0, none⟩ = some (.int .i64 y.x.form) ∧ X.cell? ⟨w.heap.size, 1, none⟩ = some (.int .u64 (y.x.u : Int)) ∧ X.cell? ⟨w.heap.size, 2, none⟩ = some (.int .i64 y.x.s) ∧ X.cell? ⟨w.heap.size, 3, none⟩ = some (.slice y.a bn y.c) ∧ X.cell? ⟨w.heap.size, 4, none⟩ = some (.string ts))); have hrf5 := Below.refl w5.heap.size w5; clear hown5 hg5 hat5)))
      | fail "no"
    all_goals simp only [List.getElem_toArray, List.getElem_cons_succ, List.getElem_cons_zero]
    all_goals go_wp2_with fail
    all_goals go_ret2
    all_goals refine ⟨v5, ?_, (fun _ => by rw [HPV.out]; exact HL5.out), fun h => by cases h⟩
    all_goals rw [HE.out]
    all_goals rfl

end Go.Proofs.YtpmndmbhkfbljaaDoor

namespace Go.Proofs.YtpmndmbhkfbljaaDoor
open Go Go.RowKit

/-- The form of a value, and the cursor behind it. -/
def formW (l : List UInt8) (f : Int) (s : CSt) : Int × CSt := if f = 22 then ((aheadW l s : Int), sU l s) else (f, s)
/-- What Take tells. -/
def takeW (l : List UInt8) (f imp : Int) (wide : Bool) (s : CSt) : RV × CSt :=
  if kindF (formW l f s).1 = 0 then (zeroV, sF (formW l f s).2 41)
  else if (readW l (formW l f s).1 imp wide (formW l f s).2).2.2 = 0 then readW l (formW l f s).1 imp wide (formW l f s).2
  else (zeroV, (readW l (formW l f s).1 imp wide (formW l f s).2).2)
theorem failOf_ne {e f : Int} (hf : f ≠ 0) : failOf e f ≠ 0 := by
  unfold failOf
  split
  · exact hf
  · assumption

/-- The pair, the result's cell, the cursor and the tables. -/
structure ESt (w wx : World) (g : Nat) (v : Value) (l : List UInt8) (s : CSt) (Hs Hr : Nat) (at_ f imp : Int) : Prop where
  ct : CT wx g v l s
  p : Box wx Hs 24 #[.int .i64 at_, .int .i64 f, .int .i64 imp]
  r : Box wx Hr 33 #[.int .i64 0, .int .u64 0, .int .i64 0, .slice none 0 0, .string ⟨#[]⟩]
  gr : w.grownBy wx (some g)
section
variable {w wx wy : World} {g : Nat} {v : Value} {l : List UInt8} {s s' : CSt} {Hs Hr : Nat} {at_ f f' imp : Int}
theorem ESt.call (h : ESt w wx g v l s Hs Hr at_ f imp) (ha : Apt w g Hs Hr) (hC : CT wy g v l s') (hG : wx.grownBy wy (some g)) : ESt w wy g v l s' Hs Hr at_ f imp :=
  ⟨hC, h.p.grown hG (fun e => by injection e with e; have := ha.g; have := ha.h0; omega), h.r.grown hG (fun e => by injection e with e; have := ha.g; have := ha.h1; omega), h.gr.trans hG⟩
theorem ESt.later (h : ESt w wx g v l s Hs Hr at_ f imp) (hb : Below wx.heap.size wx wy) : ESt w wy g v l s Hs Hr at_ f imp :=
  ⟨h.ct.below hb, h.p.below hb h.p.lt, h.r.below hb h.r.lt, h.gr.trans (only_below hb _)⟩
theorem ESt.set (h : ESt w wx g v l s Hs Hr at_ f imp) (ha : Apt w g Hs Hr) (f' : Int) : ESt w (wx.setCell ⟨Hs, 1, none⟩ (.int .i64 f')) g v l s Hs Hr at_ f' imp := by
  have G : wx.grownBy (wx.setCell ⟨Hs, 1, none⟩ (.int .i64 f')) (some Hs) := only_set (only_refl wx (some Hs)) 1 _
  exact ⟨h.ct.past h.p (by decide) G (by have := ha.g; have := ha.h0; omega) (by have := ha.f; have := ha.h0; omega) (by have := ha.z; have := ha.h0; omega), by simpa using h.p.set 1 (.int .i64 f'),
    h.r.grown G (fun e => by injection e with e; exact ha.ne e.symm), only_trans h.gr G (.inr fun x hx => by injection hx with hx; have := ha.h0; omega)⟩
theorem ESt.told (h : ESt w wx g v l s Hs Hr at_ f imp) (ha : Apt w g Hs Hr) (v0 v1 v2 v3 v4 : Value) :
    Box (((((wx.setCell ⟨Hr, 0, none⟩ v0).setCell ⟨Hr, 1, none⟩ v1).setCell ⟨Hr, 2, none⟩ v2).setCell ⟨Hr, 3, none⟩ v3).setCell ⟨Hr, 4, none⟩ v4) Hr 33 #[v0, v1, v2, v3, v4] ∧
    CT (((((wx.setCell ⟨Hr, 0, none⟩ v0).setCell ⟨Hr, 1, none⟩ v1).setCell ⟨Hr, 2, none⟩ v2).setCell ⟨Hr, 3, none⟩ v3).setCell ⟨Hr, 4, none⟩ v4) g v l s ∧
    (∀ b bl, Own wx w.heap.size b bl → Own (((((wx.setCell ⟨Hr, 0, none⟩ v0).setCell ⟨Hr, 1, none⟩ v1).setCell ⟨Hr, 2, none⟩ v2).setCell ⟨Hr, 3, none⟩ v3).setCell ⟨Hr, 4, none⟩ v4) w.heap.size b bl) ∧
    w.grownBy (((((wx.setCell ⟨Hr, 0, none⟩ v0).setCell ⟨Hr, 1, none⟩ v1).setCell ⟨Hr, 2, none⟩ v2).setCell ⟨Hr, 3, none⟩ v3).setCell ⟨Hr, 4, none⟩ v4) (some g) := by
  have G := five_onlyR wx Hr v0 v1 v2 v3 v4
  exact ⟨five_boxR h.r rfl _ _ _ _ _, h.ct.past h.r (by decide) G (by have := ha.g; have := ha.h1; omega) (by have := ha.f; have := ha.h1; omega) (by have := ha.z; have := ha.h1; omega), fun b bl ho => own_pastR ho h.r (by decide) G, only_trans h.gr G (.inr fun x hx => by injection hx with hx; have := ha.h1; omega)⟩
end
theorem three_cellsR {W : World} {H : Nat} {T : TypeId} {c0 c1 c2 : Value} (h : Box W H T #[c0, c1, c2]) : W.cell? ⟨H, 0, none⟩ = some c0 ∧ W.cell? ⟨H, 1, none⟩ = some c1 ∧ W.cell? ⟨H, 2, none⟩ = some c2 := by
  refine ⟨?_, ?_, ?_⟩ <;> (rw [h.cell]; rfl)

set_option maxRecDepth 10000 in
set_option maxHeartbeats 3200000 in
theorem takeW_st {w : World} {g : Nat} {v : Value} {l : List UInt8} {s : CSt} (h : CT w g v l s) (hlen : l.length ≤ 140737488355328) (at_ f imp : Int) (wide : Bool) :
    Calls Tryd.prog 9 #[.pointer (some ⟨g, 0, none⟩), .agg #[.int .i64 at_, .int .i64 f, .int .i64 imp], .bool wide] w fun r w' =>
      RawIs w.heap.size w' (takeW l f imp wide s).1 r ∧ CT w' g v l (takeW l f imp wide s).2 ∧ w.grownBy w' (some g) := by
  have HGW := Lib.hid (show g < w.heap.size from h.c.1.lt)
  have hmf : ∀ (fn : Fn) (first cap : Array Value) (W : World), (Instr.makeFunc fn first cap).run Tryd.prog W = .ok (.func fn first cap) W := fun _ _ _ _ => rfl
  have HAH := Lib.hid (fun W (hW : CT W g v l s) => ahead_st hW hlen)
  have HK := Lib.hid (fun W s' (hW : CT W g v l s') f' => kind_any hW.f f')
  have HFL := Lib.hid (fun W s' (hW : CT W g v l s') => f_st (s := s') hW.c 41)
  have HVA := Lib.hid (fun W s' (hW : CT W g v l s') (n : Nat) (hn : n < 45) => value_st hW hlen hn at_ imp wide)
  have HER := Lib.hid (fun W s' (hW : CT W g v l s') => err_cur hW.c)
  have HFW := Lib.hid (show formW l f s = if f = 22 then ((aheadW l s : Int), sU l s) else (f, s) from rfl)
  have HTW := Lib.hid (show takeW l f imp wide s = if kindF (formW l f s).1 = 0 then (zeroV, sF (formW l f s).2 41)
    else if (readW l (formW l f s).1 imp wide (formW l f s).2).2.2 = 0 then readW l (formW l f s).1 imp wide (formW l f s).2
    else (zeroV, (readW l (formW l f s).1 imp wide (formW l f s).2).2) from rfl)
  obtain ⟨f', s', hfs⟩ : ∃ f' s', formW l f s = (f', s') := ⟨_, _, rfl⟩
  rw [hfs] at HFW HTW
  simp only at HTW
  generalize takeW l f imp wide s = R at *
  have HC := Lib.hid h
  clear h hfs
  go_enter Tryd.func9, Tryd.ntmps9
  go_upto_region 1 with fail
  have HA := Lib.hid (show Apt w g w.heap.size (w.heap.size + 1) from ⟨HGW.out, HC.out.f.pos, HC.out.z.pos, Nat.le_refl _, Nat.le_succ _, by omega⟩)
  generalize hw0 : w.alloc (.cells #[.int .i64 at_, .int .i64 f, .int .i64 imp] 24) = w0
  have hs0 : w0.heap.size = w.heap.size + 1 := by rw [← hw0]; simp
  generalize hw1 : w0.alloc (.cells #[.int .i64 0, .int .u64 0, .int .i64 0, .slice none 0 0, .string ⟨#[]⟩] 33) = w1
  have hX0 := Box.new w 24 #[.int .i64 at_, .int .i64 f, .int .i64 imp]
  rw [hw0] at hX0
  have hX1 := Box.new w0 33 #[.int .i64 0, .int .u64 0, .int .i64 0, .slice none 0 0, .string ⟨#[]⟩]
  rw [hw1, hs0] at hX1
  have hb0 : Below w.heap.size w w0 := hw0 ▸ (Below.refl _ _).alloc (Nat.le_refl _) _
  have hb1 : Below w0.heap.size w0 w1 := hw1 ▸ (Below.refl _ _).alloc (Nat.le_refl _) _
  have hb01 := hb0.trans (hb1.mono hb0.size)
  have HE := Lib.hid (show ESt w w1 g v l s w.heap.size (w.heap.size + 1) at_ f imp from ⟨HC.out.below hb01, hX0.below hb1 hX0.lt, hX1, only_below hb01 _⟩)
  clear hw0 hs0 hw1 hX0 hX1 hb0 hb1 hb01 HGW HC
  generalize hHr : w.heap.size + 1 = Hr at *
  generalize hHs : w.heap.size = Hs at HA HE ⊢
  have HHS := Lib.hid hHs
  clear hHr hHs
  obtain ⟨p0, p1, p2⟩ := three_cellsR HE.out.p
  have q1 := HE.out.p.free 1
  go_upto_if 11 with fail
  go_cut [] (fun wx => ESt w wx g v l s' Hs Hr at_ f' imp)
  case first =>
    by_cases h22 : f = 22
    · have q : (f == 22) = true := by simpa using h22
      have he := HFW.out
      rw [if_pos h22] at he
      obtain ⟨rfl, rfl⟩ := Prod.mk.inj he
      clear he h22
      go_upto_region 2 with fail
      go_wp2_with (go_at_call 23; refine (HAH.out _ HE.out.ct).mono ?_; rintro r w2 ⟨rfl, hC2, hG2⟩; have HE2 := Lib.hid (HE.out.call HA.out hC2 hG2); (obtain ⟨y0, y1, y2⟩ := three_cellsR HE2.out.p); have y3 := HE2.out.p.free 1; clear hC2 hG2)
      go_meet
      case rel => exact HE2.out.set HA.out _
    · have q : (f == 22) = false := by simpa using h22
      have he := HFW.out
      rw [if_neg h22] at he
      obtain ⟨rfl, rfl⟩ := Prod.mk.inj he
      clear he h22
      go_wp2_with fail
      go_meet
      case rel => exact HE.out
  case rest =>
    have HE3 := Lib.hid hcut
    clear hcut p0 p1 p2 q1 HE HFW HAH
    obtain ⟨p0, p1, p2⟩ := three_cellsR HE3.out.p
    obtain ⟨k, hk⟩ : ∃ k, kindF f' = k := ⟨_, rfl⟩
    have HKK := Lib.hid hk
    rw [hk] at HTW
    by_cases h0 : k = 0
    · have q : (k == 0) = true := by simpa using h0
      rw [if_pos h0] at HTW
      clear h0 hk
      go_upto_region 5 with (first
        | (go_at_call 14; refine (HK.out _ _ HE3.out.ct f').mono ?_; rw [HKK.out]; rintro r w2 ⟨rfl, rfl⟩)
        | (go_at_call 24; refine (HFL.out _ _ HE3.out.ct).mono ?_; rintro r w4 ⟨rfl, hC4, hG4⟩; have HE4 := Lib.hid (HE3.out.call HA.out (HE3.out.ct.step hC4 hG4) hG4); clear hC4 hG4))
      obtain ⟨z0, z1, z2, z3, z4⟩ := five_cellsR HE4.out.r
      obtain ⟨f0, f1, f2, f3, f4⟩ := five_freeR HE4.out.r
      go_wp2_with fail
      refine ret_one Tryd.underlying33 Tryd.results9 (HE4.out.told HA.out _ _ _ _ _).1 (by kernel_rfl) (by rfl) rfl ?_
      obtain ⟨-, t1, t2, t3⟩ := HE4.out.told HA.out (.int .i64 0) (.int .u64 0) (.int .i64 0) (.slice none 0 0) (.string ⟨#[]⟩)
      exact ⟨⟨none, 0, by rw [HTW.out]; rfl, by rw [HTW.out]; exact own_nilR _ _⟩, by rw [HTW.out]; exact t1, t3⟩
    · have q : (k == 0) = false := by simpa using h0
      obtain ⟨n, hfn, hn⟩ := kindF_in (f := f') (by rw [hk]; exact h0)
      rw [if_neg h0] at HTW
      clear h0 hk
      subst hfn
      go_upto_region 6 with (go_at_call 14; refine (HK.out _ _ HE3.out.ct (n : Int)).mono ?_; rw [HKK.out]; rintro r w2 ⟨rfl, rfl⟩)
      go_upto_region 7 with fail
      have hX4 := Box.new wc 56 #[.pointer (some ⟨g, 0, none⟩), .int .i64 at_, .int .i64 (n : Int), .int .i64 imp, .bool wide]
      have hb4 : Below wc.heap.size wc (wc.alloc (.cells #[.pointer (some ⟨g, 0, none⟩), .int .i64 at_, .int .i64 (n : Int), .int .i64 imp, .bool wide] 56)) := (Below.refl _ _).alloc (Nat.le_refl _) _
      generalize hw4 : wc.alloc (.cells #[.pointer (some ⟨g, 0, none⟩), .int .i64 at_, .int .i64 (n : Int), .int .i64 imp, .bool wide] 56) = w4 at *
      have HE4 := Lib.hid (HE3.out.later hb4)
      clear hw4 hb4 p0 p1 p2
      obtain ⟨p0, p1, p2⟩ := three_cellsR HE4.out.p
      obtain ⟨x0, x1, x2, x3, x4⟩ := five_cellsR hX4
      have HRE := Lib.hid (show R = if (readW l (n : Int) imp wide s').2.2 = 0 then readW l (n : Int) imp wide s' else (zeroV, (readW l (n : Int) imp wide s').2) from HTW.out)
      have HV := Lib.hid (HVA.out w4 s' HE4.out.ct n hn)
      clear HTW hX4 HVA hn
      obtain ⟨X, s5, hX⟩ : ∃ X s5, readW l (n : Int) imp wide s' = (X, s5) := ⟨_, _, rfl⟩
      rw [hX] at HRE HV
      simp only at HRE HV
      clear hX
      obtain ⟨bn, hbn⟩ : ∃ bn, X.b.length = bn := ⟨_, rfl⟩
      have HBN := Lib.hid hbn
      clear hbn
      generalize wc.heap.size = Hd at *
      have HHS4 := Lib.hid (show Hs ≤ w4.heap.size from by rw [← HHS.out]; exact HE4.out.gr.size)
      go_upto_region 8 with (go_at_call 25; refine HV.out.mono ?_; rintro r w5 ⟨⟨A5, c5, rfl, hO5⟩, hC5, hG5⟩; have HE5 := Lib.hid (HE4.out.call HA.out hC5 hG5); have HO5 := Lib.hid (own_base hO5 HHS4.out); rw [HBN.out] at HO5; rw [HBN.out]; clear hO5 hC5 hG5)
      have hX6 := Box.new w5 33 #[.int .i64 X.form, .int .u64 (X.u : Int), .int .i64 X.s, .slice A5 bn c5, .string ⟨X.t.toArray⟩]
      have hb6 : Below w5.heap.size w5 (w5.alloc (.cells #[.int .i64 X.form, .int .u64 (X.u : Int), .int .i64 X.s, .slice A5 bn c5, .string ⟨X.t.toArray⟩] 33)) := (Below.refl _ _).alloc (Nat.le_refl _) _
      generalize hw6 : w5.alloc (.cells #[.int .i64 X.form, .int .u64 (X.u : Int), .int .i64 X.s, .slice A5 bn c5, .string ⟨X.t.toArray⟩] 33) = w6 at *
      have HE6 := Lib.hid (HE5.out.later hb6)
      have HO6 := Lib.hid (own_below HO5.out hb6)
      have HHR := Lib.hid (show Hr ≠ w5.heap.size from Nat.ne_of_lt HE5.out.r.lt)
      clear hw6 hb6
      obtain ⟨x0, x1, x2, x3, x4⟩ := five_cellsR hX6
      obtain ⟨z0, z1, z2, z3, z4⟩ := five_cellsR HE6.out.r
      obtain ⟨f0, f1, f2, f3, f4⟩ := five_freeR HE6.out.r
      generalize w5.heap.size = Hx at *
      by_cases he : s5.2 = 0
      · have q : (s5.2 != 0) = false := by rw [he]; rfl
        rw [if_pos he] at HRE
        clear he hX6
        have hne := HHR.out
        have hne2 := HHR.out.symm
        go_wp2_with (go_at_call 12; refine (HER.out _ _ HE6.out.ct).mono ?_; rintro r w7 ⟨rfl, rfl⟩)
        refine ret_one Tryd.underlying33 Tryd.results9 (HE6.out.told HA.out _ _ _ _ _).1 (by kernel_rfl) (by rfl) rfl ?_
        obtain ⟨-, t1, t2, t3⟩ := HE6.out.told HA.out (.int .i64 X.form) (.int .u64 (X.u : Int)) (.int .i64 X.s) (.slice A5 bn c5) (.string ⟨X.t.toArray⟩)
        refine ⟨⟨A5, c5, ?_, ?_⟩, by rw [HRE.out]; exact t1, t3⟩
        · rw [HRE.out]; simp only [HBN.out]
        · rw [HRE.out]; simp only [HBN.out]; exact t2 _ _ (by rw [HHS.out]; exact HO6.out)
      · have q : (s5.2 != 0) = true := by simpa using he
        rw [if_neg he] at HRE
        clear he hX6
        go_wp2_with (go_at_call 12; refine (HER.out _ _ HE6.out.ct).mono ?_; rintro r w7 ⟨rfl, rfl⟩)
        refine ret_one Tryd.underlying33 Tryd.results9 (HE6.out.told HA.out _ _ _ _ _).1 (by kernel_rfl) (by rfl) rfl ?_
        obtain ⟨-, t1, t2, t3⟩ := HE6.out.told HA.out (.int .i64 0) (.int .u64 0) (.int .i64 0) (.slice none 0 0) (.string ⟨#[]⟩)
        exact ⟨⟨none, 0, by rw [HRE.out]; rfl, by rw [HRE.out]; exact own_nilR _ _⟩, by rw [HRE.out]; exact t1, t3⟩

end Go.Proofs.YtpmndmbhkfbljaaDoor
