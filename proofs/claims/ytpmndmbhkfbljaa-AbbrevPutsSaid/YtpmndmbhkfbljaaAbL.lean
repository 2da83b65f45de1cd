/-
  The document's Right of tables.
-/
import Derived.Test.YtpmndmbhkfbljaaAbK
import Derived.Test.YtpmndmbhkfbljaaLebP
import Derived.Test.YtpmndmbhkfbljaaParts
import Derived.Test.YtpmndmbhkfbljaaWorks
namespace Go.Proofs.Ytpmndmbhkfbljaa
open Go Go.RowKit Go.Maps

theorem truth_any (w : World) (b : Bool) : Calls Try.prog 49 #[.bool b] w fun r w' => r = .returned (.int .u8 ((kidB b).toNat : Int)) ∧ w = w' := by
  cases b with
  | true =>
    go_enter Try.func49, Try.ntmps49
    go_wp2_with fail
    go_ret
    exact ⟨rfl, rfl⟩
  | false =>
    go_enter Try.func49, Try.ntmps49
    go_wp2_with fail
    go_ret
    exact ⟨rfl, rfl⟩

section
variable {w W W1 : World} {base g : Nat} {v u u1 : Value} {l L L1 : List UInt8} {T : TypeId} {cs : Array Value}
theorem laid_on (h : Own w base v l) (hb : Below w.heap.size w W) : Laid w W base v v l := ⟨row_below h hb, only_below hb _, .inl rfl⟩
theorem laid_box (hO : Own W base u L) (hL : Laid W W1 base u u1 L1) (hX : Box W g T cs) (hT : 5 ≠ T) : Box W1 g T cs := hX.grown hL.2.1 (fun e => own_other hO hX hT e.symm)
theorem laid_under (hO : Own w base v l) (hb : base ≤ w.heap.size) (hL : Laid w W base v u L) : Below base w W := below_of_only hL.2.1 hb fun k hk => (own_ge hO k hk).1
end
/-- A pair's bytes, its numbers known. -/
theorem spcB_nat {x : Spc} {p q : Nat} (hp : x.at_ = (p : Int)) (hq : x.form = (q : Int)) : spcB x = lebPut (sizeU p) (p : Int) ++ lebPut (sizeU q) (q : Int) ++ (if x.form = 33 then lebPut (sizeS x.imp) x.imp else []) := by
  unfold spcB
  rw [hp, Int.toNat_natCast, hq, Int.toNat_natCast]
theorem putU_len {n : Nat} (hn : n < 2 ^ 64) : (lebPut (sizeU n) (n : Int)).length ≤ 10 := by
  have h := sizeU_range n hn
  rw [lebPut_length _ _ h.1]
  exact h.2
theorem putS_len {n : Int} (hn : InI n) : (lebPut (sizeS n) n).length ≤ 10 := by
  have h := sizeS_range n hn
  rw [lebPut_length _ _ h.1]
  exact h.2
theorem numbK_nat {n : Int} (h : numbK n = true) : ∃ p : Nat, n = (p : Int) ∧ 1 ≤ p ∧ p ≤ 65535 := by
  unfold numbK at h
  rw [Bool.and_eq_true, decide_eq_true_eq, decide_eq_true_eq] at h
  exact ⟨n.toNat, by omega, by omega, by omega⟩
theorem okP_nat {x : Spc} (h : okP x = true) : ∃ p q : Nat, x.at_ = (p : Int) ∧ x.form = (q : Int) ∧ 1 ≤ p ∧ p ≤ 65535 ∧ 1 ≤ q ∧ q ≤ 65535 ∧ (q ≠ 33 → x.imp = 0) := by
  unfold okP at h
  rw [Bool.and_eq_true, Bool.and_eq_true] at h
  obtain ⟨p, h1, h2, h3⟩ := numbK_nat h.1
  obtain ⟨q, h4, h5, h6⟩ := numbK_nat h.2.1
  refine ⟨p, q, h1, h4, h2, h3, h5, h6, fun hq => ?_⟩
  have := h.2.2
  rw [Bool.or_eq_true, decide_eq_true_eq, decide_eq_true_eq] at this
  rcases this with h | h
  · omega
  · exact h
theorem spcB_len {x : Spc} (h : okP x = true) (hi : InI x.imp) : (spcB x).length ≤ 30 := by
  obtain ⟨p, q, h1, h2, -, h3, -, h4, -⟩ := okP_nat h
  rw [spcB_nat h1 h2, List.length_append, List.length_append]
  have h5 := putU_len (n := p) (by omega)
  have h6 := putU_len (n := q) (by omega)
  have h7 := putS_len hi
  split
  · omega
  · simp only [List.length_nil]; omega
theorem spcsB_len : ∀ {l : List Spc}, l.all okP = true → (∀ x ∈ l, x.In) → (spcsB l).length ≤ 30 * l.length
  | [], _, _ => Nat.zero_le _
  | x :: l, h, hi => by
    rw [List.all_cons, Bool.and_eq_true] at h
    have h1 := spcB_len h.1 (hi x List.mem_cons_self).2.2
    have h2 := spcsB_len h.2 (fun y hy => hi y (List.mem_cons_of_mem _ hy))
    rw [show spcsB (x :: l) = spcB x ++ spcsB l from rfl, List.length_append, List.length_cons]
    omega
theorem spcsB_take {l : List Spc} {k : Nat} {x : Spc} (h : l[k]? = some x) : spcsB (l.take (k + 1)) = spcsB (l.take k) ++ spcB x := by
  unfold spcsB
  rw [List.take_add_one, h, List.flatMap_append]
  simp
theorem okA_spec {x : Abb} (h : okA x = true) : x.code ≠ 0 ∧ numbK x.tag = true ∧ x.l.length ≤ 40 ∧ x.l.all okP = true ∧ (x.l.map Spc.at_).Nodup := by
  unfold okA at h
  simp only [Bool.and_eq_true, Bool.not_eq_true', decide_eq_false_iff_not, decide_eq_true_eq] at h
  exact ⟨h.1, h.2.1, h.2.2.1, h.2.2.2.1, by simpa [onceB] using h.2.2.2.2⟩
theorem all_at {α : Type} {p : α → Bool} {l : List α} (h : l.all p = true) {k : Nat} {x : α} (hx : l[k]? = some x) : p x = true := List.all_eq_true.1 h x (List.mem_of_getElem? hx)

set_option maxRecDepth 10000 in
set_option maxHeartbeats 3200000 in
theorem put1_any {w : World} {base : Nat} {v : Value} {l : List UInt8} (hown : Own w base v l) (hbase : base ≤ w.heap.size) (y : ALay) (hy : Spcs w base y.a y.x.l) (hin : y.x.In) (hok : okA y.x = true) (hlen : l.length ≤ 140737488350000) :
    Calls Try.prog 31 #[v, .agg #[.int .u64 (y.x.code : Int), .int .i64 y.x.tag, .bool y.x.kids, .slice y.a y.x.l.length y.c]] w fun r w' => ∃ v', r = .returned v' ∧ Laid w w' base v v' (l ++ abbB y.x) := by
  obtain ⟨i0, hi, hz0, hz1, hz2⟩ := info_parts u8_info
  obtain ⟨-, htg, h40, hall, -⟩ := okA_spec hok
  obtain ⟨t, ht, ht1, ht6⟩ := numbK_nat htg
  have HAB := Lib.hid (show abbB y.x = lebPut (sizeU y.x.code) (y.x.code : Int) ++ lebPut (sizeU t) (t : Int) ++ [kidB y.x.kids] ++ spcsB y.x.l ++ [0, 0] by unfold abbB; rw [ht, Int.toNat_natCast])
  obtain ⟨N, hN⟩ : ∃ N, y.x.l.length = N := ⟨_, rfl⟩
  have hc := hin.code
  have HSI := Lib.hid hin.spcs
  have HALL := Lib.hid hall
  rw [hN] at h40 ⊢
  rw [ht]
  have HN := Lib.hid hN
  clear htg hall ht hok hin hN
  have HPU := Lib.hid (fun (W : World) (u : Value) (L : List UInt8) (hO : Own W base u L) (hb : base ≤ W.heap.size) (hl : L.length ≤ 140737488355000) (n : Nat) (hn : n < 2 ^ 64) => putU_any hO hb n hn hl)
  have HPS := Lib.hid (fun (W : World) (u : Value) (L : List UInt8) (hO : Own W base u L) (hb : base ≤ W.heap.size) (hl : L.length ≤ 140737488355000) (n : Int) (hn : InI n) => putS_any hO hb n hn hl)
  have HTR := Lib.hid truth_any
  have HKB := Lib.hid (show ((kidB y.x.kids).toNat : Int) = ((kidB y.x.kids).toNat : Int) from rfl)
  have hl1 := putU_len (n := y.x.code) (by unfold two64 at hc; omega)
  have hl2 := putU_len (n := t) (by omega)
  have hct : IntKind.u64.wrap (t : Int) = (t : Int) := by rw [IntWalk.u64_in _ (by omega)]
  have hc64 : y.x.code < 2 ^ 64 := by unfold two64 at hc; omega
  have HC64 := Lib.hid hc64
  generalize hP1 : lebPut (sizeU y.x.code) (y.x.code : Int) = P1 at *
  generalize hP2 : lebPut (sizeU t) (t : Int) = P2 at *
  have HP1 := Lib.hid hP1
  have HP2 := Lib.hid hP2
  have HLS := Lib.hid (And.intro hl1 (And.intro hl2 hlen))
  generalize hw0 : w.alloc (.cells #[.int .u64 (y.x.code : Int), .int .i64 (t : Int), .bool y.x.kids, .slice y.a N y.c] 50) = w0 at *
  have hb0 : Below w.heap.size w w0 := hw0 ▸ (Below.refl _ _).alloc (Nat.le_refl _) _
  have HX0 := Box.new w 50 #[.int .u64 (y.x.code : Int), .int .i64 (t : Int), .bool y.x.kids, .slice y.a N y.c]
  rw [hw0] at HX0
  have HX := Lib.hid HX0
  have HL0 := Lib.hid (laid_on hown hb0)
  have HB0 := Lib.hid hb0
  have HOW := Lib.hid hown
  have HYY := Lib.hid hy
  have HBS := Lib.hid hbase
  obtain ⟨k0, k1, k2, k3⟩ := four_cells HX0
  clear hP1 hP2 hl1 hl2 hc hc64 hlen hown hbase hb0 HX0 hy HKB
  generalize y.x.code = cd at *
  generalize y.x.kids = kd at *
  generalize y.a = ya at *
  generalize y.c = yc at *
  generalize y.x.l = yl at *
  go_enter Try.func31, Try.ntmps31
  go_upto_region 1 with fail
  try rw [hw0]
  clear hw0
  go_upto_region 2 with (go_at_call 48; refine (HPU.out _ _ _ HL0.out.1 (Nat.le_trans HBS.out HB0.out.size) (by have := HLS.out; omega) cd HC64.out).mono ?_; rintro r w1 ⟨v1, rfl, hL1⟩; have HX1 := Lib.hid (laid_box HL0.out.1 hL1 HX.out (by decide)); have HL1 := Lib.hid (HL0.out.trans hL1); clear hL1)
  clear k0 k1 k2 k3
  obtain ⟨k0, k1, k2, k3⟩ := four_cells HX1.out
  go_upto_region 3 with (go_at_call 48; refine (HPU.out _ _ _ HL1.out.1 (Nat.le_trans HBS.out HL1.out.2.1.size) (by have := HLS.out; rw [HP1.out, List.length_append]; omega) t (by omega)).mono ?_; rintro r w2 ⟨v2, rfl, hL2⟩; have HX2 := Lib.hid (laid_box HL1.out.1 hL2 HX1.out (by decide)); have HL2 := Lib.hid (HL1.out.trans hL2); clear hL2)
  clear k0 k1 k2 k3 HX1
  obtain ⟨k0, k1, k2, k3⟩ := four_cells HX2.out
  have HRD := Lib.hid (rd_one w2 _ (kidB kd) rfl)
  have HSM := Lib.hid (show (l ++ P1 ++ P2).length + [kidB kd].length ≤ 140737488355328 by
    have := HLS.out
    simp only [List.length_append, List.length_cons, List.length_nil]
    omega)
  rw [HP1.out, HP2.out] at HL2
  have HA2 := Lib.hid ((Below.refl w2.heap.size w2).alloc (Nat.le_refl _) (.cells #[.int .u8 ((kidB kd).toNat : Int)] 5))
  have hbs2 : base ≤ (w2.alloc (.cells #[.int .u8 ((kidB kd).toNat : Int)] 5)).heap.size := Nat.le_trans (Nat.le_trans HBS.out HL2.out.2.1.size) HA2.out.size
  go_upto_region 4 with (first
    | (go_at_call 49; refine (HTR.out _ _).mono ?_; rintro r w2' ⟨rfl, rfl⟩)
    | (at_builtin; refine wpList_append_bytes (by rfl) (.tmp 16) (.tmp 20) _ (by rfl) base i0 Try.underlying22 hi hz0 hz1 hz2 v2 (l ++ P1 ++ P2) (by rfl) (row_below HL2.out.1 HA2.out) (w2.heap.size + 1) (some ⟨w2.heap.size, 0, none⟩) 1 1 [kidB kd] rfl (by rfl) HRD.out HSM.out hbs2 ?_; intro v3 w3 hown3 hg3 hat3; have hL3 := Laid.of_append HA2.out hown3 hg3 hat3; have HX3 := Lib.hid (laid_box HL2.out.1 hL3 HX2.out (by decide)); have HL3 := Lib.hid (HL2.out.trans hL3); clear hL3 hown3 hg3 hat3))
  clear k0 k1 k2 k3 HX2 hbs2
  obtain ⟨k0, k1, k2, k3⟩ := four_cells HX3.out
  obtain ⟨X0, hX0⟩ : ∃ X0, l ++ P1 ++ P2 ++ [kidB kd] = X0 := ⟨_, rfl⟩
  have HX0 := Lib.hid hX0
  have HXL := Lib.hid (show X0.length ≤ 140737488350021 by
    rw [← hX0]
    have := HLS.out
    simp only [List.length_append, List.length_cons, List.length_nil]
    omega)
  rw [hX0] at HL3
  have HST := Lib.hid (show Laid w w3 base v v3 (X0 ++ spcsB (yl.take 0)) by
    rw [show spcsB (yl.take 0) = [] from rfl, List.append_nil]; exact HL3.out)
  clear hX0 HX3
  go_wp2_with fail
  go_loopg [0, 25] N (fun gk u z wr => ∃ j : Nat, j ≤ N ∧ gk = N - j ∧ z = .int .i64 j ∧ Hid (Laid w wr base v u (X0 ++ spcsB (yl.take j))))
  case atStart => exact ⟨0, Nat.zero_le _, rfl, rfl, HST⟩
  case round =>
    obtain ⟨j, hj, rfl, rfl, HLJ⟩ := hrel
    clear HST
    have HLN := Lib.hid (show (X0 ++ spcsB (yl.take j)).length ≤ 140737488351221 by
      have h1 := spcsB_len (l := yl.take j) (by rw [List.all_eq_true]; intro x hx; exact List.all_eq_true.1 HALL.out x (List.mem_of_mem_take hx)) (fun x hx => HSI.out x (List.mem_of_mem_take hx))
      have h2 : (yl.take j).length ≤ 40 := by rw [List.length_take]; omega
      have h3 := HXL.out
      rw [List.length_append]
      omega)
    by_cases hlt : j < N
    · have HLT := Lib.hid hlt
      obtain ⟨x, hx⟩ : ∃ x, yl[j]? = some x := ⟨_, List.getElem?_eq_getElem (by rw [HN.out]; exact hlt)⟩
      have hbl := laid_under HOW.out HBS.out HLJ.out
      obtain ⟨b, o, rfl, hb, c0, c1, c2⟩ := spc_at (Row.below HYY.out hbl) hx
      obtain ⟨p, q, hp, hq, hp1, hp6, hq1, hq6, -⟩ := okP_nat (all_at HALL.out hx)
      have hxi := (HSI.out x (List.mem_of_getElem? hx)).2.2
      have HTK := Lib.hid (show spcsB (yl.take (j + 1)) = spcsB (yl.take j) ++ (lebPut (sizeU p) (p : Int) ++ lebPut (sizeU q) (q : Int) ++ (if q = 33 then lebPut (sizeS x.imp) x.imp else [])) by
        rw [spcsB_take hx, spcB_nat hp hq, hq]
        by_cases h33 : q = 33
        · rw [if_pos h33, if_pos (by omega)]
        · rw [if_neg h33, if_neg (by omega)])
      rw [hp] at c0
      rw [hq] at c1
      have HIM := Lib.hid hxi
      generalize x.imp = im at *
      clear hx hp hq hxi hbl
      have hwp : IntKind.u64.wrap (p : Int) = (p : Int) := by rw [IntWalk.u64_in _ (by omega)]
      have hwq : IntKind.u64.wrap (q : Int) = (q : Int) := by rw [IntWalk.u64_in _ (by omega)]
      have HLQ := Lib.hid (And.intro (putU_len (n := p) (by omega)) (And.intro (putU_len (n := q) (by omega)) (putS_len HIM.out)))
      have hA := (Below.refl wr.heap.size wr).alloc (Nat.le_refl _) (.cells #[.int .i64 (p : Int), .int .i64 (q : Int), .int .i64 im] 56)
      have HLA := Lib.hid (HLJ.out.trans (laid_on HLJ.out.1 hA))
      have HXA := Lib.hid (Box.new wr 56 #[.int .i64 (p : Int), .int .i64 (q : Int), .int .i64 im])
      clear hA
      go_upto_region 7 with fail
      generalize hwa : wr.alloc (.cells #[.int .i64 (p : Int), .int .i64 (q : Int), .int .i64 im] 56) = wa at *
      have t0 := HXA.out.cell 0
      have t1 := HXA.out.cell 1
      have t2 := HXA.out.cell 2
      simp at t0 t1 t2
      clear hwa c0 c1 c2
      go_upto_region 8 with (go_at_call 48; refine (HPU.out _ _ _ HLA.out.1 (Nat.le_trans HBS.out HLA.out.2.1.size) (by have := HLN.out; omega) p (by omega)).mono ?_; rintro r w4 ⟨v4, rfl, hL4⟩; have HX4 := Lib.hid (laid_box HLA.out.1 hL4 HXA.out (by decide)); have HL4 := Lib.hid (HLA.out.trans hL4); clear hL4)
      clear t0 t1 t2
      have t0 := HX4.out.cell 0
      have t1 := HX4.out.cell 1
      have t2 := HX4.out.cell 2
      simp at t0 t1 t2
      go_upto_region 9 with (go_at_call 48; refine (HPU.out _ _ _ HL4.out.1 (Nat.le_trans HBS.out HL4.out.2.1.size) (by have := HLN.out; have := HLQ.out; rw [List.length_append]; omega) q (by omega)).mono ?_; rintro r w5 ⟨v5, rfl, hL5⟩; have HX5 := Lib.hid (laid_box HL4.out.1 hL5 HX4.out (by decide)); have HL5 := Lib.hid (HL4.out.trans hL5); clear hL5)
      clear t0 t1 t2
      have t0 := HX5.out.cell 0
      have t1 := HX5.out.cell 1
      have t2 := HX5.out.cell 2
      simp at t0 t1 t2
      by_cases h33 : q = 33
      · have n33 : ((q : Int) == 33) = true := by simp [h33]
        rw [if_pos h33] at HTK
        clear h33
        go_wp2_with (go_at_call 50; refine (HPS.out _ _ _ HL5.out.1 (Nat.le_trans HBS.out HL5.out.2.1.size) (by have := HLN.out; have := HLQ.out; rw [List.length_append, List.length_append]; omega) im HIM.out).mono ?_; rintro r w6 ⟨v6, rfl, hL6⟩; have HL6 := Lib.hid (HL5.out.trans hL6); clear hL6)
        go_roundg (N - (j + 1))
        case measure => have := HLT.out; omega
        case rel => exact ⟨j + 1, HLT.out, rfl, by go_num, Lib.hid (by rw [HTK.out]; have := HL6.out; simpa only [List.append_assoc] using this)⟩
      · have n33 : ((q : Int) == 33) = false := by simp; omega
        rw [if_neg h33, List.append_nil] at HTK
        clear h33
        go_wp2_with fail
        go_roundg (N - (j + 1))
        case measure => have := HLT.out; omega
        case rel => exact ⟨j + 1, HLT.out, rfl, by go_num, Lib.hid (by rw [HTK.out]; have := HL5.out; simpa only [List.append_assoc] using this)⟩
    · obtain rfl : j = N := by omega
      have HLE := Lib.hid (show Laid w wr base v _ (X0 ++ spcsB yl) from by have := HLJ.out; rwa [List.take_of_length_le (by rw [HN.out]; exact Nat.le_refl _)] at this)
      have HSM2 := Lib.hid (show (X0 ++ spcsB yl).length + ([0, 0] : List UInt8).length ≤ 140737488355328 by
        have := HLN.out
        rw [List.take_of_length_le (by rw [HN.out]; exact Nat.le_refl _)] at this
        simp only [List.length_cons, List.length_nil]
        omega)
      have HA2 := Lib.hid ((Below.refl wr.heap.size wr).alloc (Nat.le_refl _) (.cells #[.int .u8 0, .int .u8 0] 5))
      have HRD2 := Lib.hid (show Rd (wr.alloc (.cells #[.int .u8 0, .int .u8 0] 5)) (wr.heap.size + 1) (some ⟨wr.heap.size, 0, none⟩) ([0, 0] : List UInt8) from rd_lit wr [0, 0])
      have hbs2 : base ≤ (wr.alloc (.cells #[.int .u8 0, .int .u8 0] 5)).heap.size := Nat.le_trans (Nat.le_trans HBS.out HLE.out.2.1.size) HA2.out.size
      clear HLJ hlt
      go_wp2_with (at_builtin; refine wpList_append_bytes (by rfl) (.tmp 47) (.tmp 48) _ (by rfl) base i0 Try.underlying22 hi hz0 hz1 hz2 _ (X0 ++ spcsB yl) (by rfl) (row_below HLE.out.1 HA2.out) (wr.heap.size + 1) (some ⟨wr.heap.size, 0, none⟩) 2 2 [0, 0] rfl (by rfl) HRD2.out HSM2.out hbs2 ?_; intro v7 w7 hown7 hg7 hat7; have HL7 := Lib.hid (HLE.out.trans (Laid.of_append HA2.out hown7 hg7 hat7)); clear hown7 hg7 hat7)
      go_ret
      exact ⟨_, rfl, by
        have := HL7.out
        rw [HAB.out]
        rw [← HX0.out] at this
        show Laid w w7 base v v7 _
        simpa only [List.append_assoc] using this⟩


/-! ### A table -/
theorem abbB_len {x : Abb} (h : okA x = true) (hi : x.In) : (abbB x).length ≤ 1300 := by
  obtain ⟨-, htg, h40, hall, -⟩ := okA_spec h
  obtain ⟨t, ht, ht1, ht6⟩ := numbK_nat htg
  have h1 := putU_len (n := x.code) (by have := hi.code; unfold two64 at this; omega)
  have h2 := putU_len (n := t) (by omega)
  have h3 := spcsB_len hall hi.spcs
  unfold abbB
  rw [ht, Int.toNat_natCast]
  simp only [List.length_append, List.length_cons, List.length_nil]
  omega
theorem abbsB_len : ∀ {l : List Abb}, l.all okA = true → (∀ x ∈ l, x.In) → (abbsB l).length ≤ 1300 * l.length
  | [], _, _ => Nat.zero_le _
  | x :: l, h, hi => by
    rw [List.all_cons, Bool.and_eq_true] at h
    have h1 := abbB_len h.1 (hi x List.mem_cons_self)
    have h2 := abbsB_len h.2 (fun y hy => hi y (List.mem_cons_of_mem _ hy))
    rw [show abbsB (x :: l) = abbB x ++ abbsB l from rfl, List.length_append, List.length_cons]
    omega
theorem abbsB_take {l : List Abb} {k : Nat} {x : Abb} (h : l[k]? = some x) : abbsB (l.take (k + 1)) = abbsB (l.take k) ++ abbB x := by
  unfold abbsB
  rw [List.take_add_one, h, List.flatMap_append]
  simp
theorem rightA_spec {l : List Abb} (h : rightA l = true) : l.length ≤ 300 ∧ l.all okA = true ∧ (l.map Abb.code).Nodup := by
  unfold rightA at h
  simp only [Bool.and_eq_true, decide_eq_true_eq] at h
  exact ⟨h.1, h.2.1, by simpa [onceB] using h.2.2⟩
/-- What Put tells. -/
def putAE (l : List Abb) : Int := if rightA l = true then 0 else 2

set_option maxRecDepth 10000 in
set_option maxHeartbeats 3200000 in
theorem putA_any {w : World} {base : Nat} {v : Value} {l : List UInt8} (hown : Own w base v l) (hbase : base ≤ w.heap.size) {a : Option Addr} {L : List ALay} (h : Abbs w base a L) (c : Nat) (hl : L.length ≤ 100000) (hin : ∀ y ∈ L, y.x.In) (hlen : l.length ≤ 140737487000000) :
    Calls Try.prog 15 #[v, .slice a L.length c] w fun r w' => ∃ v', r = .returned (.tuple #[v', .int .i64 (putAE (absOf L))]) ∧
      (rightA (absOf L) = true → Laid w w' base v v' (l ++ tabB (absOf L))) ∧ (rightA (absOf L) = false → v' = .slice none 0 0 ∧ Below w.heap.size w w') := by
  obtain ⟨i0, hi, hz0, hz1, hz2⟩ := info_parts u8_info
  have HR := Lib.hid (rightA_any (h.more hbase) c hl (lays_in hin))
  obtain ⟨b, hb⟩ : ∃ b, rightA (absOf L) = b := ⟨_, rfl⟩
  rw [hb] at HR ⊢
  cases b with
  | false =>
    have HE := Lib.hid (show putAE (absOf L) = 2 by unfold putAE; rw [if_neg (by rw [hb]; simp)])
    clear h hin hown hbase hb
    generalize L.length = N at *
    go_enter Try.func15, Try.ntmps15
    go_wp2_with (go_at_call 17; refine HR.out.mono ?_; rintro r w1 ⟨rfl, hb1⟩; have HB1 := Lib.hid hb1; clear hb1)
    go_ret2
    exact ⟨_, by rw [HE.out]; rfl, (fun h => by cases h), fun _ => ⟨rfl, HB1.out⟩⟩
  | true =>
    have HE := Lib.hid (show putAE (absOf L) = 0 by unfold putAE; rw [if_pos hb])
    obtain ⟨h300, hall, -⟩ := rightA_spec hb
    rw [absOf_length] at h300
    have HALL := Lib.hid hall
    have HIN := Lib.hid hin
    have HAB := Lib.hid h
    have HOW := Lib.hid hown
    have HBS := Lib.hid hbase
    have HLS := Lib.hid hlen
    obtain ⟨N, hN⟩ : ∃ N, L.length = N := ⟨_, rfl⟩
    have HN := Lib.hid hN
    rw [hN] at h300 hl ⊢
    rw [hN] at HR
    clear h hin hown hbase hb hall hlen hN
    have HAI := Lib.hid (show ∀ x ∈ absOf L, x.In from fun x hx => by
      obtain ⟨y, hy, rfl⟩ := List.mem_map.1 hx
      exact HIN.out y hy)
    go_enter Try.func15, Try.ntmps15
    go_upto_region 3 with (go_at_call 17; refine HR.out.mono ?_; rintro r w1 ⟨rfl, hb1⟩; have HB1 := Lib.hid hb1; clear hb1)
    have HST := Lib.hid (show Laid w w1 base v v (l ++ abbsB ((absOf L).take 0)) by
      rw [show abbsB ((absOf L).take 0) = [] from rfl, List.append_nil]; exact laid_on HOW.out HB1.out)
    go_wp2_with fail
    go_loopg [0, 13] N (fun gk u z wr => ∃ j : Nat, j ≤ N ∧ gk = N - j ∧ z = .int .i64 j ∧ Hid (Laid w wr base v u (l ++ abbsB ((absOf L).take j))))
    case atStart => exact ⟨0, Nat.zero_le _, rfl, rfl, HST⟩
    case round =>
      obtain ⟨j, hj, rfl, rfl, HLJ⟩ := hrel
      clear HST
      have HLN := Lib.hid (show (l ++ abbsB ((absOf L).take j)).length ≤ 140737487390000 by
        have h1 := abbsB_len (l := (absOf L).take j) (by rw [List.all_eq_true]; intro x hx; exact List.all_eq_true.1 HALL.out x (List.mem_of_mem_take hx)) (fun x hx => HAI.out x (List.mem_of_mem_take hx))
        have h2 : ((absOf L).take j).length ≤ 300 := by rw [List.length_take]; omega
        have h3 := HLS.out
        rw [List.length_append]
        omega)
      by_cases hlt : j < N
      · have HLT := Lib.hid hlt
        obtain ⟨y, hy⟩ : ∃ y, L[j]? = some y := ⟨_, List.getElem?_eq_getElem (by rw [HN.out]; exact hlt)⟩
        have hbl := laid_under HOW.out HBS.out HLJ.out
        obtain ⟨b, o, rfl, hb, c0, c1, c2, c3⟩ := abb_at (HAB.out.below hbl) hy
        have hym := List.mem_of_getElem? hy
        have HTK := Lib.hid (abbsB_take (absOf_at hy))
        have HOK := Lib.hid (all_at HALL.out (absOf_at hy))
        have hyl : y.x.l.length ≤ 100000 := (HIN.out y hym).len
        have hA := (Below.refl wr.heap.size wr).alloc (Nat.le_refl _) (.cells #[.int .u64 (y.x.code : Int), .int .i64 y.x.tag, .bool y.x.kids, .slice y.a y.x.l.length y.c] 50)
        have HLA := Lib.hid (HLJ.out.trans (laid_on HLJ.out.1 hA))
        have HP := Lib.hid (put1_any HLA.out.1 (Nat.le_trans HBS.out HLA.out.2.1.size) y (Row.below ((HAB.out.below hbl).spcs y hym) (hA.mono (Nat.le_trans HBS.out HLJ.out.2.1.size))) (HIN.out y hym) HOK.out (by have := HLN.out; omega))
        clear hy hym hbl hA
        generalize y.x.l.length = ln at *
        generalize y.x.code = cd at *
        generalize y.x.tag = tg at *
        generalize y.x.kids = kd at *
        generalize y.a = ya at *
        generalize y.c = yc at *
        go_wp2_with (go_at_call 31; refine HP.out.mono ?_; rintro r w4 ⟨v4, rfl, hL4⟩; have HL4 := Lib.hid (HLA.out.trans hL4); clear hL4)
        go_roundg (N - (j + 1))
        case measure => have := HLT.out; omega
        case rel => exact ⟨j + 1, HLT.out, rfl, by go_num, Lib.hid (by rw [HTK.out]; have := HL4.out; simpa only [List.append_assoc] using this)⟩
      · obtain rfl : j = N := by omega
        have HLE := Lib.hid (show Laid w wr base v _ (l ++ abbsB (absOf L)) from by have := HLJ.out; rwa [List.take_of_length_le (by rw [absOf_length, HN.out]; exact Nat.le_refl _)] at this)
        have HSM2 := Lib.hid (show (l ++ abbsB (absOf L)).length + ([0] : List UInt8).length ≤ 140737488355328 by
          have := HLN.out
          rw [List.take_of_length_le (by rw [absOf_length, HN.out]; exact Nat.le_refl _)] at this
          simp only [List.length_cons, List.length_nil]
          omega)
        have HA2 := Lib.hid ((Below.refl wr.heap.size wr).alloc (Nat.le_refl _) (.cells #[.int .u8 0] 5))
        have HRD2 := Lib.hid (rd_one wr 0 0 rfl)
        have hbs2 : base ≤ (wr.alloc (.cells #[.int .u8 0] 5)).heap.size := Nat.le_trans (Nat.le_trans HBS.out HLE.out.2.1.size) HA2.out.size
        clear HLJ hlt
        go_wp2_with (at_builtin; refine wpList_append_bytes (by rfl) (.tmp 21) (.tmp 22) _ (by rfl) base i0 Try.underlying22 hi hz0 hz1 hz2 _ (l ++ abbsB (absOf L)) (by rfl) (row_below HLE.out.1 HA2.out) (wr.heap.size + 1) (some ⟨wr.heap.size, 0, none⟩) 1 1 [0] rfl (by rfl) HRD2.out HSM2.out hbs2 ?_; intro v7 w7 hown7 hg7 hat7; have HL7 := Lib.hid (HLE.out.trans (Laid.of_append HA2.out hown7 hg7 hat7)); clear hown7 hg7 hat7)
        go_ret2
        exact ⟨_, by rw [HE.out]; rfl, fun _ => (by
          have := HL7.out
          show Laid w w7 base v v7 _
          unfold tabB
          simpa only [List.append_assoc] using this), fun h => by cases h⟩

end Go.Proofs.Ytpmndmbhkfbljaa

namespace Go.Proofs.Ytpmndmbhkfbljaa
open Go Go.RowKit Go.Maps

theorem once_of {α β : Type} [DecidableEq β] {f : α → β} {l : List α} (h : ∀ (i k : Nat) (x y : α), k < i → l[i]? = some x → l[k]? = some y → f y ≠ f x) : onceB (l.map f) = true := by
  unfold onceB
  rw [decide_eq_true_eq]
  unfold List.Nodup
  rw [List.pairwise_map, List.pairwise_iff_getElem]
  exact fun k i hk hi hki => h i k _ _ hki (List.getElem?_eq_getElem hi) (List.getElem?_eq_getElem hk)
theorem once_no {α β : Type} [DecidableEq β] {f : α → β} {l : List α} {i k : Nat} {x y : α} (hki : k < i) (hx : l[i]? = some x) (hy : l[k]? = some y) (he : f y = f x) : onceB (l.map f) = false := by
  unfold onceB
  rw [decide_eq_false_iff_not]
  unfold List.Nodup
  rw [List.pairwise_map, List.pairwise_iff_getElem]
  intro h
  obtain ⟨hi, e1⟩ := List.getElem?_eq_some_iff.1 hx
  obtain ⟨hk, e2⟩ := List.getElem?_eq_some_iff.1 hy
  have := h k i hk hi hki
  rw [e1, e2] at this
  exact this he
theorem all_of {α : Type} {p : α → Bool} {l : List α} (h : ∀ (i : Nat) (x : α), l[i]? = some x → p x = true) : l.all p = true := by
  rw [List.all_eq_true]
  intro x hx
  obtain ⟨i, hi⟩ := List.getElem?_of_mem hx
  exact h i x hi
theorem all_no {α : Type} {p : α → Bool} {l : List α} {i : Nat} {x : α} (hx : l[i]? = some x) (h : p x = false) : l.all p = false := by
  rw [List.all_eq_false]
  exact ⟨x, List.mem_of_getElem? hx, by rw [h]; simp⟩
section
variable {L : List ALay} {y : ALay}
theorem rightA_no {i : Nat} (hy : L[i]? = some y) (h : okA y.x = false) : rightA (absOf L) = false := by
  rw [rightA_lays, all_no (p := fun y : ALay => okA y.x) hy h]
  simp
theorem rightA_no2 {i k : Nat} {z : ALay} (hki : k < i) (hy : L[i]? = some y) (hz : L[k]? = some z) (he : z.x.code = y.x.code) : rightA (absOf L) = false := by
  rw [rightA_lays, once_no (f := codeL) hki hy hz he]
  simp
theorem rightA_yes (h3 : L.length ≤ 300) (h : ∀ (i : Nat) (y : ALay), L[i]? = some y → okA y.x = true) (h2 : ∀ (i k : Nat) (y z : ALay), k < i → L[i]? = some y → L[k]? = some z → z.x.code ≠ y.x.code) : rightA (absOf L) = true := by
  rw [rightA_lays, decide_eq_true h3, all_of (p := fun y : ALay => okA y.x) h, once_of (f := codeL) h2]
  rfl
theorem okA_yes {x : Abb} (h0 : x.code ≠ 0) (h1 : numbK x.tag = true) (h2 : x.l.length ≤ 40) (h3 : ∀ (i : Nat) (s : Spc), x.l[i]? = some s → okP s = true) (h4 : ∀ (i k : Nat) (s t : Spc), k < i → x.l[i]? = some s → x.l[k]? = some t → t.at_ ≠ s.at_) : okA x = true := by
  unfold okA
  rw [decide_eq_false h0, h1, decide_eq_true h2, all_of h3, once_of h4]
  rfl
theorem okA_no {x : Abb} {i : Nat} {s : Spc} (hs : x.l[i]? = some s) (h : okP s = false) : okA x = false := by
  unfold okA
  rw [all_no hs h]
  simp
theorem okA_no2 {x : Abb} {i k : Nat} {s t : Spc} (hki : k < i) (hs : x.l[i]? = some s) (ht : x.l[k]? = some t) (he : t.at_ = s.at_) : okA x = false := by
  unfold okA
  rw [once_no hki hs ht he]
  simp
end
theorem numbK_bits (n : Int) : numbK n = (!decide (n < 1) && !decide (65535 < n)) := by
  unfold numbK
  rw [Bool.eq_iff_iff]
  simp
theorem okP_bits (s : Spc) : okP s = (!decide (s.at_ < 1) && (!decide (65535 < s.at_) && (!decide (s.form < 1) && (!decide (65535 < s.form) && !((s.form != 33) && (s.imp != 0)))))) := by
  unfold okP
  rw [numbK_bits, numbK_bits, Bool.eq_iff_iff]
  simp
  constructor
  · rintro ⟨⟨h1, h2⟩, ⟨h3, h4⟩, h5⟩
    exact ⟨h1, h2, h3, h4, h5⟩
  · rintro ⟨h1, h2, h3, h4, h5⟩
    exact ⟨⟨h1, h2⟩, ⟨h3, h4⟩, h5⟩

set_option maxRecDepth 10000 in
set_option maxHeartbeats 6400000 in
theorem rrightA_any {w : World} {a : Option Addr} {L : List ALay} (h : Abbs w w.heap.size a L) (c : Nat) (hl : L.length ≤ 100000) (hin : ∀ y ∈ L, y.In) :
    Calls Try.prog 18 #[.slice a L.length c] w fun r w' => r = .returned (.bool (rightA (absOf L))) ∧ Below w.heap.size w w' := by
  obtain ⟨N, hN⟩ : ∃ N, L.length = N := ⟨_, rfl⟩
  have HH := Lib.hid h
  have HN := Lib.hid hN
  have HIN := Lib.hid hin
  rw [hN] at hl ⊢
  clear h hN hin
  obtain ⟨ra, hra⟩ : ∃ ra, rightA (absOf L) = ra := ⟨_, rfl⟩
  have HRA := Lib.hid hra
  rw [hra]
  clear hra
  by_cases hbig : 300 < N
  · have d : decide ((300 : Int) < (N : Int)) = true := decide_eq_true (by omega)
    have HF := Lib.hid (show ra = false by
      rw [← HRA.out, rightA_lays, HN.out, decide_eq_false (by omega)]; rfl)
    clear hbig
    go_enter Try.func18, Try.ntmps18
    go_wp2_with fail
    go_ret
    exact ⟨by rw [HF.out]; rfl, Below.refl _ _⟩
  have d : decide ((300 : Int) < (N : Int)) = false := decide_eq_false (by omega)
  have HN3 := Lib.hid (show N ≤ 300 by omega)
  clear hbig
  go_enter Try.func18, Try.ntmps18
  go_wp2_with fail
  clear d
  have hN3 := HN3.out
  go_loopg [3] N (fun gk z wr => ∃ i : Nat, i ≤ N ∧ gk = N - i ∧ z = .int .i64 i ∧ Hid (Below w.heap.size w wr) ∧ Hid (∀ j y, j < i → L[j]? = some y → okA y.x = true) ∧ Hid (∀ (j k : Nat) (y z : ALay), j < i → k < j → L[j]? = some y → L[k]? = some z → z.x.code ≠ y.x.code))
  case atStart => exact ⟨0, Nat.zero_le _, rfl, rfl, Lib.hid (Below.refl _ _), Lib.hid (fun j y hj => by omega), Lib.hid (fun j k y z hj => by omega)⟩
  case round =>
    obtain ⟨i, hi, rfl, rfl, HB, HOK, HDI⟩ := hrel
    by_cases hlt : i < N
    · have HLT := Lib.hid hlt
      obtain ⟨y, hy⟩ : ∃ y, L[i]? = some y := ⟨_, List.getElem?_eq_getElem (by rw [HN.out]; exact hlt)⟩
      have hym := List.mem_of_getElem? hy
      obtain ⟨b, o, rfl, hb, c0, c1, c2, c3⟩ := abb_at (HH.out.below HB.out) hy
      have HYL := Lib.hid (HIN.out y hym).len
      have HSP := Lib.hid (fun W (hW : Below w.heap.size w W) => (HH.out.below hW).spcs y hym)
      have HYY := Lib.hid hy
      have HCZ := Lib.hid (show (okA y.x = false → ra = false) from fun h => by rw [← HRA.out]; exact rightA_no hy h)
      have HCT := Lib.hid (fun (k : Nat) (z : ALay) (hk : k < i) (hz : L[k]? = some z) (he : z.x.code = y.x.code) => (by rw [← HRA.out]; exact rightA_no2 hk hy hz he : ra = false))
      have HOX := Lib.hid (show okA y.x = (!decide (y.x.code = 0) && (numbK y.x.tag && (decide (y.x.l.length ≤ 40) && (y.x.l.all okP && onceB (y.x.l.map Spc.at_))))) from rfl)
      have hyl := HYL.out
      have n0 : ((y.x.code : Int) == 0) = decide (y.x.code = 0) := by rw [Bool.eq_iff_iff]; simp
      have n3 : decide ((40 : Int) < (y.x.l.length : Int)) = !decide (y.x.l.length ≤ 40) := by rw [Bool.eq_iff_iff]; simp; omega
      rw [numbK_bits] at HOX
      clear hy hym
      have HYE := Lib.hid (show y = ⟨⟨y.x.code, y.x.tag, y.x.kids, y.x.l⟩, y.a, y.c⟩ from rfl)
      obtain ⟨ln, hln⟩ : ∃ n, y.x.l.length = n := ⟨_, rfl⟩
      have HLN := Lib.hid hln
      rw [hln] at c3 hyl HOX n3
      clear hln
      obtain ⟨cd, hcd⟩ : ∃ n, y.x.code = n := ⟨_, rfl⟩
      have HCD := Lib.hid hcd
      rw [hcd] at c0 n0 HOX HCT
      obtain ⟨tg, htg⟩ : ∃ n, y.x.tag = n := ⟨_, rfl⟩
      have HTG := Lib.hid htg
      rw [htg] at c1 HOX
      clear hcd htg
      generalize y.x.kids = kd at *
      generalize y.a = ya at *
      generalize y.c = yc at *
      have hA := (Below.refl wr.heap.size wr).alloc (Nat.le_refl _) (.cells #[.int .u64 (cd : Int), .int .i64 tg, .bool kd, .slice ya ln yc] 50)
      have hX := Box.new wr 50 #[.int .u64 (cd : Int), .int .i64 tg, .bool kd, .slice ya ln yc]
      go_upto_region 7 with fail
      generalize hwa : wr.alloc (.cells #[.int .u64 (cd : Int), .int .i64 tg, .bool kd, .slice ya ln yc] 50) = wa at *
      have KX := Lib.hid (fun W (hW : Below wa.heap.size wa W) => hX.below hW hX.lt)
      have HBA := Lib.hid (HB.out.trans (hA.mono HB.out.size))
      obtain ⟨p0, p1, p2, p3⟩ := four_cells hX
      clear hwa c0 c1 c2 c3 hA hX hb
      generalize hH1 : wr.heap.size = H1 at *
      clear hH1
      obtain ⟨q0, hq0⟩ : ∃ b, decide (cd = 0) = b := ⟨_, rfl⟩
      obtain ⟨q1, hq1⟩ : ∃ b, decide (tg < 1) = b := ⟨_, rfl⟩
      obtain ⟨q2, hq2⟩ : ∃ b, decide (65535 < tg) = b := ⟨_, rfl⟩
      obtain ⟨q3, hq3⟩ : ∃ b, decide (ln ≤ 40) = b := ⟨_, rfl⟩
      rw [hq0] at HOX n0
      rw [hq1, hq2] at HOX
      rw [hq3] at HOX n3
      have H40 := Lib.hid (show q3 = true → ln ≤ 40 from fun h => of_decide_eq_true (hq3.trans h))
      have HC0 := Lib.hid (show q0 = false → cd ≠ 0 from fun h => of_decide_eq_false (hq0.trans h))
      have hways : (q0 = true ∨ (q0 = false ∧ q1 = true) ∨ (q0 = false ∧ q1 = false ∧ q2 = true) ∨ (q0 = false ∧ q1 = false ∧ q2 = false ∧ q3 = false)) ∨ (q0 = false ∧ q1 = false ∧ q2 = false ∧ q3 = true) := by
        cases q0 <;> cases q1 <;> cases q2 <;> cases q3 <;> simp
      clear hq0 hq3
      rcases hways with hbad | ⟨rfl, rfl, rfl, rfl⟩
      · have HF := Lib.hid (show ra = false from HCZ.out (by
          rw [HOX.out]
          rcases hbad with rfl | ⟨rfl, rfl⟩ | ⟨rfl, rfl, rfl⟩ | ⟨rfl, rfl, rfl, rfl⟩ <;> simp))
        clear HOX H40 HC0 HCT HCZ
        rcases hbad with rfl | ⟨rfl, rfl⟩ | ⟨rfl, rfl, rfl⟩ | ⟨rfl, rfl, rfl, rfl⟩
        all_goals
          go_wp2_with fail
          go_ret
          exact ⟨by rw [HF.out]; rfl, HBA.out⟩
      · simp only [Bool.not_true] at n3
        have hc0 := HC0.out rfl
        have h40 := H40.out rfl
        have HTK := Lib.hid (show numbK tg = true by rw [numbK_bits, hq1, hq2]; rfl)
        have HC0' := Lib.hid hc0
        simp only [Bool.not_false, Bool.true_and] at HOX
        clear HC0 H40 hc0
        go_upto_region 9 with fail
        clear p0 p1 p2 p3 n0 n3 hq1 hq2
        generalize wr = wj at *
        go_wp2_with fail
        go_loopg [5] i (fun gk z wr => ∃ k : Nat, k ≤ i ∧ gk = i - k ∧ z = .int .i64 k ∧ Hid (Below wa.heap.size wa wr) ∧ Hid (∀ m z, m < k → L[m]? = some z → z.x.code ≠ cd))
        case atStart => exact ⟨0, Nat.zero_le _, rfl, rfl, Lib.hid (Below.refl _ _), Lib.hid (fun m z hm => by omega)⟩
        case round =>
          obtain ⟨k, hk, rfl, rfl, HB1, HD1⟩ := hrel
          obtain ⟨p0, p1, p2, p3⟩ := four_cells (KX.out _ HB1.out)
          have HBW := Lib.hid (HBA.out.trans (HB1.out.mono HBA.out.size))
          by_cases hlt1 : k < i
          · have HLT1 := Lib.hid hlt1
            obtain ⟨z, hz⟩ : ∃ z, L[k]? = some z := ⟨_, List.getElem?_eq_getElem (by rw [HN.out]; omega)⟩
            obtain ⟨b', o', e', hb', c0, c1, c2, c3⟩ := abb_at (HH.out.below HBW.out) hz
            injection e' with e'
            injection e' with e1 e2
            subst e1 e2
            have hkN : k < N := by omega
            have HCK := Lib.hid (fun h => HCT.out k z HLT1.out hz h)
            have HDK := Lib.hid (fun h => (show ∀ m z', m < k + 1 → L[m]? = some z' → z'.x.code ≠ cd from fun m z' hm hz' => by
              rcases Nat.lt_or_ge m k with h1 | h1
              · exact HD1.out m z' h1 hz'
              · obtain rfl : m = k := by omega
                rw [hz] at hz'
                injection hz' with hz'
                subst hz'
                exact h))
            clear hz hb'
            by_cases hce : z.x.code = cd
            · have n1 : ((z.x.code : Int) == (cd : Int)) = true := by simp [hce]
              have HF := Lib.hid (HCK.out hce)
              clear hce
              generalize z.x.code = zc at *
              go_upto_region 12 with fail
              go_quiet (fail)
              go_wp2_with fail
              go_ret
              exact ⟨by rw [HF.out]; rfl, below_drewN HBW.out nq⟩
            · have n1 : ((z.x.code : Int) == (cd : Int)) = false := by simp; omega
              have HF := Lib.hid (HDK.out hce)
              clear hce
              generalize z.x.code = zc at *
              go_upto_region 12 with fail
              go_quiet (fail)
              have HB9 := Lib.hid (below_drewN HB1.out nq)
              go_wp2_with fail
              go_roundg (i - (k + 1))
              case measure => have := HLT1.out; omega
              case rel => exact ⟨k + 1, HLT1.out, rfl, by go_num, HB9, HF⟩
          · obtain rfl : k = i := by omega
            clear hlt1
            have HKI := Lib.hid HD1.out
            clear p0 p1 p2 p3 HCT HOX
            have HSS := Lib.hid (fun W (hW : Below wa.heap.size wa W) => HSP.out W (HBA.out.trans (hW.mono HBA.out.size)))
            have HNX := Lib.hid (fun (j : Nat) (x : Spc) (hx : y.x.l[j]? = some x) (h : okP x = false) => HCZ.out (okA_no hx h))
            have HNX2 := Lib.hid (fun (j n : Nat) (x t : Spc) (hn : n < j) (hx : y.x.l[j]? = some x) (ht : y.x.l[n]? = some t) (h : t.at_ = x.at_) => HCZ.out (okA_no2 hn hx ht h))
            clear HCZ
            go_upto_region 14 with fail
            generalize wr = wb at *
            go_wp2_with fail
            have hb1 := HB1.out
            have HBB := Lib.hid hb1
            clear hb1
            obtain ⟨p0, p1, p2, p3⟩ := four_cells (KX.out _ HBB.out)
            go_loopg [6] ln (fun gk z wr => ∃ j : Nat, j ≤ ln ∧ gk = ln - j ∧ z = .int .i64 j ∧ Hid (Below wa.heap.size wa wr) ∧ Hid (∀ m s, m < j → y.x.l[m]? = some s → okP s = true) ∧ Hid (∀ (m n : Nat) (s t : Spc), m < j → n < m → y.x.l[m]? = some s → y.x.l[n]? = some t → t.at_ ≠ s.at_))
            case atStart => exact ⟨0, Nat.zero_le _, rfl, rfl, HBB, Lib.hid (fun m s hm => by omega), Lib.hid (fun m n s t hm => by omega)⟩
            case round =>
              obtain ⟨j, hj, rfl, rfl, HB2, HPJ, HQJ⟩ := hrel
              clear p0 p1 p2 p3
              obtain ⟨p0, p1, p2, p3⟩ := four_cells (KX.out _ HB2.out)
              have HBW2 := Lib.hid (HBA.out.trans (HB2.out.mono HBA.out.size))
              by_cases hlt2 : j < ln
              · have HLT2 := Lib.hid hlt2
                obtain ⟨x, hx⟩ : ∃ x, y.x.l[j]? = some x := ⟨_, List.getElem?_eq_getElem (by rw [HLN.out]; exact hlt2)⟩
                obtain ⟨bs, os, rfl, hbs, t0, t1, t2⟩ := spc_at (HSS.out _ HB2.out) hx
                have HXJ := Lib.hid hx
                have HOB := Lib.hid (okP_bits x)
                have HNZ := Lib.hid (HNX.out j x hx)
                obtain ⟨r1, hr1⟩ : ∃ r, decide (x.at_ < 1) = r := ⟨_, rfl⟩
                obtain ⟨r2, hr2⟩ : ∃ r, decide (65535 < x.at_) = r := ⟨_, rfl⟩
                obtain ⟨r3, hr3⟩ : ∃ r, decide (x.form < 1) = r := ⟨_, rfl⟩
                obtain ⟨r4, hr4⟩ : ∃ r, decide (65535 < x.form) = r := ⟨_, rfl⟩
                obtain ⟨r5, hr5⟩ : ∃ r, (x.form != 33) = r := ⟨_, rfl⟩
                obtain ⟨r6, hr6⟩ : ∃ r, (x.imp != 0) = r := ⟨_, rfl⟩
                rw [hr1, hr2, hr3, hr4, hr5, hr6] at HOB
                have HN2X := Lib.hid (fun (n : Nat) (t : Spc) (hn : n < j) (ht : y.x.l[n]? = some t) (h : t.at_ = x.at_) => HNX2.out j n x t hn HXJ.out ht h)
                clear hx
                obtain ⟨xa, hxa⟩ : ∃ v, x.at_ = v := ⟨_, rfl⟩
                obtain ⟨xf, hxf⟩ : ∃ v, x.form = v := ⟨_, rfl⟩
                obtain ⟨xi, hxi⟩ : ∃ v, x.imp = v := ⟨_, rfl⟩
                have HXA := Lib.hid hxa
                rw [hxa] at t0 hr1 hr2 HN2X
                rw [hxf] at t1 hr3 hr4 hr5
                rw [hxi] at t2 hr6
                clear hxa hxf hxi
                have hX2 := Box.new wr 56 #[.int .i64 xa, .int .i64 xf, .int .i64 xi]
                have hA2 := (Below.refl wr.heap.size wr).alloc (Nat.le_refl _) (.cells #[.int .i64 xa, .int .i64 xf, .int .i64 xi] 56)
                have y4 : (wr.alloc (.cells #[.int .i64 xa, .int .i64 xf, .int .i64 xi] 56)).cell? ⟨H1, 3, none⟩ = some (.slice (some ⟨bs, os, none⟩) ln yc) := by
                  rw [hA2.cell (p := ⟨H1, 3, none⟩) (World.block_lt_of_cell? wr ⟨H1, 3, none⟩ p3)]; exact p3
                go_upto_region 18 with fail
                generalize hwc : wr.alloc (.cells #[.int .i64 xa, .int .i64 xf, .int .i64 xi] 56) = wc at *
                have HBC := Lib.hid (HB2.out.trans (hA2.mono HB2.out.size))
                have KX2 := Lib.hid (fun W (hW : Below wc.heap.size wc W) => hX2.below hW hX2.lt)
                have s0 := hX2.cell 0
                have s1 := hX2.cell 1
                have s2 := hX2.cell 2
                simp at s0 s1 s2
                generalize hH2 : wr.heap.size = H2 at *
                clear hwc hA2 hX2 hH2 t0 t1 t2 p0 p1 p2 p3 y4 hbs
                have hways : (r1 = true ∨ (r1 = false ∧ r2 = true) ∨ (r1 = false ∧ r2 = false ∧ r3 = true) ∨ (r1 = false ∧ r2 = false ∧ r3 = false ∧ r4 = true) ∨ (r1 = false ∧ r2 = false ∧ r3 = false ∧ r4 = false ∧ r5 = true ∧ r6 = true)) ∨ (r1 = false ∧ r2 = false ∧ r3 = false ∧ r4 = false ∧ r5 = false) ∨ (r1 = false ∧ r2 = false ∧ r3 = false ∧ r4 = false ∧ r5 = true ∧ r6 = false) := by
                  cases r1 <;> cases r2 <;> cases r3 <;> cases r4 <;> cases r5 <;> cases r6 <;> simp
                rcases hways with hbad | hgood
                · have HF := Lib.hid (show ra = false from HNZ.out (by
                    rw [HOB.out]
                    rcases hbad with rfl | ⟨rfl, rfl⟩ | ⟨rfl, rfl, rfl⟩ | ⟨rfl, rfl, rfl, rfl⟩ | ⟨rfl, rfl, rfl, rfl, rfl, rfl⟩ <;> simp))
                  have HBE := Lib.hid (HBA.out.trans (HBC.out.mono HBA.out.size))
                  clear HNZ HOB HN2X
                  rcases hbad with rfl | ⟨rfl, rfl⟩ | ⟨rfl, rfl, rfl⟩ | ⟨rfl, rfl, rfl, rfl⟩ | ⟨rfl, rfl, rfl, rfl, rfl, rfl⟩
                  all_goals
                    go_wp2_with fail
                    go_ret
                    exact ⟨by rw [HF.out]; rfl, HBE.out⟩
                · have HOKX := Lib.hid (show okP x = true by
                    rw [HOB.out]
                    rcases hgood with ⟨rfl, rfl, rfl, rfl, rfl⟩ | ⟨rfl, rfl, rfl, rfl, rfl, rfl⟩ <;> simp)
                  clear HNZ HOB
                  rcases hgood with ⟨rfl, rfl, rfl, rfl, rfl⟩ | ⟨rfl, rfl, rfl, rfl, rfl, rfl⟩
                  all_goals
                    go_upto_region 20 with fail
                    generalize wr = wd at *
                    go_wp2_with fail
                    go_loopg [8] j (fun gk z wr => ∃ n : Nat, n ≤ j ∧ gk = j - n ∧ z = .int .i64 n ∧ Hid (Below wc.heap.size wc wr) ∧ Hid (∀ m t, m < n → y.x.l[m]? = some t → t.at_ ≠ xa))
                    case atStart => exact ⟨0, Nat.zero_le _, rfl, rfl, Lib.hid (Below.refl _ _), Lib.hid (fun m t hm => by omega)⟩
                    case round =>
                      obtain ⟨n, hn, rfl, rfl, HB3, HD3⟩ := hrel
                      have HB3A := Lib.hid (HBC.out.trans (HB3.out.mono HBC.out.size))
                      have HBW3 := Lib.hid (HBA.out.trans (HB3A.out.mono HBA.out.size))
                      clear s0 s1 s2
                      obtain ⟨p0, p1, p2, p3⟩ := four_cells (KX.out _ HB3A.out)
                      have s0 := (KX2.out _ HB3.out).cell 0
                      simp at s0
                      by_cases hlt3 : n < j
                      · have HLT3 := Lib.hid hlt3
                        obtain ⟨t, ht⟩ : ∃ t, y.x.l[n]? = some t := ⟨_, List.getElem?_eq_getElem (by rw [HLN.out]; omega)⟩
                        obtain ⟨b', o', e', hb', t0, t1, t2⟩ := spc_at (HSS.out _ HB3A.out) ht
                        injection e' with e'
                        injection e' with e1 e2
                        subst e1 e2
                        have hnl : n < ln := by omega
                        have HCK := Lib.hid (fun h => HN2X.out n t HLT3.out ht h)
                        have HDK := Lib.hid (fun h => (show ∀ m z', m < n + 1 → y.x.l[m]? = some z' → z'.at_ ≠ xa from fun m z' hm hz' => by
                          rcases Nat.lt_or_ge m n with h1 | h1
                          · exact HD3.out m z' h1 hz'
                          · obtain rfl : m = n := by omega
                            rw [ht] at hz'
                            injection hz' with hz'
                            subst hz'
                            exact h))
                        clear ht hb'
                        by_cases hce : t.at_ = xa
                        · have n1 : (t.at_ == xa) = true := by simp [hce]
                          have HF := Lib.hid (HCK.out hce)
                          clear hce
                          generalize t.at_ = ta at *
                          go_upto_region 23 with fail
                          go_quiet (fail)
                          go_wp2_with fail
                          go_ret
                          exact ⟨by rw [HF.out]; rfl, below_drewN HBW3.out nq⟩
                        · have n1 : (t.at_ == xa) = false := by simp [hce]
                          have HF := Lib.hid (HDK.out hce)
                          clear hce
                          generalize t.at_ = ta at *
                          go_upto_region 23 with fail
                          go_quiet (fail)
                          have HB9 := Lib.hid (below_drewN HB3.out nq)
                          go_wp2_with fail
                          go_roundg (j - (n + 1))
                          case measure => have := HLT3.out; omega
                          case rel => exact ⟨n + 1, HLT3.out, rfl, by go_num, HB9, HF⟩
                      · obtain rfl : n = j := by omega
                        have HPJ2 := Lib.hid (show ∀ m s, m < n + 1 → y.x.l[m]? = some s → okP s = true from fun m s hm hs => by
                          rcases Nat.lt_or_ge m n with h1 | h1
                          · exact HPJ.out m s h1 hs
                          · obtain rfl : m = n := by omega
                            rw [HXJ.out] at hs
                            injection hs with hs
                            subst hs
                            exact HOKX.out)
                        have HQJ2 := Lib.hid (show ∀ (m k : Nat) (s t : Spc), m < n + 1 → k < m → y.x.l[m]? = some s → y.x.l[k]? = some t → t.at_ ≠ s.at_ from fun m k s t hm hk hs ht => by
                          rcases Nat.lt_or_ge m n with h1 | h1
                          · exact HQJ.out m k s t h1 hk hs ht
                          · obtain rfl : m = n := by omega
                            rw [HXJ.out] at hs
                            injection hs with hs
                            subst hs
                            rw [HXA.out]
                            exact HD3.out k t hk ht)
                        go_wp2_with fail
                        go_roundg (ln - (n + 1))
                        case measure => have := HLT2.out; omega
                        case rel => exact ⟨n + 1, HLT2.out, rfl, by go_num, HB3A, HPJ2, HQJ2⟩
              · obtain rfl : j = ln := by omega
                have HOY := Lib.hid (show okA y.x = true from okA_yes (by rw [HCD.out]; exact HC0'.out) (by rw [HTG.out]; exact HTK.out) (by rw [HLN.out]; exact h40) (fun m s hs => HPJ.out m s (by have := (List.getElem?_eq_some_iff.1 hs).1; rw [HLN.out] at this; exact this) hs)
                  (fun m n s t hn hs ht => HQJ.out m n s t (by have := (List.getElem?_eq_some_iff.1 hs).1; rw [HLN.out] at this; exact this) hn hs ht))
                have HOK2 := Lib.hid (show ∀ m z, m < k + 1 → L[m]? = some z → okA z.x = true from fun m z hm hz => by
                  rcases Nat.lt_or_ge m k with h1 | h1
                  · exact HOK.out m z h1 hz
                  · obtain rfl : m = k := by omega
                    rw [HYY.out] at hz
                    injection hz with hz
                    subst hz
                    exact HOY.out)
                have HDI2 := Lib.hid (show ∀ (m n : Nat) (u z : ALay), m < k + 1 → n < m → L[m]? = some u → L[n]? = some z → z.x.code ≠ u.x.code from fun m n u z hm hn hu hz => by
                  rcases Nat.lt_or_ge m k with h1 | h1
                  · exact HDI.out m n u z h1 hn hu hz
                  · obtain rfl : m = k := by omega
                    rw [HYY.out] at hu
                    injection hu with hu
                    subst hu
                    rw [HCD.out]
                    exact HKI.out n z hn hz)
                go_wp2_with fail
                go_roundg (N - (k + 1))
                case measure => have := HLT.out; omega
                case rel => exact ⟨k + 1, HLT.out, rfl, by go_num, HBW2, HOK2, HDI2⟩
    · have HT := Lib.hid (show ra = true by
        rw [← HRA.out]
        exact rightA_yes (by rw [HN.out]; exact HN3.out) (fun j y hj => HOK.out j y (by have := (List.getElem?_eq_some_iff.1 hj).1; rw [HN.out] at this; omega) hj)
          (fun j k y z hk hj hz => HDI.out j k y z (by have := (List.getElem?_eq_some_iff.1 hj).1; rw [HN.out] at this; omega) hk hj hz))
      go_wp2_with fail
      go_ret
      exact ⟨by rw [HT.out]; rfl, HB.out⟩

end Go.Proofs.Ytpmndmbhkfbljaa
