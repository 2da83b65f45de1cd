/-
  Package unit: Put, Size.
-/
import Derived.Test.YtelmfhpefnemfaaDoorUnK
import Derived.Deep.RegionHeldLaw
namespace Go.Proofs.YtelmfhpefnemfaaDoor
open Go Go.RowKit

/-! ### A unit as bytes -/
def kindB (h : UHd) : UInt8 := UInt8.ofNat h.kind.toNat
def headU (h : UHd) : List UInt8 := leBytes 5 2 ++ [kindB h, 8] ++ leBytes h.ab (offN h.wide)
def sigU (h : UHd) : List UInt8 := if h.kind = 2 then leBytes h.sig 8 ++ leBytes h.ty (offN h.wide) else []
def unitB (h : UHd) (body : List UInt8) : List UInt8 := headU h ++ sigU h ++ body
def putUB (h : UHd) (body : List UInt8) : List UInt8 := if rightU h = true then lenB (unitB h body).length h.wide ++ unitB h body else []
def putUE (h : UHd) : Int := if rightU h = true then 0 else 2
theorem offN_le (wide : Bool) : offN wide ≤ 8 := by cases wide <;> decide
theorem headU_len (h : UHd) : (headU h).length = 4 + offN h.wide := by simp [headU, leBytes_length]; omega
theorem sigU_len (h : UHd) : (sigU h).length = if h.kind = 2 then 8 + offN h.wide else 0 := by
  unfold sigU
  split <;> simp [leBytes_length]
theorem unitB_len (h : UHd) (body : List UInt8) : (unitB h body).length ≤ body.length + 28 := by
  have h1 := headU_len h
  have h2 := sigU_len h
  have h3 := offN_le h.wide
  simp only [unitB, List.length_append]
  split at h2 <;> omega
theorem right_kind {h : UHd} (hr : rightU h = true) : 1 ≤ h.kind ∧ h.kind ≤ 3 := by
  unfold rightU kindOk at hr
  simp only [Bool.and_eq_true, decide_eq_true_eq] at hr
  exact hr.1

theorem rd_two (w : World) (x y : Int) (a b : UInt8) (h : x = (a.toNat : Int)) (h' : y = (b.toNat : Int)) : Rd (w.alloc (.cells #[.int .u8 x, .int .u8 y] 5)) (w.heap.size + 1) (some ⟨w.heap.size, 0, none⟩) [a, b] := by
  intro _
  refine ⟨w.heap.size, 0, rfl, by omega, fun j u hu => ?_⟩
  rw [(Box.new w 5 #[.int .u8 x, .int .u8 y]).cell, Nat.zero_add]
  match j with
  | 0 => simp at hu; subst hu; rw [h]; rfl
  | 1 => simp at hu; subst hu; rw [h']; rfl
  | j + 2 => simp at hu

/-- The bytes so far, the head's box, the table of sizes. -/
structure PuU (w0 W : World) (X : Nat) (cs : Array Value) (v : Value) (l : List UInt8) : Prop where
  x : Box W X 82 cs
  o : Own W w0.heap.size v l
  z : Sz W
  b : Below w0.heap.size w0 W
section
variable {w0 W W' : World} {X : Nat} {cs : Array Value} {v v' : Value} {l l' : List UInt8}
theorem PuU.laid (h : PuU w0 W X cs v l) (hz : 0 < w0.heap.size) (hL : Laid W W' w0.heap.size v v' l') : PuU w0 W' X cs v' l' :=
  ⟨un_box h.x h.o (by decide) hL.2.1, hL.1, un_sz h.z h.o hz hL.2.1, h.b.grown hL.2.1 h.b.size (fun y hy => (h.o.lt y hy).1)⟩
theorem PuU.below (h : PuU w0 W X cs v l) (hb : Below W.heap.size W W') : PuU w0 W' X cs v l :=
  ⟨h.x.below hb h.x.lt, own_below h.o hb, h.z.below hb h.z.pos, h.b.trans (hb.mono h.b.size)⟩
end

set_option maxRecDepth 10000 in
set_option maxHeartbeats 3200000 in
theorem uput_any {w : World} (hs : Sz w) (h : UHd) (hi : h.In) {B : Nat} {A : Option Addr} {body : List UInt8} (hr : Rd w B A body) (hB : B ≤ w.heap.size) (c : Nat) (hlen : body.length ≤ 900000) :
    Calls Tryd.prog 33 #[.agg #[.int .i64 h.kind, .bool h.wide, .int .u64 (h.ab : Int), .int .u64 (h.sig : Int), .int .u64 (h.ty : Int), .int .u64 (h.off : Int), .int .u64 (h.first : Int), .int .u64 (h.stop : Int)], .slice A body.length c] w fun r w' => ∃ u, r = .returned (.tuple #[u, .int .i64 (putUE h)]) ∧ Own w' w.heap.size u (putUB h body) ∧ Below w.heap.size w w' := by
  obtain ⟨i0, hi0, hz0, hz1, hz2⟩ := info_parts u8_info
  have HZ := Lib.hid hs.pos
  have hb1 : Below w.heap.size w (w.alloc (.cells #[.int .i64 h.kind, .bool h.wide, .int .u64 (h.ab : Int), .int .u64 (h.sig : Int), .int .u64 (h.ty : Int), .int .u64 (h.off : Int), .int .u64 (h.first : Int), .int .u64 (h.stop : Int)] 82)) := (Below.refl _ _).alloc (Nat.le_refl _) _
  have hX := Box.new w 82 #[.int .i64 h.kind, .bool h.wide, .int .u64 (h.ab : Int), .int .u64 (h.sig : Int), .int .u64 (h.ty : Int), .int .u64 (h.off : Int), .int .u64 (h.first : Int), .int .u64 (h.stop : Int)]
  have HE1 := Lib.hid (show PuU w (w.alloc (.cells #[.int .i64 h.kind, .bool h.wide, .int .u64 (h.ab : Int), .int .u64 (h.sig : Int), .int .u64 (h.ty : Int), .int .u64 (h.off : Int), .int .u64 (h.first : Int), .int .u64 (h.stop : Int)] 82)) w.heap.size _ (.slice none 0 0) [] from ⟨hX, World.ownsRow_nil _ _ _ _, hs.below hb1 hs.pos, hb1⟩)
  have HRD := Lib.hid (fun (W : World) (hW : Below w.heap.size w W) => (hr.below (hW.mono hB)))
  have HR := Lib.hid (fun (W : World) (hS : Sz W) => right_unit hS h hi)
  have HO := Lib.hid (fun (W : World) (hS : Sz W) => off_len h.wide hS)
  have HUE := Lib.hid (show putUE h = if rightU h = true then 0 else 2 from rfl)
  have HUB := Lib.hid (show putUB h body = if rightU h = true then lenB (unitB h body).length h.wide ++ unitB h body else [] from rfl)
  have HK := Lib.hid (@right_kind h)
  clear hs hr hi hX hb1
  obtain ⟨rt, hrt⟩ : ∃ b, rightU h = b := ⟨_, rfl⟩
  rw [hrt] at HUE HUB HK HR
  clear hrt
  generalize putUE h = PE at *
  generalize putUB h body = PB at *
  generalize hnb : body.length = nb at *
  have HNB := Lib.hid hnb
  clear hnb
  go_enter Tryd.func33, Tryd.ntmps33
  go_upto_region 1 with fail
  generalize w.alloc (.cells #[.int .i64 h.kind, .bool h.wide, .int .u64 (h.ab : Int), .int .u64 (h.sig : Int), .int .u64 (h.ty : Int), .int .u64 (h.off : Int), .int .u64 (h.first : Int), .int .u64 (h.stop : Int)] 82) = w1 at *
  obtain ⟨y0, y1, y2, y3, y4, y5, y6, y7⟩ := eight_cells HE1.out.x
  cases rt with
  | false =>
    rw [if_neg (by decide)] at HUE HUB
    go_wp2_with (go_at_call 56; refine (HR.out _ HE1.out.z).mono ?_; rintro r w2 ⟨rfl, hb2⟩; have HB2 := Lib.hid (HE1.out.b.trans (hb2.mono HE1.out.b.size)); clear hb2)
    go_ret2
    exact ⟨_, by rw [HUE.out]; rfl, by rw [HUB.out]; exact World.ownsRow_nil _ _ _ _, HB2.out⟩
  | true =>
    rw [if_pos rfl] at HUE HUB
    obtain ⟨hk1, hk3⟩ := HK.out rfl
    go_upto_region 3 with (go_at_call 56; refine (HR.out _ HE1.out.z).mono ?_; rintro r w2 ⟨rfl, hb2⟩; have HE2 := Lib.hid (HE1.out.below hb2); clear hb2)
    clear y0 y1 y2 y3 y4 y5 y6 y7 HE1
    obtain ⟨y0, y1, y2, y3, y4, y5, y6, y7⟩ := eight_cells HE2.out.x
    have C5 := Lib.hid (fun (W : World) (hE : PuU w W w.heap.size #[.int .i64 h.kind, .bool h.wide, .int .u64 (h.ab : Int), .int .u64 (h.sig : Int), .int .u64 (h.ty : Int), .int .u64 (h.off : Int), .int .u64 (h.first : Int), .int .u64 (h.stop : Int)] (.slice none 0 0) []) => show Calls Tryd.prog 58 #[.slice none 0 0, .int .u64 5, .int .i64 2] W fun r w' => ∃ v', r = .returned v' ∧ PuU w w' w.heap.size #[.int .i64 h.kind, .bool h.wide, .int .u64 (h.ab : Int), .int .u64 (h.sig : Int), .int .u64 (h.ty : Int), .int .u64 (h.off : Int), .int .u64 (h.first : Int), .int .u64 (h.stop : Int)] v' (leBytes 5 2) from
      (put_any hE.o hE.b.size 5 2 (by omega) (by simp)).mono fun r w' ⟨v', e, hL⟩ => ⟨v', e, hE.laid HZ.out hL⟩)
    have CP := Lib.hid (fun (W : World) (v : Value) (l : List UInt8) (x : Nat) (s : Int) (m : Nat) (hm : clampOf s = m) (hs : -9223372036854775808 ≤ s ∧ s ≤ 9223372036854775807) (hl : l.length ≤ 100) (hE : PuU w W w.heap.size #[.int .i64 h.kind, .bool h.wide, .int .u64 (h.ab : Int), .int .u64 (h.sig : Int), .int .u64 (h.ty : Int), .int .u64 (h.off : Int), .int .u64 (h.first : Int), .int .u64 (h.stop : Int)] v l) => show Calls Tryd.prog 58 #[v, .int .u64 (x : Int), .int .i64 s] W fun r w' => ∃ v', r = .returned v' ∧ PuU w w' w.heap.size #[.int .i64 h.kind, .bool h.wide, .int .u64 (h.ab : Int), .int .u64 (h.sig : Int), .int .u64 (h.ty : Int), .int .u64 (h.off : Int), .int .u64 (h.first : Int), .int .u64 (h.stop : Int)] v' (l ++ leBytes x m) from
      (put_any hE.o hE.b.size x s hs (by omega)).mono fun r w' ⟨v', e, hL⟩ => ⟨v', e, by rw [hm] at hL; exact hE.laid HZ.out hL⟩)
    have HL4 := Lib.hid (show (leBytes 5 2 ++ [kindB h, 8]).length ≤ 100 by simp [leBytes_length])
    have HLH := Lib.hid (show (headU h).length ≤ 100 by have := headU_len h; have := offN_le h.wide; omega)
    have HLS := Lib.hid (show (headU h ++ leBytes h.sig 8).length ≤ 100 by have := headU_len h; have := offN_le h.wide; simp [leBytes_length]; omega)
    have HLU := Lib.hid (unitB_len h body)
    have HHD := Lib.hid (show headU h = leBytes 5 2 ++ [kindB h, 8] ++ leBytes h.ab (offN h.wide) from rfl)
    have HSG := Lib.hid (show sigU h = if h.kind = 2 then leBytes h.sig 8 ++ leBytes h.ty (offN h.wide) else [] from rfl)
    have HUN := Lib.hid (show unitB h body = headU h ++ sigU h ++ body from rfl)
    have HKB := Lib.hid (show h.kind = ((kindB h).toNat : Int) by
      have : h.kind = 1 ∨ h.kind = 2 ∨ h.kind = 3 := by omega
      unfold kindB
      rcases this with e | e | e <;> (rw [e]; rfl))
    have HCO := Lib.hid (clamp_off h.wide)
    have HLI := Lib.hid (show -9223372036854775808 ≤ lenO h.wide ∧ lenO h.wide ≤ 9223372036854775807 by unfold lenO; split <;> omega)
    have s1 : IntKind.u8.wrap h.kind = h.kind := by rw [IntWalk.u8_in _ (by omega)]
    have s2 : h.kind % 256 = h.kind := by omega
    generalize kindB h = kb at *
    go_upto_region 5 with (first
      | (go_at_call 57; refine (HO.out _ HE2.out.z).mono ?_; rintro r w3 ⟨rfl, rfl⟩)
      | (go_at_call 58; refine (C5.out _ HE2.out).mono ?_; rintro r w4 ⟨v4, rfl, hE⟩; have HE4 := Lib.hid hE; clear hE))
    clear y0 y1 y2 y3 y4 y5 y6 y7 HE2 C5 HO HR
    obtain ⟨y0, y1, y2, y3, y4, y5, y6, y7⟩ := eight_cells HE4.out.x
    have HRD2 := Lib.hid (rd_two w4 h.kind 8 kb 8 HKB.out rfl)
    have hb5 := (Below.refl w4.heap.size w4).alloc (Nat.le_refl _) (.cells #[.int .u8 h.kind, .int .u8 8] 5)
    have HE5 := Lib.hid (HE4.out.below hb5)
    clear hb5
    go_upto_region 6 with (at_builtin; refine wpList_append_bytes (by rfl) (.tmp 15) (.tmp 19) _ (by rfl) w.heap.size i0 Tryd.underlying66 hi0 hz0 hz1 hz2 v4 (leBytes 5 2) (by rfl) HE5.out.o (w4.heap.size + 1) (some ⟨w4.heap.size, 0, none⟩) 2 2 [kb, 8] rfl (by rfl) HRD2.out (by simp [leBytes_length]) HE5.out.b.size ?_; intro v6 w6 hown6 hg6 hat6; have HE6 := Lib.hid (show PuU w w6 w.heap.size #[.int .i64 h.kind, .bool h.wide, .int .u64 (h.ab : Int), .int .u64 (h.sig : Int), .int .u64 (h.ty : Int), .int .u64 (h.off : Int), .int .u64 (h.first : Int), .int .u64 (h.stop : Int)] v6 (leBytes 5 2 ++ [kb, 8]) from ⟨un_box HE5.out.x HE5.out.o (by decide) hg6, hown6, un_sz HE5.out.z HE5.out.o HZ.out hg6, HE5.out.b.grown hg6 HE5.out.b.size (fun y hy => (HE5.out.o.lt y hy).1)⟩); clear hown6 hg6 hat6)
    clear y0 y1 y2 y3 y4 y5 y6 y7 HE4 HE5 HRD2
    obtain ⟨y0, y1, y2, y3, y4, y5, y6, y7⟩ := eight_cells HE6.out.x
    go_upto_region 7 with (go_at_call 58; refine (CP.out _ _ _ _ _ _ HCO.out HLI.out HL4.out HE6.out).mono ?_; rintro r w7 ⟨v7, rfl, hE⟩; rw [← HHD.out] at hE; have HE7 := Lib.hid hE; clear hE)
    clear y0 y1 y2 y3 y4 y5 y6 y7 HE6
    obtain ⟨y0, y1, y2, y3, y4, y5, y6, y7⟩ := eight_cells HE7.out.x
    go_upto_if 28 with fail
    go_cut [7] (fun u wx => PuU w wx w.heap.size #[.int .i64 h.kind, .bool h.wide, .int .u64 (h.ab : Int), .int .u64 (h.sig : Int), .int .u64 (h.ty : Int), .int .u64 (h.off : Int), .int .u64 (h.first : Int), .int .u64 (h.stop : Int)] u (headU h ++ sigU h))
    case first =>
      by_cases h2 : h.kind = 2
      · have q : (h.kind == 2) = true := by simpa using h2
        rw [if_pos h2] at HSG
        clear h2
        go_upto_region 9 with (go_at_call 58; refine (CP.out _ _ _ _ _ 8 rfl (by decide) HLH.out HE7.out).mono ?_; rintro r w8 ⟨v8, rfl, hE⟩; have HE8 := Lib.hid hE; clear hE)
        clear y0 y1 y2 y3 y4 y5 y6 y7 HE7
        obtain ⟨y0, y1, y2, y3, y4, y5, y6, y7⟩ := eight_cells HE8.out.x
        go_wp2_with (go_at_call 58; refine (CP.out _ _ _ _ _ _ HCO.out HLI.out HLS.out HE8.out).mono ?_; rintro r w9 ⟨v9, rfl, hE⟩; have HE9 := Lib.hid hE; clear hE)
        go_meet
        case rel => rw [HSG.out, ← List.append_assoc]; exact HE9.out
      · have q : (h.kind == 2) = false := by simpa using h2
        rw [if_neg h2] at HSG
        clear h2
        go_wp2_with fail
        go_meet
        case rel => rw [HSG.out, List.append_nil]; exact HE7.out
    case rest =>
    have HE10 := Lib.hid hcut
    clear hcut y0 y1 y2 y3 y4 y5 y6 y7 HE7 CP HL4 HLH HLS HHD HSG HKB HCO HLI HK
    generalize wc = w10 at *
    obtain ⟨y0, y1, y2, y3, y4, y5, y6, y7⟩ := eight_cells HE10.out.x
    generalize headU h ++ sigU h = hd at *
    obtain ⟨un, hun⟩ : ∃ un, un = hd ++ body := ⟨_, rfl⟩
    rw [← hun] at HUN
    rw [HUN.out] at HUB HLU
    have hlu : un.length ≤ 900028 := by have := HLU.out; rw [HNB.out] at this; omega
    have hsum : hd.length + body.length ≤ 140737488355328 := by rw [hun, List.length_append] at hlu; omega
    have HLUN := Lib.hid hlu
    have HUU := Lib.hid hun
    clear hlu hun HUN HLU
    have HEQ := Lib.hid (fun n => HE10.out.below (below_drewN (Below.refl w10.heap.size w10) n))
    have HBR := Lib.hid (fun n => HRD.out _ (HEQ.out n).b)
    have Y1 := Lib.hid y1
    go_upto_region 10 with fail
    go_region_held_law (fun W => W.cell? ⟨w.heap.size, 1, none⟩ = some (.bool h.wide)) ((first | exact Y1.out | exact Y11.out | exact Y12.out)) (first
      | (refine step_append_bytes (by rfl) (.tmp 40) (.tmp 41) _ (by rfl) w.heap.size i0 Tryd.underlying66 hi0 hz0 hz1 hz2 u7 hd (by rfl) (by first | exact (HEQ.out 0).o | exact (HEQ.out _).o) B A nb c body HNB.out (by rfl) (by first | exact HBR.out 0 | exact HBR.out _) hsum (by first | exact (HEQ.out 0).b.size | exact (HEQ.out _).b.size) ?_; intro v11 w11 hown hg hat; have HE11 := Lib.hid (show PuU w w11 w.heap.size #[.int .i64 h.kind, .bool h.wide, .int .u64 (h.ab : Int), .int .u64 (h.sig : Int), .int .u64 (h.ty : Int), .int .u64 (h.off : Int), .int .u64 (h.first : Int), .int .u64 (h.stop : Int)] v11 un from ⟨by first | exact un_box (HEQ.out 1).x (HEQ.out 1).o (by decide) hg | exact un_box (HEQ.out _).x (HEQ.out _).o (by decide) hg, by rw [HUU.out]; exact hown, by first | exact un_sz (HEQ.out 1).z (HEQ.out 1).o HZ.out hg | exact un_sz (HEQ.out _).z (HEQ.out _).o HZ.out hg, by first | exact (HEQ.out 1).b.grown hg (HEQ.out 1).b.size (fun y hy => ((HEQ.out 1).o.lt y hy).1) | exact (HEQ.out _).b.grown hg (HEQ.out _).b.size (fun y hy => ((HEQ.out 1).o.lt y hy).1)⟩); have Y11 := Lib.hid (eight_cells HE11.out.x).2.1; (obtain ⟨A11, c11, hv, -, -, hr11⟩ := own_slice HE11.out.o); have HW := Lib.hid (wrap_len HE11.out.z h.wide hr11 (Nat.le_refl _) c11 (by have := HLUN.out; omega)); (obtain ⟨k, hk⟩ : ∃ k, un.length = k := ⟨_, rfl⟩); rw [hk] at hv HW; have HKK := Lib.hid hk; clear hk; subst hv; clear hown hg hat hr11)
      | (go_at_call 59; refine HW.out.mono ?_; rintro r w12 ⟨v12, rfl, ho12, hb12⟩; have HO12 := Lib.hid ho12; have HE12 := Lib.hid (HE11.out.below hb12); have Y12 := Lib.hid (eight_cells HE12.out.x).2.1; clear ho12 hb12))
    go_wp2_with fail
    go_ret2
    exact ⟨_, by rw [HUE.out]; rfl, by rw [HUB.out, HKK.out]; exact row_base HO12.out HE11.out.b.size, HE12.out.b⟩

/-- How many bytes stand ahead of a unit's entries. -/
def sizU (k : Int) (wide : Bool) : Int := match kindOk k with | true => (if wide then 24 else 12) + (if k = 2 then 8 + lenO wide else 0) | false => 0
theorem sizU_put (k : Int) (wide : Bool) : ((putUB ⟨k, wide, 0, 0, 0, 0, 0, 0⟩ []).length : Int) = sizU k wide := by
  have hr : rightU ⟨k, wide, 0, 0, 0, 0, 0, 0⟩ = kindOk k := by
    unfold rightU fitsO
    simp
  unfold putUB sizU
  rw [hr]
  cases hk : kindOk k with
  | false => simp
  | true =>
    have h1 := headU_len ⟨k, wide, 0, 0, 0, 0, 0, 0⟩
    have h2 := sigU_len ⟨k, wide, 0, 0, 0, 0, 0, 0⟩
    simp only at h1 h2
    rw [if_pos rfl, List.length_append]
    have hu : (unitB ⟨k, wide, 0, 0, 0, 0, 0, 0⟩ []).length = 4 + offN wide + (if k = 2 then 8 + offN wide else 0) := by
      unfold unitB
      rw [List.append_nil, List.length_append, h1, h2]
    have hl : (lenB (unitB ⟨k, wide, 0, 0, 0, 0, 0, 0⟩ []).length wide).length = if wide then 12 else 4 := by
      unfold lenB
      cases wide with
      | true => simp [leBytes_length]
      | false =>
        rw [if_neg (by decide), if_pos (by have := unitB_len ⟨k, false, 0, 0, 0, 0, 0, 0⟩ []; simp only [List.length_nil] at this; omega)]
        simp [leBytes_length]
    rw [hl, hu]
    cases wide <;> (by_cases h2 : k = 2 <;> simp [h2, offN, lenO])

set_option maxRecDepth 10000 in
theorem usize_any {w : World} (hs : Sz w) (k : Int) (hk : -9223372036854775808 ≤ k ∧ k ≤ 9223372036854775807) (wide : Bool) :
    Calls Tryd.prog 35 #[.int .i64 k, .bool wide] w fun r w' => r = .returned (.int .i64 (sizU k wide)) ∧ Below w.heap.size w w' := by
  have HP := Lib.hid (show Calls Tryd.prog 33 #[.agg #[.int .i64 k, .bool wide, .int .u64 0, .int .u64 0, .int .u64 0, .int .u64 0, .int .u64 0, .int .u64 0], .slice none 0 0] w fun r w' => ∃ u, r = .returned (.tuple #[u, .int .i64 (putUE ⟨k, wide, 0, 0, 0, 0, 0, 0⟩)]) ∧ Own w' w.heap.size u (putUB ⟨k, wide, 0, 0, 0, 0, 0, 0⟩ []) ∧ Below w.heap.size w w' from
    uput_any hs ⟨k, wide, 0, 0, 0, 0, 0, 0⟩ ⟨hk, show 0 < two64 by decide, show 0 < two64 by decide, show 0 < two64 by decide⟩ (B := w.heap.size) (A := none) (body := []) Rd.nil_ (Nat.le_refl _) 0 (by simp))
  have HZ := Lib.hid (sizU_put k wide)
  clear hs
  generalize putUE ⟨k, wide, 0, 0, 0, 0, 0, 0⟩ = e at *
  generalize putUB ⟨k, wide, 0, 0, 0, 0, 0, 0⟩ [] = l at *
  generalize sizU k wide = z at *
  go_enter Tryd.func35, Tryd.ntmps35
  go_wp2_with (go_at_call 33; refine HP.out.mono ?_; rintro r w2 ⟨u, rfl, ho2, hb2⟩; have HB2 := Lib.hid hb2; (obtain ⟨A2, c2, rfl, -, -, -⟩ := own_slice ho2); clear ho2 hb2)
  go_ret
  exact ⟨by rw [← HZ.out]; rfl, HB2.out⟩

end Go.Proofs.YtelmfhpefnemfaaDoor
