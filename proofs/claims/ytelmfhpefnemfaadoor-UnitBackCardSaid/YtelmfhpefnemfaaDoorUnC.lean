/-
  Package unit: numbers, by methods that are handed on as values.
-/
import Derived.Test.YtelmfhpefnemfaaDoorUnB
namespace Go.Proofs.YtelmfhpefnemfaaDoor
open Go Go.RowKit

/-- What has been read and stored so far. -/
structure NSt (w0 w : World) (g pb pw : Nat) (v : Value) (l : List UInt8) (wide : Bool) (H : Nat) (s : UCt) (cs : Array Value) : Prop where
  u : UIn w g pb pw v l wide s
  x : Box w H 82 cs
  gr : w0.grownBy w (some g)
/-- Where things are. -/
structure NAp (w0 : World) (g pb pw H : Nat) : Prop where
  g : g < w0.heap.size
  b : pb < w0.heap.size
  d : pw < w0.heap.size
  z : 0 < w0.heap.size
  h : w0.heap.size ≤ H
section
variable {w0 w w' wx : World} {g pb pw H : Nat} {v : Value} {l : List UInt8} {wide : Bool} {s s' : UCt} {cs : Array Value}
theorem NSt.call (h : NSt w0 w g pb pw v l wide H s cs) (ha : NAp w0 g pb pw H) (hU : UIn w' g pb pw v l wide s') (hG : w.grownBy w' (some g)) : NSt w0 w' g pb pw v l wide H s' cs :=
  ⟨hU, h.x.grown hG (fun e => by injection e with e; have := ha.g; have := ha.h; omega), h.gr.trans hG⟩
theorem NSt.set (h : NSt w0 w g pb pw v l wide H s cs) (ha : NAp w0 g pb pw H) (i : Nat) (u : Value) : NSt w0 (w.setCell ⟨H, i, none⟩ u) g pb pw v l wide H s (cs.setIfInBounds i u) := by
  have G : w.grownBy (w.setCell ⟨H, i, none⟩ u) (some H) := only_set (only_refl w (some H)) i u
  have := ha.h
  exact ⟨h.u.past h.x (by decide) (by have := ha.g; omega) (by have := ha.b; omega) (by have := ha.d; omega) (by have := ha.z; omega) G, h.x.set i u, only_trans h.gr G (.inr fun x hx => by injection hx with hx; omega)⟩
/-- The whole struct stored. -/
theorem NSt.told (h : NSt w0 wx g pb pw v l wide H s cs) (ha : NAp w0 g pb pw H) (hs : cs.size = 8) (v0 v1 v2 v3 v4 v5 v6 v7 : Value) :
    NSt w0 ((((((((wx.setCell ⟨H, 0, none⟩ v0).setCell ⟨H, 1, none⟩ v1).setCell ⟨H, 2, none⟩ v2).setCell ⟨H, 3, none⟩ v3).setCell ⟨H, 4, none⟩ v4).setCell ⟨H, 5, none⟩ v5).setCell ⟨H, 6, none⟩ v6).setCell ⟨H, 7, none⟩ v7) g pb pw v l wide H s #[v0, v1, v2, v3, v4, v5, v6, v7] := by
  have G := eight_only wx H v0 v1 v2 v3 v4 v5 v6 v7
  have := ha.h
  exact ⟨h.u.past h.x (by decide) (by have := ha.g; omega) (by have := ha.b; omega) (by have := ha.d; omega) (by have := ha.z; omega) G, eight_box h.x hs _ _ _ _ _ _ _ _, only_trans h.gr G (.inr fun x hx => by injection hx with hx; omega)⟩
end
set_option maxRecDepth 10000 in
set_option maxHeartbeats 3200000 in
theorem numbers_un {w : World} {g pb pw : Nat} {v : Value} {l : List UInt8} {wide : Bool} {e : Int} (h : UIn w g pb pw v l wide (0, e)) (hlen : l.length ≤ 140737488355328) :
    Calls Tryd.prog 83 #[.func (.func 84) #[.pointer (some ⟨g, 0, none⟩)] #[], .func (.func 85) #[.pointer (some ⟨g, 0, none⟩)] #[], .func (.func 86) #[.pointer (some ⟨g, 0, none⟩)] #[], .func (.func 81) #[] #[.pointer (some ⟨pb, 0, none⟩), .pointer (some ⟨pw, 0, none⟩)], .func (.func 51) #[.pointer (some ⟨g, 0, none⟩)] #[]] w fun r w' =>
      r = .returned (.agg (numU l e wide).cells.toArray) ∧ UIn w' g pb pw v l wide (qzU l e wide) ∧ w.grownBy w' (some g) := by
  have HA := Lib.hid (show NAp w g pb pw w.heap.size from ⟨h.c.1.lt, h.b.lt, h.d.lt, h.z.pos, Nat.le_refl _⟩)
  have C1 := Lib.hid (fun W cs H (hA : NAp w g pb pw H) (hW : NSt w W g pb pw v l wide H (0, e) cs) => (u16_un hW.u hlen).mono fun r w' (⟨h1, h2, h3⟩ : _ ∧ _ ∧ _) => And.intro h1 (hW.call hA h2 h3))
  have C2 := Lib.hid (fun W cs H (hA : NAp w g pb pw H) (hW : NSt w W g pb pw v l wide H (q1U l e) cs) => (u8_un hW.u hlen).mono fun r w' (⟨h1, h2, h3⟩ : _ ∧ _ ∧ _) => And.intro h1 (hW.call hA h2 h3))
  have C3 := Lib.hid (fun W cs H (hA : NAp w g pb pw H) (hW : NSt w W g pb pw v l wide H (q2U l e) cs) => (u8_un hW.u hlen).mono fun r w' (⟨h1, h2, h3⟩ : _ ∧ _ ∧ _) => And.intro h1 (hW.call hA h2 h3))
  have C4 := Lib.hid (fun W cs H (hA : NAp w g pb pw H) (hW : NSt w W g pb pw v l wide H (q3U l e) cs) => (off_un hW.u hlen).mono fun r w' (⟨h1, h2, h3⟩ : _ ∧ _ ∧ _) => And.intro h1 (hW.call hA h2 h3))
  have C5 := Lib.hid (fun W cs H (hA : NAp w g pb pw H) (hW : NSt w W g pb pw v l wide H (q4U l e wide) cs) => (u64_un hW.u hlen).mono fun r w' (⟨h1, h2, h3⟩ : _ ∧ _ ∧ _) => And.intro h1 (hW.call hA h2 h3))
  have C6 := Lib.hid (fun W cs H (hA : NAp w g pb pw H) (hW : NSt w W g pb pw v l wide H (q5U l e wide) cs) => (off_un hW.u hlen).mono fun r w' (⟨h1, h2, h3⟩ : _ ∧ _ ∧ _) => And.intro h1 (hW.call hA h2 h3))
  have CF := Lib.hid (fun W cs H s (hA : NAp w g pb pw H) (hW : NSt w W g pb pw v l wide H s cs) => (fail_un hW.u).mono fun r w' (⟨h1, h2, h3⟩ : _ ∧ _ ∧ _) => And.intro h1 (hW.call hA h2 h3))
  have CK := Lib.hid (fun W k => known_any k W)
  have E1 := Lib.hid (show q1U l e = fU (vU l (0, e) 2 != 5) (nU l (0, e) 2) from rfl)
  have E2 := Lib.hid (show q2U l e = fU (!kindOk (kdU l e)) (nU l (q1U l e) 1) from rfl)
  have E3 := Lib.hid (show q3U l e = fU (vU l (q2U l e) 1 != 8) (nU l (q2U l e) 1) from rfl)
  have EN := Lib.hid (show numU l e wide = ⟨(kdU l e : Int), false, abU l e wide, if kdU l e = 2 then vU l (q4U l e wide) 8 else 0, if kdU l e = 2 then vU l (q5U l e wide) (offN wide) else 0, 0, 0, 0⟩ from rfl)
  have EZ := Lib.hid (show qzU l e wide = if kdU l e = 2 then q6U l e wide else q4U l e wide from rfl)
  have hk := vU_lt l (q1U l e) 1
  rw [show vU l (q1U l e) 1 = kdU l e from rfl] at C2 hk
  rw [show vU l (q3U l e) (offN wide) = abU l e wide from rfl, show nU l (q3U l e) (offN wide) = q4U l e wide from rfl] at C4
  rw [show nU l (q4U l e wide) 8 = q5U l e wide from rfl] at C5
  rw [show nU l (q5U l e wide) (offN wide) = q6U l e wide from rfl] at C6
  have HI := Lib.hid h
  clear h hlen
  generalize numU l e wide = R at *
  generalize qzU l e wide = z at *
  generalize q6U l e wide = z6 at *
  generalize vU l (q5U l e wide) (offN wide) = n6 at *
  generalize q5U l e wide = z5 at *
  generalize vU l (q4U l e wide) 8 = n5 at *
  generalize q4U l e wide = z4 at *
  generalize abU l e wide = n4 at *
  generalize vU l (q2U l e) 1 = n3 at *
  generalize nU l (q2U l e) 1 = a3 at *
  generalize q3U l e = z3 at *
  generalize nU l (q1U l e) 1 = a2 at *
  generalize q2U l e = z2 at *
  generalize kdU l e = n2 at *
  generalize vU l (0, e) 2 = n1 at *
  generalize nU l (0, e) 2 = a1 at *
  generalize q1U l e = z1 at *
  have s2 : IntKind.i64.wrap (n2 : Int) = (n2 : Int) := by rw [IntWalk.i64_in _ (by omega)]
  go_enter Tryd.func83, Tryd.ntmps83
  go_upto_region 1 with fail
  have hX := Box.new w 82 #[.int .i64 0, .bool false, .int .u64 0, .int .u64 0, .int .u64 0, .int .u64 0, .int .u64 0, .int .u64 0]
  have hb : Below w.heap.size w (w.alloc (.cells #[.int .i64 0, .bool false, .int .u64 0, .int .u64 0, .int .u64 0, .int .u64 0, .int .u64 0, .int .u64 0] 82)) := (Below.refl _ _).alloc (Nat.le_refl _) _
  generalize hw1 : w.alloc (.cells #[.int .i64 0, .bool false, .int .u64 0, .int .u64 0, .int .u64 0, .int .u64 0, .int .u64 0, .int .u64 0] 82) = w1 at *
  have HE1 := Lib.hid (show NSt w w1 g pb pw v l wide w.heap.size (0, e) _ from ⟨HI.out.below hb, hX, only_below hb _⟩)
  clear hw1 hX hb HI
  generalize w.heap.size = H at *
  go_upto_if 13 with (go_at_call 85; refine (C1.out _ _ _ HA.out HE1.out).mono ?_; rintro r w2 ⟨rfl, h2⟩; have HE2 := Lib.hid h2; clear h2)
  go_cut [] (fun wx => NSt w wx g pb pw v l wide H z1 #[.int .i64 0, .bool false, .int .u64 0, .int .u64 0, .int .u64 0, .int .u64 0, .int .u64 0, .int .u64 0])
  case first =>
    by_cases h5 : n1 = 5
    · have q : ((n1 : Int) != 5) = false := by simp; omega
      have e1 : z1 = a1 := by rw [E1.out, show (n1 != 5) = false by simpa using h5]; rfl
      clear h5
      go_wp2_with fail
      go_meet
      case rel => rw [e1]; exact HE2.out
    · have q : ((n1 : Int) != 5) = true := by simp; omega
      have e1 : z1 = fU true a1 := by rw [E1.out, show (n1 != 5) = true by simpa using h5]
      clear h5
      go_wp2_with (go_at_call 51; refine (CF.out _ _ _ _ HA.out HE2.out).mono ?_; rintro r w3 ⟨rfl, h3⟩; have HE3 := Lib.hid h3; clear h3)
      go_meet
      case rel => rw [e1]; exact HE3.out
  case rest =>
  have HE4 := Lib.hid hcut
  clear hcut HE1 HE2 E1 C1
  obtain ⟨k0, k1, k2, k3, k4, k5, k6, k7⟩ := eight_cells HE4.out.x
  obtain ⟨f0, f1, f2, f3, f4, f5, f6, f7⟩ := eight_free HE4.out.x
  go_upto_region 4 with (go_at_call 84; refine (C2.out _ _ _ HA.out HE4.out).mono ?_; rintro r w2 ⟨rfl, h2⟩; (obtain ⟨y0, y1, y2, y3, y4, y5, y6, y7⟩ := eight_cells h2.x); (obtain ⟨g0, g1, g2, g3, g4, g5, g6, g7⟩ := eight_free h2.x); have HE5 := Lib.hid (h2.set HA.out 0 (.int .i64 (n2 : Int))); clear h2)
  clear k0 k1 k2 k3 k4 k5 k6 k7 f0 f1 f2 f3 f4 f5 f6 f7 y0 y1 y2 y3 y4 y5 y6 y7 g0 g1 g2 g3 g4 g5 g6 g7 HE4 C2
  generalize hw5 : World.setCell _ _ _ = w5 at *
  obtain ⟨y0, y1, y2, y3, y4, y5, y6, y7⟩ := eight_cells HE5.out.x
  clear hw5
  go_upto_if 23 with (go_at_call 90; refine (CK.out _ _).mono ?_; rintro r w6 ⟨rfl, rfl⟩)
  go_cut [] (fun wx => NSt w wx g pb pw v l wide H z2 #[.int .i64 (n2 : Int), .bool false, .int .u64 0, .int .u64 0, .int .u64 0, .int .u64 0, .int .u64 0, .int .u64 0])
  case first =>
    cases hko : kindOk (n2 : Int) with
    | true =>
      have e1 : z2 = a2 := by rw [E2.out, hko]; rfl
      go_wp2_with fail
      go_meet
      case rel => rw [e1]; exact HE5.out
    | false =>
      have e1 : z2 = fU true a2 := by rw [E2.out, hko]; rfl
      go_wp2_with (go_at_call 51; refine (CF.out _ _ _ _ HA.out HE5.out).mono ?_; rintro r w3 ⟨rfl, h3⟩; have HE6 := Lib.hid h3; clear h3)
      go_meet
      case rel => rw [e1]; exact HE6.out
  case rest =>
  have HE7 := Lib.hid hcut
  clear hcut HE5 E2 y0 y1 y2 y3 y4 y5 y6 y7
  go_upto_if 28 with (go_at_call 84; refine (C3.out _ _ _ HA.out HE7.out).mono ?_; rintro r w8 ⟨rfl, h2⟩; have HE8 := Lib.hid h2; clear h2)
  go_cut [] (fun wx => NSt w wx g pb pw v l wide H z3 #[.int .i64 (n2 : Int), .bool false, .int .u64 0, .int .u64 0, .int .u64 0, .int .u64 0, .int .u64 0, .int .u64 0])
  case first =>
    by_cases h8 : n3 = 8
    · have q : ((n3 : Int) != 8) = false := by simp; omega
      have e1 : z3 = a3 := by rw [E3.out, show (n3 != 8) = false by simpa using h8]; rfl
      clear h8
      go_wp2_with fail
      go_meet
      case rel => rw [e1]; exact HE8.out
    · have q : ((n3 : Int) != 8) = true := by simp; omega
      have e1 : z3 = fU true a3 := by rw [E3.out, show (n3 != 8) = true by simpa using h8]
      clear h8
      go_wp2_with (go_at_call 51; refine (CF.out _ _ _ _ HA.out HE8.out).mono ?_; rintro r w3 ⟨rfl, h3⟩; have HE9 := Lib.hid h3; clear h3)
      go_meet
      case rel => rw [e1]; exact HE9.out
  case rest =>
  have HE10 := Lib.hid hcut
  clear hcut HE7 HE8 E3 C3
  go_upto_region 9 with (go_at_call 81; refine (C4.out _ _ _ HA.out HE10.out).mono ?_; rintro r w11 ⟨rfl, h2⟩; (obtain ⟨y0, y1, y2, y3, y4, y5, y6, y7⟩ := eight_cells h2.x); (obtain ⟨g0, g1, g2, g3, g4, g5, g6, g7⟩ := eight_free h2.x); have HE11 := Lib.hid (h2.set HA.out 2 (.int .u64 (n4 : Int))); clear h2)
  clear y0 y1 y2 y3 y4 y5 y6 y7 g0 g1 g2 g3 g4 g5 g6 g7 HE10 C4
  generalize hw12 : World.setCell _ _ _ = w12 at *
  clear hw12
  obtain ⟨y0, y1, y2, y3, y4, y5, y6, y7⟩ := eight_cells HE11.out.x
  by_cases h2 : n2 = 2
  · have q : ((n2 : Int) == 2) = true := by simp; omega
    rw [if_pos h2, if_pos h2] at EN
    rw [if_pos h2] at EZ
    clear h2
    go_upto_region 10 with fail
    go_upto_region 11 with (first
      | (go_at_call 86; refine (C5.out _ _ _ HA.out HE11.out).mono ?_; rintro r w13 ⟨rfl, h2⟩; have HE13 := Lib.hid h2; clear h2)
      | (go_at_call 81; refine (C6.out _ _ _ HA.out HE13.out).mono ?_; rintro r w14 ⟨rfl, h2⟩; have HE14 := Lib.hid h2; (obtain ⟨g0, g1, g2, g3, g4, g5, g6, g7⟩ := eight_free h2.x); clear y0 y1 y2 y3 y4 y5 y6 y7; (obtain ⟨y0, y1, y2, y3, y4, y5, y6, y7⟩ := eight_cells h2.x); have HE15 := Lib.hid ((h2.set HA.out 3 (.int .u64 (n5 : Int))).set HA.out 4 (.int .u64 (n6 : Int))); clear h2))
    clear y0 y1 y2 y3 y4 y5 y6 y7 g0 g1 g2 g3 g4 g5 g6 g7 HE11 HE13 HE14
    generalize hw15 : World.setCell (World.setCell _ _ _) _ _ = w15 at *
    clear hw15
    obtain ⟨y0, y1, y2, y3, y4, y5, y6, y7⟩ := eight_cells HE15.out.x
    obtain ⟨g0, g1, g2, g3, g4, g5, g6, g7⟩ := eight_free HE15.out.x
    go_wp2_with fail
    have HT := HE15.out.told HA.out rfl (.int .i64 (n2 : Int)) (.bool false) (.int .u64 (n4 : Int)) (.int .u64 (n5 : Int)) (.int .u64 (n6 : Int)) (.int .u64 0) (.int .u64 0) (.int .u64 0)
    refine ret_one Tryd.underlying82 Tryd.results83 HT.x (by kernel_rfl) (by rfl) rfl ?_
    exact ⟨by rw [EN.out]; rfl, by rw [EZ.out]; exact HT.u, HT.gr⟩
  · have q : ((n2 : Int) == 2) = false := by simp; omega
    rw [if_neg h2, if_neg h2] at EN
    rw [if_neg h2] at EZ
    clear h2
    obtain ⟨g0, g1, g2, g3, g4, g5, g6, g7⟩ := eight_free HE11.out.x
    go_wp2_with fail
    have HT := HE11.out.told HA.out rfl (.int .i64 (n2 : Int)) (.bool false) (.int .u64 (n4 : Int)) (.int .u64 0) (.int .u64 0) (.int .u64 0) (.int .u64 0) (.int .u64 0)
    refine ret_one Tryd.underlying82 Tryd.results83 HT.x (by kernel_rfl) (by rfl) rfl ?_
    exact ⟨by rw [EN.out]; rfl, by rw [EZ.out]; exact HT.u, HT.gr⟩

end Go.Proofs.YtelmfhpefnemfaaDoor
