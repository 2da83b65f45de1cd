/-
  Package linkmap: a symbol's name that may be (right); a symbol is kept (name).
-/
import Derived.Test.YtejicboemkpeoaaDoorLnK
import Derived.Test.YtejicboemkpeoaaDoorCsQ
import Derived.Test.YtejicboemkpeoaaDoorPoC
import Derived.Test.YtejicboemkpeoaaDoorSyI
import Derived.Deep.RegionHeldLaw
namespace Go.Proofs.YtejicboemkpeoaaDoor
open Go Go.RowKit

/-- May a text be a symbol's name? -/
def goodN (s : List UInt8) : Bool := !s.isEmpty && rightT s
/-- May a symbol be, behind others? -/
def goodY (Y : List Named) (y : Named) : Bool := goodN y.name && (nameK Y y.name).isNone
theorem mk_list (s : List UInt8) : (ByteArray.mk s.toArray).toList = s := by rw [Lib.toList_data]

set_option maxRecDepth 10000 in
theorem goodn_any (s : List UInt8) (w : World) (hs : s.length ≤ 140737488355328) :
    Calls Tryd.prog 42 #[.string ⟨s.toArray⟩] w fun r w' => r = .returned (.bool (goodN s)) ∧ w = w' := by
  have hR := fun W => right_any s W hs
  have HL := Lib.hid (mk_list s)
  cases he : s.isEmpty with
  | true =>
    have HG := Lib.hid (show goodN s = false by unfold goodN; rw [he]; rfl)
    have hq : (ByteArray.mk s.toArray).toList.isEmpty = true := by rw [HL.out]; exact he
    generalize ByteArray.mk s.toArray = b at *
    clear he
    go_enter Tryd.func42, Tryd.ntmps42
    go_wp2_with (go_at_call 51; refine (hR _).mono ?_; rintro r w1 ⟨rfl, rfl⟩)
    go_ret
    exact ⟨by rw [HG.out]; rfl, rfl⟩
  | false =>
    have HG := Lib.hid (show goodN s = rightT s by unfold goodN; rw [he]; rfl)
    have hq : (ByteArray.mk s.toArray).toList.isEmpty = false := by rw [HL.out]; exact he
    generalize ByteArray.mk s.toArray = b at *
    clear he
    go_enter Tryd.func42, Tryd.ntmps42
    go_wp2_with (go_at_call 51; refine (hR _).mono ?_; rintro r w1 ⟨rfl, rfl⟩)
    go_ret
    exact ⟨by rw [HG.out]; rfl, rfl⟩

set_option maxRecDepth 10000 in
set_option maxHeartbeats 1600000 in
theorem name_any {w : World} {base g mp my : Nat} {v : Value} {Y : List Named} (hX : Box w g 77 #[.map (some mp), v, .map (some my)]) (hY : YMap w base my Y) (hyl : Y.length ≤ 1000) {y : Named} (hy : y.Nums) (hl : y.name.length ≤ 1000000) :
    Calls Tryd.prog 27 #[.pointer (some ⟨g, 0, none⟩), .agg #[.string ⟨y.name.toArray⟩, .int .u64 (y.addr : Int)]] w fun r w' =>
      r = .returned (.bool (goodY Y y)) ∧ (goodY Y y = true → YMap w' base my (Y ++ [y])) ∧ But (fun k => k = my) w w' := by
  obtain ⟨t, a⟩ := y
  simp only at hl ⊢
  obtain ⟨hg1, hg2⟩ : g < w.heap.size ∧ my < w.heap.size := ⟨hX.lt, hY.lt⟩
  have HNM := Lib.hid (show g ≠ my ∧ w.heap.size ≠ my from ⟨fun e => (by
    obtain ⟨es, c, hm⟩ := hY.block
    have := hX
    unfold Box at this
    rw [e, hm] at this
    cases this), by omega⟩)
  generalize hw0 : w.alloc (.cells #[.string ⟨t.toArray⟩, .int .u64 (a : Int)] 67) = w0 at *
  have hb0 : Below w.heap.size w w0 := hw0 ▸ (Below.refl _ _).alloc (Nat.le_refl _) _
  have hXn := Box.new w 67 #[.string ⟨t.toArray⟩, .int .u64 (a : Int)]
  rw [hw0] at hXn
  have HB0 := Lib.hid hb0
  have hs0 : w.heap.size < w0.heap.size := by rw [← hw0]; simp
  have KX := Lib.hid (fun W (hW : Below w0.heap.size w0 W) => (⟨hXn.below hW hs0, (hX.below hb0 hg1).below hW (by omega), (hY.same (hb0.block my hg2)).same (hW.block my (by omega))⟩ :
    Box W w.heap.size 67 #[.string ⟨t.toArray⟩, .int .u64 (a : Int)] ∧ Box W g 77 #[.map (some mp), v, .map (some my)] ∧ YMap W base my Y))
  have hR := fun W => goodn_any t W (by omega)
  have hCl := fun W => sclone_str t W hl
  obtain ⟨h1, h2, h3⟩ := KX.out _ (Below.refl _ _)
  have c0 := h1.cell 0
  have c1 := h1.cell 1
  have g2 := h2.cell 2
  simp at c0 c1 g2
  obtain ⟨cc, hlk, -⟩ := h3.look_all (t := t) (by unfold maxLen; omega)
  have hlk := fun n => hlk (w0.drewN n) rfl
  have HS := Lib.hid (fun W (hW : Below w0.heap.size w0 W) (hn : nameK Y t = none) => ((KX.out W hW).2.2.put (y := ⟨t, a⟩) hy (by show t.length ≤ maxLen; unfold maxLen; omega) hn (by omega)))
  clear hX hY hb0 hXn h1 h2 h3
  have HGY := Lib.hid (show goodY Y ⟨t, a⟩ = (goodN t && (nameK Y t).isNone) from rfl)
  generalize hsb : ByteArray.mk t.toArray = sb at *
  have HSB := Lib.hid hsb
  clear hsb
  cases hn : nameK Y t with
  | some kk =>
    rw [hn] at HGY hlk
    have HG := Lib.hid (show goodY Y ⟨t, a⟩ = false by rw [HGY.out]; simp)
    obtain ⟨gn, hgn⟩ : ∃ gn, goodN t = gn := ⟨_, rfl⟩
    rw [hgn] at hR
    clear hgn HGY
    cases gn
    all_goals
      go_enter Tryd.func27, Tryd.ntmps27
      go_upto_region 1 with fail
      try rw [hw0]
      clear hw0
      go_quiet (fail)
      go_wp2_with (go_at_call 42; refine (hR _).mono ?_; rintro r w1 ⟨rfl, rfl⟩)
      go_ret
      exact ⟨by rw [HG.out]; rfl, fun h => (by rw [HG.out] at h; cases h), But.of_below (below_drewN HB0.out _)⟩
  | none =>
    rw [hn] at HGY hlk
    cases hgn : goodN t with
    | false =>
      have HG := Lib.hid (show goodY Y ⟨t, a⟩ = false by rw [HGY.out, hgn]; rfl)
      rw [hgn] at hR
      clear hgn
      go_enter Tryd.func27, Tryd.ntmps27
      go_upto_region 1 with fail
      try rw [hw0]
      clear hw0
      go_quiet (fail)
      go_wp2_with (go_at_call 42; refine (hR _).mono ?_; rintro r w1 ⟨rfl, rfl⟩)
      go_ret
      exact ⟨by rw [HG.out]; rfl, fun h => (by rw [HG.out] at h; cases h), But.of_below (below_drewN HB0.out _)⟩
    | true =>
      have HG := Lib.hid (show goodY Y ⟨t, a⟩ = true by rw [HGY.out, hgn]; rfl)
      rw [hgn] at hR
      have HN := Lib.hid hn
      clear hgn hn
      go_enter Tryd.func27, Tryd.ntmps27
      go_upto_region 1 with fail
      try rw [hw0]
      clear hw0
      go_quiet (fail)
      go_upto_region 4 with (go_at_call 42; refine (hR _).mono ?_; rintro r w1 ⟨rfl, rfl⟩)
      go_region_held_law (fun W => W.cell? ⟨g, 2, none⟩ = some (.map (some my)) ∧ W.cell? ⟨w.heap.size, 0, none⟩ = some (.string sb) ∧ W.cell? ⟨w.heap.size, 1, none⟩ = some (.int .u64 (a : Int))) ((first | assumption | exact ⟨g2, c0, c1⟩ | exact ⟨r2, r0, r1⟩ | exact ⟨e2, e0, e1⟩)) (first
        | (go_at_call 43; refine (hCl _).mono ?_; rintro r w2 ⟨rfl, hb2⟩; have HB2 := Lib.hid (below_drewN (Below.refl w0.heap.size w0) (nq + 1) |>.trans hb2); (obtain ⟨w3, hrun3, hy3, hg3⟩ := HS.out w2 HB2.out HN.out); (try simp only at hrun3); have HY3 := Lib.hid hy3; have HG3 := Lib.hid hg3; have HS3 := Lib.hid (KX.out w2 HB2.out); (obtain ⟨k1, k2, k3⟩ := HS3.out); have r0 := k1.cell 0; have r1 := k1.cell 1; have r2 := k2.cell 2; simp at r0 r1 r2; have e0 := (k1.grown hg3 (by simpa using HNM.out.2)).cell 0; have e1 := (k1.grown hg3 (by simpa using HNM.out.2)).cell 1; have e2 := (k2.grown hg3 (by simpa using HNM.out.1)).cell 2; simp at e0 e1 e2; clear k1 k2 k3 hy3 hg3 hb2))
      go_wp2_with fail
      go_ret
      exact ⟨by rw [HG.out]; rfl, fun _ => HY3.out, (But.of_below (HB0.out.trans (HB2.out.mono HB0.out.size))).grown HG3.out (fun x e => .inl (by injection e with e; exact e.symm))⟩

end Go.Proofs.YtejicboemkpeoaaDoor
