/-
  Entries copied from the program's type to the document's, and back (written by wip/tools/gen_dik.py).
-/
import Derived.Test.YtejicboemkpeoaaGreatDoorRwM
import Derived.Test.YtejicboemkpeoaaGreatDoorGpA
import Derived.OrdersHeld
import Derived.RegionTactic
import Derived.WalkKit
import Derived.Test.YtejicboemkpeoaaGreatDoorRoundRegion
import Derived.Test.YtejicboemkpeoaaGreatDoorDiG
namespace Go.Proofs.YtejicboemkpeoaaGreatDoor
open Go Go.RowKit

/-! ### The first of a list -/
def findG {α : Type} [DecidableEq α] (l : List α) (x : α) : Int := match firstK (fun y => decide (y = x)) 0 l with | some k => (k : Int) | none => -1
section
variable {α : Type} [DecidableEq α] {l : List α} {x : α}
theorem findG_at {k : Nat} (h : l[k]? = some x) (hn : (l.take k).all (fun y => !(decide (y = x))) = true) : findG l x = (k : Int) := by
  have := firstK_take (p := fun y => decide (y = x)) l 0 k x h hn (by simp)
  unfold findG
  rw [this, Nat.zero_add]
theorem findG_no (hn : l.all (fun y => !(decide (y = x))) = true) : findG l x = -1 := by
  unfold findG
  rw [firstK_none l 0 hn]
theorem findG_some (h : findG l x ≠ -1) : ∃ k : Nat, findG l x = (k : Int) ∧ l[k]? = some x := by
  cases hf : firstK (fun y => decide (y = x)) 0 l with
  | none => exact absurd (by unfold findG; rw [hf]) h
  | some k =>
    obtain ⟨y, h1, h2, -⟩ := firstK_some (i := 0) (by rw [Nat.zero_add]; exact hf)
    have h2 := of_decide_eq_true h2
    exact ⟨k, by unfold findG; rw [hf], by rw [h1, h2]⟩
theorem findG_way (l : List α) (x : α) : findG l x = -1 ∨ ∃ k : Nat, findG l x = (k : Int) ∧ l[k]? = some x := by
  by_cases h : findG l x = -1
  · exact .inl h
  · exact .inr (findG_some h)
theorem all_takeD {k : Nat} {y : α} (hx : l[k]? = some y) (h : (l.take k).all (fun z => !(decide (z = x))) = true) (hp : y ≠ x) : (l.take (k + 1)).all (fun z => !(decide (z = x))) = true := by
  rw [List.take_add_one, hx, List.all_append, h]
  simp [hp]
end
/-- What Get tells. -/
def getV (l : List Att) (at_ : Int) : RV := match firstK (fun y => decide (y = at_)) 0 (l.map Att.at_) with | some k => (match l[k]? with | some t => t.x | none => zeroV) | none => zeroV
theorem getV_at {l : List Att} {at_ : Int} {k : Nat} {t : Att} (h : l[k]? = some t) (hf : findG (l.map Att.at_) at_ = (k : Int)) : getV l at_ = t.x := by
  unfold findG at hf
  unfold getV
  cases hk : firstK (fun y => decide (y = at_)) 0 (l.map Att.at_) with
  | some k' =>
    rw [hk] at hf
    have : k' = k := by simp only at hf; omega
    subst this
    simp only [h]
  | none =>
    rw [hk] at hf
    simp only at hf
    omega
theorem getV_no {l : List Att} {at_ : Int} (hf : findG (l.map Att.at_) at_ = -1) : getV l at_ = zeroV := by
  unfold findG at hf
  unfold getV
  cases hk : firstK (fun y => decide (y = at_)) 0 (l.map Att.at_) with
  | some k' =>
    rw [hk] at hf
    simp only at hf
    omega
  | none => rfl
theorem map_atts (X : List AtL) : (X.map AtL.att).map Att.at_ = X.map AtL.at_ := by rw [List.map_map]; rfl
/-- A value told, its bytes anywhere. -/
def ValIs (w' : World) (x : RV) (b : Bool) (r : Ending) : Prop := ∃ y : WLay, r = .returned (.tuple #[.agg #[.int .i64 y.x.form, .int .u64 (y.x.u : Int), .int .i64 y.x.s, .slice y.a y.x.b.length y.c, .string ⟨y.x.t.toArray⟩], .bool b]) ∧ Rd w' w'.heap.size y.a y.x.b ∧ y.x = x

/-! ### The program's -/
theorem dfind1_any {w : World} (y : DLay) (off g : Nat) (hg : w.cell? ⟨g, 0, none⟩ = some (.int .u64 (off : Int))) :
    Calls Tryz.prog 60 #[.agg #[.int .u64 (y.off : Int), .int .u64 (y.code : Int), .int .i64 y.tag, .int .i64 y.parent, .int .i64 y.depth, .slice y.a y.L.length y.c], .pointer (some ⟨g, 0, none⟩)] w fun r w' => r = .returned (.bool (decide (y.off = off))) ∧ Below w.heap.size w w' := by
  have hb : ((y.off : Int) == (off : Int)) = decide (y.off = off) := nat_beqR _ _
  have hlt : g < w.heap.size := by simpa using World.block_lt_of_cell? w _ hg
  generalize decide (y.off = off) = b at *
  generalize y.L.length = ln at *
  generalize y.off = o at *
  generalize y.code = cd at *
  generalize y.tag = tg at *
  generalize y.parent = pa at *
  generalize y.depth = dp at *
  generalize y.a = ya at *
  generalize y.c = yc at *
  have HB0 := Lib.hid (show Below w.heap.size w (w.alloc (.cells #[.int .u64 (o : Int), .int .u64 (cd : Int), .int .i64 tg, .int .i64 pa, .int .i64 dp, .slice ya ln yc] 61)) from (Below.refl _ _).alloc (Nat.le_refl _) _)
  have hg1 : (w.alloc (.cells #[.int .u64 (o : Int), .int .u64 (cd : Int), .int .i64 tg, .int .i64 pa, .int .i64 dp, .slice ya ln yc] 61)).cell? ⟨g, 0, none⟩ = some (.int .u64 (off : Int)) := by
    rw [HB0.out.cell (p := ⟨g, 0, none⟩) hlt]; exact hg
  clear hlt
  go_enter Tryz.func60, Tryz.ntmps60
  go_wp2_with fail
  go_ret
  exact ⟨by rw [← hb]; rfl, HB0.out⟩

set_option maxRecDepth 10000 in
set_option maxHeartbeats 1600000 in
theorem dindex_any {w : World} {a : Option Addr} {L : List DLay} (h : Ents w w.heap.size a L) (c : Nat) (hl : L.length ≤ 100000) (off g : Nat) (hg : w.cell? ⟨g, 0, none⟩ = some (.int .u64 (off : Int))) :
    Calls Tryz.prog 59 #[.slice a L.length c, .func (.func 60) #[] #[.pointer (some ⟨g, 0, none⟩)]] w fun r w' => r = .returned (.int .i64 (findG (L.map DLay.off) off)) ∧ Below w.heap.size w w' := by
  obtain ⟨N, hN⟩ : ∃ N, L.length = N := ⟨_, rfl⟩
  have HH := Lib.hid h
  have HN := Lib.hid hN
  have hlt : g < w.heap.size := by simpa using World.block_lt_of_cell? w _ hg
  have HG := Lib.hid (fun (W : World) (hW : Below w.heap.size w W) => (show W.cell? ⟨g, 0, none⟩ = some (.int .u64 (off : Int)) by rw [hW.cell (p := ⟨g, 0, none⟩) hlt]; exact hg))
  rw [hN] at hl ⊢
  clear h hN hg hlt
  go_enter Tryz.func59, Tryz.ntmps59
  go_wp2_with fail
  go_loopw [8] (fun i wr => ∃ k : Nat, k ≤ N ∧ i = .int .i64 k ∧ Hid (Below w.heap.size w wr) ∧ Hid (((L.map DLay.off).take k).all (fun z => !(decide (z = off))) = true)) (fun i _ => N - (intOf i).toNat)
  case atStart => exact ⟨0, Nat.zero_le _, rfl, Lib.hid (Below.refl _ _), Lib.hid rfl⟩
  case round =>
    obtain ⟨k, hk, rfl, HB, HY⟩ := hrel
    by_cases hlt : k < N
    · obtain ⟨y, hy⟩ : ∃ y, L[k]? = some y := ⟨L[k]'(by rw [HN.out]; exact hlt), List.getElem?_eq_getElem _⟩
      have hyo : (L.map DLay.off)[k]? = some y.off := by rw [List.getElem?_map, hy]; rfl
      obtain ⟨b, o, rfl, hb, c0, c1, c2, c3, c4, c5⟩ := ent_at (HH.out.below HB.out) hy
      have HW := Lib.hid (dfind1_any (w := wr) y off g (HG.out wr HB.out))
      by_cases hst : y.off = off
      · have HF := Lib.hid (show findG (L.map DLay.off) off = (k : Int) from findG_at (by rw [hyo, hst]) HY.out)
        have hd : decide (y.off = off) = true := by simpa using hst
        rw [hd] at HW
        clear hy hst hd hyo
        generalize y.L.length = ln at *
        generalize y.off = yo at *
        generalize y.code = cd at *
        generalize y.tag = tg at *
        generalize y.parent = pa at *
        generalize y.depth = dp at *
        generalize y.a = ya at *
        generalize y.c = yc at *
        go_wp2_with (go_at_call 60; refine HW.out.mono ?_; rintro r w1 ⟨rfl, hb1⟩)
        have HB1 := Lib.hid (HB.out.trans (hb1.mono HB.out.size))
        go_ret
        exact ⟨by rw [HF.out]; rfl, HB1.out⟩
      · have HF := Lib.hid (all_takeD hyo HY.out hst)
        have hd : decide (y.off = off) = false := by simpa using hst
        rw [hd] at HW
        clear hy hst hd hyo
        generalize y.L.length = ln at *
        generalize y.off = yo at *
        generalize y.code = cd at *
        generalize y.tag = tg at *
        generalize y.parent = pa at *
        generalize y.depth = dp at *
        generalize y.a = ya at *
        generalize y.c = yc at *
        go_wp2_with (go_at_call 60; refine HW.out.mono ?_; rintro r w1 ⟨rfl, hb1⟩)
        have HB1 := Lib.hid (HB.out.trans (hb1.mono HB.out.size))
        go_roundw
        case rel => exact ⟨k + 1, by omega, by go_num, HB1, HF⟩
        case measure => simp [intOf]; omega
    · have HF := Lib.hid (show findG (L.map DLay.off) off = -1 by
        have := HY.out
        rw [List.take_of_length_le (by rw [List.length_map, HN.out]; omega)] at this
        exact findG_no this)
      go_wp2_with fail
      go_ret
      exact ⟨by rw [HF.out]; rfl, HB.out⟩

set_option maxRecDepth 10000 in
theorem dfindE_any {w : World} {a : Option Addr} {L : List DLay} (h : Ents w w.heap.size a L) (c : Nat) (hl : L.length ≤ 100000) (off : Nat) :
    Calls Tryz.prog 21 #[.slice a L.length c, .int .u64 (off : Int)] w fun r w' => r = .returned (.int .i64 (findG (L.map DLay.off) off)) ∧ Below w.heap.size w w' := by
  have hmf : ∀ (fn : Fn) (first cap : Array Value) (W : World), (Instr.makeFunc fn first cap).run Tryz.prog W = .ok (.func fn first cap) W := fun _ _ _ _ => rfl
  have hb0 : Below w.heap.size w (w.alloc (.cells #[.int .u64 (off : Int)] 38)) := (Below.refl _ _).alloc (Nat.le_refl _) _
  have hX0 := Box.new w 38 #[.int .u64 (off : Int)]
  have HI := Lib.hid (dindex_any (h.up hb0) c hl off w.heap.size (by rw [hX0.cell]; rfl))
  have HB := Lib.hid hb0
  generalize L.length = N at *
  generalize findG (L.map DLay.off) off = R at *
  clear h hb0 hX0 hl
  go_enter Tryz.func21, Tryz.ntmps21
  go_wp2_with (go_at_call 59; refine HI.out.mono ?_; rintro r w2 ⟨rfl, hb2⟩; have HB2 := Lib.hid (HB.out.trans (hb2.mono HB.out.size)); clear hb2)
  go_ret
  exact ⟨rfl, HB2.out⟩

/-! ### The document's -/
set_option maxRecDepth 10000 in
set_option maxHeartbeats 1600000 in
theorem rfindE_any {w : World} {a : Option Addr} {L : List DLay} (h : Ents w w.heap.size a L) (c : Nat) (hl : L.length ≤ 100000) (off : Nat) :
    Calls Tryz.prog 22 #[.slice a L.length c, .int .u64 (off : Int)] w fun r w' => r = .returned (.int .i64 (findG (L.map DLay.off) off)) ∧ w' = w := by
  obtain ⟨N, hN⟩ : ∃ N, L.length = N := ⟨_, rfl⟩
  have HH := Lib.hid h
  have HN := Lib.hid hN
  rw [hN] at hl ⊢
  clear h hN
  go_enter Tryz.func22, Tryz.ntmps22
  go_wp2_with fail
  go_loopw [5] (fun i wr => ∃ k : Nat, k ≤ N ∧ i = .int .i64 k ∧ wr = w ∧ Hid (((L.map DLay.off).take k).all (fun z => !(decide (z = off))) = true)) (fun i _ => N - (intOf i).toNat)
  case atStart => exact ⟨0, Nat.zero_le _, rfl, rfl, Lib.hid rfl⟩
  case round =>
    obtain ⟨k, hk, rfl, rfl, HY⟩ := hrel
    by_cases hlt : k < N
    · obtain ⟨y, hy⟩ : ∃ y, L[k]? = some y := ⟨L[k]'(by rw [HN.out]; exact hlt), List.getElem?_eq_getElem _⟩
      have hyo : (L.map DLay.off)[k]? = some y.off := by rw [List.getElem?_map, hy]; rfl
      obtain ⟨b, o, rfl, hb, c0, c1, c2, c3, c4, c5⟩ := ent_at HH.out hy
      have hbb : ((y.off : Int) == (off : Int)) = decide (y.off = off) := nat_beqR _ _
      by_cases hst : y.off = off
      · have HF := Lib.hid (show findG (L.map DLay.off) off = (k : Int) from findG_at (by rw [hyo, hst]) HY.out)
        have hd : decide (y.off = off) = true := by simpa using hst
        rw [hd] at hbb
        clear hy hst hd hyo c1 c2 c3 c4 c5
        generalize y.off = yo at *
        go_wp2_with fail
        (try rw [Exit.noGoto_ret])
        go_ret
        exact ⟨by rw [HF.out]; rfl, rfl⟩
      · have HF := Lib.hid (all_takeD hyo HY.out hst)
        have hd : decide (y.off = off) = false := by simpa using hst
        rw [hd] at hbb
        clear hy hst hd hyo c1 c2 c3 c4 c5
        generalize y.off = yo at *
        go_wp2_with fail
        go_roundw
        case rel => exact ⟨k + 1, by omega, by go_num, by first | rfl | trivial, HF⟩
        case measure => simp [intOf]; omega
    · have HF := Lib.hid (show findG (L.map DLay.off) off = -1 by
        have := HY.out
        rw [List.take_of_length_le (by rw [List.length_map, HN.out]; omega)] at this
        exact findG_no this)
      go_wp2_with fail
      go_ret
      exact ⟨by rw [HF.out]; rfl, rfl⟩

end Go.Proofs.YtejicboemkpeoaaGreatDoor

namespace Go.Proofs.YtejicboemkpeoaaGreatDoor
open Go Go.RowKit

def hasG (X : List AtL) (at_ : Int) : Bool := !(decide (findG (X.map AtL.at_) at_ = -1))
theorem dget1_any {w : World} (t : AtL) (at_ : Int) (g : Nat) (hg : w.cell? ⟨g, 0, none⟩ = some (.int .i64 at_)) :
    Calls Tryz.prog 62 #[.agg #[.int .i64 t.at_, .int .i64 t.y.x.form, .int .u64 (t.y.x.u : Int), .int .i64 t.y.x.s, .slice t.y.a t.y.x.b.length t.y.c, .string ⟨t.y.x.t.toArray⟩], .pointer (some ⟨g, 0, none⟩)] w fun r w' => r = .returned (.bool (decide (t.at_ = at_))) ∧ Below w.heap.size w w' := by
  have hb : (t.at_ == at_) = decide (t.at_ = at_) := int_beqR _ _
  have hlt : g < w.heap.size := by simpa using World.block_lt_of_cell? w _ hg
  generalize decide (t.at_ = at_) = b at *
  generalize t.y.x.b.length = ln at *
  generalize t.y.x.t = tx at *
  generalize t.y.x.form = x0 at *
  generalize t.y.x.u = x1 at *
  generalize t.y.x.s = x2 at *
  generalize t.y.a = ya at *
  generalize t.y.c = yc at *
  generalize t.at_ = x9 at *
  have HB0 := Lib.hid (show Below w.heap.size w (w.alloc (.cells #[.int .i64 x9, .int .i64 x0, .int .u64 (x1 : Int), .int .i64 x2, .slice ya ln yc, .string ⟨tx.toArray⟩] 127)) from (Below.refl _ _).alloc (Nat.le_refl _) _)
  have hg1 : (w.alloc (.cells #[.int .i64 x9, .int .i64 x0, .int .u64 (x1 : Int), .int .i64 x2, .slice ya ln yc, .string ⟨tx.toArray⟩] 127)).cell? ⟨g, 0, none⟩ = some (.int .i64 at_) := by
    rw [HB0.out.cell (p := ⟨g, 0, none⟩) hlt]; exact hg
  clear hlt
  go_enter Tryz.func62, Tryz.ntmps62
  go_wp2_with fail
  go_ret
  exact ⟨by rw [← hb]; rfl, HB0.out⟩

set_option maxRecDepth 10000 in
set_option maxHeartbeats 1600000 in
theorem dindexA_any {w : World} {a : Option Addr} {X : List AtL} (h : Atts w w.heap.size a X) (c : Nat) (hl : X.length ≤ 100000) (at_ : Int) (g : Nat) (hg : w.cell? ⟨g, 0, none⟩ = some (.int .i64 at_)) :
    Calls Tryz.prog 61 #[.slice a X.length c, .func (.func 62) #[] #[.pointer (some ⟨g, 0, none⟩)]] w fun r w' => r = .returned (.int .i64 (findG (X.map AtL.at_) at_)) ∧ Below w.heap.size w w' := by
  obtain ⟨N, hN⟩ : ∃ N, X.length = N := ⟨_, rfl⟩
  have HH := Lib.hid h
  have HN := Lib.hid hN
  have hlt : g < w.heap.size := by simpa using World.block_lt_of_cell? w _ hg
  have HG := Lib.hid (fun (W : World) (hW : Below w.heap.size w W) => (show W.cell? ⟨g, 0, none⟩ = some (.int .i64 at_) by rw [hW.cell (p := ⟨g, 0, none⟩) hlt]; exact hg))
  rw [hN] at hl ⊢
  clear h hN hg hlt
  go_enter Tryz.func61, Tryz.ntmps61
  go_wp2_with fail
  go_loopw [8] (fun i wr => ∃ k : Nat, k ≤ N ∧ i = .int .i64 k ∧ Hid (Below w.heap.size w wr) ∧ Hid (((X.map AtL.at_).take k).all (fun z => !(decide (z = at_))) = true)) (fun i _ => N - (intOf i).toNat)
  case atStart => exact ⟨0, Nat.zero_le _, rfl, Lib.hid (Below.refl _ _), Lib.hid rfl⟩
  case round =>
    obtain ⟨k, hk, rfl, HB, HY⟩ := hrel
    by_cases hlt : k < N
    · obtain ⟨t, ht⟩ : ∃ t, X[k]? = some t := ⟨X[k]'(by rw [HN.out]; exact hlt), List.getElem?_eq_getElem _⟩
      have hyo : (X.map AtL.at_)[k]? = some t.at_ := by rw [List.getElem?_map, ht]; rfl
      obtain ⟨b, o, rfl, hb, c0, c1, c2, c3, c4, c5⟩ := att_at (HH.out.below HB.out) ht
      have HW := Lib.hid (dget1_any (w := wr) t at_ g (HG.out wr HB.out))
      by_cases hst : t.at_ = at_
      · have HF := Lib.hid (show findG (X.map AtL.at_) at_ = (k : Int) from findG_at (by rw [hyo, hst]) HY.out)
        have hd : decide (t.at_ = at_) = true := by simpa using hst
        rw [hd] at HW
        clear ht hst hd hyo
        generalize t.y.x.b.length = ln at *
        generalize t.y.x.t = tx at *
        generalize t.y.x.form = x0 at *
        generalize t.y.x.u = x1 at *
        generalize t.y.x.s = x2 at *
        generalize t.y.a = ya at *
        generalize t.y.c = yc at *
        generalize t.at_ = x9 at *
        go_wp2_with (go_at_call 62; refine HW.out.mono ?_; rintro r w1 ⟨rfl, hb1⟩)
        have HB1 := Lib.hid (HB.out.trans (hb1.mono HB.out.size))
        go_ret
        exact ⟨by rw [HF.out]; rfl, HB1.out⟩
      · have HF := Lib.hid (all_takeD hyo HY.out hst)
        have hd : decide (t.at_ = at_) = false := by simpa using hst
        rw [hd] at HW
        clear ht hst hd hyo
        generalize t.y.x.b.length = ln at *
        generalize t.y.x.t = tx at *
        generalize t.y.x.form = x0 at *
        generalize t.y.x.u = x1 at *
        generalize t.y.x.s = x2 at *
        generalize t.y.a = ya at *
        generalize t.y.c = yc at *
        generalize t.at_ = x9 at *
        go_wp2_with (go_at_call 62; refine HW.out.mono ?_; rintro r w1 ⟨rfl, hb1⟩)
        have HB1 := Lib.hid (HB.out.trans (hb1.mono HB.out.size))
        go_roundw
        case rel => exact ⟨k + 1, by omega, by go_num, HB1, HF⟩
        case measure => simp [intOf]; omega
    · have HF := Lib.hid (show findG (X.map AtL.at_) at_ = -1 by
        have := HY.out
        rw [List.take_of_length_le (by rw [List.length_map, HN.out]; omega)] at this
        exact findG_no this)
      go_wp2_with fail
      go_ret
      exact ⟨by rw [HF.out]; rfl, HB.out⟩

set_option maxRecDepth 10000 in
set_option maxHeartbeats 3200000 in
theorem dget_any {w : World} (y : DLay) (h : Atts w w.heap.size y.a y.L) (hl : y.L.length ≤ 100000) (at_ : Int) :
    Calls Tryz.prog 23 #[.agg #[.int .u64 (y.off : Int), .int .u64 (y.code : Int), .int .i64 y.tag, .int .i64 y.parent, .int .i64 y.depth, .slice y.a y.L.length y.c], .int .i64 at_] w fun r w' => ValIs w' (getV (y.L.map AtL.att) at_) (hasG y.L at_) r ∧ Below w.heap.size w w' := by
  have hmf : ∀ (fn : Fn) (first cap : Array Value) (W : World), (Instr.makeFunc fn first cap).run Tryz.prog W = .ok (.func fn first cap) W := fun _ _ _ _ => rfl
  generalize hw0 : w.alloc (.cells #[.int .u64 (y.off : Int), .int .u64 (y.code : Int), .int .i64 y.tag, .int .i64 y.parent, .int .i64 y.depth, .slice y.a y.L.length y.c] 61) = w0
  generalize hw1 : w0.alloc (.cells #[.int .i64 at_] 3) = w1
  generalize hw2 : w1.alloc (.cells #[.int .i64 0, .int .u64 0, .int .i64 0, .slice none 0 0, .string ⟨#[]⟩] 63) = w2
  have hs0 : w0.heap.size = w.heap.size + 1 := by rw [← hw0]; simp
  have hs1 : w1.heap.size = w.heap.size + 2 := by rw [← hw1]; simp [hs0]
  have hX0 := Box.new w 61 #[.int .u64 (y.off : Int), .int .u64 (y.code : Int), .int .i64 y.tag, .int .i64 y.parent, .int .i64 y.depth, .slice y.a y.L.length y.c]
  rw [hw0] at hX0
  have hX1 := Box.new w0 3 #[.int .i64 at_]
  rw [hw1] at hX1
  have hX2 := Box.new w1 63 #[.int .i64 0, .int .u64 0, .int .i64 0, .slice none 0 0, .string ⟨#[]⟩]
  rw [hw2] at hX2
  have hb0 : Below w.heap.size w w0 := hw0 ▸ (Below.refl _ _).alloc (Nat.le_refl _) _
  have hb1 : Below w0.heap.size w0 w1 := hw1 ▸ (Below.refl _ _).alloc (Nat.le_refl _) _
  have hb2 : Below w1.heap.size w1 w2 := hw2 ▸ (Below.refl _ _).alloc (Nat.le_refl _) _
  have hb12 := hb1.trans (hb2.mono hb1.size)
  have hb := hb0.trans (hb12.mono hb0.size)
  have HI := Lib.hid (dindexA_any (h.up hb) y.c hl at_ w0.heap.size (by rw [(hX1.below hb2 hX1.lt).cell]; rfl))
  have HX0 := Lib.hid (hX0.below hb12 hX0.lt)
  have HX2 := Lib.hid hX2
  have HB := Lib.hid hb
  have HH := Lib.hid h
  have HHR := Lib.hid (show w.heap.size ≤ w1.heap.size by omega)
  have HNE := Lib.hid (show w.heap.size ≠ w1.heap.size by omega)
  have HF := Lib.hid (findG_way (y.L.map AtL.at_) at_)
  have HGN := Lib.hid (@getV_no (y.L.map AtL.att) at_)
  have HGA := Lib.hid (fun (k : Nat) (t : AtL) (h1 : y.L[k]? = some t) (h2 : findG (y.L.map AtL.at_) at_ = (k : Int)) => getV_at (l := y.L.map AtL.att) (at_ := at_) (k := k) (t := t.att) (by rw [List.getElem?_map, h1]; rfl) (by rw [map_atts]; exact h2))
  rw [map_atts] at HGN
  have HHS := Lib.hid (show hasG y.L at_ = !(decide (findG (y.L.map AtL.at_) at_ = -1)) from rfl)
  generalize hasG y.L at_ = hg at *
  generalize findG (y.L.map AtL.at_) at_ = F at *
  generalize getV (y.L.map AtL.att) at_ = V at *
  obtain ⟨N, hN⟩ : ∃ N, y.L.length = N := ⟨_, rfl⟩
  have HN := Lib.hid hN
  simp only [hN] at HI HX0 hl hw0 ⊢
  generalize y.off = yo at *
  generalize y.code = cd at *
  generalize y.tag = tg at *
  generalize y.parent = pa at *
  generalize y.depth = dp at *
  generalize y.a = ya at *
  generalize y.c = yc at *
  clear h hN hX0 hX1 hX2 hb0 hb1 hb2 hb12 hb hs1 hs0
  go_enter Tryz.func23, Tryz.ntmps23
  go_upto_region 1 with fail
  try rw [hw0, hw1, hw2]
  clear hw0 hw1 hw2
  generalize w1.heap.size = H2 at *
  generalize w0.heap.size = H1 at *
  obtain ⟨p0, p1, p2, p3, p4, p5⟩ := six_cells HX0.out
  go_upto_region 2 with (go_at_call 61; refine HI.out.mono ?_; rintro r w3 ⟨rfl, hb3⟩; have HX3 := Lib.hid (HX2.out.below hb3 HX2.out.lt); have HX03 := Lib.hid (HX0.out.below hb3 HX0.out.lt); have HB3 := Lib.hid (HB.out.trans (hb3.mono HB.out.size)); clear hb3)
  clear p0 p1 p2 p3 p4 p5
  obtain ⟨p0, p1, p2, p3, p4, p5⟩ := six_cells HX03.out
  obtain ⟨q0, q1, q2, q3, q4⟩ := five_cellsR HX3.out
  obtain ⟨f0, f1, f2, f3, f4⟩ := five_freeR HX3.out
  have HRT := Lib.hid (fun (v0 v1 v2 v3 v4 : Value) => HB3.out.trans (below_of_only (B := w.heap.size) (five_onlyR w3 H2 v0 v1 v2 v3 v4) HB3.out.size (fun x hx => by injection hx with hx; rw [← hx]; exact HHR.out)))
  rcases HF.out with rfl | ⟨k, rfl, hk⟩
  · have HV := Lib.hid (HGN.out rfl)
    have HHG := Lib.hid (show hg = false from HHS.out)
    clear HF HGN HGA HHS
    go_upto_region 3 with fail
    repeat (first | go_skip | go_guarded | go_step | go_upon)
    refine ret_two Tryz.underlying63 Tryz.results23 (five_boxR HX3.out rfl _ _ _ _ _) (by kernel_rfl) (by rfl) rfl ?_
    exact ⟨⟨⟨zeroV, none, 0⟩, by rw [HHG.out]; rfl, Rd.nil_, HV.out.symm⟩, HRT.out _ _ _ _ _⟩
  · rw [List.getElem?_map] at hk
    obtain ⟨t, ht, hta⟩ : ∃ t, y.L[k]? = some t ∧ t.at_ = at_ := by
      cases hyk : y.L[k]? with
      | none => rw [hyk] at hk; cases hk
      | some t => rw [hyk] at hk; exact ⟨t, rfl, by injection hk⟩
    have hkN : k < N := by rw [← HN.out]; exact (List.getElem?_eq_some_iff.1 ht).1
    have HV := Lib.hid (HGA.out k t ht rfl)
    have HHG := Lib.hid (show hg = true by rw [HHS.out]; simp)
    have q : decide ((k : Int) < 0) = false := by simp
    obtain ⟨b, o, hao, hb, c0, c1, c2, c3, c4, c5⟩ := att_at (HH.out.below HB3.out) ht
    subst hao
    have HRD := Lib.hid ((HH.out.bs t (List.mem_of_getElem? ht)))
    have HTV := Lib.hid (show t.att.x = t.y.x from rfl)
    obtain ⟨bn, hbn⟩ : ∃ bn, t.y.x.b.length = bn := ⟨_, rfl⟩
    have HBN := Lib.hid hbn
    rw [hbn] at c4
    clear ht hta hk HF HGN HGA HHS hbn
    go_upto_region 4 with fail
    repeat (first | go_skip | go_guarded | go_step | go_upon)
    refine ret_two Tryz.underlying63 Tryz.results23 (five_boxR HX3.out rfl _ _ _ _ _) (by kernel_rfl) (by rfl) rfl ?_
    have hB := HRT.out (.int .i64 t.y.x.form) (.int .u64 (t.y.x.u : Int)) (.int .i64 t.y.x.s) (.slice t.y.a bn t.y.c) (.string ⟨t.y.x.t.toArray⟩)
    exact ⟨⟨t.y, by rw [HHG.out, HBN.out]; rfl, (HRD.out.below hB).more hB.size, by rw [HV.out]; rfl⟩, hB⟩

set_option maxRecDepth 10000 in
set_option maxHeartbeats 3200000 in
theorem rdget_any {w : World} (y : DLay) (h : Atts w w.heap.size y.a y.L) (hl : y.L.length ≤ 100000) (at_ : Int) :
    Calls Tryz.prog 24 #[.agg #[.int .u64 (y.off : Int), .int .u64 (y.code : Int), .int .i64 y.tag, .int .i64 y.parent, .int .i64 y.depth, .slice y.a y.L.length y.c], .int .i64 at_] w fun r w' => ValIs w' (getV (y.L.map AtL.att) at_) (hasG y.L at_) r ∧ Below w.heap.size w w' := by
  generalize hw0 : w.alloc (.cells #[.int .u64 (y.off : Int), .int .u64 (y.code : Int), .int .i64 y.tag, .int .i64 y.parent, .int .i64 y.depth, .slice y.a y.L.length y.c] 69) = w0
  generalize hw2 : w0.alloc (.cells #[.int .i64 0, .int .u64 0, .int .i64 0, .slice none 0 0, .string ⟨#[]⟩] 63) = w2
  have hs0 : w0.heap.size = w.heap.size + 1 := by rw [← hw0]; simp
  have hX0 := Box.new w 69 #[.int .u64 (y.off : Int), .int .u64 (y.code : Int), .int .i64 y.tag, .int .i64 y.parent, .int .i64 y.depth, .slice y.a y.L.length y.c]
  rw [hw0] at hX0
  have hX2 := Box.new w0 63 #[.int .i64 0, .int .u64 0, .int .i64 0, .slice none 0 0, .string ⟨#[]⟩]
  rw [hw2] at hX2
  have hb0 : Below w.heap.size w w0 := hw0 ▸ (Below.refl _ _).alloc (Nat.le_refl _) _
  have hb2 : Below w0.heap.size w0 w2 := hw2 ▸ (Below.refl _ _).alloc (Nat.le_refl _) _
  have hb := hb0.trans (hb2.mono hb0.size)
  have HX0 := Lib.hid (hX0.below hb2 hX0.lt)
  have HX2 := Lib.hid hX2
  have HB := Lib.hid hb
  have HH := Lib.hid h
  have HHR := Lib.hid (show w.heap.size ≤ w0.heap.size by omega)
  have HGN := Lib.hid (@getV_no (y.L.map AtL.att) at_)
  have HGA := Lib.hid (fun (k : Nat) (t : AtL) (h1 : y.L[k]? = some t) (h2 : findG (y.L.map AtL.at_) at_ = (k : Int)) => getV_at (l := y.L.map AtL.att) (at_ := at_) (k := k) (t := t.att) (by rw [List.getElem?_map, h1]; rfl) (by rw [map_atts]; exact h2))
  rw [map_atts] at HGN
  have HHS := Lib.hid (show hasG y.L at_ = !(decide (findG (y.L.map AtL.at_) at_ = -1)) from rfl)
  generalize hasG y.L at_ = hg at *
  generalize getV (y.L.map AtL.att) at_ = V at *
  obtain ⟨N, hN⟩ : ∃ N, y.L.length = N := ⟨_, rfl⟩
  have HN := Lib.hid hN
  simp only [hN] at HX0 hl hw0 ⊢
  generalize y.off = yo at *
  generalize y.code = cd at *
  generalize y.tag = tg at *
  generalize y.parent = pa at *
  generalize y.depth = dp at *
  generalize y.a = ya at *
  generalize y.c = yc at *
  clear h hN hX0 hX2 hb0 hb2 hb hs0
  go_enter Tryz.func24, Tryz.ntmps24
  go_upto_region 1 with fail
  try rw [hw0, hw2]
  clear hw0 hw2
  generalize w0.heap.size = H2 at *
  obtain ⟨p0, p1, p2, p3, p4, p5⟩ := six_cells HX0.out
  obtain ⟨q0, q1, q2, q3, q4⟩ := five_cellsR HX2.out
  obtain ⟨f0, f1, f2, f3, f4⟩ := five_freeR HX2.out
  have HRT := Lib.hid (fun (v0 v1 v2 v3 v4 : Value) => HB.out.trans (below_of_only (B := w.heap.size) (five_onlyR w2 H2 v0 v1 v2 v3 v4) HB.out.size (fun x hx => by injection hx with hx; rw [← hx]; exact HHR.out)))
  go_wp2_with fail
  go_loopw [6] (fun i wr => ∃ k : Nat, k ≤ N ∧ i = .int .i64 k ∧ wr = w2 ∧ Hid (((y.L.map AtL.at_).take k).all (fun z => !(decide (z = at_))) = true)) (fun i _ => N - (intOf i).toNat)
  case atStart => exact ⟨0, Nat.zero_le _, rfl, rfl, Lib.hid rfl⟩
  case round =>
    obtain ⟨k, hk, rfl, rfl, HY⟩ := hrel
    by_cases hlt : k < N
    · obtain ⟨t, ht⟩ : ∃ t, y.L[k]? = some t := ⟨y.L[k]'(by rw [HN.out]; exact hlt), List.getElem?_eq_getElem _⟩
      have hyo : (y.L.map AtL.at_)[k]? = some t.at_ := by rw [List.getElem?_map, ht]; rfl
      obtain ⟨b, o, hao, hb, c0, c1, c2, c3, c4, c5⟩ := att_at (HH.out.below HB.out) ht
      subst hao
      have hbb : (t.at_ == at_) = decide (t.at_ = at_) := int_beqR _ _
      by_cases hst : t.at_ = at_
      · have hF : findG (y.L.map AtL.at_) at_ = (k : Int) := findG_at (by rw [hyo, hst]) HY.out
        have HV := Lib.hid (HGA.out k t ht hF)
        have HHG := Lib.hid (show hg = true by rw [HHS.out, hF]; simp)
        have HRD := Lib.hid (HH.out.bs t (List.mem_of_getElem? ht))
        have hd : decide (t.at_ = at_) = true := by simpa using hst
        rw [hd] at hbb
        obtain ⟨bn, hbn⟩ : ∃ bn, t.y.x.b.length = bn := ⟨_, rfl⟩
        have HBN := Lib.hid hbn
        rw [hbn] at c4
        clear ht hst hd hyo hF hbn HGN HGA HHS
        go_upto_region 5 with fail
        repeat (first | go_skip | go_guarded | go_step | go_upon)
        (try rw [Exit.noGoto_ret])
        refine ret_two Tryz.underlying63 Tryz.results24 (five_boxR HX2.out rfl _ _ _ _ _) (by kernel_rfl) (by rfl) rfl ?_
        have hB := HRT.out (.int .i64 t.y.x.form) (.int .u64 (t.y.x.u : Int)) (.int .i64 t.y.x.s) (.slice t.y.a bn t.y.c) (.string ⟨t.y.x.t.toArray⟩)
        exact ⟨⟨t.y, by rw [HHG.out, HBN.out]; rfl, (HRD.out.below hB).more hB.size, by rw [HV.out]; rfl⟩, hB⟩
      · have HF := Lib.hid (all_takeD hyo HY.out hst)
        have hd : decide (t.at_ = at_) = false := by simpa using hst
        rw [hd] at hbb
        clear ht hst hd hyo c1 c2 c3 c4 c5
        generalize t.at_ = ta at *
        go_wp2_with fail
        go_roundw
        case rel => exact ⟨k + 1, by omega, by go_num, by first | rfl | trivial, HF⟩
        case measure => simp [intOf]; omega
    · have hF : findG (y.L.map AtL.at_) at_ = -1 := by
        have := HY.out
        rw [List.take_of_length_le (by rw [List.length_map, HN.out]; omega)] at this
        exact findG_no this
      have HV := Lib.hid (HGN.out hF)
      have HHG := Lib.hid (show hg = false by rw [HHS.out, hF]; rfl)
      clear hF HGN HGA HHS
      go_upto_region 6 with fail
      repeat (first | go_skip | go_guarded | go_step | go_upon)
      refine ret_two Tryz.underlying63 Tryz.results24 (five_boxR HX2.out rfl _ _ _ _ _) (by kernel_rfl) (by rfl) rfl ?_
      exact ⟨⟨⟨zeroV, none, 0⟩, by rw [HHG.out]; rfl, Rd.nil_, HV.out.symm⟩, HRT.out _ _ _ _ _⟩

end Go.Proofs.YtejicboemkpeoaaGreatDoor

namespace Go.Proofs.YtejicboemkpeoaaGreatDoor
open Go Go.RowKit

theorem att_parts {t z : AtL} (h : t.att = z.att) : z.at_ = t.at_ ∧ z.y.x = t.y.x := by
  injection h with h1 h2
  exact ⟨h1.symm, h2.symm⟩
theorem ent_parts {y z : DLay} (h : y.ent = z.ent) : z.off = y.off ∧ z.code = y.code ∧ z.tag = y.tag ∧ z.parent = y.parent ∧ z.depth = y.depth ∧ z.L.map AtL.att = y.L.map AtL.att := by
  injection h with h1 h2 h3 h4 h5 h6
  exact ⟨h1.symm, h2.symm, h3.symm, h4.symm, h5.symm, h6.symm⟩
theorem map_atD {α β : Type} {f : α → β} {l m : List α} (h : l.map f = m.map f) {i : Nat} {x : α} (hx : l[i]? = some x) : ∃ y, m[i]? = some y ∧ f y = f x := by
  have h1 : (m.map f)[i]? = some (f x) := by rw [← h, List.getElem?_map, hx]; rfl
  rw [List.getElem?_map] at h1
  cases hm : m[i]? with
  | none => rw [hm] at h1; cases h1
  | some y => rw [hm] at h1; injection h1 with h1; exact ⟨y, rfl, h1⟩

set_option maxRecDepth 10000 in
set_option maxHeartbeats 3200000 in
theorem rsameE_any {w : World} {a a2 : Option Addr} {L L2 : List DLay} (h : Ents w w.heap.size a L) (h2 : Ents w w.heap.size a2 L2) (he : L.map DLay.ent = L2.map DLay.ent) (c c2 : Nat) (hl : L.length ≤ 100000) (hll : ∀ y ∈ L, y.L.length ≤ 100000) :
    Calls Tryz.prog 19 #[.slice a L.length c, .slice a2 L2.length c2, .bool true] w fun r w' => r = .returned (.bool true) ∧ Below w.heap.size w w' := by
  have hlen : L2.length = L.length := by have := congrArg List.length he; simpa using this.symm
  have HH := Lib.hid h
  have HH2 := Lib.hid h2
  have HE := Lib.hid he
  have HLL := Lib.hid hll
  obtain ⟨N, hN⟩ : ∃ N, L.length = N := ⟨_, rfl⟩
  have HN := Lib.hid hN
  rw [hN] at hl
  rw [hlen, hN]
  clear h h2 he hll hlen hN
  go_enter Tryz.func19, Tryz.ntmps19
  go_wp2_with fail
  go_loopw [7] (fun i wr => ∃ k : Nat, k ≤ N ∧ i = .int .i64 k ∧ Hid (Below w.heap.size w wr)) (fun i _ => N - (intOf i).toNat)
  case atStart => exact ⟨0, Nat.zero_le _, rfl, Lib.hid (Below.refl _ _)⟩
  case round =>
    obtain ⟨k, hk, rfl, HB⟩ := hrel
    by_cases hlt : k < N
    rotate_left
    · go_wp2_with fail
      go_ret
      exact ⟨rfl, HB.out⟩
    obtain ⟨y, hy⟩ : ∃ y, L[k]? = some y := ⟨L[k]'(by rw [HN.out]; exact hlt), List.getElem?_eq_getElem _⟩
    obtain ⟨z, hz, hyz⟩ := map_atD HE.out hy
    obtain ⟨q1, q2, q3, q4, q5, q6⟩ := ent_parts hyz.symm
    have HQ := Lib.hid q6
    have hzl : z.L.length = y.L.length := by have := congrArg List.length q6; simpa using this
    obtain ⟨b, o, rfl, -, c0, c1, c2', c3, c4, c5⟩ := ent_at (HH.out.below HB.out) hy
    obtain ⟨b2, o2, rfl, -, e0, e1, e2, e3, e4, e5⟩ := ent_at (HH2.out.below HB.out) hz
    have HAY := Lib.hid (HH.out.ats y (List.mem_of_getElem? hy))
    have HAZ := Lib.hid (HH2.out.ats z (List.mem_of_getElem? hz))
    have hyl := HLL.out y (List.mem_of_getElem? hy)
    rw [q1] at e0
    rw [q2] at e1
    rw [q3] at e2
    rw [q4] at e3
    rw [q5] at e4
    rw [hzl] at e5
    obtain ⟨n, hn⟩ : ∃ n, y.L.length = n := ⟨_, rfl⟩
    have HNN := Lib.hid hn
    rw [hn] at c5 e5 hyl
    clear hy hz hyz q1 q2 q3 q4 q5 q6 hzl hn
    generalize y.off = x0 at *
    generalize y.code = x1 at *
    generalize y.tag = x2 at *
    generalize y.parent = x3 at *
    generalize y.depth = x4 at *
    obtain ⟨ya, hya⟩ : ∃ ya, y.a = ya := ⟨_, rfl⟩
    obtain ⟨za, hza⟩ : ∃ za, z.a = za := ⟨_, rfl⟩
    rw [hya] at c5 HAY
    rw [hza] at e5 HAZ
    generalize y.c = yc at *
    generalize z.c = zc at *
    generalize y.L = YL at *
    generalize z.L = ZL at *
    clear hya hza
    go_upto_region 6 with fail
    generalize hw1 : wr.alloc (.cells #[.int .u64 (x0 : Int), .int .u64 (x1 : Int), .int .i64 x2, .int .i64 x3, .int .i64 x4, .slice ya n yc] 69) = w1
    generalize hw2 : w1.alloc (.cells #[.int .u64 (x0 : Int), .int .u64 (x1 : Int), .int .i64 x2, .int .i64 x3, .int .i64 x4, .slice za n zc] 69) = w2
    have hb1 : Below wr.heap.size wr w1 := hw1 ▸ (Below.refl _ _).alloc (Nat.le_refl _) _
    have hb2 : Below w1.heap.size w1 w2 := hw2 ▸ (Below.refl _ _).alloc (Nat.le_refl _) _
    have hX1 := Box.new wr 69 #[.int .u64 (x0 : Int), .int .u64 (x1 : Int), .int .i64 x2, .int .i64 x3, .int .i64 x4, .slice ya n yc]
    rw [hw1] at hX1
    have hX2 := Box.new w1 69 #[.int .u64 (x0 : Int), .int .u64 (x1 : Int), .int .i64 x2, .int .i64 x3, .int .i64 x4, .slice za n zc]
    rw [hw2] at hX2
    have HX1 := Lib.hid (hX1.below hb2 hX1.lt)
    have HX2 := Lib.hid hX2
    have HB2 := Lib.hid ((HB.out.trans (hb1.mono HB.out.size)).trans (hb2.mono (Nat.le_trans HB.out.size hb1.size)))
    have b2cell : ∀ j v, wr.cell? ⟨b2, o2 + k * 6 + j, none⟩ = some v → w1.cell? ⟨b2, o2 + k * 6 + j, none⟩ = some v := fun j v hv => by
      rw [hb1.cell (p := ⟨b2, o2 + k * 6 + j, none⟩) (World.block_lt_of_cell? wr _ hv)]; exact hv
    have e0' := b2cell 0 _ e0
    have e1' := b2cell 1 _ e1
    have e2' := b2cell 2 _ e2
    have e3' := b2cell 3 _ e3
    have e4' := b2cell 4 _ e4
    have e5' := b2cell 5 _ e5
    simp only [Nat.add_zero] at e0'
    clear hb1 hb2 hX1 hX2 b2cell e0 e1 e2 e3 e4 e5
    go_upto_region 7 with fail
    try rw [hw1]
    clear hw1 c0 c1 c2' c3 c4 c5
    go_upto_region 8 with fail
    try rw [hw2]
    clear hw2 e0' e1' e2' e3' e4' e5'
    generalize w1.heap.size = H2 at *
    generalize wr.heap.size = H1 at *
    obtain ⟨c0, c1, c2', c3, c4, c5⟩ := six_cells HX1.out
    obtain ⟨e0, e1, e2, e3, e4, e5⟩ := six_cells HX2.out
    generalize wr = wj at *
    go_upto_region 10 with fail
    go_wp2_with fail
    go_loopw [10] (fun i wr => ∃ j : Nat, j ≤ n ∧ i = .int .i64 j ∧ Hid (Below w2.heap.size w2 wr)) (fun i _ => n - (intOf i).toNat)
    case atStart => exact ⟨0, Nat.zero_le _, rfl, Lib.hid (Below.refl _ _)⟩
    case round =>
      obtain ⟨j, hj, rfl, HBJ⟩ := hrel
      clear c0 c1 c2' c3 c4 c5 e0 e1 e2 e3 e4 e5
      have hXJ1 := HX1.out.below HBJ.out HX1.out.lt
      have hXJ2 := HX2.out.below HBJ.out HX2.out.lt
      have k1 := (six_cells hXJ1).2.2.2.2.2
      have k2 := (six_cells hXJ2).2.2.2.2.2
      have HX1J := Lib.hid hXJ1
      have HX2J := Lib.hid hXJ2
      have HBW := Lib.hid (HB2.out.trans (HBJ.out.mono HB2.out.size))
      clear hXJ1 hXJ2
      by_cases hlj : j < n
      rotate_left
      · go_wp2_with fail
        (try rw [Exit.noGoto_ret])
        go_roundw
        case rel => exact ⟨k + 1, by omega, by go_num, HBW⟩
        case measure => simp [intOf]; omega
      obtain ⟨t, ht⟩ : ∃ t, YL[j]? = some t := ⟨YL[j]'(by rw [HNN.out]; exact hlj), List.getElem?_eq_getElem _⟩
      obtain ⟨u, hu, htu⟩ := map_atD HQ.out.symm ht
      obtain ⟨r1, r2⟩ := att_parts htu.symm
      obtain ⟨b, o, rfl, -, t0, t1, t2, t3, t4, t5⟩ := att_at (HAY.out.below HBW.out) ht
      obtain ⟨b2, o2, rfl, -, u0, u1, u2, u3, u4, u5⟩ := att_at (HAZ.out.below HBW.out) hu
      have HSM := Lib.hid (fun W (hW : Below wr.heap.size wr W) => (by
        have hBW := HBW.out.trans (hW.mono HBW.out.size)
        have h := rsameV_any (w := W) t.y u.y (((HAY.out.bs t (List.mem_of_getElem? ht)).below hBW).more hBW.size) (((HAZ.out.bs u (List.mem_of_getElem? hu)).below hBW).more hBW.size)
        rw [r2, sameV_self] at h
        exact h : Calls Tryz.prog 25 #[.agg #[.int .i64 t.y.x.form, .int .u64 (t.y.x.u : Int), .int .i64 t.y.x.s, .slice t.y.a t.y.x.b.length t.y.c, .string ⟨t.y.x.t.toArray⟩], .agg #[.int .i64 t.y.x.form, .int .u64 (t.y.x.u : Int), .int .i64 t.y.x.s, .slice u.y.a t.y.x.b.length u.y.c, .string ⟨t.y.x.t.toArray⟩]] W fun r w' => r = .returned (.bool true) ∧ Below W.heap.size W w'))
      rw [r1] at u0
      rw [r2] at u1 u2 u3 u4 u5
      clear ht hu htu r1 r2
      obtain ⟨bn, hbn⟩ : ∃ bn, t.y.x.b.length = bn := ⟨_, rfl⟩
      rw [hbn] at t4 u4 HSM
      obtain ⟨xs, hxs⟩ : ∃ xs : ByteArray, (⟨t.y.x.t.toArray⟩ : ByteArray) = xs := ⟨_, rfl⟩
      rw [hxs] at t5 u5 HSM
      clear hbn hxs
      generalize t.y.x.form = y0 at *
      generalize t.y.x.u = y1 at *
      generalize t.y.x.s = y2 at *
      generalize t.y.a = y3 at *
      generalize t.y.c = y4 at *
      generalize u.y.a = y5 at *
      generalize u.y.c = y6 at *
      generalize t.at_ = y7 at *
      go_upto_region 13 with fail
      refine wp_region_held_drew (S := fun X => X.cell? ⟨H1, 5, none⟩ = some (.slice (some ⟨b, o, none⟩) n yc) ∧ X.cell? ⟨H2, 5, none⟩ = some (.slice (some ⟨b2, o2, none⟩) n zc) ∧ X.cell? ⟨b, o + j * 6, none⟩ = some (.int .i64 y7) ∧ X.cell? ⟨b, o + j * 6 + 1, none⟩ = some (.int .i64 y0) ∧ X.cell? ⟨b, o + j * 6 + 2, none⟩ = some (.int .u64 (y1 : Int)) ∧ X.cell? ⟨b, o + j * 6 + 3, none⟩ = some (.int .i64 y2) ∧ X.cell? ⟨b, o + j * 6 + 4, none⟩ = some (.slice y3 bn y4) ∧ X.cell? ⟨b, o + j * 6 + 5, none⟩ = some (.string xs) ∧ X.cell? ⟨b2, o2 + j * 6, none⟩ = some (.int .i64 y7) ∧ X.cell? ⟨b2, o2 + j * 6 + 1, none⟩ = some (.int .i64 y0) ∧ X.cell? ⟨b2, o2 + j * 6 + 2, none⟩ = some (.int .u64 (y1 : Int)) ∧ X.cell? ⟨b2, o2 + j * 6 + 3, none⟩ = some (.int .i64 y2) ∧ X.cell? ⟨b2, o2 + j * 6 + 4, none⟩ = some (.slice y5 bn y6) ∧ X.cell? ⟨b2, o2 + j * 6 + 5, none⟩ = some (.string xs)) (by kernel_rfl) ?_ (fun hHeld => ?_)
      · exact ⟨k1, k2, t0, t1, t2, t3, t4, t5, u0, u1, u2, u3, u4, u5⟩
      refine take_r (i := 0) (v := ?_) rfl (by kernel_rfl) (by kernel_rfl) (by kernel_rfl) (fun _ _ _ h => h) (Or.inl ⟨by rfl, ?_⟩) hHeld ?_
      rotate_left
      · (intro wS hSw; (try dsimp only at hSw); go_simp; (try with_reducible rfl))
      try simp only [Act.put, List.setIfInBounds_toArray, List.set_cons_zero, List.set_cons_succ]
      refine take_r (i := 1) (v := ?_) rfl (by kernel_rfl) (by kernel_rfl) (by kernel_rfl) (fun _ _ _ h => h) (Or.inl ⟨by rfl, ?_⟩) hHeld ?_
      rotate_left
      · (intro wS hSw; (try dsimp only at hSw); go_simp; (try with_reducible rfl))
      try simp only [Act.put, List.setIfInBounds_toArray, List.set_cons_zero, List.set_cons_succ]
      refine take_r (i := 2) (v := ?_) rfl (by kernel_rfl) (by kernel_rfl) (by kernel_rfl) (fun _ _ _ h => h) (Or.inl ⟨by rfl, ?_⟩) hHeld ?_
      rotate_left
      · (intro wS hSw; (try dsimp only at hSw); go_simp; (try with_reducible rfl))
      try simp only [Act.put, List.setIfInBounds_toArray, List.set_cons_zero, List.set_cons_succ]
      refine take_r (i := 3) (v := ?_) rfl (by kernel_rfl) (by kernel_rfl) (by kernel_rfl) (fun _ _ _ h => h) (Or.inl ⟨by rfl, ?_⟩) hHeld ?_
      rotate_left
      · (intro wS hSw; (try dsimp only at hSw); go_simp; (try with_reducible rfl))
      try simp only [Act.put, List.setIfInBounds_toArray, List.set_cons_zero, List.set_cons_succ]
      refine take_r (i := 4) (v := ?_) rfl (by kernel_rfl) (by kernel_rfl) (by kernel_rfl) (fun _ _ _ h => h) (Or.inl ⟨by rfl, ?_⟩) hHeld ?_
      rotate_left
      · (intro wS hSw; (try dsimp only at hSw); go_simp; (try with_reducible rfl))
      try simp only [Act.put, List.setIfInBounds_toArray, List.set_cons_zero, List.set_cons_succ]
      refine take_r (i := 5) (v := ?_) rfl (by kernel_rfl) (by kernel_rfl) (by kernel_rfl) (fun _ _ _ h => h) (Or.inl ⟨by rfl, ?_⟩) hHeld ?_
      rotate_left
      · (intro wS hSw; (try dsimp only at hSw); go_simp; (try with_reducible rfl))
      try simp only [Act.put, List.setIfInBounds_toArray, List.set_cons_zero, List.set_cons_succ]
      refine take_r (i := 6) (v := ?_) rfl (by kernel_rfl) (by kernel_rfl) (by kernel_rfl) (fun _ _ _ h => h) (Or.inl ⟨by rfl, ?_⟩) hHeld ?_
      rotate_left
      · (intro wS hSw; (try dsimp only at hSw); go_simp; (try with_reducible rfl))
      try simp only [Act.put, List.setIfInBounds_toArray, List.set_cons_zero, List.set_cons_succ]
      refine take_r (i := 7) (v := ?_) rfl (by kernel_rfl) (by kernel_rfl) (by kernel_rfl) (fun _ _ _ h => h) (Or.inl ⟨by rfl, ?_⟩) hHeld ?_
      rotate_left
      · (intro wS hSw; (try dsimp only at hSw); go_simp; (try with_reducible rfl))
      try simp only [Act.put, List.setIfInBounds_toArray, List.set_cons_zero, List.set_cons_succ]
      refine take_r (i := 8) (v := ?_) rfl (by kernel_rfl) (by kernel_rfl) (by kernel_rfl) (fun _ _ _ h => h) (Or.inl ⟨by rfl, ?_⟩) hHeld ?_
      rotate_left
      · (intro wS hSw; (try dsimp only at hSw); go_simp; (try with_reducible rfl))
      try simp only [Act.put, List.setIfInBounds_toArray, List.set_cons_zero, List.set_cons_succ]
      refine take_r (i := 9) (v := ?_) rfl (by kernel_rfl) (by kernel_rfl) (by kernel_rfl) (fun _ _ _ h => h) (Or.inl ⟨by rfl, ?_⟩) hHeld ?_
      rotate_left
      · (intro wS hSw; (try dsimp only at hSw); go_simp; (try with_reducible rfl))
      try simp only [Act.put, List.setIfInBounds_toArray, List.set_cons_zero, List.set_cons_succ]
      refine take_r (i := 10) (v := ?_) rfl (by kernel_rfl) (by kernel_rfl) (by kernel_rfl) (fun _ _ _ h => h) (Or.inl ⟨by rfl, ?_⟩) hHeld ?_
      rotate_left
      · (intro wS hSw; (try dsimp only at hSw); go_simp; (try with_reducible rfl))
      try simp only [Act.put, List.setIfInBounds_toArray, List.set_cons_zero, List.set_cons_succ]
      refine take_r (i := 11) (v := ?_) rfl (by kernel_rfl) (by kernel_rfl) (by kernel_rfl) (fun _ _ _ h => h) (Or.inl ⟨by rfl, ?_⟩) hHeld ?_
      rotate_left
      · (intro wS hSw; (try dsimp only at hSw); go_simp; (try with_reducible rfl))
      try simp only [Act.put, List.setIfInBounds_toArray, List.set_cons_zero, List.set_cons_succ]
      refine take_r (i := 12) (v := ?_) rfl (by kernel_rfl) (by kernel_rfl) (by kernel_rfl) (fun _ _ _ h => h) (Or.inl ⟨by rfl, ?_⟩) hHeld ?_
      rotate_left
      · (intro wS hSw; (try dsimp only at hSw); go_simp; (try with_reducible rfl))
      try simp only [Act.put, List.setIfInBounds_toArray, List.set_cons_zero, List.set_cons_succ]
      refine take_r (i := 13) (v := ?_) rfl (by kernel_rfl) (by kernel_rfl) (by kernel_rfl) (fun _ _ _ h => h) (Or.inl ⟨by rfl, ?_⟩) hHeld ?_
      rotate_left
      · (intro wS hSw; (try dsimp only at hSw); go_simp; (try with_reducible rfl))
      try simp only [Act.put, List.setIfInBounds_toArray, List.set_cons_zero, List.set_cons_succ]
      refine take_r (i := 14) (v := ?_) rfl (by kernel_rfl) (by kernel_rfl) (by kernel_rfl) (fun _ _ _ h => h) (Or.inl ⟨by rfl, ?_⟩) hHeld ?_
      rotate_left
      · (intro wS hSw; (try dsimp only at hSw); go_simp; (try with_reducible rfl))
      try simp only [Act.put, List.setIfInBounds_toArray, List.set_cons_zero, List.set_cons_succ]
      refine take_r (i := 15) (v := ?_) rfl (by kernel_rfl) (by kernel_rfl) (by kernel_rfl) (fun _ _ _ h => h) (Or.inl ⟨by rfl, ?_⟩) hHeld ?_
      rotate_left
      · (intro wS hSw; (try dsimp only at hSw); go_simp; (try with_reducible rfl))
      try simp only [Act.put, List.setIfInBounds_toArray, List.set_cons_zero, List.set_cons_succ]
      refine take_r (i := 16) (v := ?_) rfl (by kernel_rfl) (by kernel_rfl) (by kernel_rfl) (fun _ _ _ h => h) (Or.inl ⟨by rfl, ?_⟩) hHeld ?_
      rotate_left
      · (intro wS hSw; (try dsimp only at hSw); go_simp; (try with_reducible rfl))
      try simp only [Act.put, List.setIfInBounds_toArray, List.set_cons_zero, List.set_cons_succ]
      refine take_r (i := 17) (v := ?_) rfl (by kernel_rfl) (by kernel_rfl) (by kernel_rfl) (fun _ _ _ h => h) (Or.inl ⟨by rfl, ?_⟩) hHeld ?_
      rotate_left
      · (intro wS hSw; (try dsimp only at hSw); go_simp; (try with_reducible rfl))
      try simp only [Act.put, List.setIfInBounds_toArray, List.set_cons_zero, List.set_cons_succ]
      refine take_r (i := 18) (v := ?_) rfl (by kernel_rfl) (by kernel_rfl) (by kernel_rfl) (fun _ _ _ h => h) (Or.inl ⟨by rfl, ?_⟩) hHeld ?_
      rotate_left
      · (intro wS hSw; (try dsimp only at hSw); go_simp; (try with_reducible rfl))
      try simp only [Act.put, List.setIfInBounds_toArray, List.set_cons_zero, List.set_cons_succ]
      refine take_r (i := 19) (v := ?_) rfl (by kernel_rfl) (by kernel_rfl) (by kernel_rfl) (fun _ _ _ h => h) (Or.inl ⟨by rfl, ?_⟩) hHeld ?_
      rotate_left
      · (intro wS hSw; (try dsimp only at hSw); go_simp; (try with_reducible rfl))
      try simp only [Act.put, List.setIfInBounds_toArray, List.set_cons_zero, List.set_cons_succ]
      refine take_r (i := 20) (v := ?_) rfl (by kernel_rfl) (by kernel_rfl) (by kernel_rfl) (fun _ _ _ h => h) (Or.inl ⟨by rfl, ?_⟩) hHeld ?_
      rotate_left
      · (intro wS hSw; (try dsimp only at hSw); go_simp; (try with_reducible rfl))
      try simp only [Act.put, List.setIfInBounds_toArray, List.set_cons_zero, List.set_cons_succ]
      refine take_r (i := 21) (v := ?_) rfl (by kernel_rfl) (by kernel_rfl) (by kernel_rfl) (fun _ _ _ h => h) (Or.inl ⟨by rfl, ?_⟩) hHeld ?_
      rotate_left
      · (intro wS hSw; (try dsimp only at hSw); go_simp; (try with_reducible rfl))
      try simp only [Act.put, List.setIfInBounds_toArray, List.set_cons_zero, List.set_cons_succ]
      refine take_r (i := 22) (v := ?_) rfl (by kernel_rfl) (by kernel_rfl) (by kernel_rfl) (fun _ _ _ h => h) (Or.inl ⟨by rfl, ?_⟩) hHeld ?_
      rotate_left
      · (intro wS hSw; (try dsimp only at hSw); go_simp; (try with_reducible rfl))
      try simp only [Act.put, List.setIfInBounds_toArray, List.set_cons_zero, List.set_cons_succ]
      refine take_r (i := 23) (v := ?_) rfl (by kernel_rfl) (by kernel_rfl) (by kernel_rfl) (fun _ _ _ h => h) (Or.inl ⟨by rfl, ?_⟩) hHeld ?_
      rotate_left
      · (intro wS hSw; (try dsimp only at hSw); go_simp; (try with_reducible rfl))
      try simp only [Act.put, List.setIfInBounds_toArray, List.set_cons_zero, List.set_cons_succ]
      refine take_r (i := 24) (v := ?_) rfl (by kernel_rfl) (by kernel_rfl) (by kernel_rfl) (fun _ _ _ h => h) (Or.inl ⟨by rfl, ?_⟩) hHeld ?_
      rotate_left
      · (intro wS hSw; (try dsimp only at hSw); go_simp; (try with_reducible rfl))
      try simp only [Act.put, List.setIfInBounds_toArray, List.set_cons_zero, List.set_cons_succ]
      refine take_r (i := 25) (v := ?_) rfl (by kernel_rfl) (by kernel_rfl) (by kernel_rfl) (fun _ _ _ h => h) (Or.inl ⟨by rfl, ?_⟩) hHeld ?_
      rotate_left
      · (intro wS hSw; (try dsimp only at hSw); go_simp; (try with_reducible rfl))
      try simp only [Act.put, List.setIfInBounds_toArray, List.set_cons_zero, List.set_cons_succ]
      refine wpAnyH_ready (rs := [26]) (by kernel_rfl) (by simp) ?_
      refine ready_r rfl (fun K hK => ?_)
      go_simp
      go_wp2_with (go_at_call 25; refine (HSM.out _ (below_drewN (Below.refl _ _) 1)).mono ?_; rintro r w9 ⟨rfl, hb9⟩; have HB9 := Lib.hid ((below_drewN (Below.refl wr.heap.size wr) 1).trans hb9))
      refine hK.out _ _ ?_ (fun hNew => ?_)
      · exact ⟨(by rw [HB9.out.cell (World.block_lt_of_cell? wr _ k1)]; exact k1), (by rw [HB9.out.cell (World.block_lt_of_cell? wr _ k2)]; exact k2), (by rw [HB9.out.cell (World.block_lt_of_cell? wr _ t0)]; exact t0), (by rw [HB9.out.cell (World.block_lt_of_cell? wr _ t1)]; exact t1), (by rw [HB9.out.cell (World.block_lt_of_cell? wr _ t2)]; exact t2), (by rw [HB9.out.cell (World.block_lt_of_cell? wr _ t3)]; exact t3), (by rw [HB9.out.cell (World.block_lt_of_cell? wr _ t4)]; exact t4), (by rw [HB9.out.cell (World.block_lt_of_cell? wr _ t5)]; exact t5), (by rw [HB9.out.cell (World.block_lt_of_cell? wr _ u0)]; exact u0), (by rw [HB9.out.cell (World.block_lt_of_cell? wr _ u1)]; exact u1), (by rw [HB9.out.cell (World.block_lt_of_cell? wr _ u2)]; exact u2), (by rw [HB9.out.cell (World.block_lt_of_cell? wr _ u3)]; exact u3), (by rw [HB9.out.cell (World.block_lt_of_cell? wr _ u4)]; exact u4), (by rw [HB9.out.cell (World.block_lt_of_cell? wr _ u5)]; exact u5)⟩
      clear hHeld hK K
      have hHeld := hNew
      clear hNew
      refine take_r (i := 27) (v := ?_) rfl (by kernel_rfl) (by kernel_rfl) (by kernel_rfl) (fun _ _ _ h => h) (Or.inl ⟨by rfl, ?_⟩) hHeld ?_
      rotate_left
      · (intro wS hSw; (try dsimp only at hSw); go_simp; (try with_reducible rfl))
      try simp only [Act.put, List.setIfInBounds_toArray, List.set_cons_zero, List.set_cons_succ]
      refine take_r (i := 28) (v := ?_) rfl (by kernel_rfl) (by kernel_rfl) (by kernel_rfl) (fun _ _ _ h => h) (Or.inl ⟨by rfl, ?_⟩) hHeld ?_
      rotate_left
      · (intro wS hSw; (try dsimp only at hSw); go_simp; (try with_reducible rfl))
      try simp only [Act.put, List.setIfInBounds_toArray, List.set_cons_zero, List.set_cons_succ]
      refine wpAnyH_done (by kernel_rfl) ?_ _
      go_wp2_with fail
      go_roundw
      case rel => exact ⟨j + 1, by omega, by go_num, Lib.hid (HBJ.out.trans (HB9.out.mono HBJ.out.size))⟩
      case measure => simp [intOf]; omega

end Go.Proofs.YtejicboemkpeoaaGreatDoor

namespace Go.Proofs.YtejicboemkpeoaaGreatDoor
open Go Go.RowKit

/-- Entries copied so far. -/
structure ToSt (T TE : TypeId) (w wr : World) (v : Value) (M : List DLay) : Prop where
  b : Below w.heap.size w wr
  row : wr.ownsRow w.heap.size TE 6 v M.length (cellsF DLay.cells M)
  ats : ∀ y ∈ M, wr.ownsRow w.heap.size T 6 (.slice y.a y.L.length y.c) y.L.length (cellsF AtL.cells y.L)
section
variable {T TE : TypeId} {w wr wy : World} {v : Value} {M : List DLay}
theorem ToSt.below (h : ToSt T TE w wr v M) (hb : Below wr.heap.size wr wy) : ToSt T TE w wy v M :=
  ⟨h.b.trans (hb.mono h.b.size), row_below h.row hb, fun y hy => row_below (h.ats y hy) hb⟩
/-- Behind a step of a row of the pairs. -/
theorem ToSt.lies (h : ToSt T TE w wr v M) {A : Option Addr} {L : List DLay} (hs : Ents w w.heap.size A L) (hm : ∀ y ∈ M, ∃ z ∈ L, z.L = y.L) : ∃ A c, v = .slice A M.length c ∧ Ents wr wr.heap.size A M := by
  obtain ⟨A, c, e, h1, h2, hr⟩ := own_row ent_six h.row
  refine ⟨A, c, e, hr, fun y hy => ?_⟩
  obtain ⟨A', c', e', -, -, hr'⟩ := own_row att_six (h.ats y hy)
  injection e' with e1 _ _
  rw [e1]
  refine ⟨hr', fun t ht => ?_⟩
  obtain ⟨z, hz, hzl⟩ := hm y hy
  exact (((hs.ats z hz).bs t (by rw [hzl]; exact ht)).below h.b).more h.b.size
end
/-- The entry that is copied: its box, its values so far. -/
structure ToIn (T TE : TypeId) (w wr : World) (v : Value) (M : List DLay) (H : Nat) (c0 c1 c2 c3 c4 u : Value) (X : List AtL) : Prop where
  s : ToSt T TE w wr v M
  x : Box wr H TE #[c0, c1, c2, c3, c4, u]
  o : wr.ownsRow w.heap.size T 6 u X.length (cellsF AtL.cells X)
  v : ∀ k, v.ownBlock = some k → k < H
  h : w.heap.size ≤ H
  m : ∀ y ∈ M, ∀ k, (Value.slice y.a y.L.length y.c).ownBlock = some k → k < H
  u : ∀ k, u.ownBlock = some k → H ≤ k
section
variable {T TE : TypeId} {w wr wy : World} {v : Value} {M : List DLay} {H : Nat} {c0 c1 c2 c3 c4 u u' : Value} {X : List AtL} {t : AtL}
theorem ToIn.below (h : ToIn T TE w wr v M H c0 c1 c2 c3 c4 u X) (hb : Below wr.heap.size wr wy) : ToIn T TE w wy v M H c0 c1 c2 c3 c4 u X :=
  ⟨h.s.below hb, h.x.below hb h.x.lt, row_below h.o hb, h.v, h.h, h.m, h.u⟩
/-- A value more, appended to the row and stored. -/
theorem ToIn.more (h : ToIn T TE w wr v M H c0 c1 c2 c3 c4 u X) (hT : TE ≠ T) (hG : wr.grownBy wy u.ownBlock) (hr : wy.ownsRow w.heap.size T 6 u' (X.length + 1) (cellsF AtL.cells X ++ t.cells)) (hu : ∀ k, u'.ownBlock = some k → H ≤ k) :
    ToIn T TE w (wy.setCell ⟨H, 5, none⟩ u') v M H c0 c1 c2 c3 c4 u' (X ++ [t]) ∧ Box wy H TE #[c0, c1, c2, c3, c4, u] := by
  have hx := un_box h.x h.o hT hG
  have G : wy.grownBy (wy.setCell ⟨H, 5, none⟩ u') (some H) := only_set (only_refl wy (some H)) 5 u'
  have hrow := own_apart h.s.row h.o hT hG
  have hb1 : Below w.heap.size w wy := h.s.b.grown hG h.s.b.size (fun k hk => (h.o.lt k hk).1)
  refine ⟨⟨⟨hb1.grown G hb1.size (fun k hk => by injection hk with hk; have := h.h; omega), ?_, fun y hy => ?_⟩, by simpa using hx.set 5 u', ?_, h.v, h.h, h.m, hu⟩, hx⟩
  · refine hrow.kept G ?_
    cases hv : v.ownBlock with
    | none => exact .inl rfl
    | some k => exact .inr (fun e => by injection e with e; have := h.v k hv; omega)
  · refine un_far ?_ G hx hT
    refine (h.s.ats y hy).kept hG ?_
    cases hk : (Value.slice y.a y.L.length y.c).ownBlock with
    | none => exact .inl rfl
    | some k => exact .inr (fun e => by have h1 := h.m y hy k hk; have h2 := h.u k e.symm; omega)
  · rw [List.length_append, cellsF_append, cellsF_one]
    exact un_far hr G hx hT
end

set_option maxRecDepth 10000 in
set_option maxHeartbeats 3200000 in
theorem told17_any {w : World} {a : Option Addr} {L : List DLay} (h : Ents w w.heap.size a L) (c : Nat) (hl : L.length ≤ 100000) (hll : ∀ y ∈ L, y.L.length ≤ 100000) :
    Calls Tryz.prog 20 #[.slice a L.length c] w fun r w' => ∃ A2 c2 M, r = .returned (.slice A2 L.length c2) ∧ Ents w' w'.heap.size A2 M ∧ M.map DLay.ent = L.map DLay.ent ∧ Below w.heap.size w w' := by
  obtain ⟨i1, hj1, hy0, hy1, hy2⟩ := info_parts rent_info
  obtain ⟨i2, hk1, hz0, hz1, hz2⟩ := info_parts ratt_info
  obtain ⟨N, hN⟩ : ∃ N, L.length = N := ⟨_, rfl⟩
  have HH := Lib.hid h
  have HN := Lib.hid hN
  have HLL := Lib.hid hll
  rw [hN] at hl ⊢
  clear h hll hN
  go_enter Tryz.func20, Tryz.ntmps20
  go_wp2_with fail
  go_loopg [3, 11] N (fun gk v i wr => ∃ (k : Nat) (M : List DLay), k ≤ N ∧ gk = N - k ∧ i = .int .i64 k ∧ Hid (M.length = k) ∧ Hid (M.map DLay.ent = (L.take k).map DLay.ent) ∧ Hid (∀ y ∈ M, ∃ z ∈ L, z.L = y.L) ∧ Hid (ToSt 143 69 w wr v M))
  case atStart => exact ⟨0, [], Nat.zero_le _, rfl, rfl, Lib.hid rfl, Lib.hid rfl, Lib.hid (fun y hy => by cases hy), Lib.hid ⟨Below.refl _ _, World.ownsRow_nil _ _ _ _, fun y hy => by cases hy⟩⟩
  case round =>
    obtain ⟨k, M, hk, rfl, rfl, HX, HM, HZ, HT⟩ := hrel
    by_cases hlt : k < N
    rotate_left
    · have hkn : k = N := by omega
      obtain ⟨A2, c2, e, hE⟩ := HT.out.lies HH.out HZ.out
      rw [HX.out, hkn] at e
      subst e
      have HE := Lib.hid hE
      have HM2 := Lib.hid (show M.map DLay.ent = L.map DLay.ent by rw [HM.out, List.take_of_length_le (by rw [HN.out]; omega)])
      clear hE
      go_wp2_with fail
      go_ret
      exact ⟨A2, c2, M, rfl, HE.out, HM2.out, HT.out.b⟩
    obtain ⟨y, hy⟩ : ∃ y, L[k]? = some y := ⟨L[k]'(by rw [HN.out]; exact hlt), List.getElem?_eq_getElem _⟩
    obtain ⟨b, o, rfl, -, c0, c1, c2', c3, c4, c5⟩ := ent_at (HH.out.below HT.out.b) hy
    have HAY := Lib.hid (HH.out.ats y (List.mem_of_getElem? hy))
    have hyl := HLL.out y (List.mem_of_getElem? hy)
    have HYM := Lib.hid (List.mem_of_getElem? hy)
    have HTK := Lib.hid (show (L.take (k + 1)).map DLay.ent = (L.take k).map DLay.ent ++ [y.ent] by rw [List.take_add_one, hy, List.map_append]; rfl)
    have HYE := Lib.hid (show y.ent = ⟨y.off, y.code, y.tag, y.parent, y.depth, y.L.map AtL.att⟩ from rfl)
    obtain ⟨n, hn⟩ : ∃ n, y.L.length = n := ⟨_, rfl⟩
    have HNN := Lib.hid hn
    rw [hn] at c5 hyl
    obtain ⟨A3, c3', hu⟩ := un_slc HT.out.row
    rw [HX.out] at hu
    subst hu
    clear hy hn
    generalize y.ent = ye at *
    generalize y.off = x0 at *
    generalize y.code = x1 at *
    generalize y.tag = x2 at *
    generalize y.parent = x3 at *
    generalize y.depth = x4 at *
    generalize y.a = ya at *
    generalize y.c = yc at *
    obtain ⟨YL, hYL⟩ : ∃ YL, y.L = YL := ⟨_, rfl⟩
    have HYQ := Lib.hid hYL
    rw [hYL] at HAY HYE HNN
    clear hYL
    go_upto_region 5 with fail
    have hb1 : Below wr.heap.size wr (wr.alloc (.cells #[.int .u64 (x0 : Int), .int .u64 (x1 : Int), .int .i64 x2, .int .i64 x3, .int .i64 x4, .slice ya n yc] 61)) := (Below.refl _ _).alloc (Nat.le_refl _) _
    have hX1 := Box.new wr 61 #[.int .u64 (x0 : Int), .int .u64 (x1 : Int), .int .i64 x2, .int .i64 x3, .int .i64 x4, .slice ya n yc]
    generalize wr.alloc (.cells #[.int .u64 (x0 : Int), .int .u64 (x1 : Int), .int .i64 x2, .int .i64 x3, .int .i64 x4, .slice ya n yc] 61) = w1 at *
    have HT1 := Lib.hid (HT.out.below hb1)
    clear hb1 c0 c1 c2' c3 c4 c5 HT
    generalize wr.heap.size = H1 at *
    obtain ⟨c0, c1, c2', c3, c4, c5⟩ := six_cells hX1
    go_upto_region 6 with fail
    have hb2 : Below w1.heap.size w1 (w1.alloc (.cells #[.int .u64 (x0 : Int), .int .u64 (x1 : Int), .int .i64 x2, .int .i64 x3, .int .i64 x4, .slice none 0 0] 69)) := (Below.refl _ _).alloc (Nat.le_refl _) _
    have hX2 := Box.new w1 69 #[.int .u64 (x0 : Int), .int .u64 (x1 : Int), .int .i64 x2, .int .i64 x3, .int .i64 x4, .slice none 0 0]
    generalize w1.alloc (.cells #[.int .u64 (x0 : Int), .int .u64 (x1 : Int), .int .i64 x2, .int .i64 x3, .int .i64 x4, .slice none 0 0] 69) = w2 at *
    have HI2 := Lib.hid (show ToIn 143 69 w w2 (.slice A3 k c3') M w1.heap.size (.int .u64 (x0 : Int)) (.int .u64 (x1 : Int)) (.int .i64 x2) (.int .i64 x3) (.int .i64 x4) (.slice none 0 0) [] from
      ⟨HT1.out.below hb2, hX2, World.ownsRow_nil _ _ _ _, fun j hj => (HT1.out.row.lt j hj).2, HT1.out.b.size, fun y hy j hj => ((HT1.out.ats y hy).lt j hj).2, fun j hj => by cases hj⟩)
    have HX1 := Lib.hid (hX1.below hb2 hX1.lt)
    clear hb2 hX1 hX2 c0 c1 c2' c3 c4 c5 HT1
    generalize w1.heap.size = H2 at *
    obtain ⟨c0, c1, c2', c3, c4, c5⟩ := six_cells HX1.out
    generalize wr = wj at *
    have HHX := Lib.hid (show H1 < w2.heap.size from HX1.out.lt)
    go_wp2_with fail
    go_loopg [29] n (fun gk i wr => ∃ (j : Nat) (u : Value), j ≤ n ∧ gk = n - j ∧ i = .int .i64 j ∧ Hid (ToIn 143 69 w wr (.slice A3 k c3') M H2 (.int .u64 (x0 : Int)) (.int .u64 (x1 : Int)) (.int .i64 x2) (.int .i64 x3) (.int .i64 x4) u (YL.take j)))
    case atStart => exact ⟨0, .slice none 0 0, Nat.zero_le _, rfl, rfl, HI2⟩
    case round =>
      obtain ⟨j, u, hj, rfl, rfl, HI⟩ := hrel
      clear HI2
      have htl : (YL.take j).length = j := by rw [List.length_take, HNN.out]; omega
      have HTL := Lib.hid htl
      obtain ⟨A5, c5', hu⟩ := un_slc HI.out.o
      rw [htl] at hu
      subst hu
      clear htl c0 c1 c2' c3 c4 c5
      obtain ⟨c0, c1, c2', c3, c4, c5⟩ := six_cells HI.out.x
      by_cases hlj : j < n
      rotate_left
      · have hjn : j = n := by omega
        subst hjn
        have HTA := Lib.hid (show YL.take j = YL from List.take_of_length_le (by rw [HNN.out]; omega))
        obtain ⟨yd, hyd⟩ : ∃ yd : DLay, yd = ⟨x0, x1, x2, x3, x4, YL, A5, c5'⟩ := ⟨_, rfl⟩
        have HYC := Lib.hid (show yd.cells = [.int .u64 (x0 : Int), .int .u64 (x1 : Int), .int .i64 x2, .int .i64 x3, .int .i64 x4, .slice A5 j c5'] by rw [hyd, ← HNN.out]; rfl)
        have HYN := Lib.hid (show yd.ent = ye by rw [hyd, HYE.out]; rfl)
        have HYL := Lib.hid (show yd.L = YL by rw [hyd])
        have HYO := Lib.hid (show wr.ownsRow w.heap.size 143 6 (.slice yd.a yd.L.length yd.c) yd.L.length (cellsF AtL.cells yd.L) by
          have := HI.out.o
          rw [HTA.out] at this
          rw [hyd]
          show wr.ownsRow w.heap.size _ 6 (.slice A5 YL.length c5') YL.length _
          rw [HNN.out] at this ⊢
          exact this)
        have hA7 : Below wr.heap.size wr (wr.alloc (.cells #[.int .u64 (x0 : Int), .int .u64 (x1 : Int), .int .i64 x2, .int .i64 x3, .int .i64 x4, .slice A5 j c5'] 69)) := (Below.refl _ _).alloc (Nat.le_refl _) _
        have HS7 := Lib.hid (HI.out.s.below hA7)
        have HY7 := Lib.hid (row_below HYO.out hA7)
        have hR7 := HS7.out.row
        rw [HX.out] at hR7
        have HR7 := Lib.hid hR7
        have AC := Lib.hid (fun (u : Value) (hu : u ∈ ([.int .u64 (x0 : Int), .int .u64 (x1 : Int), .int .i64 x2, .int .i64 x3, .int .i64 x4, .slice A5 j c5'] : List Value)) => (by
          rw [← HYC.out] at hu
          exact ent_one yd u hu : u.oneCell' = true))
        have hmx : k + 1 ≤ maxLen := by unfold maxLen; omega
        have hby : (k + 1) * 64 ≤ 140737488355328 := by omega
        have hsz7 : w.heap.size ≤ (wr.alloc (.cells #[.int .u64 (x0 : Int), .int .u64 (x1 : Int), .int .i64 x2, .int .i64 x3, .int .i64 x4, .slice A5 j c5'] 69)).heap.size := HS7.out.b.size
        clear hyd hA7 hR7 HYO
        go_wp2_with (at_builtin; refine wpList_append_own_at _ (by rfl) (.tmp 40) (.tmp 42) _ (by rfl) w.heap.size 69 i1 _ 6 64 Tryz.underlying52 hj1 hy0 hy1 hy2 rfl (by decide) _ k (cellsF DLay.cells M) (by rfl) HR7.out ⟨wr.heap.size, 0, none⟩ 1 1 [.int .u64 (x0 : Int), .int .u64 (x1 : Int), .int .i64 x2, .int .i64 x3, .int .i64 x4, .slice A5 j c5'] (by rfl) rfl (fun j' u h => cells_newA wr [.int .u64 (x0 : Int), .int .u64 (x1 : Int), .int .i64 x2, .int .i64 x3, .int .i64 x4, .slice A5 j c5'] _ j' u h) AC.out hmx hby hsz7 ?_; intro v8 w8 hown8 hg8 hn8 hat8; clear hn8 hat8; have HO8 := Lib.hid hown8; have HG8 := Lib.hid hg8; clear hown8 hg8)
        have HTN := Lib.hid (show ToSt 143 69 w w8 v8 (M ++ [yd]) from ⟨HS7.out.b.grown HG8.out HS7.out.b.size (fun x hx => (HR7.out.lt x hx).1), by
          rw [List.length_append, HX.out, cellsF_append, cellsF_one, HYC.out]
          exact HO8.out, fun z hz => by
          rcases List.mem_append.1 hz with hz | hz
          · exact own_apart (HS7.out.ats z hz) HR7.out (by decide) HG8.out
          · rw [List.mem_singleton.1 hz]
            exact own_apart HY7.out HR7.out (by decide) HG8.out⟩)
        clear HO8 HG8
        (try rw [Exit.noGoto_ret])
        go_roundg (N - (k + 1))
        case measure => omega
        case rel => exact ⟨k + 1, M ++ [yd], by omega, rfl, by go_num, Lib.hid (by rw [List.length_append, HX.out]; rfl), Lib.hid (by rw [List.map_append, HM.out, HTK.out, List.map_cons, List.map_nil, HYN.out]), Lib.hid (fun z hz => by
          rcases List.mem_append.1 hz with hz | hz
          · exact HZ.out z hz
          · rw [List.mem_singleton.1 hz]
            exact ⟨_, HYM.out, by rw [HYQ.out, HYL.out]⟩), HTN⟩
      obtain ⟨t, ht⟩ : ∃ t, YL[j]? = some t := ⟨YL[j]'(by rw [HNN.out]; exact hlj), List.getElem?_eq_getElem _⟩
      obtain ⟨b, o, rfl, -, t0, t1, t2, t3, t4, t5⟩ := att_at (HAY.out.below HI.out.s.b) ht
      have HTK1 := Lib.hid (show YL.take (j + 1) = YL.take j ++ [t] by rw [List.take_add_one, ht]; rfl)
      have HTC := Lib.hid (show t.cells = [.int .i64 t.at_, .int .i64 t.y.x.form, .int .u64 (t.y.x.u : Int), .int .i64 t.y.x.s, .slice t.y.a t.y.x.b.length t.y.c, .string ⟨t.y.x.t.toArray⟩] from rfl)
      have HTO := Lib.hid (att_one t)
      obtain ⟨bn, hbn⟩ : ∃ bn, t.y.x.b.length = bn := ⟨_, rfl⟩
      obtain ⟨xs, hxs⟩ : ∃ xs : ByteArray, (⟨t.y.x.t.toArray⟩ : ByteArray) = xs := ⟨_, rfl⟩
      rw [hbn] at t4 HTC
      rw [hxs] at t5 HTC
      clear ht hbn hxs
      generalize t.y.x.form = y0 at *
      generalize t.y.x.u = y1 at *
      generalize t.y.x.s = y2 at *
      generalize t.y.a = y3 at *
      generalize t.y.c = y4 at *
      generalize t.at_ = y7 at *
      go_upto_region 9 with fail
      have hb3 : Below wr.heap.size wr (wr.alloc (.cells #[.int .i64 y7, .int .i64 y0, .int .u64 (y1 : Int), .int .i64 y2, .slice y3 bn y4, .string xs] 127)) := (Below.refl _ _).alloc (Nat.le_refl _) _
      have hX3 := Box.new wr 127 #[.int .i64 y7, .int .i64 y0, .int .u64 (y1 : Int), .int .i64 y2, .slice y3 bn y4, .string xs]
      generalize wr.alloc (.cells #[.int .i64 y7, .int .i64 y0, .int .u64 (y1 : Int), .int .i64 y2, .slice y3 bn y4, .string xs] 127) = w3 at *
      have HI3 := Lib.hid (HI.out.below hb3)
      have hA4 : Below w3.heap.size w3 (w3.alloc (.cells #[.int .i64 y7, .int .i64 y0, .int .u64 (y1 : Int), .int .i64 y2, .slice y3 bn y4, .string xs] 143)) := (Below.refl _ _).alloc (Nat.le_refl _) _
      have HI4 := Lib.hid (HI3.out.below hA4)
      have HR4 := Lib.hid (by have := HI4.out.o; rw [HTL.out] at this; exact this : (w3.alloc (.cells #[.int .i64 y7, .int .i64 y0, .int .u64 (y1 : Int), .int .i64 y2, .slice y3 bn y4, .string xs] 143)).ownsRow w.heap.size 143 6 (.slice A5 j c5') j (cellsF AtL.cells (YL.take j)))
      have AC := Lib.hid (fun (u : Value) (hu : u ∈ ([.int .i64 y7, .int .i64 y0, .int .u64 (y1 : Int), .int .i64 y2, .slice y3 bn y4, .string xs] : List Value)) => (by
        rw [← HTC.out] at hu
        exact HTO.out u hu : u.oneCell' = true))
      have hmx : j + 1 ≤ maxLen := by unfold maxLen; omega
      have hby : (j + 1) * 72 ≤ 140737488355328 := by omega
      have hsz4 : w.heap.size ≤ (w3.alloc (.cells #[.int .i64 y7, .int .i64 y0, .int .u64 (y1 : Int), .int .i64 y2, .slice y3 bn y4, .string xs] 143)).heap.size := HI4.out.s.b.size
      have HHZ := Lib.hid (show H2 ≤ w3.heap.size from Nat.le_of_lt (HI3.out.x.lt))
      clear hb3 hA4 t0 t1 t2 t3 t4 t5 c0 c1 c2' c3 c4 c5 HI
      obtain ⟨t0, t1, t2, t3, t4, t5⟩ := six_cells hX3
      have c5 := (six_cells HI3.out.x).2.2.2.2.2
      generalize wr.heap.size = H3 at *
      go_wp2_with (at_builtin; refine wpList_append_own_at _ (by rfl) (.tmp 34) (.tmp 36) _ (by rfl) w.heap.size 143 i2 _ 6 72 Tryz.underlying67 hk1 hz0 hz1 hz2 rfl (by decide) _ j (cellsF AtL.cells (YL.take j)) (by rfl) HR4.out ⟨w3.heap.size, 0, none⟩ 1 1 [.int .i64 y7, .int .i64 y0, .int .u64 (y1 : Int), .int .i64 y2, .slice y3 bn y4, .string xs] (by rfl) rfl (fun j' u h => cells_newA w3 [.int .i64 y7, .int .i64 y0, .int .u64 (y1 : Int), .int .i64 y2, .slice y3 bn y4, .string xs] _ j' u h) AC.out hmx hby hsz4 ?_; intro v8 w8 hown8 hg8 hn8 hat8; clear hn8; (obtain ⟨A8, c8, rfl⟩ := un_slc hown8); (obtain ⟨hmo, hbx⟩ := HI4.out.more (t := t) (u' := .slice A8 (j + 1) c8) (by decide) hg8 (by rw [HTL.out, HTC.out]; exact hown8) (fun k hk => by
        rcases hat8 with h1 | h1
        · exact HI4.out.u k (h1 ▸ hk)
        · rw [h1] at hk
          injection hk with hk
          rw [← hk]
          have := HHZ.out
          simp
          omega)); have HMO := Lib.hid hmo; have z5 := (six_cells hbx).2.2.2.2.2; have f5 := hbx.free 5; clear hown8 hg8 hat8 hmo hbx)
      go_roundg (n - (j + 1))
      case measure => omega
      case rel => exact ⟨j + 1, _, by omega, rfl, by go_num, Lib.hid (by rw [HTK1.out]; exact HMO.out)⟩

end Go.Proofs.YtejicboemkpeoaaGreatDoor
