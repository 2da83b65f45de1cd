/-
  Tables: the law's told; the document's Same where alike; an item by its base, the program's and the document's.
-/
import Derived.Test.YtpmpgfngogdfhaaDoorTbE
import Derived.Test.YtpmpgfngogdfhaaDoorTbQ
namespace Go.Proofs.YtpmpgfngogdfhaaDoor
open Go Go.RowKit

/-! ### An item by its base -/
theorem find_firstT {α : Type} (p : α → Bool) : ∀ (L : List α) (k : Nat) (x : α), (L.take k).all (fun t => !p t) = true → L[k]? = some x → p x = true → L.find? p = some x
  | [], k, x, _, h, _ => by simp at h
  | y :: L, 0, x, _, h, hp => by
    simp only [List.getElem?_cons_zero, Option.some.injEq] at h
    subst h
    simp [hp]
  | y :: L, k + 1, x, ha, h, hp => by
    simp only [List.take_succ_cons, List.all_cons, Bool.and_eq_true, Bool.not_eq_true'] at ha
    rw [List.getElem?_cons_succ] at h
    rw [List.find?_cons_of_neg (by rw [ha.1]; decide)]
    exact find_firstT p L k x ha.2 h hp
theorem find_noneT {α : Type} (p : α → Bool) : ∀ (L : List α), L.all (fun t => !p t) = true → L.find? p = none
  | [], _ => rfl
  | y :: L, ha => by
    simp only [List.all_cons, Bool.and_eq_true, Bool.not_eq_true'] at ha
    rw [List.find?_cons_of_neg (by rw [ha.1]; decide)]
    exact find_noneT p L ha.2
theorem all_takeT {α : Type} (p : α → Bool) (L : List α) (k : Nat) (x : α) (h : (L.take k).all p = true) (hx : L[k]? = some x) (hp : p x = true) : (L.take (k + 1)).all p = true := by
  rw [List.take_add_one, hx, List.all_append, h]
  simp [hp]
def itTb (l : List Nat) (i : Nat) : Nat × Bool := match l[i]? with | some n => (n, true) | none => (0, false)
theorem itTb_none {l : List Nat} {i : Nat} (h : l.length ≤ i) : itTb l i = (0, false) := by unfold itTb; rw [List.getElem?_eq_none h]
theorem itTb_some {l : List Nat} {i v : Nat} (h : l[i]? = some v) : itTb l i = (v, true) := by unfold itTb; rw [h]
theorem atTb_is (L : List Tbl) (b i : Nat) : atTb L b i = match L.find? (fun t => t.base == b) with | some t => itTb t.items i | none => (0, false) := rfl
/-- The first table with that base. -/
def IxTb (L : List TLay) (b : Nat) (k : Int) : Prop := (∃ (n : Nat) (y : TLay), k = (n : Int) ∧ L[n]? = some y ∧ (L.map TLay.x).find? (fun t => t.base == b) = some y.x) ∨ (k = -1 ∧ (L.map TLay.x).find? (fun t => t.base == b) = none)

set_option maxRecDepth 10000 in
theorem at1_tb {w : World} (y : TLay) (b gb : Nat) (hb : w.cell? ⟨gb, 0, none⟩ = some (.int .u64 (b : Int))) :
    Calls Tryd.prog 61 #[.agg #[.bool y.x.wide, .int .u64 (y.x.base : Int), .slice y.a y.x.items.length y.c], .pointer (some ⟨gb, 0, none⟩)] w fun r w' => r = .returned (.bool (y.x.base == b)) ∧ Below w.heap.size w w' := by
  have hlt := World.block_lt_of_cell? w _ hb
  have HB0 := Lib.hid (show Below w.heap.size w (w.alloc (.cells #[.bool y.x.wide, .int .u64 (y.x.base : Int), .slice y.a y.x.items.length y.c] 86)) from (Below.refl _ _).alloc (Nat.le_refl _) _)
  have hb2 : (w.alloc (.cells #[.bool y.x.wide, .int .u64 (y.x.base : Int), .slice y.a y.x.items.length y.c] 86)).cell? ⟨gb, 0, none⟩ = some (.int .u64 (b : Int)) := (HB0.out.cell (p := ⟨gb, 0, none⟩) hlt).trans hb
  obtain ⟨q, hq⟩ : ∃ q, (y.x.base == b) = q := ⟨_, rfl⟩
  have q1 : ((y.x.base : Int) == (b : Int)) = q := by rw [← hq, Bool.eq_iff_iff]; simp; omega
  rw [hq]
  clear hb hlt hq
  generalize y.x.base = bs at *
  go_enter Tryd.func61, Tryd.ntmps61
  go_wp2_with fail
  go_ret
  exact ⟨rfl, HB0.out⟩

set_option maxRecDepth 10000 in
set_option maxHeartbeats 1600000 in
theorem index_tb {w : World} {B : Nat} {A : Option Addr} {L : List TLay} (h : Tabs w B A L) (hB : B ≤ w.heap.size) (c b gb : Nat) (hb : w.cell? ⟨gb, 0, none⟩ = some (.int .u64 (b : Int))) (hl : L.length ≤ 100000) :
    Calls Tryd.prog 60 #[.slice A L.length c, .func (.func 61) #[] #[.pointer (some ⟨gb, 0, none⟩)]] w fun r w' => ∃ k : Int, r = .returned (.int .i64 k) ∧ IxTb L b k ∧ Below w.heap.size w w' := by
  obtain ⟨N, hN⟩ : ∃ N, L.length = N := ⟨_, rfl⟩
  have HH := Lib.hid h
  have HN := Lib.hid hN
  have HB0 := Lib.hid hb
  have HLT := Lib.hid (World.block_lt_of_cell? w _ hb)
  rw [hN] at hl ⊢
  clear h hN hb
  go_enter Tryd.func60, Tryd.ntmps60
  go_wp2_with fail
  go_loopw [8] (fun i wr => ∃ k : Nat, k ≤ N ∧ i = .int .i64 k ∧ Below w.heap.size w wr ∧ Hid ((L.take k).all (fun t => !(t.x.base == b)) = true)) (fun i _ => N - (intOf i).toNat)
  case atStart => exact ⟨0, Nat.zero_le _, rfl, Below.refl _ _, Lib.hid rfl⟩
  case round =>
    obtain ⟨k, hk, rfl, hB1, HY⟩ := hrel
    have HB := Lib.hid hB1
    by_cases hlt : k < N
    · obtain ⟨x, hx⟩ : ∃ x, L[k]? = some x := ⟨L[k]'(by rw [HN.out]; exact hlt), List.getElem?_eq_getElem _⟩
      obtain ⟨bb, o, rfl, hbb, c0, c1, c2⟩ := tbl_at (HH.out.below (hB1.mono hB)) hx
      have HW := Lib.hid (at1_tb (w := wr) x b gb ((hB1.cell (p := ⟨gb, 0, none⟩) HLT.out).trans HB0.out))
      by_cases hst : (x.x.base == b) = true
      · have HF := Lib.hid (show IxTb L b (k : Int) from .inl ⟨k, x, rfl, hx, by
          have h1 : ((L.map TLay.x).take k).all (fun t => !(t.base == b)) = true := by rw [← List.map_take, List.all_map]; exact HY.out
          exact find_firstT _ _ k x.x h1 (by rw [List.getElem?_map, hx]; rfl) hst⟩)
        rw [hst] at HW
        clear hx hst hB1
        go_wp2_with (go_at_call 61; refine HW.out.mono ?_; rintro r w1 ⟨rfl, hb1⟩)
        have HB2 := Lib.hid (HB.out.trans (hb1.mono HB.out.size))
        go_ret
        exact ⟨k, rfl, HF.out, HB2.out⟩
      · have hst' : (x.x.base == b) = false := by simpa using hst
        have HF := Lib.hid (all_takeT (fun t : TLay => !(t.x.base == b)) L k x HY.out hx (by rw [hst']; rfl))
        rw [hst'] at HW
        clear hx hst hB1 hst'
        go_wp2_with (go_at_call 61; refine HW.out.mono ?_; rintro r w1 ⟨rfl, hb1⟩)
        have HB2 := Lib.hid (HB.out.trans (hb1.mono HB.out.size))
        go_roundw
        case rel => exact ⟨k + 1, by omega, by go_num, HB2.out, HF⟩
        case measure => simp [intOf]; omega
    · have HF := Lib.hid (show IxTb L b (-1) from .inr ⟨rfl, find_noneT _ _ (by
        have := HY.out
        rw [List.take_of_length_le (by rw [HN.out]; omega)] at this
        rw [List.all_map]
        exact this)⟩)
      clear hB1
      go_wp2_with fail
      go_ret
      exact ⟨-1, rfl, HF.out, HB.out⟩

set_option maxRecDepth 10000 in
set_option maxHeartbeats 1600000 in
theorem at_tb {w : World} {B : Nat} {A : Option Addr} {L : List TLay} (h : Tabs w B A L) (hB : B ≤ w.heap.size) (c b i : Nat) (hl : L.length ≤ 100000) (hi : ∀ y ∈ L, y.x.items.length ≤ 1000000000) :
    Calls Tryd.prog 31 #[.slice A L.length c, .int .u64 (b : Int), .int .u64 (i : Int)] w fun r w' => r = .returned (.tuple #[.int .u64 ((atTb (L.map TLay.x) b i).1 : Int), .bool (atTb (L.map TLay.x) b i).2]) ∧ Below w.heap.size w w' := by
  have hb1 : Below w.heap.size w (w.alloc (.cells #[.int .u64 (b : Int)] 41)) := (Below.refl _ _).alloc (Nat.le_refl _) _
  have hX : (w.alloc (.cells #[.int .u64 (b : Int)] 41)).cell? ⟨w.heap.size, 0, none⟩ = some (.int .u64 (b : Int)) := by rw [(Box.new w 41 #[.int .u64 (b : Int)]).cell 0]; rfl
  have HI := Lib.hid (index_tb (h.below (hb1.mono hB)) (Nat.le_trans hB hb1.size) c b w.heap.size hX hl)
  have HB1 := Lib.hid hb1
  have HH := Lib.hid h
  have HA := Lib.hid (atTb_is (L.map TLay.x) b i)
  have HM := Lib.hid hi
  have HIX := Lib.hid (fun (k : Int) (h : IxTb L b k) => h)
  have hmf : ∀ (fn : Fn) (first cap : Array Value) (W : World), (Instr.makeFunc fn first cap).run Tryd.prog W = .ok (.func fn first cap) W := fun _ _ _ _ => rfl
  generalize hr : atTb (L.map TLay.x) b i = R at *
  generalize hN : L.length = N at *
  clear h hb1 hX hi hr
  go_enter Tryd.func31, Tryd.ntmps31
  go_upto_region 2 with (go_at_call 60; refine HI.out.mono ?_; rintro r w1 ⟨k, rfl, hk, hb⟩; have HK := Lib.hid hk; have HB2 := Lib.hid (HB1.out.trans (hb.mono HB1.out.size)); clear hk hb)
  rcases HK.out with ⟨n, y, rfl, hy, hf⟩ | ⟨rfl, hf⟩
  · rw [hf] at HA
    have HA := Lib.hid (show R = itTb y.x.items i from HA.out)
    have hd : decide (((n : Nat) : Int) < 0) = false := by simp
    obtain ⟨bb, o, rfl, hbb, c0, c1, c2⟩ := tbl_at (HH.out.below (HB2.out.mono hB)) hy
    have hRI := (HH.out.below (HB2.out.mono hB)).its y (List.mem_of_getElem? hy)
    have hml := HM.out y (List.mem_of_getElem? hy)
    have hnl : n < N := by rw [← hN]; exact (List.getElem?_eq_some_iff.1 hy).1
    have HRI := Lib.hid hRI
    generalize y.x.items = its at *
    generalize y.a = ya at *
    generalize y.c = yc at *
    obtain ⟨m, hm⟩ : ∃ m, its.length = m := ⟨_, rfl⟩
    rw [hm] at c2 hml
    have s1 : IntKind.u64.wrap (m : Int) = (m : Int) := by rw [IntWalk.u64_in _ (by omega)]
    by_cases him : m ≤ i
    · have d1 : decide ((m : Int) ≤ (i : Int)) = true := by simp; omega
      have d2 : decide (m ≤ i) = true := by simpa using him
      have HR := Lib.hid (show R = (0, false) by rw [HA.out]; exact itTb_none (by omega))
      clear HA hm hf hy hRI him
      go_wp2_with fail
      go_ret2
      exact ⟨by rw [HR.out]; rfl, HB2.out⟩
    · have d1 : decide ((m : Int) ≤ (i : Int)) = false := by simp; omega
      have d2 : decide (m ≤ i) = false := by simpa using him
      obtain ⟨v, hv⟩ : ∃ v, its[i]? = some v := ⟨its[i]'(by omega), List.getElem?_eq_getElem _⟩
      have HR := Lib.hid (show R = (v, true) by rw [HA.out]; exact itTb_some hv)
      obtain ⟨bx, ox, rfl, hbx, cx⟩ := num_atT hRI hv
      have him' : i < m := by omega
      clear HA hm hf hy hRI him hv
      go_wp2_with fail
      go_ret2
      exact ⟨by rw [HR.out]; rfl, HB2.out⟩
  · rw [hf] at HA
    have HR := Lib.hid (show R = (0, false) from HA.out)
    clear HA hf
    go_wp2_with fail
    go_ret2
    exact ⟨by rw [HR.out]; rfl, HB2.out⟩

end Go.Proofs.YtpmpgfngogdfhaaDoor
