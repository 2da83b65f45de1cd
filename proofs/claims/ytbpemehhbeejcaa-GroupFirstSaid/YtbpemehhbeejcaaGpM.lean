/-
  Package group: a group's members are left out, if its name was met (leave).
-/
import Derived.Test.YtbpemehhbeejcaaGpG
import Derived.Test.YtbpemehhbeejcaaGpE
import Derived.Test.YtbpemehhbeejcaaGpF
import Derived.Test.YtbpemehhbeejcaaPoO
import Derived.Deep.DeepCutAuto
import Derived.Deep.LoopGhost
namespace Go.Proofs.Ytbpemehhbeejcaa
open Go Go.RowKit

/-- Groups of the call's own that lie side by side, their members too. -/
structure GSt (T : TypeId) (w : World) (base : Nat) (v : Value) (L : List GLay) : Prop where
  row : w.ownsRow base T 4 v L.length (cellsF GLay.cells L)
  mem : ∀ x ∈ L, OwnM w base (.slice x.a x.g.mem.length x.c) x.g.mem
theorem GLay.one (x : GLay) : ∀ u ∈ x.cells, u.oneCell' = true := fun u hu => by
  simp only [GLay.cells, List.mem_cons, List.not_mem_nil, or_false] at hu
  rcases hu with rfl | rfl | rfl | rfl <;> rfl
section
variable {T : TypeId} {w w' : World} {base base' : Nat} {v v' : Value} {L : List GLay} {x : GLay}
theorem GSt.nil (T : TypeId) (w : World) (base : Nat) : GSt T w base (.slice none 0 0) [] := ⟨World.ownsRow_nil _ _ _ _, fun _ h => by cases h⟩
theorem GSt.but {P : Nat → Prop} (h : GSt T w base v L) (hb : But P w w') (h1 : ∀ k, v.ownBlock = some k → ¬ P k) (h2 : ∀ x ∈ L, ∀ k, (Value.slice x.a x.g.mem.length x.c).ownBlock = some k → ¬ P k) : GSt T w' base v L :=
  ⟨hb.row h.row h1, fun x hx => hb.row (h.mem x hx) (h2 x hx)⟩
theorem GSt.below (h : GSt T w base v L) (hb : Below w.heap.size w w') : GSt T w' base v L := ⟨row_below h.row hb, fun x hx => row_below (h.mem x hx) hb⟩
theorem GSt.base_ (h : GSt T w base v L) (hb : base' ≤ base) : GSt T w base' v L := ⟨row_base h.row hb, fun x hx => row_base (h.mem x hx) hb⟩
theorem GSt.own (h : GSt T w base v L) : OwnG T w base v (L.map (·.g)) := ⟨L, rfl, h.row, h.mem⟩
/-- One more, its members at hand. -/
theorem GSt.more (h : GSt T w base v L) (hx : OwnM w base (.slice x.a x.g.mem.length x.c) x.g.mem) (hT : 3 ≠ T) (hown : w'.ownsRow base T 4 v' (L.length + 1) (cellsF GLay.cells L ++ x.cells)) (hg : w.grownBy w' v.ownBlock) : GSt T w' base v' (L ++ [x]) := by
  refine ⟨by rw [List.length_append, cellsF_append, cellsF_one]; exact hown, fun y hy => ?_⟩
  have hk : ∀ z : GLay, OwnM w base (.slice z.a z.g.mem.length z.c) z.g.mem → OwnM w' base (.slice z.a z.g.mem.length z.c) z.g.mem := fun z hz =>
    ((But.refl (fun k => some k = v.ownBlock) w).grown hg (fun x hx => .inl hx.symm)).row hz (fun k hk hp => by
      obtain ⟨cs, f, hb⟩ := row_heap h.row hp.symm
      exact row_other hz hb hT k hk rfl)
  rcases List.mem_append.1 hy with hy | hy
  · exact hk y (h.mem y hy)
  · obtain rfl := List.mem_singleton.1 hy
    exact hk _ hx
end
theorem group_info : (Try.prog.info? 45).map (fun i => (i.zero, i.size, i.bytes)) = some (some (.agg #[.int .i64 0, .bool false, .string ⟨#[]⟩, .slice none 0 0]), 4, 56) := by kernel_rfl

/-- Why an object may not have its groups. -/
def grpE (S : List Sect) (Y : List Sym) : Int := match grpT S Y with
  | some _ => 0
  | none => 25
def grpL (S : List Sect) (Y : List Sym) : List Grp := (grpT S Y).getD []
theorem grp_none {S : List Sect} {Y : List Sym} (h : grpS S Y S.length = none) : grpE S Y = 25 ∧ grpL S Y = [] := by unfold grpE grpL grpT; rw [h]; exact ⟨rfl, rfl⟩
theorem grp_some {S : List Sect} {Y : List Sym} {l : List Grp} {met : List Bool} (h : grpS S Y S.length = some (l, met)) : grpE S Y = 0 ∧ grpL S Y = l := by unfold grpE grpL grpT; rw [h]; exact ⟨rfl, rfl⟩
/-- What a group's head asks beside its bytes. -/
def frontG (S : List Sect) (ny : Nat) (s : Sect) : Bool := !(decide (tabG S < 0) || ((s.link != tabG S) || (decide (s.inf < 0) || decide ((ny : Int) ≤ s.inf))))
theorem frontG_false {S : List Sect} {ny : Nat} {s : Sect} (h : frontG S ny s = false) : headG S ny s = false := by
  unfold frontG at h
  unfold headG
  refine decide_eq_false (fun hh => ?_)
  obtain ⟨h1, h2, h3, h4, -⟩ := hh
  rw [decide_eq_false (by omega : ¬ tabG S < 0), decide_eq_false (by omega : ¬ s.inf < 0), decide_eq_false (by omega : ¬ (ny : Int) ≤ s.inf), h2] at h
  simp at h
theorem frontG_true {S : List Sect} {Y : List Sym} {s : Sect} (h : frontG S Y.length s = true) : (∃ j y, s.inf = ((j : Nat) : Int) ∧ Y[j]? = some y) ∧ (headG S Y.length s = decide (s.data.length % 4 = 0 ∧ 8 ≤ s.data.length ∧ numT s.data 0 4 ≤ 1)) := by
  unfold frontG at h
  simp at h
  obtain ⟨h1, h2, h3, h4⟩ := h
  refine ⟨⟨s.inf.toNat, Y[s.inf.toNat]'(by omega), by omega, List.getElem?_eq_getElem _⟩, ?_⟩
  unfold headG
  rw [Bool.eq_iff_iff]
  simp
  omega
/-- What the section k makes of the groups ahead of it, if it is one. -/
theorem grpS_read {S : List Sect} {Y : List Sym} {k : Nat} {l : List Grp} {met : List Bool} {s : Sect} (h : grpS S Y k = some (l, met)) (hs : S[k]? = some s) (hk : s.kind = 17) (hf : frontG S Y.length s = true) :
    (readG S.length k s.data met = none → ∀ m, k < m → grpS S Y m = none) ∧ ∀ b, readG S.length k s.data met = some b → grpS S Y (k + 1) = some (l ++ [grpOf Y k s], b) := by
  have he := (frontG_true hf).2
  by_cases hd : s.data.length % 4 = 0 ∧ 8 ≤ s.data.length ∧ numT s.data 0 4 ≤ 1
  · rw [decide_eq_true hd] at he
    unfold readG
    rw [if_pos hd]
    exact ⟨fun hn m hm => grpS_bad h hs hk he hn hm, fun b hb => grpS_next h hs hk he hb⟩
  · rw [decide_eq_false hd] at he
    rw [readG_not hd]
    exact ⟨fun _ m hm => grpS_head h hs hk he hm, fun b hb => by cases hb⟩

end Go.Proofs.Ytbpemehhbeejcaa

namespace Go.Proofs.Ytbpemehhbeejcaa
open Go Go.RowKit Go.Maps

/-- A set of names in memory, the call's own. -/
def SetAt (w : World) (base mb : Nat) (names : List (List UInt8)) : Prop :=
  base ≤ mb ∧ ∃ (n : Nat) (ls : List (List UInt8)), n ≤ names.length ∧ w.ownsMap Try.prog 9 (unitElem (H := Unit)) mb n (setT ls) ∧ ∀ t, t ∈ ls ↔ t ∈ names
section
variable {w w' : World} {base mb : Nat} {names : List (List UInt8)}
theorem own_map_block {k : TypeId} {R : Value → Option (DataW Unit × List MemPlace)} {n : Nat} {D : DataW Unit} (h : w.ownsMap Try.prog k R mb n D) : ∃ es c, w.heap[mb]? = some (.map es c) := by
  obtain ⟨es, c, hm, _⟩ := h
  exact ⟨es, c, hm⟩
theorem SetAt.block (h : SetAt w base mb names) : ∃ es c, w.heap[mb]? = some (.map es c) := by
  obtain ⟨-, n, ls, -, h, -⟩ := h
  exact own_map_block h
theorem SetAt.lt (h : SetAt w base mb names) : mb < w.heap.size := by
  obtain ⟨es, c, hm⟩ := h.block
  rcases Nat.lt_or_ge mb w.heap.size with h1 | h1
  · exact h1
  · rw [Array.getElem?_eq_none h1] at hm; cases hm
theorem own_map_but {k : TypeId} {R : Value → Option (DataW Unit × List MemPlace)} {n : Nat} {D : DataW Unit} {P : Nat → Prop} (h : w.ownsMap Try.prog k R mb n D) (hb : But P w w') (hp : ¬ P mb) : w'.ownsMap Try.prog k R mb n D := by
  obtain ⟨es, c, hm, r⟩ := h
  have hlt : mb < w.heap.size := by
    rcases Nat.lt_or_ge mb w.heap.size with h1 | h1
    · exact h1
    · rw [Array.getElem?_eq_none h1] at hm; cases hm
  exact ⟨es, c, (hb.2 mb hlt hp).trans hm, r⟩
theorem SetAt.but {P : Nat → Prop} (h : SetAt w base mb names) (hb : But P w w') (hp : ¬ P mb) : SetAt w' base mb names := by
  obtain ⟨h0, n, ls, h1, h2, h3⟩ := h
  exact ⟨h0, n, ls, h1, own_map_but h2 hb hp, h3⟩
theorem SetAt.below (h : SetAt w base mb names) (hb : Below w.heap.size w w') : SetAt w' base mb names := h.but (P := fun _ => False) (But.of_below hb) (fun h => h)
/-- A name that was met already. -/
theorem SetAt.again (h : SetAt w base mb names) {t : List UInt8} (ht : t ∈ names) : SetAt w base mb (names ++ [t]) := by
  obtain ⟨h0, n, ls, h1, h2, h3⟩ := h
  refine ⟨h0, n, ls, by simp; omega, h2, fun s => ?_⟩
  rw [h3, List.mem_append, List.mem_singleton]
  exact ⟨.inl, fun h => h.elim id (fun e => e ▸ ht)⟩
end
theorem has_name {ls names : List (List UInt8)} (h : ∀ t, t ∈ ls ↔ t ∈ names) (t : List UInt8) : Maps.has (setT ls) (keyT t) = names.contains t := by
  rw [setT_has, Bool.eq_iff_iff]
  simp [h t]
/-- What a group makes of the names that were met, and of what is left out. -/
def leaveN (g : Grp) (names : List (List UInt8)) : List (List UInt8) := if g.one then names ++ [g.name] else names
def leaveB (g : Grp) (names : List (List UInt8)) (b : List Bool) : List Bool := if g.one && names.contains g.name then putAll b true g.mem else b
theorem leaveK {n : Nat} {G : List Grp} {names : List (List UInt8)} {k : Nat} {g : Grp} (h : G[k]? = some g) : leftK n G names (k + 1) = (leaveN g (leftK n G names k).1, leaveB g (leftK n G names k).1 (leftK n G names k).2) := by
  unfold leaveN leaveB
  cases hg : g.one with
  | true => rw [leftK_next h hg]; rfl
  | false => rw [leftK_other h hg]; rfl
theorem putAll_next (b : List Bool) (v : Bool) (ms : List Nat) (k m : Nat) (h : ms[k]? = some m) : putAll b v (ms.take (k + 1)) = (putAll b v (ms.take k)).set m v := by
  rw [List.take_add_one, h]
  simp [putAll]

set_option maxRecDepth 10000 in
set_option maxHeartbeats 3200000 in
theorem leave_any {w : World} {B base ob mb n : Nat} {x : GLay} (hx : x.Ok w B) (hB : B ≤ w.heap.size) (hBo : B ≤ ob) (hr : ∀ m ∈ x.g.mem, m < n) {b : List Bool} {names : List (List UInt8)} (hO : Met w base ob n b) (hS : SetAt w base mb names) (hn : names.length ≤ 1000000) (hl : x.g.mem.length ≤ 100000) (hnm : x.g.name.length ≤ 100000) :
    Calls Try.prog 26 #[.agg #[.int .i64 (x.g.place : Int), .bool x.g.one, .string ⟨x.g.name.toArray⟩, .slice x.a x.g.mem.length x.c], .slice (some ⟨ob, 0, none⟩) n n, .map (some mb)] w fun r w' =>
      r = .returned (.tuple #[]) ∧ But (fun k => k = ob ∨ k = mb) w w' ∧ Met w' base ob n (leaveB x.g names b) ∧ SetAt w' base mb (leaveN x.g names) := by
  obtain ⟨⟨p, one, nm, M⟩, a, c⟩ := x
  obtain ⟨hmem, -, -⟩ := hx
  simp only at hmem hr hl hnm ⊢
  generalize hw0 : (w.alloc (.cells #[.int .i64 (p : Int), .bool one, .string ⟨nm.toArray⟩, .slice a M.length c] 45)) = w0 at *
  have hb0 : Below w.heap.size w w0 := hw0 ▸ (Below.refl _ _).alloc (Nat.le_refl _) _
  have hX0 := Box.new w 45 #[.int .i64 (p : Int), .bool one, .string ⟨nm.toArray⟩, .slice a M.length c]
  rw [hw0] at hX0
  obtain ⟨c0, c1, c2, c3⟩ := four_cells hX0
  have hlt0 : w.heap.size < w0.heap.size := by rw [← hw0]; simp
  have HB0 := Lib.hid hb0
  have HBU := Lib.hid (But.of_below (P := fun k => k = ob ∨ k = mb) hb0)
  have HM := Lib.hid (Row.below hmem (hb0.mono hB))
  have HO := Lib.hid (hO.below hb0)
  have HS := Lib.hid (hS.below hb0)
  have HR := Lib.hid hr
  have hkey := key_text nm (by unfold maxLen; omega)
  have hom : ob ≠ mb := by
    obtain ⟨cs, f, h1⟩ := hO.box
    obtain ⟨es, c, h2⟩ := hS.block
    rintro rfl
    rw [h1] at h2; cases h2
  clear hmem hO hS hr
  cases one with
  | false =>
    go_enter Try.func26, Try.ntmps26
    go_upto_region 1 with fail
    try rw [hw0]
    clear hw0
    go_wp2_with fail
    first | go_end0 | (refine bodyPost_ret (results_none rfl _ _ _) rfl ?_)
    exact ⟨rfl, HBU.out, HO.out, HS.out⟩
  | true =>
    obtain ⟨hbm, nn, ls, hnn, hmap, hls⟩ := HS.out
    have hh := has_name hls nm
    have HMAP := Lib.hid hmap
    have HLS := Lib.hid hls
    clear hmap hls
    cases hc : names.contains nm with
    | false =>
      rw [hc] at hh
      have hput : setT (ls ++ [nm]) = (setT ls).put (keyT nm) (.agg []) := setT_snoc ls nm
      have HPUT := Lib.hid hput
      have HC := Lib.hid hc
      have hz := fun W => zero_unit W
      have hnx : nn < maxLen := by unfold maxLen; omega
      have hb1 : Below w0.heap.size w0 (w0.alloc (.cells #[] 86)) := (Below.refl _ _).alloc (Nat.le_refl _) _
      have hc2 := (hb1.cell (p := ⟨w.heap.size, 2, none⟩) hlt0).trans c2
      have hmp1 := own_map_but (P := fun _ => False) HMAP.out (But.of_below hb1) (fun h => h)
      clear hput hc
      generalize ByteArray.mk nm.toArray = sb at *
      go_enter Try.func26, Try.ntmps26
      go_upto_region 1 with fail
      try rw [hw0]
      clear hw0
      go_wp2_with (first
        | (at_lookup; refine wpList_lookup_own_unit _ (by rfl) _ _ 74 (by rfl) 9 86 string_law Try.underlying74 (zero_unit _) mb nn (setT ls) (by rfl) HMAP.out _ _ (by rfl) hkey ?_; rw [hh])
        | (at_mapUpdate; refine wpList_mapUpdate_own _ (by rfl) _ _ _ 74 (by rfl) 9 86 string_law Try.underlying74 (unitElem (H := Unit)) mb nn _ (by rfl) hmp1 hnx _ _ _ (by rfl) (by rfl) hkey _ [] unitElem_mk ?_; intro w2 hown2 hg2))
      have HON := Lib.hid hown2
      have HGN := Lib.hid hg2
      clear hown2 hg2
      first | go_end0 | (refine bodyPost_ret (results_none rfl _ _ _) rfl ?_)
      refine ⟨rfl, (HBU.out.then_ hb1).grown HGN.out (fun x hx => .inl (.inr (by injection hx with hx; exact hx.symm))), ?_, ?_⟩
      · rw [show leaveB ⟨p, true, nm, M⟩ names b = b by unfold leaveB; simp only; rw [HC.out]; rfl]
        exact (HO.out.below hb1).grown HGN.out (by simpa using hom)
      · refine ⟨hbm, nn + 1, ls ++ [nm], by show nn + 1 ≤ (names ++ [nm]).length; simp; omega, by rw [HPUT.out]; exact HON.out, fun t => ?_⟩
        show t ∈ ls ++ [nm] ↔ t ∈ names ++ [nm]
        rw [List.mem_append, List.mem_append, HLS.out]
    | true =>
      rw [hc] at hh
      have HC := Lib.hid hc
      have hb1 : Below w0.heap.size w0 (w0.alloc (.cells #[] 86)) := (Below.refl _ _).alloc (Nat.le_refl _) _
      have hc3 := (hb1.cell (p := ⟨w.heap.size, 3, none⟩) hlt0).trans c3
      have HM1 := Lib.hid (Row.below HM.out (hb1.mono (Nat.le_trans hB hb0.size)))
      have HO1 := Lib.hid (HO.out.below hb1)
      have HS1 := Lib.hid (HS.out.below hb1)
      have HB1 := Lib.hid (HBU.out.then_ hb1)
      have hBs : B ≤ (w0.alloc (.cells #[] 86)).heap.size := Nat.le_trans (Nat.le_trans hB hb0.size) hb1.size
      clear hc hb1
      generalize hN : M.length = N at *
      have HN := Lib.hid hN
      clear hN
      generalize ByteArray.mk nm.toArray = sb at *
      go_enter Try.func26, Try.ntmps26
      go_upto_region 1 with fail
      try rw [hw0]
      clear hw0
      go_wp2_with (at_lookup; refine wpList_lookup_own_unit _ (by rfl) _ _ 74 (by rfl) 9 86 string_law Try.underlying74 (zero_unit _) mb nn (setT ls) (by rfl) HMAP.out _ _ (by rfl) hkey ?_; rw [hh])
      clear c0 c1 c2 c3 hc3 hh HMAP HLS hkey
      generalize (w0.alloc (.cells #[] 86)) = w1 at *
      go_loopg [29] N (fun gk i wr => ∃ k : Nat, k ≤ N ∧ gk = N - k ∧ i = .int .i64 k ∧ Hid (Met wr base ob n (putAll b true (M.take k))) ∧ Hid (But (fun z => z = ob) w1 wr))
      case atStart => exact ⟨0, Nat.zero_le _, rfl, rfl, HO1, Lib.hid (But.refl _ _)⟩
      case round =>
        obtain ⟨k, hk, rfl, rfl, HK, HB⟩ := hrel
        by_cases hlt : k < N
        · have HLT := Lib.hid hlt
          obtain ⟨m, hm⟩ : ∃ m, M[k]? = some m := ⟨M[k]'(by rw [HN.out]; exact hlt), List.getElem?_eq_getElem _⟩
          obtain ⟨b', o', rfl, hb', x0⟩ := Mems.at_ (Row.below HM1.out (HB.out.below hBs (fun z hz => by omega))) hm
          have hmn := HR.out m (List.mem_of_getElem? hm)
          have HNX := Lib.hid (putAll_next b true M k m hm)
          have hml : m < (putAll b true (M.take k)).length := by rw [HK.out.1]; exact hmn
          have xm := HK.out.cell (List.getElem?_eq_getElem hml)
          have xf := HK.out.free m
          have HK2 := Lib.hid (HK.out.store m true)
          have HB2 := Lib.hid (HB.out.grown (only_set (only_refl _ (some ob)) m (.bool true)) (fun x hx => .inl (by injection hx with hx; exact hx.symm)))
          have hmi : (m : Int) < (n : Int) := by omega
          generalize (putAll b true (M.take k))[m] = bv at *
          clear hm hml
          go_wp2_with fail
          go_roundg (N - (k + 1))
          case measure => have := HLT.out; omega
          case rel => exact ⟨k + 1, HLT.out, rfl, by go_num, Lib.hid (by rw [HNX.out]; exact HK2.out), HB2⟩
        · have hkN : k = N := by omega
          subst hkN
          have hO := HK.out
          rw [List.take_of_length_le (by rw [HN.out]; omega)] at hO
          have HOO := Lib.hid hO
          clear hO
          go_wp2_with fail
          first | go_end0 | (refine bodyPost_ret (results_none rfl _ _ _) rfl ?_)
          refine ⟨rfl, HB1.out.trans (HB.out.mono (fun z _ hz => .inl hz)), ?_, ?_⟩
          · rw [show leaveB ⟨p, true, nm, M⟩ names b = putAll b true M by unfold leaveB; simp only; rw [HC.out]; rfl]
            exact HOO.out
          · exact (HS1.out.but HB.out (fun e => hom e.symm)).again (by simpa using HC.out)

end Go.Proofs.Ytbpemehhbeejcaa
