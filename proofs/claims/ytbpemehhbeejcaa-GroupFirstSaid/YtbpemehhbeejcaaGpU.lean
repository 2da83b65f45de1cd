/-
  The chapter's example: works.
-/
import Derived.Test.YtbpemehhbeejcaaGpD
import Derived.Test.YtbpemehhbeejcaaGpL
import Derived.Test.YtbpemehhbeejcaaGpO
import Derived.Test.YtbpemehhbeejcaaOcC
namespace Go.Proofs.Ytbpemehhbeejcaa
open Go Go.RowKit

def exD10 : List UInt8 := [1, 0, 0, 0, 2, 0, 0, 0]
def exL10 (A : Option Addr) (c : Nat) : List Lay := [⟨zeroS, none, 0⟩, ⟨{ zeroS with kind := 2 }, none, 0⟩, ⟨{ zeroS with kind := 1 }, none, 0⟩, ⟨{ zeroS with kind := 17, link := 1, data := exD10 }, A, c⟩]
def exO10 (A : Option Addr) (c g : Nat) : ObjV := ⟨0, 0, some ⟨g, 0, none⟩, 4, exL10 A c, some ⟨g + 1, 0, none⟩, 1, exYg, none, 0, []⟩
theorem ex10_bytes : bytesG true [2] = exD10 := by decide
theorem ex10_small (A : Option Addr) (c g : Nat) : (exO10 A c g).Small :=
  ⟨(by decide : 4 ≤ 6000), fun x hx => by
    simp only [exO10, exL10, List.mem_cons, List.not_mem_nil, or_false] at hx
    rcases hx with rfl | rfl | rfl | rfl <;> simp [zeroS, exD10], (by show exYg.length + sumN exYg ≤ 6000; decide), Nat.zero_le _, fun q hq => by cases hq⟩

theorem ex10_leftE : leftE [(exSg, exYg), (exSg, exYg)] = 0 := by
  unfold leftE
  rw [if_neg (by decide), show ([(exSg, exYg), (exSg, exYg)] : List (List Sect × List Sym)).length = 2 from rfl, exg_left]
theorem ex10_leftL : leftL [(exSg, exYg), (exSg, exYg)] = [[false, false, false, false], [false, false, true, false]] := by
  unfold leftL
  rw [if_neg (by decide), show ([(exSg, exYg), (exSg, exYg)] : List (List Sect × List Sym)).length = 2 from rfl, exg_left]
theorem fits10 (s : Sect) (h : InI s.kind ∧ InI s.link ∧ InI s.inf ∧ InI s.algn ∧ InI s.ent ∧ s.flags < two64 ∧ s.addr < two64 ∧ s.data.length ≤ 100000 ∧ s.name.length ≤ 100000) : s.Fits := ⟨h.1, h.2.1, h.2.2.1, h.2.2.2.1, h.2.2.2.2.1, h.2.2.2.2.2.1, h.2.2.2.2.2.2.1, h.2.2.2.2.2.2.2.1, h.2.2.2.2.2.2.2.2⟩
theorem ex10_fits : (zeroS).Fits ∧ ({ zeroS with kind := 2 } : Sect).Fits ∧ ({ zeroS with kind := 1 } : Sect).Fits ∧ ({ zeroS with kind := 17, link := 1, data := exD10 } : Sect).Fits := by
  refine ⟨fits10 _ ?_, fits10 _ ?_, fits10 _ ?_, fits10 _ ?_⟩ <;> (unfold InI zeroS; refine ⟨?_, ?_, ?_, ?_, ?_, ?_, ?_, ?_, ?_⟩ <;> decide)
theorem ex10_ok {w : World} {A : Option Addr} {c : Nat} (hd : Rd w w.heap.size A exD10) (hc : 8 ≤ c) (hm : c ≤ maxLen) :
    ∃ w5, (((w.alloc (.cells #[.string ⟨#[]⟩, .int .i64 0, .int .u64 0, .int .u64 0, .slice none 0 0, .int .i64 0, .int .i64 0, .int .i64 0, .int .i64 0, .string ⟨#[]⟩, .int .i64 2, .int .u64 0, .int .u64 0, .slice none 0 0, .int .i64 0, .int .i64 0, .int .i64 0, .int .i64 0, .string ⟨#[]⟩, .int .i64 1, .int .u64 0, .int .u64 0, .slice none 0 0, .int .i64 0, .int .i64 0, .int .i64 0, .int .i64 0, .string ⟨#[]⟩, .int .i64 17, .int .u64 0, .int .u64 0, .slice A 8 c, .int .i64 1, .int .i64 0, .int .i64 0, .int .i64 0] 61)).alloc (.cells #[.string ⟨#[102]⟩, .int .i64 0, .int .i64 0, .int .i64 0, .int .u64 0, .int .u64 0] 63)).alloc (.cells #[.int .i64 0, .int .i64 0, .slice (some ⟨w.heap.size, 0, none⟩) 4 4, .slice (some ⟨w.heap.size + 1, 0, none⟩) 1 1, .slice none 0 0] 37)) = w5 ∧ (exO10 A c w.heap.size).Ok w5 w5.heap.size ∧ Below w.heap.size w w5 ∧ Box w5 (w.heap.size + 1 + 1) 37 #[.int .i64 0, .int .i64 0, .slice (some ⟨w.heap.size, 0, none⟩) 4 4, .slice (some ⟨w.heap.size + 1, 0, none⟩) 1 1, .slice none 0 0] := by
  refine ⟨_, rfl, ?_⟩
  obtain ⟨f1, f2, f3, f4⟩ := ex10_fits
  have h3 := secs_lit (w := w) (L := exL10 A c) (fun x hx => by
    simp only [exL10, List.mem_cons, List.not_mem_nil, or_false] at hx
    rcases hx with rfl | rfl | rfl | rfl
    · exact ⟨Rd.nil_, Nat.le_refl _, Nat.zero_le _, f1⟩
    · exact ⟨Rd.nil_, Nat.le_refl _, Nat.zero_le _, f2⟩
    · exact ⟨Rd.nil_, Nat.le_refl _, Nat.zero_le _, f3⟩
    · exact ⟨hd, hc, hm, f4⟩)
  rw [show (w.alloc (.cells (cellsL (exL10 A c)).toArray 61)) = (w.alloc (.cells #[.string ⟨#[]⟩, .int .i64 0, .int .u64 0, .int .u64 0, .slice none 0 0, .int .i64 0, .int .i64 0, .int .i64 0, .int .i64 0, .string ⟨#[]⟩, .int .i64 2, .int .u64 0, .int .u64 0, .slice none 0 0, .int .i64 0, .int .i64 0, .int .i64 0, .int .i64 0, .string ⟨#[]⟩, .int .i64 1, .int .u64 0, .int .u64 0, .slice none 0 0, .int .i64 0, .int .i64 0, .int .i64 0, .int .i64 0, .string ⟨#[]⟩, .int .i64 17, .int .u64 0, .int .u64 0, .slice A 8 c, .int .i64 1, .int .i64 0, .int .i64 0, .int .i64 0] 61)) from rfl] at h3
  have z3 : (w.alloc (.cells #[.string ⟨#[]⟩, .int .i64 0, .int .u64 0, .int .u64 0, .slice none 0 0, .int .i64 0, .int .i64 0, .int .i64 0, .int .i64 0, .string ⟨#[]⟩, .int .i64 2, .int .u64 0, .int .u64 0, .slice none 0 0, .int .i64 0, .int .i64 0, .int .i64 0, .int .i64 0, .string ⟨#[]⟩, .int .i64 1, .int .u64 0, .int .u64 0, .slice none 0 0, .int .i64 0, .int .i64 0, .int .i64 0, .int .i64 0, .string ⟨#[]⟩, .int .i64 17, .int .u64 0, .int .u64 0, .slice A 8 c, .int .i64 1, .int .i64 0, .int .i64 0, .int .i64 0] 61)).heap.size = w.heap.size + 1 := by simp
  rw [← z3] at h3
  have b3 : Below w.heap.size w (w.alloc (.cells #[.string ⟨#[]⟩, .int .i64 0, .int .u64 0, .int .u64 0, .slice none 0 0, .int .i64 0, .int .i64 0, .int .i64 0, .int .i64 0, .string ⟨#[]⟩, .int .i64 2, .int .u64 0, .int .u64 0, .slice none 0 0, .int .i64 0, .int .i64 0, .int .i64 0, .int .i64 0, .string ⟨#[]⟩, .int .i64 1, .int .u64 0, .int .u64 0, .slice none 0 0, .int .i64 0, .int .i64 0, .int .i64 0, .int .i64 0, .string ⟨#[]⟩, .int .i64 17, .int .u64 0, .int .u64 0, .slice A 8 c, .int .i64 1, .int .i64 0, .int .i64 0, .int .i64 0] 61)) := (Below.refl _ _).alloc (Nat.le_refl _) _
  generalize hW3 : (w.alloc (.cells #[.string ⟨#[]⟩, .int .i64 0, .int .u64 0, .int .u64 0, .slice none 0 0, .int .i64 0, .int .i64 0, .int .i64 0, .int .i64 0, .string ⟨#[]⟩, .int .i64 2, .int .u64 0, .int .u64 0, .slice none 0 0, .int .i64 0, .int .i64 0, .int .i64 0, .int .i64 0, .string ⟨#[]⟩, .int .i64 1, .int .u64 0, .int .u64 0, .slice none 0 0, .int .i64 0, .int .i64 0, .int .i64 0, .int .i64 0, .string ⟨#[]⟩, .int .i64 17, .int .u64 0, .int .u64 0, .slice A 8 c, .int .i64 1, .int .i64 0, .int .i64 0, .int .i64 0] 61)) = w3 at *
  have h4 := lit_row sym_six w3 63 exYg
  rw [show (cellsF Sym.cells exYg).toArray = #[.string ⟨#[102]⟩, .int .i64 0, .int .i64 0, .int .i64 0, .int .u64 0, .int .u64 0] from rfl] at h4
  have z4 : (w3.alloc (.cells #[.string ⟨#[102]⟩, .int .i64 0, .int .i64 0, .int .i64 0, .int .u64 0, .int .u64 0] 63)).heap.size = w3.heap.size + 1 := by simp
  have b4 : Below w3.heap.size w3 (w3.alloc (.cells #[.string ⟨#[102]⟩, .int .i64 0, .int .i64 0, .int .i64 0, .int .u64 0, .int .u64 0] 63)) := (Below.refl _ _).alloc (Nat.le_refl _) _
  rw [← z4] at h4
  generalize hW4 : (w3.alloc (.cells #[.string ⟨#[102]⟩, .int .i64 0, .int .i64 0, .int .i64 0, .int .u64 0, .int .u64 0] 63)) = w4 at *
  have b5 : Below w4.heap.size w4 (w4.alloc (.cells #[.int .i64 0, .int .i64 0, .slice (some ⟨w.heap.size, 0, none⟩) 4 4, .slice (some ⟨w.heap.size + 1, 0, none⟩) 1 1, .slice none 0 0] 37)) := (Below.refl _ _).alloc (Nat.le_refl _) _
  have hX := Box.new w4 37 #[.int .i64 0, .int .i64 0, .slice (some ⟨w.heap.size, 0, none⟩) 4 4, .slice (some ⟨w.heap.size + 1, 0, none⟩) 1 1, .slice none 0 0]
  rw [show w4.heap.size = w.heap.size + 1 + 1 by omega] at hX
  generalize hW5 : (w4.alloc (.cells #[.int .i64 0, .int .i64 0, .slice (some ⟨w.heap.size, 0, none⟩) 4 4, .slice (some ⟨w.heap.size + 1, 0, none⟩) 1 1, .slice none 0 0] 37)) = w5 at *
  have c4 : Below w3.heap.size w3 w5 := b4.trans (b5.mono (by omega))
  have s5 := b5.size
  refine ⟨⟨(h3.below c4).more (by omega), ?_, ⟨fun h => absurd h (Nat.lt_irrefl 0), fun q hq => by cases hq⟩, Nat.le_refl 4, Nat.le_refl 0⟩, b3.trans (c4.mono (by omega)), hX⟩
  rw [z3] at h4
  exact Row.more (Row.below h4 b5) (by omega)

set_option maxRecDepth 10000 in
set_option maxHeartbeats 3200000 in
theorem gworks_any {w : World} : Calls Try.prog 7 #[] w fun r w' => r = .returned (.bool true) ∧ Below w.heap.size w w' := by
  have HB1 := Lib.hid ((Below.refl w.heap.size w).alloc (Nat.le_refl _) (.cells #[.int .i64 2] 3))
  have hrow : Row 1 memI (w.alloc (.cells #[.int .i64 2] 3)) (w.heap.size + 1) (some ⟨w.heap.size, 0, none⟩) [2] := lit_row memI_one w 3 [2]
  have hsz : (w.alloc (.cells #[.int .i64 2] 3)).heap.size = w.heap.size + 1 := by simp
  rw [← hsz] at hrow
  have HBY := Lib.hid (gbytes_any hrow 1 0 true ⟨#[]⟩ (by decide))
  rw [ex10_bytes] at HBY
  clear hrow hsz
  go_enter Try.func7, Try.ntmps7
  go_upto_region 2 with (go_at_call 12; refine HBY.out.mono ?_; rintro r w2 ⟨u2, rfl, hO2, hb2⟩; have HB2 := Lib.hid (HB1.out.trans (hb2.mono HB1.out.size)); (obtain ⟨A2, c2, rfl, hlc, hcm, hrd⟩ := own_slice hO2); rw [show exD10.length = 8 from rfl] at hlc ⊢; have HRD := Lib.hid hrd; clear hO2 hb2 hrd)
  obtain ⟨w5, hw5, hok, hb5, hX5⟩ := ex10_ok HRD.out hlc hcm
  rw [hw5]
  clear hw5
  have hsm := ex10_small A2 c2 w2.heap.size
  have HTK := Lib.hid (gtake_any (w := w5) (exO10 A2 c2 w2.heap.size) hok hsm.S (fun x hx => (hsm.s x hx).1) (by have := hsm.Y; omega))
  have hE : grpE (secsOf (exO10 A2 c2 w2.heap.size).L) (exO10 A2 c2 w2.heap.size).Y = 0 := by show grpE exSg exYg = 0; unfold grpE; rw [exg_tells]
  have hL : grpL (secsOf (exO10 A2 c2 w2.heap.size).L) (exO10 A2 c2 w2.heap.size).Y = [⟨3, true, [102], [2]⟩] := by show grpL exSg exYg = _; unfold grpL; rw [exg_tells]; rfl
  rw [hE, hL, show (exO10 A2 c2 w2.heap.size).val = .agg #[.int .i64 0, .int .i64 0, .slice (some ⟨w2.heap.size, 0, none⟩) 4 4, .slice (some ⟨w2.heap.size + 1, 0, none⟩) 1 1, .slice none 0 0] from rfl] at HTK
  have HB5 := Lib.hid (HB2.out.trans (hb5.mono HB2.out.size))
  have hlt5 := hX5.lt
  have KX := Lib.hid (fun W (hW : Below w5.heap.size w5 W) => five_cells (hX5.below hW hlt5))
  obtain ⟨x0, x1, x2, x3, x4⟩ := KX.out _ (Below.refl _ _)
  have HOK := Lib.hid hok
  clear hE hL hX5 hok hb5 hlc hcm
  go_upto_region 3 with (go_at_call 8; refine HTK.out.mono ?_; rintro r w6 ⟨u6, rfl, hG6, hb6⟩; have HG6 := Lib.hid hG6; have HB6 := Lib.hid hb6; clear hG6 hb6)
  obtain ⟨LG, Ag, cg, rfl, -, -, hLG, hGr⟩ := owng_grps HG6.out
  have hLl : LG.length = 1 := by have := congrArg List.length hLG; simpa using this
  obtain ⟨x, hx⟩ : ∃ x, LG[0]? = some x := ⟨LG[0]'(by omega), List.getElem?_eq_getElem _⟩
  have hxg : x.g = ⟨3, true, [102], [2]⟩ := by
    have h1 : (LG.map (·.g))[0]? = some x.g := by rw [List.getElem?_map, hx]; rfl
    rw [hLG] at h1
    injection h1 with h1
    exact h1.symm
  rw [hLl]
  clear x0 x1 x2 x3 x4
  obtain ⟨x0, x1, x2, x3, x4⟩ := KX.out _ HB6.out
  have hO6 : (exO10 A2 c2 w2.heap.size).Ok w6 w6.heap.size := (HOK.out.below HB6.out).more HB6.out.size
  have hrow := lit_row obj_cells w6 37 [exO10 A2 c2 w2.heap.size, exO10 A2 c2 w2.heap.size]
  rw [show (cellsF ObjV.cells [exO10 A2 c2 w2.heap.size, exO10 A2 c2 w2.heap.size]).toArray = #[.int .i64 0, .int .i64 0, .slice (some ⟨w2.heap.size, 0, none⟩) 4 4, .slice (some ⟨w2.heap.size + 1, 0, none⟩) 1 1, .slice none 0 0, .int .i64 0, .int .i64 0, .slice (some ⟨w2.heap.size, 0, none⟩) 4 4, .slice (some ⟨w2.heap.size + 1, 0, none⟩) 1 1, .slice none 0 0] from rfl] at hrow
  have hb7 : Below w6.heap.size w6 (w6.alloc (.cells #[.int .i64 0, .int .i64 0, .slice (some ⟨w2.heap.size, 0, none⟩) 4 4, .slice (some ⟨w2.heap.size + 1, 0, none⟩) 1 1, .slice none 0 0, .int .i64 0, .int .i64 0, .slice (some ⟨w2.heap.size, 0, none⟩) 4 4, .slice (some ⟨w2.heap.size + 1, 0, none⟩) 1 1, .slice none 0 0] 37)) := (Below.refl _ _).alloc (Nat.le_refl _) _
  have hz7 : (w6.alloc (.cells #[.int .i64 0, .int .i64 0, .slice (some ⟨w2.heap.size, 0, none⟩) 4 4, .slice (some ⟨w2.heap.size + 1, 0, none⟩) 1 1, .slice none 0 0, .int .i64 0, .int .i64 0, .slice (some ⟨w2.heap.size, 0, none⟩) 4 4, .slice (some ⟨w2.heap.size + 1, 0, none⟩) 1 1, .slice none 0 0] 37)).heap.size = w6.heap.size + 1 := by simp
  rw [← hz7] at hrow
  have hobjs : Objs (w6.alloc (.cells #[.int .i64 0, .int .i64 0, .slice (some ⟨w2.heap.size, 0, none⟩) 4 4, .slice (some ⟨w2.heap.size + 1, 0, none⟩) 1 1, .slice none 0 0, .int .i64 0, .int .i64 0, .slice (some ⟨w2.heap.size, 0, none⟩) 4 4, .slice (some ⟨w2.heap.size + 1, 0, none⟩) 1 1, .slice none 0 0] 37)) _ _ [exO10 A2 c2 w2.heap.size, exO10 A2 c2 w2.heap.size] := ⟨hrow, fun o ho => by
    simp only [List.mem_cons, List.not_mem_nil, or_false] at ho
    rcases ho with rfl | rfl <;> exact (hO6.below hb7).more hb7.size⟩
  have HLF := Lib.hid (gleft_any hobjs 2 (fun o ho => by
    simp only [List.mem_cons, List.not_mem_nil, or_false] at ho
    rcases ho with rfl | rfl <;> exact hsm))
  rw [show leftE ([exO10 A2 c2 w2.heap.size, exO10 A2 c2 w2.heap.size].map objO) = 0 from ex10_leftE,
    show leftL ([exO10 A2 c2 w2.heap.size, exO10 A2 c2 w2.heap.size].map objO) = [[false, false, false, false], [false, false, true, false]] from ex10_leftL] at HLF
  have HF := Lib.hid (fun (w8 : World) (u8 : Value) (Q : List BLay) (hb8 : Below (w6.alloc (.cells #[.int .i64 0, .int .i64 0, .slice (some ⟨w2.heap.size, 0, none⟩) 4 4, .slice (some ⟨w2.heap.size + 1, 0, none⟩) 1 1, .slice none 0 0, .int .i64 0, .int .i64 0, .slice (some ⟨w2.heap.size, 0, none⟩) 4 4, .slice (some ⟨w2.heap.size + 1, 0, none⟩) 1 1, .slice none 0 0] 37)).heap.size (w6.alloc (.cells #[.int .i64 0, .int .i64 0, .slice (some ⟨w2.heap.size, 0, none⟩) 4 4, .slice (some ⟨w2.heap.size + 1, 0, none⟩) 1 1, .slice none 0 0, .int .i64 0, .int .i64 0, .slice (some ⟨w2.heap.size, 0, none⟩) 4 4, .slice (some ⟨w2.heap.size + 1, 0, none⟩) 1 1, .slice none 0 0] 37)) w8) (hQ : BSt w8 (w6.alloc (.cells #[.int .i64 0, .int .i64 0, .slice (some ⟨w2.heap.size, 0, none⟩) 4 4, .slice (some ⟨w2.heap.size + 1, 0, none⟩) 1 1, .slice none 0 0, .int .i64 0, .int .i64 0, .slice (some ⟨w2.heap.size, 0, none⟩) 4 4, .slice (some ⟨w2.heap.size + 1, 0, none⟩) 1 1, .slice none 0 0] 37)).heap.size u8 Q) (hQm : Q.map (·.l) = [[false, false, false, false], [false, false, true, false]]) => (by
    have hg8 := hGr.below (hb7.trans (hb8.mono hb7.size))
    obtain ⟨bg, og, rfl, -, n0, n1, n2, -⟩ := hg8.at_ hx
    rw [hxg] at n0 n1 n2
    obtain ⟨A8, c8, rfl, hrows⟩ := hQ.rows
    have hQl : Q.length = 2 := by have := congrArg List.length hQm; simpa using this
    obtain ⟨q0, hq0⟩ : ∃ q, Q[0]? = some q := ⟨Q[0]'(by omega), List.getElem?_eq_getElem _⟩
    obtain ⟨q1, hq1⟩ : ∃ q, Q[1]? = some q := ⟨Q[1]'(by omega), List.getElem?_eq_getElem _⟩
    have e0 : q0.l = [false, false, false, false] := by
      have h1 : (Q.map (·.l))[0]? = some q0.l := by rw [List.getElem?_map, hq0]; rfl
      rw [hQm] at h1
      injection h1 with h1
      exact h1.symm
    have e1 : q1.l = [false, false, true, false] := by
      have h1 : (Q.map (·.l))[1]? = some q1.l := by rw [List.getElem?_map, hq1]; rfl
      rw [hQm] at h1
      injection h1 with h1
      exact h1.symm
    obtain ⟨b8, o8, rfl, -, r0⟩ := hrows.at_ hq0
    obtain ⟨b8', o8', e8, -, r1⟩ := hrows.at_ hq1
    cases e8
    have t0 := hrows.ok q0 (List.mem_of_getElem? hq0)
    have t1 := hrows.ok q1 (List.mem_of_getElem? hq1)
    rw [e0] at r0 t0
    rw [e1] at r1 t1
    obtain ⟨ba, oa, ea, -, v2⟩ := Truths.at_ t0 (i := 2) (m := false) rfl
    obtain ⟨bb, ob, eb, -, v1⟩ := Truths.at_ t1 (i := 1) (m := false) rfl
    obtain ⟨bb', ob', eb', -, v1'⟩ := Truths.at_ t1 (i := 2) (m := true) rfl
    rw [eb] at eb'
    cases eb'
    rw [ea] at r0
    rw [eb] at r1
    rw [hQl]
    simp only [Nat.zero_mul, Nat.add_zero] at n0 n1 n2 r0
    exact ⟨bg, og, b8, o8, ba, oa, bb, ob, q0.c, q1.c, c8, rfl, rfl, n0, n1, n2, r0, r1, v2, v1, v1'⟩ :
    ∃ bg og b8 o8 ba oa bb ob cc0 cc1 c8, Ag = some ⟨bg, og, none⟩ ∧ u8 = .slice (some ⟨b8, o8, none⟩) 2 c8 ∧ w8.cell? ⟨bg, og, none⟩ = some (.int .i64 3) ∧ w8.cell? ⟨bg, og + 1, none⟩ = some (.bool true) ∧ w8.cell? ⟨bg, og + 2, none⟩ = some (.string ⟨#[102]⟩) ∧
      w8.cell? ⟨b8, o8, none⟩ = some (.slice (some ⟨ba, oa, none⟩) 4 cc0) ∧ w8.cell? ⟨b8, o8 + 1, none⟩ = some (.slice (some ⟨bb, ob, none⟩) 4 cc1) ∧ w8.cell? ⟨ba, oa + 2, none⟩ = some (.bool false) ∧ w8.cell? ⟨bb, ob + 1, none⟩ = some (.bool false) ∧ w8.cell? ⟨bb, ob + 2, none⟩ = some (.bool true)))
  have HB7 := Lib.hid ((HB5.out.trans (HB6.out.mono HB5.out.size)).trans (hb7.mono (Nat.le_trans HB5.out.size HB6.out.size)))
  clear hrow hobjs hb7 hz7 hO6 hGr hLG hx hxg hLl hlt5 hsm
  go_wp2_with (go_at_call 14; refine HLF.out.mono ?_; rintro r w8 ⟨u8, Q, rfl, hQ, hQm, hb8⟩; (obtain ⟨bg, og, b8, o8, ba, oa, bb, ob, cc0, cc1, c8, rfl, rfl, n0, n1, n2, r0, r1, v2, v1, v1'⟩ := HF.out _ _ _ hb8 hQ hQm); have HB8 := Lib.hid (HB7.out.trans (hb8.mono HB7.out.size)); clear hb8 hQ hQm)
  go_ret
  exact ⟨rfl, HB8.out⟩

end Go.Proofs.Ytbpemehhbeejcaa
