/-
  The document's Same of tables, Bulk.
-/
import Derived.Test.YtpmndmbhkfbljaaAbG
import Derived.Test.YtpmndmbhkfbljaaCsA
import Derived.Test.YtpmndmbhkfbljaaParts
namespace Go.Proofs.Ytpmndmbhkfbljaa
open Go Go.RowKit Go.Maps

theorem right_none (w : World) : Calls Try.prog 17 #[.slice none 0 0] w fun r w' => r = .returned (.bool true) ∧ Below w.heap.size w w' :=
  (rightA_any (w := w) (a := none) (L := []) ⟨fun h => absurd h (by decide), fun y hy => by cases hy⟩ 0 (by decide) (fun y hy => by cases hy)).mono fun r w' h => h
theorem abbrevs_nil (w : World) : Calls Try.prog 23 #[.pointer none] w fun r w' => r = .returned (.slice none 0 0) ∧ Below w.heap.size w w' := by
  have hU := u_nil w
  go_enter Try.func23, Try.ntmps23
  go_wp2_with fail
  go_loopw [3] (fun u wr => u = .slice none 0 0 ∧ wr = w) (fun _ _ => 0)
  case atStart => exact ⟨rfl, rfl⟩
  case round =>
    obtain ⟨rfl, rfl⟩ := hrel
    go_wp2_with (go_at_call 40; refine hU.mono ?_; rintro r w1 ⟨rfl, hg1⟩; have HB1 := Lib.hid (below_of_only hg1 (Nat.le_refl _) (by simp)); clear hg1)
    (try rw [Exit.noGoto_ret])
    go_ret
    exact ⟨rfl, HB1.out⟩
theorem takeA_nil (w : World) : Calls Try.prog 7 #[.pointer none] w fun r w' => r = .returned (.tuple #[.slice none 0 0, .int .i64 1]) ∧ Below w.heap.size w w' := by
  have hA := abbrevs_nil w
  have hE := fun W => err_nob (p := none) (w := W) (.inl rfl)
  go_enter Try.func7, Try.ntmps7
  go_wp2_with (first
    | (go_at_call 23; refine hA.mono ?_; rintro r w1 ⟨rfl, hb1⟩; have HB1 := Lib.hid hb1; clear hb1)
    | (go_at_call 17; refine (right_none _).mono ?_; rintro r w2 ⟨rfl, hb2⟩; have HB2 := Lib.hid (HB1.out.trans (hb2.mono HB1.out.size)); clear hb2)
    | (go_at_call 10; refine (hE _).mono ?_; rintro r w3 ⟨rfl, rfl⟩))
  go_ret2
  exact ⟨rfl, HB2.out⟩

/-! ### At -/
def atAE (l : List UInt8) (off : Nat) : Int := if off < l.length then takeAE (l.drop off) (0, 0) else 10
def atAL (l : List UInt8) (off : Nat) : List Abb := if off < l.length then takeAL (l.drop off) (0, 0) else []
set_option maxRecDepth 10000 in
set_option maxHeartbeats 1600000 in
theorem atA_any {w : World} {B : Nat} {A : Option Addr} {l : List UInt8} (h : Rd w B A l) (hB : B ≤ w.heap.size) (c : Nat) (hlc : l.length ≤ c) (hlen : l.length ≤ 140737488355328) (off : Nat) (hoff : off < two64) :
    Calls Try.prog 12 #[.slice A l.length c, .int .u64 (off : Int)] w fun r w' => ∃ u L, r = .returned (.tuple #[u, .int .i64 (atAE l off)]) ∧ OwnA w' w.heap.size u L ∧ L.map ALay.x = atAL l off ∧ (∀ y ∈ L, y.x.In) ∧ L.length ≤ 300 ∧ Below w.heap.size w w' := by
  have hW := fun W => within_any off 1 l.length W hoff (by decide)
  have hl64 : l.length < two64 := by unfold two64; omega
  have s1 : IntKind.u64.wrap (l.length : Int) = (l.length : Int) := by rw [IntWalk.u64_in _ (by omega)]
  by_cases hlt : off < l.length
  · have hwi : withinOf off 1 l.length = true := by rw [within_iff _ _ _ hl64]; simp; omega
    rw [hwi] at hW
    have hae : atAE l off = takeAE (l.drop off) (0, 0) := if_pos hlt
    have hal : atAL l off = takeAL (l.drop off) (0, 0) := if_pos hlt
    obtain ⟨r, hr⟩ : ∃ r, r = l.drop off := ⟨_, rfl⟩
    have hrl : r.length = l.length - off := by rw [hr]; simp
    rw [hae, hal, ← hr]
    have b1 : (0 : Int) ≤ (off : Int) := by omega
    have b2 : (off : Int) ≤ (l.length : Int) := by omega
    obtain ⟨A2, c2, hsl, hra⟩ : ∃ A2 c2, (∀ W : World, (Instr.slice 22 (.slice A l.length c) (some (.int .u64 (off : Int))) none none).run Try.prog W = .ok (.slice A2 r.length c2) W) ∧ Hid (Rd w B A2 r ∧ r.length ≤ c2) := by
      refine ⟨if c = off then A else Option.map (fun x => x.add off) A, c - off, fun W => ?_, ?_⟩
      · rw [run_slice_l W _ _ _ _ Try.underlying22 _ _ b1 b2, size_u8, hrl]
        simp only [Result.andThen, sliced, Nat.mul_one, Int.toNat_natCast]
      · rw [if_neg (by omega)]
        have := rd_cut h off r.length
        rw [← hr, List.take_length] at this
        exact Lib.hid ⟨this, by omega⟩
    have hN := new_any (w := w) (B := B) c2 hra.out.1 hB (by omega)
    have hT := Lib.hid (fun W g v (hC : Cur W g v r 0 0) => takeA_st (s := (0, 0)) hC (by omega))
    clear h hB hlc hlen hoff hl64 hlt hwi hae hal hrl hr hra
    generalize takeAE r (0, 0) = E at *
    generalize takeAL r (0, 0) = R at *
    generalize takeAP r (0, 0) = P at *
    generalize r.length = k at *
    generalize l.length = n at *
    go_enter Try.func12, Try.ntmps12
    go_wp2_with (first
      | (go_at_call 30; refine (hW _).mono ?_; rintro r' w' ⟨rfl, rfl⟩)
      | (go_at_call 6; refine hN.mono ?_; rintro r' w1 ⟨g, v, rfl, hM, hb1⟩; have hT1 := hT.out _ _ _ hM.1; have HM := Lib.hid hM.2.1; have HB1 := Lib.hid hb1; clear hM hb1)
      | (go_at_call 7; refine hT1.mono ?_; rintro r' w2 ⟨u, L, rfl, hO, hm, hi, h3, -, hG2⟩; have HO := Lib.hid hO; have HMM := Lib.hid hm; have HI := Lib.hid hi; have H3 := Lib.hid h3; have HB := Lib.hid (HB1.out.trans (below_of_only (B := w.heap.size) hG2 HB1.out.size (fun x hx => by cases hx; exact HM.out))); clear hO hm hi h3 hG2))
    go_ret2
    exact ⟨_, L, rfl, ⟨own_lower HO.out.row HB1.out.size, fun y hy => own_lower (HO.out.spcs y hy) HB1.out.size⟩, HMM.out, HI.out, H3.out, HB.out⟩
  · have hwi : withinOf off 1 l.length = false := by rw [within_iff _ _ _ hl64]; simp; omega
    rw [hwi] at hW
    have hae : atAE l off = 10 := if_neg hlt
    have hal : atAL l off = [] := if_neg hlt
    rw [hae, hal]
    clear h hB hlc hlen hoff hl64 hlt hwi hae hal
    generalize l.length = n at *
    go_enter Try.func12, Try.ntmps12
    go_wp2_with (go_at_call 30; refine (hW _).mono ?_; rintro r' w' ⟨rfl, rfl⟩)
    go_ret2
    exact ⟨_, [], rfl, OwnA.nil _ _, rfl, (fun y hy => by cases hy), Nat.zero_le _, Below.refl _ _⟩

end Go.Proofs.Ytpmndmbhkfbljaa

namespace Go.Proofs.Ytpmndmbhkfbljaa
open Go Go.RowKit Go.Maps

theorem eqP_iff (x y : Spc) : eqP x y = true ↔ x = y := by
  unfold eqP
  simp only [Bool.and_eq_true, decide_eq_true_eq]
  constructor
  · rintro ⟨h1, h2, h3⟩
    cases x; cases y
    simp only at h1 h2 h3
    subst h1 h2 h3
    rfl
  · rintro rfl
    exact ⟨rfl, rfl, rfl⟩
def oneB (x y : Abb) : Bool := decide (x.code = y.code) && (decide (x.tag = y.tag) && (decide (x.kids = y.kids) && alikeL eqP x.l y.l))
theorem alike_iff {α : Type} {p : α → α → Bool} (hp : ∀ x y, p x y = true ↔ x = y) : ∀ (L M : List α), alikeL p L M = true ↔ L = M
  | [], [] => by simp [alikeL]
  | [], y :: M => by simp [alikeL]
  | x :: L, [] => by simp [alikeL]
  | x :: L, y :: M => by
    have ih := alike_iff hp L M
    unfold alikeL at ih ⊢
    simp only [List.length_cons, Nat.add_right_cancel_iff, List.zip_cons_cons, List.all_cons, Bool.and_eq_true, decide_eq_true_eq, List.cons.injEq, hp] at ih ⊢
    constructor
    · rintro ⟨h1, h2, h3⟩; exact ⟨h2, ih.1 ⟨h1, h3⟩⟩
    · rintro ⟨h1, h2⟩; obtain ⟨h3, h4⟩ := ih.2 h2; exact ⟨h3, h1, h4⟩
theorem oneB_iff (x y : Abb) : oneB x y = true ↔ x = y := by
  unfold oneB
  simp only [Bool.and_eq_true, decide_eq_true_eq, alike_iff eqP_iff]
  constructor
  · rintro ⟨h1, h2, h3, h4⟩
    cases x; cases y
    simp only at h1 h2 h3 h4
    subst h1 h2 h3 h4
    rfl
  · rintro rfl
    exact ⟨rfl, rfl, rfl, rfl⟩
def oneL (x y : ALay) : Bool := oneB x.x y.x
theorem alikeA_iff : ∀ (L M : List ALay), alikeL oneL L M = true ↔ L.map ALay.x = M.map ALay.x
  | [], [] => by simp [alikeL]
  | [], y :: M => by simp [alikeL]
  | x :: L, [] => by simp [alikeL]
  | x :: L, y :: M => by
    have ih := alikeA_iff L M
    unfold alikeL at ih ⊢
    simp only [List.length_cons, Nat.add_right_cancel_iff, List.zip_cons_cons, List.all_cons, Bool.and_eq_true, decide_eq_true_eq, List.map_cons, List.cons.injEq, oneL, oneB_iff] at ih ⊢
    constructor
    · rintro ⟨h1, h2, h3⟩; exact ⟨h2, ih.1 ⟨h1, h3⟩⟩
    · rintro ⟨h1, h2⟩; obtain ⟨h3, h4⟩ := ih.2 h2; exact ⟨h3, h1, h4⟩

theorem eqFields_spc (x y : Spc) (W : World) (d : Nat) : (Op.eqFields (d + 1) x.cells.toArray y.cells.toArray (Try.prog.fieldsOf 56).toList).run Try.prog W = .ok (eqP x y) W := by
  have h0 := run_equalIn_int (P := Try.prog) W d 3 .i64 .i64 x.at_ y.at_ Try.underlying3
  have h1 := run_equalIn_int (P := Try.prog) W d 3 .i64 .i64 x.form y.form Try.underlying3
  have h2 := run_equalIn_int (P := Try.prog) W d 2 .i64 .i64 x.imp y.imp Try.underlying2
  rw [beq_int] at h0 h1 h2
  have hf : ∀ (i : Nat) (f : Field), (Try.prog.fieldsOf 56).toList[i]? = some f → f.name ≠ "_" ∧ f.offset = i ∧ [3, 3, 2][i]? = some f.type := by
    simp only [Program.fieldsOf, Try.underlying56]
    intro i f hf
    have hi := (List.getElem?_eq_some_iff.1 hf).1
    simp only [List.length_cons, List.length_nil] at hi
    match i, hi with
    | 0, _ | 1, _ | 2, _ =>
      injection hf with hf
      subst hf
      exact ⟨by decide, rfl, rfl⟩
  have hl : (Try.prog.fieldsOf 56).toList.length = 3 := by simp only [Program.fieldsOf, Try.underlying56]; rfl
  generalize (Try.prog.fieldsOf 56).toList = fs at *
  obtain ⟨f0, f1, f2, rfl⟩ : ∃ f0 f1 f2, fs = [f0, f1, f2] := by
    match fs, hl with
    | [f0, f1, f2], _ => exact ⟨f0, f1, f2, rfl⟩
  obtain ⟨n0, o0, t0⟩ := hf 0 _ rfl
  obtain ⟨n1, o1, t1⟩ := hf 1 _ rfl
  obtain ⟨n2, o2, t2⟩ := hf 2 _ rfl
  have t0 : f0.type = 3 := (Option.some.inj (show some 3 = some f0.type from t0)).symm
  have t1 : f1.type = 3 := (Option.some.inj (show some 3 = some f1.type from t1)).symm
  have t2 : f2.type = 2 := (Option.some.inj (show some 2 = some f2.type from t2)).symm
  have key := eq_fields (xs := x.cells.toArray) (ys := y.cells.toArray) n0 (by rw [t0, o0]; exact part_int _ 0 _ rfl W) (by rw [t0, o0]; exact part_int _ 0 _ rfl W) (by rw [t0]; exact h0)
    (eq_fields n1 (by rw [t1, o1]; exact part_int _ 1 _ rfl W) (by rw [t1, o1]; exact part_int _ 1 _ rfl W) (by rw [t1]; exact h1)
    (eq_fields n2 (by rw [t2, o2]; exact part_i64 _ 2 _ rfl W) (by rw [t2, o2]; exact part_i64 _ 2 _ rfl W) (by rw [t2]; exact h2) (fs := []) (r := true) rfl))
  rw [key]
  unfold eqP
  simp only [Bool.and_true]
theorem neq_spc (x y : Spc) (W : World) : (binOp .neq 56 (.agg x.cells.toArray) (.agg y.cells.toArray)).run Try.prog W = .ok (.bool (!(eqP x y))) W := by
  rw [run_neq_struct, run_equalIn_agg W 9999 _ _ _ (by kernel_rfl) (by kernel_rfl), eqFields_spc x y W 9998]
  rfl

set_option maxRecDepth 10000 in
set_option maxHeartbeats 3200000 in
theorem one_any {w : World} (y z : ALay) (hy : Spcs w w.heap.size y.a y.x.l) (hz : Spcs w w.heap.size z.a z.x.l) (hl : y.x.l.length ≤ 9223372036854775807) :
    Calls Try.prog 21 #[.agg #[.int .u64 (y.x.code : Int), .int .i64 y.x.tag, .bool y.x.kids, .slice y.a y.x.l.length y.c], .agg #[.int .u64 (z.x.code : Int), .int .i64 z.x.tag, .bool z.x.kids, .slice z.a z.x.l.length z.c]] w fun r w' => r = .returned (.bool (oneL y z)) ∧ Below w.heap.size w w' := by
  have HS := Lib.hid (show oneL y z = (decide (y.x.code = z.x.code) && (decide (y.x.tag = z.x.tag) && (decide (y.x.kids = z.x.kids) && (decide (y.x.l.length = z.x.l.length) && (y.x.l.zip z.x.l).all (fun p => eqP p.1 p.2))))) from rfl)
  have HY := Lib.hid hy
  have HZ := Lib.hid hz
  generalize oneL y z = sa at *
  generalize y.x.l = yl at *
  generalize z.x.l = zl at *
  obtain ⟨N, hN⟩ : ∃ N, yl.length = N := ⟨_, rfl⟩
  obtain ⟨M, hM⟩ : ∃ M, zl.length = M := ⟨_, rfl⟩
  have HN := Lib.hid hN
  have HM := Lib.hid hM
  rw [hN] at hl HS ⊢
  rw [hM] at HS ⊢
  clear hy hz hN hM
  generalize y.x.code = cd at *
  generalize y.x.tag = tg at *
  generalize y.x.kids = kd at *
  generalize y.a = ya at *
  generalize y.c = yc at *
  generalize z.x.code = cd' at *
  generalize z.x.tag = tg' at *
  generalize z.x.kids = kd' at *
  generalize z.a = za at *
  generalize z.c = zc at *
  generalize hw0 : w.alloc (.cells #[.int .u64 (cd : Int), .int .i64 tg, .bool kd, .slice ya N yc] 50) = w0 at *
  have hb0 : Below w.heap.size w w0 := hw0 ▸ (Below.refl _ _).alloc (Nat.le_refl _) _
  have hX0 := Box.new w 50 #[.int .u64 (cd : Int), .int .i64 tg, .bool kd, .slice ya N yc]
  rw [hw0] at hX0
  generalize hw1 : w0.alloc (.cells #[.int .u64 (cd' : Int), .int .i64 tg', .bool kd', .slice za M zc] 50) = w1 at *
  have hb1 : Below w0.heap.size w0 w1 := hw1 ▸ (Below.refl _ _).alloc (Nat.le_refl _) _
  have hX1 := Box.new w0 50 #[.int .u64 (cd' : Int), .int .i64 tg', .bool kd', .slice za M zc]
  rw [hw1] at hX1
  have HB1 := Lib.hid (hb0.trans (hb1.mono hb0.size))
  obtain ⟨c0, c1, c2, c3⟩ := four_cells (hX0.below hb1 hX0.lt)
  obtain ⟨e0, e1, e2, e3⟩ := four_cells hX1
  have n0 : ((cd : Int) != (cd' : Int)) = !decide (cd = cd') := by rw [Bool.eq_iff_iff]; simp; omega
  have n2 : (kd == kd') = decide (kd = kd') := by cases kd <;> cases kd' <;> rfl
  have n1 : (tg != tg') = !decide (tg = tg') := by rw [Bool.eq_iff_iff]; simp
  have n3 : ((N : Int) != (M : Int)) = !decide (N = M) := by rw [Bool.eq_iff_iff]; simp; omega
  have h0 : w0.heap.size ≠ w.heap.size := by rw [← hw0]; simp
  have KX := Lib.hid (fun W (hW : Below w1.heap.size w1 W) => And.intro ((hX0.below hb1 hX0.lt).below hW (Nat.lt_of_lt_of_le hX0.lt hb1.size)) (hX1.below hW hX1.lt))
  have HNM := Lib.hid (show decide (N = M) = true → N = M from fun h => of_decide_eq_true h)
  generalize decide (cd = cd') = b0 at *
  generalize decide (tg = tg') = b1 at *
  generalize decide (kd = kd') = b2 at *
  generalize decide (N = M) = b3 at *
  clear hb0 hb1 hX0 hX1
  go_enter Try.func21, Try.ntmps21
  go_upto_region 1 with fail
  try rw [hw0, hw1]
  clear hw0 hw1
  have hways : ((b0 && (b1 && (b2 && b3))) = false) ∨ (b0 = true ∧ b1 = true ∧ b2 = true ∧ b3 = true) := by
    cases b0 <;> cases b1 <;> cases b2 <;> cases b3 <;> simp
  rcases hways with hno | ⟨rfl, rfl, rfl, rfl⟩
  · have HF := Lib.hid (show sa = false by
      rw [HS.out]
      revert hno
      cases b0 <;> cases b1 <;> cases b2 <;> cases b3 <;> simp)
    have h5 : b0 = false ∨ (b0 = true ∧ b1 = false) ∨ (b0 = true ∧ b1 = true ∧ b2 = false) ∨ (b0 = true ∧ b1 = true ∧ b2 = true ∧ b3 = false) := by
      revert hno
      cases b0 <;> cases b1 <;> cases b2 <;> cases b3 <;> simp
    clear hno HS HNM KX
    rcases h5 with rfl | ⟨rfl, rfl⟩ | ⟨rfl, rfl, rfl⟩ | ⟨rfl, rfl, rfl, rfl⟩
    all_goals
      simp only [Bool.not_true, Bool.not_false] at n0 n1 n3
      go_wp2_with fail
      go_ret
      exact ⟨by rw [HF.out]; rfl, HB1.out⟩
  · simp only [Bool.not_true] at n0 n1 n3
    obtain rfl := HNM.out rfl
    simp only [Bool.true_and] at HS
    go_upto_region 3 with fail
    clear c0 c1 c2 c3 e0 e1 e2 e3 n0 n1 n2 n3
    go_wp2_with fail
    go_loopw [5] (fun i wr => ∃ k : Nat, k ≤ N ∧ i = .int .i64 k ∧ Hid (Below w1.heap.size w1 wr) ∧ Hid (((yl.zip zl).take k).all (fun p => eqP p.1 p.2) = true)) (fun i _ => N - (intOf i).toNat)
    case atStart => exact ⟨0, Nat.zero_le _, rfl, Lib.hid (Below.refl _ _), Lib.hid rfl⟩
    case round =>
      obtain ⟨k, hk, rfl, HBl, HA⟩ := hrel
      obtain ⟨x0, x1⟩ := KX.out _ HBl.out
      obtain ⟨c0, c1, c2, c3⟩ := four_cells x0
      obtain ⟨e0, e1, e2, e3⟩ := four_cells x1
      have HBW := Lib.hid (HB1.out.trans (HBl.out.mono HB1.out.size))
      clear x0 x1
      by_cases hlt : k < N
      · have HLT := Lib.hid hlt
        obtain ⟨x, hx⟩ : ∃ x, yl[k]? = some x := ⟨_, List.getElem?_eq_getElem (by rw [HN.out]; exact hlt)⟩
        obtain ⟨y, hy⟩ : ∃ y, zl[k]? = some y := ⟨_, List.getElem?_eq_getElem (by rw [HM.out]; exact hlt)⟩
        obtain ⟨b, o, rfl, hb, p0, p1, p2⟩ := spc_at (Row.below HY.out HBW.out) hx
        obtain ⟨b', o', rfl, hb', q0, q1, q2⟩ := spc_at (Row.below HZ.out HBW.out) hy
        have hz := zip_get hx hy
        have HT := Lib.hid (fun (e : eqP x y = true) => all_take (fun p : Spc × Spc => eqP p.1 p.2) _ k _ hz HA.out e)
        have HF := Lib.hid (fun (e : eqP x y = false) => all_not (fun p : Spc × Spc => eqP p.1 p.2) _ k _ hz e)
        have hq := fun W => neq_spc x y W
        rw [show Value.agg x.cells.toArray = .agg #[.int .i64 x.at_, .int .i64 x.form, .int .i64 x.imp] from rfl, show Value.agg y.cells.toArray = .agg #[.int .i64 y.at_, .int .i64 y.form, .int .i64 y.imp] from rfl] at hq
        clear hx hy hz hb hb'
        generalize eqP x y = ss at *
        generalize x.at_ = x1 at *
        generalize x.form = x2 at *
        generalize x.imp = x3 at *
        generalize y.at_ = y1 at *
        generalize y.form = y2 at *
        generalize y.imp = y3 at *
        cases ss with
        | false =>
          have HZZ := Lib.hid (HF.out rfl)
          go_upto_region 6 with fail
          go_quiet (fail)
          go_wp2_with fail
          go_ret
          exact ⟨by rw [HS.out, HZZ.out]; rfl, below_drewN HBW.out nq⟩
        | true =>
          have HZZ := Lib.hid (HT.out rfl)
          go_upto_region 6 with fail
          go_quiet (fail)
          have HB9 := Lib.hid (below_drewN HBl.out nq)
          go_wp2_with fail
          go_roundw
          case rel => exact ⟨k + 1, HLT.out, by go_num, HB9, HZZ⟩
          case measure => have := HLT.out; simp [intOf]; omega
      · have HZZ := Lib.hid (show sa = true by
          rw [HS.out]
          have := HA.out
          rwa [List.take_of_length_le (by rw [List.length_zip, HN.out, HM.out]; omega)] at this)
        go_wp2_with fail
        go_ret
        exact ⟨by rw [HZZ.out]; rfl, HBW.out⟩

end Go.Proofs.Ytpmndmbhkfbljaa

namespace Go.Proofs.Ytpmndmbhkfbljaa
open Go Go.RowKit Go.Maps

set_option maxRecDepth 10000 in
set_option maxHeartbeats 3200000 in
theorem sameA_any {w : World} {a a' : Option Addr} {L M : List ALay} (h : Abbs w w.heap.size a L) (h' : Abbs w w.heap.size a' M) (c c' : Nat) (hl : L.length ≤ 100000) (hll : ∀ y ∈ L, y.x.l.length ≤ 100000) (hll' : ∀ y ∈ M, y.x.l.length ≤ 100000) :
    Calls Try.prog 9 #[.slice a L.length c, .slice a' M.length c'] w fun r w' => r = .returned (.bool (alikeL oneL L M)) ∧ Below w.heap.size w w' := by
  by_cases hlen : L.length = M.length
  · have HS := Lib.hid (show alikeL oneL L M = (L.zip M).all (fun p => oneL p.1 p.2) by unfold alikeL; rw [decide_eq_true hlen, Bool.true_and])
    have HH := Lib.hid h
    have HM := Lib.hid h'
    have HLL := Lib.hid hll
    have HLM := Lib.hid hll'
    rw [← hlen]
    generalize hN : L.length = N at *
    have HN := Lib.hid hN
    have HN' := Lib.hid hlen
    generalize alikeL oneL L M = sa at *
    have q : ((N : Int) != (N : Int)) = false := by simp
    clear h h' hN hlen hll hll'
    go_enter Try.func9, Try.ntmps9
    go_wp2_with fail
    clear q
    go_loopw [5] (fun i wr => ∃ k : Nat, k ≤ N ∧ i = .int .i64 k ∧ Hid (Below w.heap.size w wr) ∧ Hid (((L.zip M).take k).all (fun p => oneL p.1 p.2) = true)) (fun i _ => N - (intOf i).toNat)
    case atStart => exact ⟨0, Nat.zero_le _, rfl, Lib.hid (Below.refl _ _), Lib.hid rfl⟩
    case round =>
      obtain ⟨k, hk, rfl, HBl, HA⟩ := hrel
      by_cases hlt : k < N
      · have HLT := Lib.hid hlt
        obtain ⟨x, hx⟩ : ∃ x, L[k]? = some x := ⟨L[k]'(by rw [HN.out]; exact hlt), List.getElem?_eq_getElem _⟩
        obtain ⟨y, hy⟩ : ∃ y, M[k]? = some y := ⟨M[k]'(by rw [← HN'.out]; exact hlt), List.getElem?_eq_getElem _⟩
        have hxm := List.mem_of_getElem? hx
        have hym := List.mem_of_getElem? hy
        obtain ⟨b, o, rfl, hb, p0, p1, p2, p3⟩ := abb_at (HH.out.below HBl.out) hx
        obtain ⟨b', o', rfl, hb', q0, q1, q2, q3⟩ := abb_at (HM.out.below HBl.out) hy
        have hz := zip_get hx hy
        have HT := Lib.hid (fun (e : oneL x y = true) => all_take (fun p : ALay × ALay => oneL p.1 p.2) _ k _ hz HA.out e)
        have HF := Lib.hid (fun (e : oneL x y = false) => all_not (fun p : ALay × ALay => oneL p.1 p.2) _ k _ hz e)
        have HO := Lib.hid (fun X (hX : Below wr.heap.size wr X) => (by
          have h1 := HBl.out.trans (hX.mono HBl.out.size)
          exact one_any x y (Row.more ((HH.out.below h1).spcs x hxm) h1.size) (Row.more ((HM.out.below h1).spcs y hym) h1.size) (by have := HLL.out x hxm; omega) :
          Calls Try.prog 21 #[.agg #[.int .u64 (x.x.code : Int), .int .i64 x.x.tag, .bool x.x.kids, .slice x.a x.x.l.length x.c], .agg #[.int .u64 (y.x.code : Int), .int .i64 y.x.tag, .bool y.x.kids, .slice y.a y.x.l.length y.c]] X fun r w' => r = .returned (.bool (oneL x y)) ∧ Below X.heap.size X w'))
        have hbw := HBl.out.size
        have hxl := HLL.out x hxm
        have hyl := HLM.out y hym
        clear hx hy hz hxm hym
        generalize oneL x y = ss at *
        generalize x.x.l.length = xn at *
        generalize x.x.code = x1 at *
        generalize x.x.tag = x2 at *
        generalize x.x.kids = x3 at *
        generalize x.a = x4 at *
        generalize x.c = x5 at *
        generalize y.x.l.length = yn at *
        generalize y.x.code = y1 at *
        generalize y.x.tag = y2 at *
        generalize y.x.kids = y3 at *
        generalize y.a = y4 at *
        generalize y.c = y5 at *
        have KS := Lib.hid (fun X (hX : Below wr.heap.size wr X) => (⟨hX, by rw [hX.cell (p := ⟨b, _, none⟩) (Nat.lt_of_lt_of_le hb hbw)]; exact p0, by rw [hX.cell (p := ⟨b, _, none⟩) (Nat.lt_of_lt_of_le hb hbw)]; exact p1, by rw [hX.cell (p := ⟨b, _, none⟩) (Nat.lt_of_lt_of_le hb hbw)]; exact p2, by rw [hX.cell (p := ⟨b, _, none⟩) (Nat.lt_of_lt_of_le hb hbw)]; exact p3,
            by rw [hX.cell (p := ⟨b', _, none⟩) (Nat.lt_of_lt_of_le hb' hbw)]; exact q0, by rw [hX.cell (p := ⟨b', _, none⟩) (Nat.lt_of_lt_of_le hb' hbw)]; exact q1, by rw [hX.cell (p := ⟨b', _, none⟩) (Nat.lt_of_lt_of_le hb' hbw)]; exact q2, by rw [hX.cell (p := ⟨b', _, none⟩) (Nat.lt_of_lt_of_le hb' hbw)]; exact q3⟩ :
          Below wr.heap.size wr X ∧ X.cell? ⟨b, o + k * 4, none⟩ = some (.int .u64 (x1 : Int)) ∧ X.cell? ⟨b, o + k * 4 + 1, none⟩ = some (.int .i64 x2) ∧ X.cell? ⟨b, o + k * 4 + 2, none⟩ = some (.bool x3) ∧ X.cell? ⟨b, o + k * 4 + 3, none⟩ = some (.slice x4 xn x5) ∧
          X.cell? ⟨b', o' + k * 4, none⟩ = some (.int .u64 (y1 : Int)) ∧ X.cell? ⟨b', o' + k * 4 + 1, none⟩ = some (.int .i64 y2) ∧ X.cell? ⟨b', o' + k * 4 + 2, none⟩ = some (.bool y3) ∧ X.cell? ⟨b', o' + k * 4 + 3, none⟩ = some (.slice y4 yn y5)))
        clear p0 p1 p2 p3 q0 q1 q2 q3
        have hrf := Below.refl wr.heap.size wr
        cases ss with
        | false =>
          have HZZ := Lib.hid (HF.out rfl)
          go_upto_region 6 with fail
          go_region_held_law (fun X => Below wr.heap.size wr X ∧ X.cell? ⟨b, o + k * 4, none⟩ = some (.int .u64 (x1 : Int)) ∧ X.cell? ⟨b, o + k * 4 + 1, none⟩ = some (.int .i64 x2) ∧ X.cell? ⟨b, o + k * 4 + 2, none⟩ = some (.bool x3) ∧ X.cell? ⟨b, o + k * 4 + 3, none⟩ = some (.slice x4 xn x5) ∧
          X.cell? ⟨b', o' + k * 4, none⟩ = some (.int .u64 (y1 : Int)) ∧ X.cell? ⟨b', o' + k * 4 + 1, none⟩ = some (.int .i64 y2) ∧ X.cell? ⟨b', o' + k * 4 + 2, none⟩ = some (.bool y3) ∧ X.cell? ⟨b', o' + k * 4 + 3, none⟩ = some (.slice y4 yn y5))
            ((refine KS.out _ ?_; repeat' (first | (with_reducible assumption) | (with_reducible refine below_drewN ?_ _) | (with_reducible refine Below.drew ?_))))
            ((go_at_call 21; refine (HO.out _ (by repeat' (first | (with_reducible assumption) | (with_reducible refine below_drewN ?_ _) | (with_reducible refine Below.drew ?_)))).mono ?_; rintro r w5 ⟨rfl, hb5⟩; have hx5 : Below wr.heap.size wr w5 := (show Below wr.heap.size wr _ from (by repeat' (first | (with_reducible assumption) | (with_reducible refine below_drewN ?_ _) | (with_reducible refine Below.drew ?_)))).trans hb5; have HX5 := Lib.hid hx5; clear hb5))
          all_goals
            go_wp2_with fail
            go_ret
            exact ⟨by rw [HS.out, HZZ.out]; rfl, HBl.out.trans (HX5.out.mono HBl.out.size)⟩
        | true =>
          have HZZ := Lib.hid (HT.out rfl)
          go_upto_region 6 with fail
          go_region_held_law (fun X => Below wr.heap.size wr X ∧ X.cell? ⟨b, o + k * 4, none⟩ = some (.int .u64 (x1 : Int)) ∧ X.cell? ⟨b, o + k * 4 + 1, none⟩ = some (.int .i64 x2) ∧ X.cell? ⟨b, o + k * 4 + 2, none⟩ = some (.bool x3) ∧ X.cell? ⟨b, o + k * 4 + 3, none⟩ = some (.slice x4 xn x5) ∧
          X.cell? ⟨b', o' + k * 4, none⟩ = some (.int .u64 (y1 : Int)) ∧ X.cell? ⟨b', o' + k * 4 + 1, none⟩ = some (.int .i64 y2) ∧ X.cell? ⟨b', o' + k * 4 + 2, none⟩ = some (.bool y3) ∧ X.cell? ⟨b', o' + k * 4 + 3, none⟩ = some (.slice y4 yn y5))
            ((refine KS.out _ ?_; repeat' (first | (with_reducible assumption) | (with_reducible refine below_drewN ?_ _) | (with_reducible refine Below.drew ?_))))
            ((go_at_call 21; refine (HO.out _ (by repeat' (first | (with_reducible assumption) | (with_reducible refine below_drewN ?_ _) | (with_reducible refine Below.drew ?_)))).mono ?_; rintro r w5 ⟨rfl, hb5⟩; have hx5 : Below wr.heap.size wr w5 := (show Below wr.heap.size wr _ from (by repeat' (first | (with_reducible assumption) | (with_reducible refine below_drewN ?_ _) | (with_reducible refine Below.drew ?_)))).trans hb5; have HX5 := Lib.hid hx5; clear hb5))
          all_goals
            have HB9 := Lib.hid (HBl.out.trans (HX5.out.mono HBl.out.size))
            go_wp2_with fail
            go_roundw
            case rel => exact ⟨k + 1, HLT.out, by go_num, HB9, HZZ⟩
            case measure => have := HLT.out; simp [intOf]; omega
      · have HZZ := Lib.hid (show sa = true by
          rw [HS.out]
          have := HA.out
          rwa [List.take_of_length_le (by rw [List.length_zip, ← HN'.out, HN.out]; omega)] at this)
        go_wp2_with fail
        go_ret
        exact ⟨by rw [HZZ.out]; rfl, HBl.out⟩
  · have HF := Lib.hid (show alikeL oneL L M = false by unfold alikeL; rw [decide_eq_false hlen, Bool.false_and])
    have q : ((L.length : Int) != (M.length : Int)) = true := by simp; omega
    clear h h'
    generalize alikeL oneL L M = sa at *
    generalize L.length = n at *
    generalize M.length = m at *
    go_enter Try.func9, Try.ntmps9
    go_wp2_with fail
    go_ret
    exact ⟨by rw [HF.out]; rfl, Below.refl _ _⟩

end Go.Proofs.Ytpmndmbhkfbljaa
