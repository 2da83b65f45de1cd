/-
  The document's fits: whether an entry is one of an abbreviation.
-/
import Derived.Test.YtejicboemkpeoaaGreatDoorRwM
import Derived.Test.YtejicboemkpeoaaGreatDoorCurN
import Derived.Test.YtejicboemkpeoaaGreatDoorUnE
import Derived.Test.YtejicboemkpeoaaGreatDoorZeros
import Derived.Test.YtejicboemkpeoaaGreatDoorCsQ
import Derived.Deep.DeepCutAuto
import Derived.Deep.LoopGhost
namespace Go.Proofs.YtejicboemkpeoaaGreatDoor
open Go Go.RowKit

theorem att_info : (Tryz.prog.info? 127).map (fun i => (i.zero, i.size, i.bytes)) = some (some (.agg #[.int .i64 0, .int .i64 0, .int .u64 0, .int .i64 0, .slice none 0 0, .string ⟨#[]⟩]), 6, 72) := by kernel_rfl
theorem dient_info : (Tryz.prog.info? 61).map (fun i => (i.zero, i.size, i.bytes)) = some (some (.agg #[.int .u64 0, .int .u64 0, .int .i64 0, .int .i64 0, .int .i64 0, .slice none 0 0]), 6, 64) := by kernel_rfl
theorem CT.apart {w w' : World} {g : Nat} {v : Value} {l : List UInt8} {s : CSt} {B' m' n' : Nat} {t' : TypeId} {v' : Value} {xs' : List Value} (h : CT w g v l s) (h' : w.ownsRow B' t' m' v' n' xs') (h1 : 177 ≠ t') (h2 : 5 ≠ t') (hf : 2 < B') (hz : 3 < B') (hg : w.grownBy w' v'.ownBlock) : CT w' g v l s :=
  ⟨un_cur h.c h' h1 h2 hg, h.f.grown hg (fun e => Nat.not_le_of_lt hf (h'.lt _ e).1), h.z.grown hg (fun e => Nat.not_le_of_lt hz (h'.lt _ e).1)⟩

set_option maxRecDepth 10000 in
set_option maxHeartbeats 1600000 in
theorem dattrs_any {w : World} {g : Nat} {v : Value} {l : List UInt8} {s : CSt} (h : CT w g v l s) (hlen : l.length ≤ 140737488355328) {B : Nat} {a : Option Addr} {ps : List Spc} (hp : Spcs w B a ps) (hB : B ≤ g) (c : Nat) (hpl : ps.length ≤ 100000) (wide : Bool) (ta : Option Addr) (tn tc : Nat) :
    Calls Tryz.prog 91 #[.agg #[.pointer (some ⟨g, 0, none⟩), .slice ta tn tc, .bool wide], .slice a ps.length c] w fun r w' => ∃ u X, r = .returned u ∧ OwnT 127 w' w.heap.size u X ∧ X.map AtL.att = (attF l wide ps s).1 ∧ CT w' g v l (attF l wide ps s).2 ∧ w.grownBy w' (some g) := by
  obtain ⟨i1, hj1, hy0, hy1, hy2⟩ := info_parts att_info
  have HF := Lib.hid h.f.pos
  have HZ := Lib.hid h.z.pos
  have HGW := Lib.hid h.c.1.lt
  have HL := Lib.hid hlen
  have HP := Lib.hid hp
  have HBG := Lib.hid hB
  have hb0 := (Below.refl w.heap.size w).alloc (Nat.le_refl _) (.cells #[.pointer (some ⟨g, 0, none⟩), .slice ta tn tc, .bool wide] 132)
  have HX0 := Lib.hid (Box.new w 132 #[.pointer (some ⟨g, 0, none⟩), .slice ta tn tc, .bool wide])
  have HC0 := Lib.hid (h.below hb0)
  have HB0 := Lib.hid hb0
  clear h hlen hp hB hb0
  obtain ⟨N, hN⟩ : ∃ N, ps.length = N := ⟨_, rfl⟩
  have HN := Lib.hid hN
  rw [hN] at hpl ⊢
  clear hN
  go_enter Tryz.func91, Tryz.ntmps91
  go_upto_region 3 with fail
  generalize w.alloc (.cells #[.pointer (some ⟨g, 0, none⟩), .slice ta tn tc, .bool wide] 132) = w1 at *
  have HO0 := Lib.hid (OwnT.nil 127 w1 (w.heap.size + 1))
  go_loopg [5, 10] N (fun gk u i wr => ∃ (k : Nat) (X : List AtL), k ≤ N ∧ gk = N - k ∧ i = .int .i64 k ∧ Hid (X.length = k) ∧ Hid (X.map AtL.att = (attF l wide (ps.take k) s).1) ∧ Hid (OwnT 127 wr w.heap.size u X) ∧ Hid (CT wr g v l (attF l wide (ps.take k) s).2) ∧ Hid (w.grownBy wr (some g)) ∧ Hid (Box wr w.heap.size 132 #[.pointer (some ⟨g, 0, none⟩), .slice ta tn tc, .bool wide]))
  case atStart => exact ⟨0, [], Nat.zero_le _, rfl, rfl, Lib.hid rfl, Lib.hid rfl, Lib.hid (OwnT.nil _ _ _), HC0, Lib.hid (only_below HB0.out _), HX0⟩
  case round =>
    obtain ⟨k, X, hk, rfl, rfl, HX, HM, HO, HC, HG, HBX⟩ := hrel
    clear HO0 HC0 HB0 HX0
    by_cases hlt : k < N
    · obtain ⟨p, hp⟩ : ∃ p, ps[k]? = some p := ⟨ps[k]'(by rw [HN.out]; exact hlt), List.getElem?_eq_getElem _⟩
      have HS := Lib.hid (attF_snoc l wide (ps.take k) p s)
      have htk : ps.take (k + 1) = ps.take k ++ [p] := by rw [List.take_add_one, hp]; rfl
      rw [← htk] at HS
      have HBB := Lib.hid (below_of_only (B := B) HG.out (by have := HGW.out; have := HBG.out; omega) (fun x hx => by injection hx with hx; have := HBG.out; omega))
      obtain ⟨b, o, rfl, hb, c0, c1, c2⟩ := spc_at (HP.out.below HBB.out) hp
      generalize attF l wide (ps.take k) s = R1 at *
      obtain ⟨R1a, s1⟩ := R1
      simp only at HM HC HS
      have HT := Lib.hid (fun W (hW : CT W g v l s1) => takeW_st hW HL.out p.at_ p.form p.imp wide)
      generalize takeW l p.form p.imp wide s1 = T at *
      obtain ⟨tv, s2⟩ := T
      simp only at HS HT
      obtain ⟨A3, c3, hu⟩ := un_slc HO.out.row
      rw [HX.out] at hu
      subst hu
      have hmx : k + 1 ≤ maxLen := by unfold maxLen; omega
      have hby : (k + 1) * 72 ≤ 140737488355328 := by omega
      have hxc : (AtL.cells ⟨p.at_, ⟨tv, none, 0⟩⟩).length = 6 := rfl
      have hb2 := (Below.refl wr.heap.size wr).alloc (Nat.le_refl _) (.cells #[.int .i64 p.at_, .int .i64 p.form, .int .i64 p.imp] 125)
      have hY := Box.new wr 125 #[.int .i64 p.at_, .int .i64 p.form, .int .i64 p.imp]
      go_upto_region 5 with fail
      generalize wr.alloc (.cells #[.int .i64 p.at_, .int .i64 p.form, .int .i64 p.imp] 125) = w2 at *
      have hb2d : Below wr.heap.size wr w2.drew := hb2.drew
      have HC2 := Lib.hid (HC.out.below hb2d)
      have HO2 := Lib.hid (HO.out.below hb2d)
      have HG2 := Lib.hid (only_then_below HG.out hb2d)
      have HBX2 := Lib.hid (HBX.out.below hb2d HBX.out.lt)
      have HY2 := Lib.hid hY.drew
      have HGR := Lib.hid (show g < wr.heap.size from HC.out.c.1.lt)
      clear hb2 hb2d hY
      generalize wr.heap.size = H at *
      obtain ⟨bn, hbn⟩ : ∃ bn, tv.b.length = bn := ⟨_, rfl⟩
      have HBN := Lib.hid hbn
      have HT2 := Lib.hid (HT.out _ HC2.out)
      obtain ⟨x0, x1, x2⟩ := three_cellsR HBX2.out
      obtain ⟨y0, y1, y2⟩ := three_cellsR HY2.out
      clear HT hbn c0 c1 c2
      have AC := Lib.hid (fun (A : Option Addr) (q : Nat) (u : Value) (hu : u ∈ ([.int .i64 p.at_, .int .i64 tv.form, .int .u64 (tv.u : Int), .int .i64 tv.s, .slice A bn q, .string ⟨tv.t.toArray⟩] : List Value)) => (by
        simp only [List.mem_cons, List.not_mem_nil, or_false] at hu
        rcases hu with rfl | rfl | rfl | rfl | rfl | rfl <;> rfl : u.oneCell' = true))
      go_region_held_law (fun X => X.cell? ⟨w.heap.size, 0, none⟩ = some (.pointer (some ⟨g, 0, none⟩)) ∧ X.cell? ⟨w.heap.size, 2, none⟩ = some (.bool wide) ∧ X.cell? ⟨H, 0, none⟩ = some (.int .i64 p.at_) ∧ X.cell? ⟨H, 1, none⟩ = some (.int .i64 p.form) ∧ X.cell? ⟨H, 2, none⟩ = some (.int .i64 p.imp)) (first | exact ⟨x0, x2, y0, y1, y2⟩ | exact KS3.out | exact KS4.out | exact KS5.out) (first
        | (go_at_call 134; refine HT2.out.mono ?_; rintro r w3 ⟨⟨A5, c5, rfl, hO5⟩, hC5, hG5⟩; have HSP := Lib.hid (own_base hO5 HG2.out.size); rw [HBN.out]; have hx3 := HBX2.out.grown hG5 (fun e => (by injection e with e; have := HGW.out; omega)); have hy3 := HY2.out.grown hG5 (fun e => (by injection e with e; have := HGR.out; omega)); have KS3 := Lib.hid (And.intro (hx3.cell 0) (And.intro (hx3.cell 2) (And.intro (hy3.cell 0) (And.intro (hy3.cell 1) (hy3.cell 2))))); have HC3 := Lib.hid hC5; have HG3 := Lib.hid (HG2.out.trans hG5); have HO3 := Lib.hid (HO2.out.past hG5 HGW.out); have ha3 := (Below.refl w3.heap.size w3).alloc (Nat.le_refl _) (.cells #[.int .i64 p.at_, .int .i64 tv.form, .int .u64 (tv.u : Int), .int .i64 tv.s, .slice A5 bn c5, .string ⟨tv.t.toArray⟩] 127); have hx4 := hx3.below ha3 hx3.lt; have hy4 := hy3.below ha3 hy3.lt; have KS4 := Lib.hid (And.intro (hx4.cell 0) (And.intro (hx4.cell 2) (And.intro (hy4.cell 0) (And.intro (hy4.cell 1) (hy4.cell 2))))); have HX4 := Lib.hid hx4; have HY4 := Lib.hid hy4; have HOA := Lib.hid (row_below (by have := HO3.out.row; rwa [HX.out] at this : w3.ownsRow w.heap.size 127 6 (.slice A3 k c3) k (cellsF AtL.cells X)) ha3); have hsz : w.heap.size ≤ w3.heap.size + 1 := (by have := HG3.out.size; omega); clear hO5 hC5 hG5 hx3 hy3 ha3 hx4 hy4)
        | (refine step_append_lies _ (by rfl) (.tmp 14) (.tmp 24) _ (by rfl) w.heap.size 127 i1 _ 6 72 Tryz.underlying59 hj1 hy0 hy1 hy2 (by rfl) (by decide) (.slice A3 k c3) k (cellsF AtL.cells X) (by rfl) (by exact HOA.out) ⟨w3.heap.size, 0, none⟩ 1 1 [.int .i64 p.at_, .int .i64 tv.form, .int .u64 (tv.u : Int), .int .i64 tv.s, .slice A5 bn c5, .string ⟨tv.t.toArray⟩] (by rfl) rfl (fun j u h => cells_newA w3 [.int .i64 p.at_, .int .i64 tv.form, .int .u64 (tv.u : Int), .int .i64 tv.s, .slice A5 bn c5, .string ⟨tv.t.toArray⟩] _ j u h) (AC.out A5 c5) (by decide) hmx hby (by simpa using hsz) _ rfl ?_; intro g6 c6 w6 hown6 hg6 hat6 hlt6; clear hat6 hlt6; have hx6 := un_box HX4.out HOA.out (by decide) hg6; have hy6 := un_box HY4.out HOA.out (by decide) hg6; have KS5 := Lib.hid (And.intro (hx6.cell 0) (And.intro (hx6.cell 2) (And.intro (hy6.cell 0) (And.intro (hy6.cell 1) (hy6.cell 2))))); have HX6 := Lib.hid hx6; have HO6 := Lib.hid hown6; have HG6 := Lib.hid hg6; clear hown6 hg6 hx6 hy6))
      have ha6 := (Below.refl w3.heap.size w3).alloc (Nat.le_refl _) (.cells #[.int .i64 p.at_, .int .i64 tv.form, .int .u64 (tv.u : Int), .int .i64 tv.s, .slice A5 bn c5, .string ⟨tv.t.toArray⟩] 127)
      have HON := Lib.hid (show OwnT 127 w6 w.heap.size (.slice (some ⟨g6, 0, none⟩) (k + 1) c6) (X ++ [⟨p.at_, ⟨tv, A5, c5⟩⟩]) from (HO3.out.below ha6).snoc (t := ⟨p.at_, ⟨tv, A5, c5⟩⟩) (row_below HSP.out ha6) (by decide) HG6.out (by
        have h := HO6.out
        rw [← HBN.out] at h
        rw [HX.out]
        exact h))
      have HCN := Lib.hid (CT.apart (HC3.out.below ha6) HOA.out (by decide) (by decide) HF.out HZ.out HG6.out)
      have HGN := Lib.hid (only_trans (only_then_below HG3.out ha6) HG6.out (.inr fun x hx => (HOA.out.lt x hx).1))
      clear ha6 HO6 HG6 KS3 KS4 KS5 HOA HSP HC3 HO3 HG3
      go_wp2_with fail
      go_roundg (N - (k + 1))
      case measure => omega
      case rel => exact ⟨k + 1, X ++ [⟨p.at_, ⟨tv, A5, c5⟩⟩], by omega, rfl, by go_num, Lib.hid (by rw [List.length_append, HX.out]; rfl), Lib.hid (by rw [List.map_append, HM.out, HS.out]; rfl), HON, Lib.hid (by rw [HS.out]; exact HCN.out), HGN, HX6⟩
    · have hkn : k = N := by omega
      have htk : ps.take k = ps := List.take_of_length_le (by rw [HN.out]; omega)
      rw [htk] at HM HC
      clear htk
      go_wp2_with fail
      go_ret
      exact ⟨_, X, rfl, HO.out, HM.out, HC.out, HG.out⟩

end Go.Proofs.YtejicboemkpeoaaGreatDoor

namespace Go.Proofs.YtejicboemkpeoaaGreatDoor
open Go Go.RowKit

/-! ### Bytes -/
def valsB (l : List Att) (wide : Bool) : List UInt8 := l.flatMap fun t => putV t.x wide
def dentB (e : Ent) (wide : Bool) : List UInt8 := lebPut (sizeU e.code) (e.code : Int) ++ valsB e.l wide
def ofA (t : Att) (p : Spc) : Bool := decide (t.at_ = p.at_) && (decide (t.x.form = p.form) && (!decide (p.form = 33) || decide (t.x.s = p.imp)))
def ofL : List Att → List Spc → Bool
  | [], [] => true
  | t :: l, p :: ps => ofA t p && ofL l ps
  | _, _ => false
def ofE (e : Ent) (y : ALay) : Bool := decide (e.tag = y.x.tag) && ofL e.l y.x.l
def rightE (l : List Att) (wide : Bool) : Bool := l.all fun t => rightV t.x wide
/-- Whether an entry may stand in the i-th place, where so many may still get children. -/
def dokP (wide : Bool) (T : List ALay) (i : Nat) (o : Int) (e : Ent) : Bool :=
  match abbK T e.code with
  | none => false
  | some y => ofE e y && (decide ((if i = 0 then 0 else 1) ≤ e.depth) && (decide (e.depth ≤ o) && rightE e.l wide))
def putF (wide : Bool) (T : List ALay) : List Ent → Nat → List UInt8 → Int → Option (List UInt8)
  | [], _, b, o => some (b ++ List.replicate o.toNat 0)
  | e :: es, i, b, o => if dokP wide T i o e = true then putF wide T es (i + 1) (b ++ List.replicate (o - e.depth).toNat 0 ++ dentB e wide) (if kidO (abbK T e.code) = true then e.depth + 1 else e.depth) else none
def dieP (wide : Bool) (T : List ALay) (l : List Ent) : Option (List UInt8) := if l = [] ∨ 1000 < l.length then none else putF wide T l 0 [] 0
def pE (o : Option (List UInt8)) : Int := match o with | some _ => 0 | none => 2
def pB (o : Option (List UInt8)) : List UInt8 := match o with | some b => b | none => []

theorem ofL_len : ∀ {l : List Att} {ps : List Spc}, ofL l ps = true → l.length = ps.length
  | [], [], _ => rfl
  | t :: l, p :: ps, h => by
    rw [ofL, Bool.and_eq_true] at h
    exact congrArg Nat.succ (ofL_len h.2)
  | [], _ :: _, h => by cases h
  | _ :: _, [], h => by cases h
theorem ofL_all : ∀ {l : List Att} {ps : List Spc}, l.length = ps.length → (∀ (k : Nat) (t : Att) (p : Spc), l[k]? = some t → ps[k]? = some p → ofA t p = true) → ofL l ps = true
  | [], [], _, _ => rfl
  | t :: l, p :: ps, h, ha => by
    rw [ofL, ha 0 t p rfl rfl, Bool.true_and]
    exact ofL_all (Nat.succ.inj h) (fun k t' p' h1 h2 => ha (k + 1) t' p' h1 h2)
  | [], _ :: _, h, _ => by cases h
  | _ :: _, [], h, _ => by cases h
theorem ofL_get : ∀ {l : List Att} {ps : List Spc} {k : Nat} {t : Att} {p : Spc}, ofL l ps = true → l[k]? = some t → ps[k]? = some p → ofA t p = true
  | t' :: l, p' :: ps, 0, t, p, h, h1, h2 => by
    rw [ofL, Bool.and_eq_true] at h
    simp at h1 h2
    subst h1 h2
    exact h.1
  | t' :: l, p' :: ps, k + 1, t, p, h, h1, h2 => by
    rw [ofL, Bool.and_eq_true] at h
    exact ofL_get h.2 (by simpa using h1) (by simpa using h2)
  | [], _, _, _, _, _, h1, _ => by simp at h1
  | _ :: _, [], _, _, _, h, _, _ => by cases h
theorem valsB_snoc (l : List Att) (t : Att) (wide : Bool) : valsB (l ++ [t]) wide = valsB l wide ++ putV t.x wide := by simp [valsB]
/-- Values that came in. -/
structure Att.In (t : Att) : Prop where
  u : t.x.u < two64
  s : InI t.x.s
  b : t.x.b.length ≤ 3000
  t : t.x.t.length ≤ 3000
theorem putV_len {t : Att} {wide : Bool} (h : t.In) (hr : rightV t.x wide = true) : (putV t.x wide).length ≤ 65600 := by
  obtain ⟨-, h1, h2⟩ := rightV_spec hr
  exact wholeV_len h.u h.s h1 h2
theorem valsB_len {wide : Bool} : ∀ {l : List Att}, (∀ t ∈ l, t.In) → rightE l wide = true → (valsB l wide).length ≤ l.length * 65600
  | [], _, _ => Nat.le_refl _
  | t :: l, h, hr => by
    rw [rightE, List.all_cons, Bool.and_eq_true] at hr
    have h1 := putV_len (h t (by simp)) hr.1
    have h2 := valsB_len (l := l) (fun x hx => h x (by simp [hx])) hr.2
    have h3 : (valsB (t :: l) wide).length = (putV t.x wide).length + (valsB l wide).length := by simp [valsB]
    rw [h3, List.length_cons, Nat.add_mul]
    omega

/-! ### ends -/
section
variable {P : Program}
theorem wpList_append_zeros0 {w : World} {ops : Array Oper} {rest : List Oper} {o : Oper} {a : Act} {Q : Exit → Act → World → Prop} (hgd : o.guard = none) (s x : Operand) (t tn : TypeId)
    (ho : o.op = .call { callee := .builtin .append, args := #[s, x], argTypes := #[t, tn] })
    (base : Nat) (i : TypeInfo) (kn kq : IntKind) (ht : P.underlying t = some (.slice 5)) (htn : P.underlying tn = some (.int kn)) (hi : P.info? 5 = some i) (hz : i.zero = some (.int .u8 0)) (hs : i.size = 1) (hy : i.bytes = 1)
    (v : Value) (l : List UInt8) (hv : a.eval s = v) (hown : Own w base v l) (n : Nat) (z : Int) (hx : a.eval x = .int kq z) (hzn : z = (n : Int))
    (hl : l.length + n ≤ 140737488355328) (hbase : base ≤ w.heap.size)
    (h : ∀ v' w', Laid w w' base v v' (l ++ List.replicate n 0) → wpList P ops Q rest (a.put o.dst v') w') :
    wpList P ops Q (o :: rest) a w := by
  rcases Nat.eq_zero_or_pos n with rfl | h0
  · refine wpList_plain hgd fun K hK => ?_
    subst hzn
    obtain ⟨A, c, hu, hlc, -, -⟩ := own_slice hown
    have hw0 : IntKind.i64.wrap 0 = 0 := rfl
    have hr : (Builtin.append_ #[t, tn] o.type #[v, .int kq ((0 : Nat) : Int)]).run P w = .ok v w := by
      subst hu
      rcases A with _ | ad
      · rcases hown.2 with ⟨e, h0⟩ | ⟨g, cap, cur, e, -⟩
        · injection e with e1 e2 e3
          simp [Builtin.append_, run_underlying ht, run_underlying htn, sizeOf, typeInfo, zeroValue, hi, hz, hy, asInt, asIntOf, hw0, e2, e3]
        · cases e
      · simp [Builtin.append_, run_underlying ht, run_underlying htn, sizeOf, typeInfo, zeroValue, hi, hz, hy, asInt, asIntOf, hw0, hlc, storeCells]
    unfold Oper.wp execOp
    simp only [ho, resolve, invoke, builtin, Sem.run_bind, Sem.run_pure, Result.andThen_ok, List.map_toArray, List.map_cons, List.map_nil, hv, hx, hr]
    exact hK _ _ (h v w (by rw [List.replicate_zero, List.append_nil]; exact Laid.refl hown))
  · exact wpList_append_zeros hgd s x t tn ho base i kn kq ht htn hi hz hs hy v l hv hown n z hx hzn h0 hl hbase (fun v' w' h1 h2 h3 _ => h v' w' (Laid.of_append (Below.refl _ _) h1 h2 h3))
end
theorem ends_any {w : World} {base : Nat} {v : Value} {l : List UInt8} (hown : Own w base v l) (hbase : base ≤ w.heap.size) (n : Nat) (hlen : l.length + n ≤ 140737488355328) :
    Calls Tryz.prog 66 #[v, .int .i64 (n : Int)] w fun r w' => ∃ v', r = .returned v' ∧ Laid w w' base v v' (l ++ List.replicate n 0) := by
  obtain ⟨i0, hi, hz0, hz1, hz2⟩ := info_parts u8_info
  have HO := Lib.hid hown
  clear hown
  go_enter Tryz.func66, Tryz.ntmps66
  go_wp2_with (at_builtin; refine wpList_append_zeros0 (by rfl) (.tmp 5) (.tmp 6) _ _ (by rfl) base i0 .i64 .i64 Tryz.underlying26 Tryz.underlying3 hi hz0 hz1 hz2 v l (by rfl) HO.out n (n : Int) (by rfl) rfl hlen hbase ?_; intro v1 w1 hL; have HL := Lib.hid hL; clear hL)
  go_ret
  exact ⟨_, rfl, HL.out⟩

end Go.Proofs.YtejicboemkpeoaaGreatDoor

namespace Go.Proofs.YtejicboemkpeoaaGreatDoor
open Go Go.RowKit

/-- What came in as a value in memory. -/
structure AtL.In (t : AtL) : Prop where
  u : t.y.x.u < two64
  s : InI t.y.x.s
  b : t.y.x.b.length ≤ 3000
  t : t.y.x.t.length ≤ 3000
theorem AtL.In.att {t : AtL} (h : t.In) : t.att.In := ⟨h.u, h.s, h.b, h.t⟩
/-- What put tells of a row that it puts behind. -/
def PutEnd (w : World) (base : Nat) (v : Value) (l : List UInt8) (ok : Bool) (B : List UInt8) (r : Ending) (w' : World) : Prop :=
  (ok = true ∧ ∃ v', r = .returned (.tuple #[v', .int .i64 0]) ∧ Laid w w' base v v' (l ++ B)) ∨ (ok = false ∧ r = .returned (.tuple #[.slice none 0 0, .int .i64 2]) ∧ w.grownBy w' v.ownBlock)

set_option maxRecDepth 10000 in
set_option maxHeartbeats 3200000 in
theorem dput1_any {w : World} {base : Nat} {v : Value} {l : List UInt8} (hown : Own w base v l) (hbase : base ≤ w.heap.size) (hF : Ft w) (hS : Sz w) (hf : 2 < base) (hz : 3 < base) (y : DLay) (hy : Atts w base y.a y.L) (hcd : y.code < two64) (hin : ∀ t ∈ y.L, t.In) (hxl : y.L.length ≤ 3000) (wide : Bool) (hlen : l.length ≤ 100000000000000) :
    Calls Tryz.prog 65 #[v, .agg #[.int .u64 (y.off : Int), .int .u64 (y.code : Int), .int .i64 y.tag, .int .i64 y.parent, .int .i64 y.depth, .slice y.a y.L.length y.c], .bool wide] w fun r w' => PutEnd w base v l (rightE (y.L.map AtL.att) wide) (dentB y.ent wide) r w' := by
  have HBX := Lib.hid (Box.new w 61 #[.int .u64 (y.off : Int), .int .u64 (y.code : Int), .int .i64 y.tag, .int .i64 y.parent, .int .i64 y.depth, .slice y.a y.L.length y.c])
  have hb0 : Below w.heap.size w (w.alloc (.cells #[.int .u64 (y.off : Int), .int .u64 (y.code : Int), .int .i64 y.tag, .int .i64 y.parent, .int .i64 y.depth, .slice y.a y.L.length y.c] 61)) := (Below.refl _ _).alloc (Nat.le_refl _) _
  have hl0 : Laid w (w.alloc (.cells #[.int .u64 (y.off : Int), .int .u64 (y.code : Int), .int .i64 y.tag, .int .i64 y.parent, .int .i64 y.depth, .slice y.a y.L.length y.c] 61)) base v v l := ⟨row_below hown hb0, only_below hb0 _, .inl rfl⟩
  have HPU := Lib.hid (putU_any hl0.1 (Nat.le_trans hbase hb0.size) y.code (by unfold two64 at hcd; omega) (by omega))
  have HL0 := Lib.hid hl0
  have HY := Lib.hid hy
  have HFT := Lib.hid hF
  have HSZ := Lib.hid hS
  have HFB := Lib.hid hf
  have HZB := Lib.hid hz
  have HIN := Lib.hid hin
  have HBW := Lib.hid hbase
  have HOW := Lib.hid (show ∀ x, v.ownBlock = some x → base ≤ x from fun x hx => (hown.lt x hx).1)
  have HLE := Lib.hid hlen
  have hul : (lebPut (sizeU y.code) (y.code : Int)).length ≤ 10 := putU_len (by unfold two64 at hcd; omega)
  have HEB := Lib.hid (show dentB y.ent wide = lebPut (sizeU y.code) (y.code : Int) ++ valsB (y.L.map AtL.att) wide from rfl)
  generalize dentB y.ent wide = EB at *
  generalize lebPut (sizeU y.code) (y.code : Int) = P0 at *
  obtain ⟨X, hX⟩ : ∃ X, y.L = X := ⟨_, rfl⟩
  obtain ⟨n, hn⟩ : ∃ n, y.L.length = n := ⟨_, rfl⟩
  have HNN := Lib.hid (show X.length = n by rw [← hX]; exact hn)
  have HUL := Lib.hid hul
  rw [hn] at hxl HBX HL0 HPU
  rw [hX] at HY HIN HEB
  rw [hn, hX]
  clear hown hbase hF hS hf hz hy hcd hin hlen hb0 hl0 hul hX hn
  generalize y.off = c0 at *
  generalize y.code = c1 at *
  generalize y.tag = c2 at *
  generalize y.parent = c3 at *
  generalize y.depth = c4 at *
  generalize y.a = ya at *
  generalize y.c = yc at *
  go_enter Tryz.func65, Tryz.ntmps65
  go_upto_region 1 with fail
  have hx := HBX.out
  generalize w.alloc (.cells #[.int .u64 (c0 : Int), .int .u64 (c1 : Int), .int .i64 c2, .int .i64 c3, .int .i64 c4, .slice ya n yc] 61) = w1 at *
  obtain ⟨p0, p1, p2, p3, p4, p5⟩ := six_cells hx
  clear HBX
  have HX1 := Lib.hid hx
  clear hx
  generalize hH : w.heap.size = H at HX1 p0 p1 p2 p3 p4 p5 ⊢
  have HH := Lib.hid hH
  clear hH
  go_upto_region 2 with (go_at_call 102; refine HPU.out.mono ?_; rintro r w2 ⟨v2, rfl, hL2⟩; have HX2 := Lib.hid (un_box HX1.out HL0.out.1 (by decide) hL2.2.1); have HL2 := Lib.hid (HL0.out.trans hL2); clear hL2)
  clear p0 p1 p2 p3 p4 p5
  obtain ⟨p0, p1, p2, p3, p4, p5⟩ := six_cells HX2.out
  go_upto_region 3 with fail
  clear p0 p1 p2 p3 p4 p5
  go_loopg [0, 18] n (fun gk u i wr => ∃ k : Nat, k ≤ n ∧ gk = n - k ∧ i = .int .i64 k ∧ Hid (rightE ((X.take k).map AtL.att) wide = true) ∧ Hid (Laid w wr base v u (l ++ (P0 ++ valsB ((X.take k).map AtL.att) wide))))
  case atStart => exact ⟨0, Nat.zero_le _, rfl, rfl, Lib.hid rfl, Lib.hid (by show Laid w w2 base v v2 (l ++ (P0 ++ [])); rw [List.append_nil]; exact HL2.out)⟩
  case round =>
    obtain ⟨k, hk, rfl, rfl, HR, HL⟩ := hrel
    clear HL2 HX2
    by_cases hlt : k < n
    rotate_left
    · have htk : X.take k = X := List.take_of_length_le (by rw [HNN.out]; omega)
      rw [htk] at HR HL
      clear htk
      go_wp2_with fail
      go_ret2
      exact .inl ⟨HR.out, _, rfl, by rw [HEB.out]; exact HL.out⟩
    obtain ⟨t, ht⟩ : ∃ t, X[k]? = some t := ⟨X[k]'(by rw [HNN.out]; exact hlt), List.getElem?_eq_getElem _⟩
    have hGB : Below base w wr := below_of_only HL.out.2.1 HBW.out (HOW.out)
    obtain ⟨b, o, hao, -, t0, t1, t2, t3, t4, t5⟩ := att_at (HY.out.below hGB) ht
    subst hao
    have HTI := HIN.out t (List.mem_of_getElem? ht)
    have HTM := Lib.hid HTI
    have HRD := Lib.hid ((HY.out.bs t (List.mem_of_getElem? ht)).below hGB)
    have HTK := Lib.hid (show (X.take (k + 1)).map AtL.att = (X.take k).map AtL.att ++ [t.att] by rw [List.take_add_one, ht, List.map_append]; rfl)
    have hvl := valsB_len (l := (X.take k).map AtL.att) (wide := wide) (fun z hz => by
      obtain ⟨q, hq, rfl⟩ := List.mem_map.1 hz
      exact (HIN.out q (List.mem_of_mem_take hq)).att) HR.out
    have hkl : ((X.take k).map AtL.att).length = k := by rw [List.length_map, List.length_take, HNN.out]; omega
    rw [hkl] at hvl
    have hl9 : (l ++ (P0 ++ valsB ((X.take k).map AtL.att) wide)).length ≤ 140737488280000 := by
      rw [List.length_append, List.length_append]
      have h1 := HUL.out
      have h2 := HLE.out
      have h3 : k * 65600 ≤ 3000 * 65600 := Nat.mul_le_mul_right _ (by omega)
      omega
    have HVS := Lib.hid (valsB_snoc ((X.take k).map AtL.att) t.att wide)
    have HRS := Lib.hid (show rightE ((X.take k).map AtL.att ++ [t.att]) wide = rightV t.y.x wide by
      rw [rightE, List.all_append]
      have := HR.out
      rw [rightE] at this
      rw [this, Bool.true_and, List.all_cons, List.all_nil, Bool.and_true]
      rfl)
    have HRA := Lib.hid (show rightV t.y.x wide = false → rightE (X.map AtL.att) wide = false from fun h => by
      rw [← Bool.not_eq_true]
      intro hh
      rw [rightE, List.all_eq_true] at hh
      have := hh t.att (List.mem_map.2 ⟨t, List.mem_of_getElem? ht, rfl⟩)
      rw [show rightV t.att.x wide = rightV t.y.x wide from rfl, h] at this
      cases this)
    obtain ⟨bn, hbn⟩ : ∃ bn, t.y.x.b.length = bn := ⟨_, rfl⟩
    have HBN := Lib.hid hbn
    have hbn2 : bn ≤ 3000 := by rw [← hbn]; exact HTM.out.b
    rw [hbn] at t4
    have hb1 : Below wr.heap.size wr (wr.alloc (.cells #[.int .i64 t.at_, .int .i64 t.y.x.form, .int .u64 (t.y.x.u : Int), .int .i64 t.y.x.s, .slice t.y.a bn t.y.c, .string ⟨t.y.x.t.toArray⟩] 127)) := (Below.refl _ _).alloc (Nat.le_refl _) _
    have hXA := Box.new wr 127 #[.int .i64 t.at_, .int .i64 t.y.x.form, .int .u64 (t.y.x.u : Int), .int .i64 t.y.x.s, .slice t.y.a bn t.y.c, .string ⟨t.y.x.t.toArray⟩]
    go_upto_region 5 with fail
    generalize wr.alloc (.cells #[.int .i64 t.at_, .int .i64 t.y.x.form, .int .u64 (t.y.x.u : Int), .int .i64 t.y.x.s, .slice t.y.a bn t.y.c, .string ⟨t.y.x.t.toArray⟩] 127) = w3 at *
    have HB3 := Lib.hid (hGB.trans (hb1.mono (Nat.le_trans HBW.out HL.out.2.1.size)))
    have HL3 := Lib.hid (show Laid w w3 base v _ (l ++ (P0 ++ valsB ((X.take k).map AtL.att) wide)) from ⟨row_below HL.out.1 hb1, only_then_below HL.out.2.1 hb1, HL.out.2.2⟩)
    have HPW := Lib.hid (putW_any HL3.out.1 (Nat.le_trans HBW.out HL3.out.2.1.size) (HFT.out.grown HL3.out.2.1 (fun e => by have := HOW.out _ e; have := HFB.out; omega)) (HSZ.out.grown HL3.out.2.1 (fun e => by have := HOW.out _ e; have := HZB.out; omega)) t.y ((HY.out.bs t (List.mem_of_getElem? ht)).below HB3.out) HTM.out.u HTM.out.s (Nat.le_trans HTM.out.b (by decide)) wide hl9)
    have HPE := Lib.hid (show putWE t.y.x wide = if rightV t.y.x wide = true then 0 else 2 from rfl)
    simp only [hbn] at HPW
    obtain ⟨q0, q1, q2, q3, q4, q5⟩ := six_cells hXA
    have HPV := Lib.hid (show putV t.att.x wide = putV t.y.x wide from rfl)
    clear ht hXA hb1 hbn t0 t1 t2 t3 t4 t5 HTM HTI hvl hl9 hkl HRD HB3 hGB
    generalize t.att.x = tx at *
    generalize putV t.y.x wide = PV at *
    generalize putWE t.y.x wide = PE at *
    generalize rightV t.y.x wide = rr at *
    generalize valsB ((X.take k).map AtL.att) wide = VB at *
    generalize t.y.x.t = txt at *
    generalize t.y.x.form = x0 at *
    generalize t.y.x.u = x1 at *
    generalize t.y.x.s = x2 at *
    generalize t.y.a = y3 at *
    generalize t.y.c = y4 at *
    generalize t.at_ = x9 at *
    cases rr with
    | true =>
      have hpe := HPE.out
      rw [if_pos rfl] at hpe
      subst hpe
      go_wp2_with (go_at_call 103; refine HPW.out.mono ?_; rintro r w4 ⟨v4, rfl, hL4, -⟩; have HL4 := Lib.hid (HL3.out.trans (hL4 rfl)); clear hL4)
      go_roundg (n - (k + 1))
      case measure => omega
      case rel => exact ⟨k + 1, by omega, rfl, by go_num, Lib.hid (by rw [HTK.out, HRS.out]), Lib.hid (by rw [HTK.out, HVS.out, HPV.out, ← List.append_assoc P0, ← List.append_assoc l]; exact HL4.out)⟩
    | false =>
      have hpe := HPE.out
      rw [if_neg (by decide)] at hpe
      subst hpe
      go_wp2_with (go_at_call 103; refine HPW.out.mono ?_; rintro r w4 ⟨v4, rfl, -, hL4⟩; (obtain ⟨rfl, hb4⟩ := hL4 rfl); have HG4 := Lib.hid (only_then_below HL3.out.2.1 hb4); clear hb4 hL4)
      (try rw [Exit.noGoto_ret])
      go_ret2
      exact .inr ⟨by first | exact HRA.out rfl | exact HRA.out trivial, rfl, HG4.out⟩

/-! ### of -/
set_option maxRecDepth 10000 in
set_option maxHeartbeats 1600000 in
theorem of1_any {w : World} (t : AtL) (p : Spc) :
    Calls Tryz.prog 101 #[.agg #[.int .i64 t.at_, .int .i64 t.y.x.form, .int .u64 (t.y.x.u : Int), .int .i64 t.y.x.s, .slice t.y.a t.y.x.b.length t.y.c, .string ⟨t.y.x.t.toArray⟩], .agg #[.int .i64 p.at_, .int .i64 p.form, .int .i64 p.imp]] w fun r w' => r = .returned (.bool (ofA t.att p)) ∧ Below w.heap.size w w' := by
  have HE := Lib.hid (show ofA t.att p = (decide (t.at_ = p.at_) && (decide (t.y.x.form = p.form) && (!decide (p.form = 33) || decide (t.y.x.s = p.imp)))) from rfl)
  have e1 := int_beqR t.at_ p.at_
  have e2 := int_beqR t.y.x.form p.form
  have e3 : (p.form != 33) = !decide (p.form = 33) := by rw [bne, int_beqR]
  have e4 := int_beqR t.y.x.s p.imp
  have hA1 := (Below.refl w.heap.size w).alloc (Nat.le_refl _) (.cells #[.int .i64 t.at_, .int .i64 t.y.x.form, .int .u64 (t.y.x.u : Int), .int .i64 t.y.x.s, .slice t.y.a t.y.x.b.length t.y.c, .string ⟨t.y.x.t.toArray⟩] 127)
  have HA2 := Lib.hid (hA1.alloc hA1.size (.cells #[.int .i64 p.at_, .int .i64 p.form, .int .i64 p.imp] 125))
  clear hA1
  generalize ofA t.att p = R at *
  generalize decide (t.at_ = p.at_) = b1 at *
  generalize decide (t.y.x.form = p.form) = b2 at *
  generalize decide (p.form = 33) = b3 at *
  generalize decide (t.y.x.s = p.imp) = b4 at *
  generalize t.y.x.b.length = ln at *
  generalize t.y.x.t = tx at *
  generalize t.y.x.form = x0 at *
  generalize t.y.x.u = x1 at *
  generalize t.y.x.s = x2 at *
  generalize t.y.a = ya at *
  generalize t.y.c = yc at *
  generalize t.at_ = x9 at *
  generalize p.at_ = z0 at *
  generalize p.form = z1 at *
  generalize p.imp = z2 at *
  go_enter Tryz.func101, Tryz.ntmps101
  cases b1 <;> cases b2 <;> cases b3
  all_goals
    (try simp only [Bool.not_true, Bool.not_false] at e3)
    go_wp2_with fail
    go_ret
    exact ⟨by rw [HE.out]; cases b4 <;> rfl, HA2.out⟩

set_option maxRecDepth 10000 in
set_option maxHeartbeats 1600000 in
theorem equalA_any {w : World} {a sa : Option Addr} {X : List AtL} {ps : List Spc} (h : Atts w w.heap.size a X) (hp : Spcs w w.heap.size sa ps) (c sc : Nat) (hl : X.length ≤ 100000) (hlp : ps.length ≤ 100000) :
    Calls Tryz.prog 100 #[.slice a X.length c, .slice sa ps.length sc, .func (.func 101) #[] #[]] w fun r w' => r = .returned (.bool (ofL (X.map AtL.att) ps)) ∧ Below w.heap.size w w' := by
  have HA := Lib.hid (@ofL_all (X.map AtL.att) ps)
  have HG := Lib.hid (fun (k : Nat) (t : AtL) (p : Spc) (h1 : X[k]? = some t) (h2 : ps[k]? = some p) (h3 : ofA t.att p = false) => (show ofL (X.map AtL.att) ps = false by
    rw [← Bool.not_eq_true]
    intro hh
    have := ofL_get (t := t.att) hh (by rw [List.getElem?_map, h1]; rfl) h2
    rw [h3] at this
    cases this))
  have HLN := Lib.hid (@ofL_len (X.map AtL.att) ps)
  rw [List.length_map] at HA HLN
  generalize ofL (X.map AtL.att) ps = R at *
  obtain ⟨N, hN⟩ : ∃ N, X.length = N := ⟨_, rfl⟩
  obtain ⟨n, hn⟩ : ∃ n, ps.length = n := ⟨_, rfl⟩
  have HN := Lib.hid hN
  have Hn := Lib.hid hn
  have HH := Lib.hid h
  have HP := Lib.hid hp
  rw [hN, hn] at HA HLN
  rw [hN] at hl
  rw [hn] at hlp
  rw [hN, hn]
  clear h hp hN hn
  by_cases hne : N = n
  rotate_left
  · have q : ((N : Int) != (n : Int)) = true := by simp; omega
    have HR := Lib.hid (show R = false by
      rw [← Bool.not_eq_true]
      exact fun hh => hne (HLN.out hh))
    clear hne
    go_enter Tryz.func100, Tryz.ntmps100
    go_wp2_with fail
    go_ret
    exact ⟨by rw [HR.out]; rfl, Below.refl _ _⟩
  subst hne
  go_enter Tryz.func100, Tryz.ntmps100
  go_wp2_with fail
  go_loopw [17] (fun i wr => ∃ k : Nat, k ≤ N ∧ i = .int .i64 k ∧ Hid (Below w.heap.size w wr) ∧ Hid (∀ (j : Nat) (t : AtL) (p : Spc), j < k → X[j]? = some t → ps[j]? = some p → ofA t.att p = true)) (fun i _ => N - (intOf i).toNat)
  case atStart => exact ⟨0, Nat.zero_le _, rfl, Lib.hid (Below.refl _ _), Lib.hid (fun j t p hj => by omega)⟩
  case round =>
    obtain ⟨k, hk, rfl, HB, HY⟩ := hrel
    by_cases hlt : k < N
    rotate_left
    · have HR := Lib.hid (HA.out (by first | rfl | trivial) (fun j t p h1 h2 => by
        rw [List.getElem?_map] at h1
        cases hx : X[j]? with
        | none => rw [hx] at h1; cases h1
        | some z =>
          rw [hx] at h1
          injection h1 with h1
          subst h1
          exact HY.out j z p (by have := (List.getElem?_eq_some_iff.1 hx).1; rw [HN.out] at this; omega) hx h2))
      go_wp2_with fail
      go_ret
      exact ⟨by rw [HR.out]; rfl, HB.out⟩
    obtain ⟨t, ht⟩ : ∃ t, X[k]? = some t := ⟨X[k]'(by rw [HN.out]; exact hlt), List.getElem?_eq_getElem _⟩
    obtain ⟨p, hp⟩ : ∃ p, ps[k]? = some p := ⟨ps[k]'(by rw [Hn.out]; exact hlt), List.getElem?_eq_getElem _⟩
    obtain ⟨b, o, hao, -, t0, t1, t2, t3, t4, t5⟩ := att_at (HH.out.below HB.out) ht
    obtain ⟨b2, o2, hao2, -, u0, u1, u2⟩ := spc_at (HP.out.below HB.out) hp
    subst hao hao2
    have HW := Lib.hid (fun W => of1_any (w := W) t p)
    have HGK := Lib.hid (HG.out k t p ht hp)
    have HYK := Lib.hid (show ofA t.att p = true → ∀ (j : Nat) (t' : AtL) (p' : Spc), j < k + 1 → X[j]? = some t' → ps[j]? = some p' → ofA t'.att p' = true from fun h j t' p' hj h1 h2 => by
      rcases Nat.lt_or_ge j k with h3 | h3
      · exact HY.out j t' p' h3 h1 h2
      · obtain rfl : j = k := by omega
        rw [ht] at h1
        rw [hp] at h2
        injection h1 with h1
        injection h2 with h2
        rw [← h1, ← h2]
        exact h)
    obtain ⟨bn, hbn⟩ : ∃ bn, t.y.x.b.length = bn := ⟨_, rfl⟩
    rw [hbn] at t4
    simp only [hbn] at HW
    clear ht hp hbn
    generalize ofA t.att p = b at *
    generalize t.y.x.t = tx at *
    generalize t.y.x.form = x0 at *
    generalize t.y.x.u = x1 at *
    generalize t.y.x.s = x2 at *
    generalize t.y.a = ya at *
    generalize t.y.c = yc at *
    generalize t.at_ = x9 at *
    generalize p.at_ = z0 at *
    generalize p.form = z1 at *
    generalize p.imp = z2 at *
    have hb1 := (Below.refl wr.heap.size wr).alloc (Nat.le_refl _) (.cells #[.int .i64 x9, .int .i64 x0, .int .u64 (x1 : Int), .int .i64 x2, .slice ya bn yc, .string ⟨tx.toArray⟩] 127)
    have u0' := (hb1.cell (p := ⟨b2, o2 + k * 3, none⟩) (World.block_lt_of_cell? wr _ u0)).trans u0
    have u1' := (hb1.cell (p := ⟨b2, o2 + k * 3 + 1, none⟩) (World.block_lt_of_cell? wr _ u1)).trans u1
    have u2' := (hb1.cell (p := ⟨b2, o2 + k * 3 + 2, none⟩) (World.block_lt_of_cell? wr _ u2)).trans u2
    have HB2 := Lib.hid (HB.out.trans ((hb1.alloc hb1.size (.cells #[.int .i64 z0, .int .i64 z1, .int .i64 z2] 125)).mono HB.out.size))
    clear hb1
    cases b with
    | true =>
      go_wp2_with (go_at_call 101; refine (HW.out _).mono ?_; rintro r w1 ⟨rfl, hb1⟩)
      have HB3 := Lib.hid (HB2.out.trans (hb1.mono HB2.out.size))
      go_roundw
      case rel => exact ⟨k + 1, by omega, by go_num, HB3, Lib.hid (by first | exact HYK.out rfl | exact HYK.out trivial)⟩
      case measure => simp [intOf]; omega
    | false =>
      go_wp2_with (go_at_call 101; refine (HW.out _).mono ?_; rintro r w1 ⟨rfl, hb1⟩)
      have HB3 := Lib.hid (HB2.out.trans (hb1.mono HB2.out.size))
      (try rw [Exit.noGoto_ret])
      go_ret
      have HR := Lib.hid (show R = false by first | exact HGK.out rfl | exact HGK.out trivial)
      exact ⟨by rw [HR.out]; rfl, HB3.out⟩

set_option maxRecDepth 10000 in
set_option maxHeartbeats 1600000 in
theorem of_dany {w : World} (y : DLay) (h : Atts w w.heap.size y.a y.L) (hl : y.L.length ≤ 100000) (kc tg : Int) (kd : Bool) (ps : List Spc) (sa : Option Addr) (sc : Nat) (hp : Spcs w w.heap.size sa ps) (hlp : ps.length ≤ 100000) :
    Calls Tryz.prog 64 #[.agg #[.int .u64 (y.off : Int), .int .u64 (y.code : Int), .int .i64 y.tag, .int .i64 y.parent, .int .i64 y.depth, .slice y.a y.L.length y.c], .agg #[.int .u64 kc, .int .i64 tg, .bool kd, .slice sa ps.length sc]] w fun r w' => r = .returned (.bool (decide (y.tag = tg) && ofL (y.L.map AtL.att) ps)) ∧ Below w.heap.size w w' := by
  have e1 := int_beqR y.tag tg
  have hA1 := (Below.refl w.heap.size w).alloc (Nat.le_refl _) (.cells #[.int .u64 (y.off : Int), .int .u64 (y.code : Int), .int .i64 y.tag, .int .i64 y.parent, .int .i64 y.depth, .slice y.a y.L.length y.c] 61)
  have hA2 := hA1.alloc hA1.size (.cells #[.int .u64 kc, .int .i64 tg, .bool kd, .slice sa ps.length sc] 123)
  have HEQ := Lib.hid (fun W (hW : Below w.heap.size w W) => equalA_any (h.up hW) (Row.up hp hW) y.c sc hl hlp)
  have HA2 := Lib.hid hA2
  clear h hp hA1 hA2
  generalize ofL (y.L.map AtL.att) ps = R at *
  generalize decide (y.tag = tg) = b1 at *
  generalize y.L.length = n at *
  generalize ps.length = m at *
  generalize y.off = c0 at *
  generalize y.code = c1 at *
  generalize y.tag = c2 at *
  generalize y.parent = c3 at *
  generalize y.depth = c4 at *
  generalize y.a = ya at *
  generalize y.c = yc at *
  go_enter Tryz.func64, Tryz.ntmps64
  cases b1 with
  | true =>
    go_wp2_with (go_at_call 100; refine (HEQ.out _ HA2.out).mono ?_; rintro r w1 ⟨rfl, hb1⟩; have HB3 := Lib.hid (HA2.out.trans (hb1.mono HA2.out.size)))
    go_ret
    exact ⟨rfl, HB3.out⟩
  | false =>
    go_wp2_with fail
    go_ret
    exact ⟨rfl, HA2.out⟩

end Go.Proofs.YtejicboemkpeoaaGreatDoor

namespace Go.Proofs.YtejicboemkpeoaaGreatDoor
open Go Go.RowKit

def rfitsV (z : Int) (n : Nat) : Bool := decide (z = 0) || (decide (z = 8) || decide (n / 256 ^ z.toNat = 0))
theorem rsizF_in {n : Nat} (hn : n < 45) (wide : Bool) : rsizF (n : Int) wide = 8 ∨ ∃ k : Nat, k ≤ 4 ∧ rsizF (n : Int) wide = (k : Int) := by
  have h : ∀ m : Fin 45, ([0, 1, 2, 3, 4, 8].contains (rsizF ((m : Nat) : Int) wide)) = true := by cases wide <;> decide
  have := h ⟨n, hn⟩
  simp at this
  rcases this with h | h | h | h | h | h
  · exact .inr ⟨0, by omega, by rw [h]; rfl⟩
  · exact .inr ⟨1, by omega, by rw [h]; rfl⟩
  · exact .inr ⟨2, by omega, by rw [h]; rfl⟩
  · exact .inr ⟨3, by omega, by rw [h]; rfl⟩
  · exact .inr ⟨4, by omega, by rw [h]; rfl⟩
  · exact .inl h
theorem div_next (n k : Nat) : n / 256 ^ k / 256 = n / 256 ^ (k + 1) := by rw [Nat.div_div_eq_div_mul, Nat.pow_succ]

set_option maxRecDepth 10000 in
set_option maxHeartbeats 1600000 in
theorem rfits_any (w : World) {f : Nat} (hf : f < 45) (wide : Bool) (n : Nat) (hn : n < two64) :
    Calls Tryz.prog 147 #[.int .u64 (n : Int), .int .i64 (f : Int), .bool wide] w fun r w' => r = .returned (.bool (rfitsV (rsizF (f : Int) wide) n)) ∧ w = w' := by
  have HS := Lib.hid (fun W => rsize_any W (f : Int) wide)
  rcases rsizF_in hf wide with h8 | ⟨k, hk, hkz⟩
  · rw [h8] at HS ⊢
    have HR := Lib.hid (show rfitsV 8 n = true from rfl)
    clear h8 hf hn
    go_enter Tryz.func147, Tryz.ntmps147
    go_wp2_with (go_at_call 148; refine (HS.out _).mono ?_; rintro r w1 ⟨rfl, rfl⟩)
    go_loop [8, 0] (fun i m => i = .int .i64 0 ∧ m = .int .u64 (n : Int)) (fun _ _ => 0)
    case atStart => exact ⟨rfl, rfl⟩
    case round =>
      obtain ⟨rfl, rfl⟩ := hrel
      go_wp2_with fail
      go_ret
      exact ⟨by rw [HR.out]; rfl, rfl⟩
  · rw [hkz] at HS ⊢
    clear hkz hf
    have HN := Lib.hid hn
    have d8 : decide ((k : Int) < 8) = true := by simp; omega
    have n8 : ((k : Int) == 8) = false := by simp; omega
    clear hn
    go_enter Tryz.func147, Tryz.ntmps147
    go_upto_region 2 with (go_at_call 148; refine (HS.out _).mono ?_; rintro r w1 ⟨rfl, rfl⟩)
    go_wp2_with fail
    go_loop [8, 0] (fun i m => ∃ j : Nat, j ≤ k ∧ i = .int .i64 j ∧ Hid (m = .int .u64 ((n / 256 ^ j : Nat) : Int))) (fun i _ => k - (intOf i).toNat)
    case atStart => exact ⟨0, Nat.zero_le _, rfl, Lib.hid (by simp)⟩
    case round =>
      obtain ⟨j, hj, rfl, HM⟩ := hrel
      obtain rfl := HM.out
      have HX := Lib.hid (div_next n j)
      have hlt64 : n / 256 ^ j < two64 := Nat.lt_of_le_of_lt (Nat.div_le_self _ _) HN.out
      have HE := Lib.hid (fun (e : j = k) => (show rfitsV (k : Int) n = (decide ((k : Int) = 0) || (decide ((k : Int) = 8) || decide (n / 256 ^ j = 0))) by unfold rfitsV; rw [Int.toNat_natCast, e]))
      generalize n / 256 ^ j = m at *
      by_cases hlt : j < k
      · obtain ⟨q, hq0⟩ : ∃ q, m / 256 = q := ⟨_, rfl⟩
        have hq : (m : Int).tdiv 256 = (q : Int) := by rw [Int.tdiv_eq_ediv_of_nonneg (by omega)]; omega
        have hq2 : (m : Int) / 256 = (q : Int) := by omega
        have hqw : IntKind.u64.wrap (q : Int) = (q : Int) := by rw [IntWalk.u64_in _ (by unfold two64 at hlt64; omega)]
        rw [hq0] at HX
        clear HM hq0 hlt64 HE
        go_wp2_with fail
        exact ⟨⟨j + 1, by omega, by go_num, Lib.hid (by rw [← HX.out])⟩, by simp [intOf]; omega⟩
      · have hjk : j = k := by omega
        subst hjk
        have hee := HE.out rfl
        have HEE := Lib.hid hee
        have em := nat_beqR m 0
        have em' : ((m : Int) == 0) = decide (m = 0) := em
        clear hee HE HM em
        by_cases h0 : j = 0
        · have q0 : ((j : Int) == 0) = true := by simp [h0]
          have e0 : decide ((j : Int) = 0) = true := by simp [h0]
          have HR := Lib.hid (show rfitsV (j : Int) n = true by rw [HEE.out, e0]; rfl)
          clear h0 e0
          go_wp2_with fail
          go_ret
          exact ⟨by rw [HR.out]; rfl, rfl⟩
        · have q0 : ((j : Int) == 0) = false := by simp; omega
          have e0 : decide ((j : Int) = 0) = false := by simp; omega
          have e8 : decide ((j : Int) = 8) = false := by simp; omega
          have HR := Lib.hid (show rfitsV (j : Int) n = decide (m = 0) by rw [HEE.out, e0, e8]; rfl)
          clear h0 e0 e8
          go_wp2_with fail
          go_ret
          exact ⟨by rw [HR.out, ← em']; rfl, rfl⟩

end Go.Proofs.YtejicboemkpeoaaGreatDoor

namespace Go.Proofs.YtejicboemkpeoaaGreatDoor
open Go Go.RowKit

/-- A value without what its form has. -/
def noneV (x : RV) : RV :=
  if kindF x.form = 3 then ⟨x.form, x.u, 0, x.b, x.t⟩
  else if kindF x.form = 5 then ⟨x.form, x.u, x.s, x.b, []⟩
  else if kindF x.form = 9 ∨ kindF x.form = 10 then ⟨x.form, x.u, x.s, [], x.t⟩
  else ⟨x.form, 0, x.s, x.b, x.t⟩
def fitsD (x : RV) (wide : Bool) : Bool :=
  if x.form = 25 then decide (x.u = 1) else if x.form = 30 then decide (x.b.length = 16)
  else if kindF x.form = 9 ∨ kindF x.form = 10 then (decide (x.b.length ≤ 65536) && rfitsV (rsizF x.form wide) x.b.length)
  else rightT x.t && rfitsV (rsizF x.form wide) x.u
theorem alone_none (x : RV) : sameV x (aloneV x) = (decide ((noneV x).u = 0) && (decide ((noneV x).s = 0) && (decide ((noneV x).b.length = 0) && decide ((noneV x).t = [])))) := by
  unfold aloneV noneV
  by_cases h5 : kindF x.form = 5
  · rw [if_pos h5, if_neg (by omega), if_pos h5]
    simp [sameV]
  · rw [if_neg h5]
    by_cases h9 : kindF x.form = 9 ∨ kindF x.form = 10
    · rw [if_pos h9, if_neg (by omega), if_neg h5, if_pos h9]
      simp [sameV]
    · rw [if_neg h9]
      by_cases h3 : kindF x.form = 3
      · rw [if_pos h3, if_pos h3]
        simp [sameV]
      · rw [if_neg h3, if_neg h3, if_neg h5, if_neg h9]
        simp [sameV]
theorem rfitsV_zero (z : Int) : rfitsV z 0 = true := by simp [rfitsV]
theorem fits_hold {n : Nat} (hn : n < 45) (hk : kindF (n : Int) ≠ 0) (h25 : n ≠ 25) (h33 : n ≠ 33) (h8 : n ≠ 8) (h30 : n ≠ 30) (wide : Bool) (m : Nat) (hm : m < two64) : rfitsV (rsizF (n : Int) wide) m = holdsV (widF (n : Int) wide) m := by
  rcases rsizF_ways hn hk h25 h33 h8 h30 wide with ⟨h1, h2⟩ | ⟨h1, h2, h3⟩
  · rw [h1, h2]; rfl
  · rw [h2] at h3 ⊢
    unfold rfitsV holdsV
    rw [decide_eq_false h1, decide_eq_false h3, Bool.false_or, Bool.false_or]
    by_cases h8' : rsizF (n : Int) wide = 8
    · rw [h8']
      have : m / 256 ^ (8 : Int).toNat = 0 := Nat.div_eq_of_lt (by unfold two64 at hm; exact hm)
      rw [this]; rfl
    · rw [decide_eq_false h8', Bool.false_or]
theorem fitsD_eq {x : RV} (hk : kindF x.form ≠ 0) (hs : sameV x (aloneV x) = true) (hu : x.u < two64) (hb : x.b.length < two64) (wide : Bool) : fitsD x wide = fitsV x wide := by
  obtain ⟨n, hfn, hn⟩ := kindF_in hk
  rw [sameV_iff] at hs
  unfold fitsD fitsV
  by_cases h5 : kindF x.form = 5
  · have h8 : n = 8 := kind5 hn (hfn ▸ h5)
    have hu0 : x.u = 0 := by rw [hs]; unfold aloneV; rw [if_pos h5]
    rw [if_neg (by omega), if_neg (by omega), if_neg (by omega), if_pos h5, hu0, rfitsV_zero, Bool.and_true]
  rw [if_neg h5]
  by_cases h9 : kindF x.form = 9 ∨ kindF x.form = 10
  · have h25 : n ≠ 25 := by rintro rfl; rw [hfn] at h9; exact absurd h9 (by decide)
    have h33 : n ≠ 33 := by rintro rfl; rw [hfn] at h9; exact absurd h9 (by decide)
    have h8 : n ≠ 8 := by rintro rfl; rw [hfn] at h9; exact absurd h9 (by decide)
    rw [if_neg (by omega), if_pos h9]
    by_cases h30 : x.form = 30
    · rw [if_pos h30, if_pos h9, if_pos h30]
    · rw [if_neg h30, if_neg h30, if_pos h9, hfn, fits_hold hn (hfn ▸ hk) h25 h33 h8 (by omega) wide _ hb]
  rw [if_neg h9, if_neg h9]
  have h30 : n ≠ 30 := by rintro rfl; rw [hfn] at h9; exact absurd h9 (by decide)
  have ht : x.t = [] := by rw [hs]; unfold aloneV; rw [if_neg h5, if_neg h9]; split <;> rfl
  by_cases h3 : kindF x.form = 3
  · have hu0 : x.u = 0 := by rw [hs]; unfold aloneV; rw [if_neg h5, if_neg h9, if_pos h3]
    have h25 : n ≠ 25 := by rintro rfl; rw [hfn] at h3; exact absurd h3 (by decide)
    rw [if_pos h3, if_neg (by omega), if_neg (by omega), ht, hu0, rfitsV_zero]; rfl
  · have h33 : n ≠ 33 := by rintro rfl; rw [hfn] at h3; exact absurd h3 (by decide)
    have h8 : n ≠ 8 := by rintro rfl; rw [hfn] at h5; exact absurd h5 (by decide)
    rw [if_neg h3]
    by_cases h25 : x.form = 25
    · rw [if_pos h25, if_pos h25]
    · rw [if_neg h25, if_neg h25, if_neg (by omega), ht, hfn, fits_hold hn (hfn ▸ hk) (by omega) h33 h8 h30 wide _ hu]; rfl

set_option maxRecDepth 10000 in
set_option maxHeartbeats 3200000 in
theorem rrightV_any {w : World} (y : WLay) (hu : y.x.u < two64) (hb : y.x.b.length ≤ 9223372036854775807) (ht : y.x.t.length ≤ 140737488355328) (wide : Bool) :
    Calls Tryz.prog 104 #[.agg #[.int .i64 y.x.form, .int .u64 (y.x.u : Int), .int .i64 y.x.s, .slice y.a y.x.b.length y.c, .string ⟨y.x.t.toArray⟩], .bool wide] w fun r w' => r = .returned (.bool (rightV y.x wide)) ∧ Below w.heap.size w w' := by
  have HE := Lib.hid (show rightV y.x wide = (!decide (kindF y.x.form = 0) && (sameV y.x (aloneV y.x) && fitsV y.x wide)) from rfl)
  have HAN := Lib.hid (alone_none y.x)
  have hA := (Below.refl w.heap.size w).alloc (Nat.le_refl _) (.cells #[.int .i64 y.x.form, .int .u64 (y.x.u : Int), .int .i64 y.x.s, .slice y.a y.x.b.length y.c, .string ⟨y.x.t.toArray⟩] 63)
  have HA := Lib.hid hA
  have hX0 := Box.new w 63 #[.int .i64 y.x.form, .int .u64 (y.x.u : Int), .int .i64 y.x.s, .slice y.a y.x.b.length y.c, .string ⟨y.x.t.toArray⟩]
  have HK := Lib.hid (fun W => rkind_any W y.x.form)
  by_cases h0 : kindF y.x.form = 0
  · have HR := Lib.hid (show rightV y.x wide = false by rw [HE.out, decide_eq_true h0]; rfl)
    have HK0 := Lib.hid (fun W => (by have := HK.out W; rwa [h0] at this : Calls Tryz.prog 105 #[.int .i64 y.x.form] W fun r w' => r = .returned (.int .i64 0) ∧ W = w'))
    clear hA hX0 HK hu hb ht h0 HE
    generalize y.x.b.length = bn at *
    go_enter Tryz.func104, Tryz.ntmps104
    go_wp2_with (go_at_call 105; refine (HK0.out _).mono ?_; rintro r w1 ⟨rfl, rfl⟩)
    go_ret
    exact ⟨by rw [HR.out]; rfl, HA.out⟩
  have HR := Lib.hid (show rightV y.x wide = (sameV y.x (aloneV y.x) && fitsD y.x wide) by
    rw [HE.out, decide_eq_false h0]
    cases hsv : sameV y.x (aloneV y.x) with
    | false => rfl
    | true => rw [fitsD_eq h0 hsv hu (by unfold two64; omega)]; rfl)
  obtain ⟨n, hfn, hn⟩ := kindF_in h0
  have q0 : (kindF y.x.form == 0) = false := by simpa using h0
  have HFI := Lib.hid (fun W (m : Nat) (hm : m < two64) => (by have := rfits_any W hn wide m hm; rwa [← hfn] at this : Calls Tryz.prog 147 #[.int .u64 (m : Int), .int .i64 y.x.form, .bool wide] W fun r w' => r = .returned (.bool (rfitsV (rsizF y.x.form wide) m)) ∧ W = w'))
  have HT := Lib.hid (fun W => rright_any y.x.t W ht)
  have HU := Lib.hid hu
  have HB2 := Lib.hid (show y.x.b.length < two64 by unfold two64; omega)
  have hwb : IntKind.u64.wrap (y.x.b.length : Int) = (y.x.b.length : Int) := by rw [IntWalk.u64_in _ (by omega)]
  have HD := Lib.hid (show fitsD y.x wide = if y.x.form = 25 then decide (y.x.u = 1) else if y.x.form = 30 then decide (y.x.b.length = 16) else if kindF y.x.form = 9 ∨ kindF y.x.form = 10 then (decide (y.x.b.length ≤ 65536) && rfitsV (rsizF y.x.form wide) y.x.b.length) else rightT y.x.t && rfitsV (rsizF y.x.form wide) y.x.u from rfl)
  have HNV := Lib.hid (show noneV y.x = if kindF y.x.form = 3 then ⟨y.x.form, y.x.u, 0, y.x.b, y.x.t⟩ else if kindF y.x.form = 5 then ⟨y.x.form, y.x.u, y.x.s, y.x.b, []⟩ else if kindF y.x.form = 9 ∨ kindF y.x.form = 10 then ⟨y.x.form, y.x.u, y.x.s, [], y.x.t⟩ else ⟨y.x.form, 0, y.x.s, y.x.b, y.x.t⟩ from rfl)
  clear hA h0 hfn hn hu hb ht HE
  go_enter Tryz.func104, Tryz.ntmps104
  go_upto_region 4 with (go_at_call 105; refine (HK.out _).mono ?_; rintro r w1 ⟨rfl, rfl⟩)
  generalize hw1 : w.alloc (.cells #[.int .i64 y.x.form, .int .u64 (y.x.u : Int), .int .i64 y.x.s, .slice y.a y.x.b.length y.c, .string ⟨y.x.t.toArray⟩] 63) = w1 at *
  obtain ⟨x0, x1, x2, x3, x4⟩ := five_cellsR hX0
  have hA2 := (Below.refl w1.heap.size w1).alloc (Nat.le_refl _) (.cells #[.int .i64 y.x.form, .int .u64 (y.x.u : Int), .int .i64 y.x.s, .slice y.a y.x.b.length y.c, .string ⟨y.x.t.toArray⟩] 63)
  have hX2 := Box.new w1 63 #[.int .i64 y.x.form, .int .u64 (y.x.u : Int), .int .i64 y.x.s, .slice y.a y.x.b.length y.c, .string ⟨y.x.t.toArray⟩]
  have hX02 := hX0.below hA2 hX0.lt
  have hne : w.heap.size ≠ w1.heap.size := Nat.ne_of_lt hX0.lt
  clear hw1
  go_upto_region 5 with fail
  generalize hw2 : w1.alloc (.cells #[.int .i64 y.x.form, .int .u64 (y.x.u : Int), .int .i64 y.x.s, .slice y.a y.x.b.length y.c, .string ⟨y.x.t.toArray⟩] 63) = w2 at *
  have HB2' := Lib.hid (HA.out.trans (hA2.mono HA.out.size))
  have HH2 := Lib.hid (show w.heap.size ≤ w1.heap.size from HA.out.size)
  have HX02 := Lib.hid hX02
  have HX2 := Lib.hid hX2
  have HNE := Lib.hid hne
  clear hw2 x0 x1 x2 x3 x4 hX0
  obtain ⟨x0, x1, x2, x3, x4⟩ := five_cellsR hX02
  obtain ⟨y0, y1, y2, y3, y4⟩ := five_cellsR hX2
  obtain ⟨b0, b1, b2, b3, b4⟩ := five_freeR hX2
  clear hA2 hX2 hX02
  generalize w1.heap.size = H2 at *
  clear HK
  obtain ⟨bn, hbn⟩ : ∃ bn, y.x.b.length = bn := ⟨_, rfl⟩
  have HBN := Lib.hid hbn
  rw [hbn] at hwb HB2 HD y3 x3 ⊢
  clear hbn
  obtain ⟨ts, hts⟩ : ∃ ts : ByteArray, ts = ⟨y.x.t.toArray⟩ := ⟨_, rfl⟩
  have e4 := str_eq y.x.t []
  have e4' : ((ByteArray.mk ([] : List UInt8).toArray).toList) = [] := by rw [Lib.toList_data]
  rw [e4', ← hts] at e4
  have HTE := Lib.hid (show (ts.toList == []) = decide (y.x.t = []) from e4)
  rw [← hts] at HT y4 x4 ⊢
  clear hts e4 e4'
  obtain ⟨k, hkk⟩ : ∃ k, kindF y.x.form = k := ⟨_, rfl⟩
  have HKF := Lib.hid hkk
  rw [hkk] at HD HNV q0 ⊢
  clear hkk
  generalize sameV y.x (aloneV y.x) = sv at *
  generalize rightT y.x.t = rt at *
  generalize fitsD y.x wide = fd at *
  generalize rsizF y.x.form wide = z at *
  generalize noneV y.x = N at *
  generalize y.x.form = f at *
  generalize y.x.u = u at *
  generalize y.x.s = s at *
  generalize y.a = ya at *
  generalize y.c = yc at *
  have HUB := Lib.hid (nat_beqR u 0)
  have HBB := Lib.hid HBN.out
  by_cases h3 : k = 3
  · have c3 : (k == 3) = true := by simpa using h3
    have HN := Lib.hid (by rw [HNV.out, if_pos h3] : N = ⟨f, u, 0, y.x.b, y.x.t⟩)
    have hf25 : f ≠ 25 := fun e => by have := HKF.out; rw [e, h3] at this; exact absurd this (by decide)
    have hf30 : f ≠ 30 := fun e => by have := HKF.out; rw [e, h3] at this; exact absurd this (by decide)
    have hk9 : ¬ (k = 9 ∨ k = 10) := by omega
    have c9 : (k == 9) = false := by simp; omega
    have c10 : (k == 10) = false := by simp; omega
    clear h3 HNV
    by_cases hu0 : u = 0
    rotate_left
    · have hsv : sv = false := by rw [HAN.out, HN.out]; simp [hu0]
      have cu : ((u : Int) != 0) = true := by simp; omega
      have HRF := Lib.hid (show rightV y.x wide = false by rw [HR.out, hsv]; rfl)
      clear hu0 hsv
      go_wp2_with fail
      go_ret
      exact ⟨by rw [HRF.out]; rfl, by first | exact HB2'.out | exact HB2'.out.setCell HH2.out _⟩
    have cu : ((u : Int) != 0) = false := by simp; omega
    by_cases hb0 : bn = 0
    rotate_left
    · have hsv : sv = false := by rw [HAN.out, HN.out]; simp [HBN.out, hb0]
      have cb : decide ((0 : Int) < (bn : Int)) = true := by simp; omega
      have db : decide (0 < bn) = true := by simp; omega
      have HRF := Lib.hid (show rightV y.x wide = false by rw [HR.out, hsv]; rfl)
      clear hb0 hsv
      go_wp2_with fail
      go_ret
      exact ⟨by rw [HRF.out]; rfl, by first | exact HB2'.out | exact HB2'.out.setCell HH2.out _⟩
    have cb : decide ((0 : Int) < (bn : Int)) = false := by simp; omega
    have db : decide (0 < bn) = false := by simp; omega
    by_cases ht0 : y.x.t = []
    rotate_left
    · have hsv : sv = false := by rw [HAN.out, HN.out]; simp [ht0]
      have ct : (ts.toList == []) = false := by rw [HTE.out, decide_eq_false ht0]
      have dt : (ts.toList != []) = true := by rw [bne, ct]; rfl
      have HRF := Lib.hid (show rightV y.x wide = false by rw [HR.out, hsv]; rfl)
      clear ht0 hsv
      go_wp2_with fail
      go_ret
      exact ⟨by rw [HRF.out]; rfl, by first | exact HB2'.out | exact HB2'.out.setCell HH2.out _⟩
    have ct : (ts.toList == []) = true := by rw [HTE.out, decide_eq_true ht0]
    have dt : (ts.toList != []) = false := by rw [bne, ct]; rfl
    have hsv : sv = true := by rw [HAN.out, HN.out]; simp [hu0, HBN.out, hb0, ht0]
    have HRF := Lib.hid (show rightV y.x wide = fd by rw [HR.out, hsv]; rfl)
    clear hsv
    rw [if_neg hf25, if_neg hf30, if_neg hk9] at HD
    have q25 : (f == 25) = false := by simpa using hf25
    have q30 : (f == 30) = false := by simpa using hf30
    clear hu0 hb0 ht0 hf25 hf30
    cases rt with
    | false =>
      go_wp2_with (first | (go_at_call 43; refine (HT.out _).mono ?_; rintro r w3 ⟨rfl, rfl⟩) | (go_at_call 147; refine (HFI.out _ _ HU.out).mono ?_; rintro r w4 ⟨rfl, rfl⟩))
      go_ret
      exact ⟨by rw [HRF.out, HD.out]; rfl, by first | exact HB2'.out | exact HB2'.out.setCell HH2.out _⟩
    | true =>
      go_wp2_with (first | (go_at_call 43; refine (HT.out _).mono ?_; rintro r w3 ⟨rfl, rfl⟩) | (go_at_call 147; refine (HFI.out _ _ HU.out).mono ?_; rintro r w4 ⟨rfl, rfl⟩))
      go_ret
      exact ⟨by rw [HRF.out, HD.out]; rfl, by first | exact HB2'.out | exact HB2'.out.setCell HH2.out _⟩
  have c3 : (k == 3) = false := by simpa using h3
  by_cases h5 : k = 5
  · have c5 : (k == 5) = true := by simpa using h5
    have HN := Lib.hid (by rw [HNV.out, if_neg h3, if_pos h5] : N = ⟨f, u, s, y.x.b, []⟩)
    have hf25 : f ≠ 25 := fun e => by have := HKF.out; rw [e, h5] at this; exact absurd this (by decide)
    have hf30 : f ≠ 30 := fun e => by have := HKF.out; rw [e, h5] at this; exact absurd this (by decide)
    have hk9 : ¬ (k = 9 ∨ k = 10) := by omega
    have c9 : (k == 9) = false := by simp; omega
    have c10 : (k == 10) = false := by simp; omega
    clear h3 h5 HNV
    by_cases hu0 : u = 0
    rotate_left
    · have hsv : sv = false := by rw [HAN.out, HN.out]; simp [hu0]
      have cu : ((u : Int) != 0) = true := by simp; omega
      have HRF := Lib.hid (show rightV y.x wide = false by rw [HR.out, hsv]; rfl)
      clear hu0 hsv
      go_wp2_with fail
      go_ret
      exact ⟨by rw [HRF.out]; rfl, by first | exact HB2'.out | exact HB2'.out.setCell HH2.out _⟩
    have cu : ((u : Int) != 0) = false := by simp; omega
    by_cases hs0 : s = 0
    rotate_left
    · have hsv : sv = false := by rw [HAN.out, HN.out]; simp [hs0]
      have cs : (s != 0) = true := by simpa using hs0
      have HRF := Lib.hid (show rightV y.x wide = false by rw [HR.out, hsv]; rfl)
      clear hs0 hsv
      go_wp2_with fail
      go_ret
      exact ⟨by rw [HRF.out]; rfl, by first | exact HB2'.out | exact HB2'.out.setCell HH2.out _⟩
    have cs : (s != 0) = false := by simpa using hs0
    by_cases hb0 : bn = 0
    rotate_left
    · have hsv : sv = false := by rw [HAN.out, HN.out]; simp [HBN.out, hb0]
      have cb : decide ((0 : Int) < (bn : Int)) = true := by simp; omega
      have db : decide (0 < bn) = true := by simp; omega
      have HRF := Lib.hid (show rightV y.x wide = false by rw [HR.out, hsv]; rfl)
      clear hb0 hsv
      go_wp2_with fail
      go_ret
      exact ⟨by rw [HRF.out]; rfl, by first | exact HB2'.out | exact HB2'.out.setCell HH2.out _⟩
    have cb : decide ((0 : Int) < (bn : Int)) = false := by simp; omega
    have db : decide (0 < bn) = false := by simp; omega
    have hsv : sv = true := by rw [HAN.out, HN.out]; simp [hu0, hs0, HBN.out, hb0]
    have HRF := Lib.hid (show rightV y.x wide = fd by rw [HR.out, hsv]; rfl)
    clear hsv
    rw [if_neg hf25, if_neg hf30, if_neg hk9] at HD
    have q25 : (f == 25) = false := by simpa using hf25
    have q30 : (f == 30) = false := by simpa using hf30
    clear hu0 hs0 hb0 hf25 hf30
    cases rt with
    | false =>
      go_wp2_with (first | (go_at_call 43; refine (HT.out _).mono ?_; rintro r w3 ⟨rfl, rfl⟩) | (go_at_call 147; refine (HFI.out _ _ HU.out).mono ?_; rintro r w4 ⟨rfl, rfl⟩))
      go_ret
      exact ⟨by rw [HRF.out, HD.out]; rfl, by first | exact HB2'.out | exact HB2'.out.setCell HH2.out _⟩
    | true =>
      go_wp2_with (first | (go_at_call 43; refine (HT.out _).mono ?_; rintro r w3 ⟨rfl, rfl⟩) | (go_at_call 147; refine (HFI.out _ _ HU.out).mono ?_; rintro r w4 ⟨rfl, rfl⟩))
      go_ret
      exact ⟨by rw [HRF.out, HD.out]; rfl, by first | exact HB2'.out | exact HB2'.out.setCell HH2.out _⟩
  have c5 : (k == 5) = false := by simpa using h5
  by_cases hk9 : k = 9 ∨ k = 10
  · have HN := Lib.hid (by rw [HNV.out, if_neg h3, if_neg h5, if_pos hk9] : N = ⟨f, u, s, [], y.x.t⟩)
    have c9 : (k == 9) = true ∨ (k == 9) = false ∧ (k == 10) = true := by
      rcases hk9 with rfl | rfl
      · exact .inl rfl
      · exact .inr ⟨rfl, rfl⟩
    have hf25 : f ≠ 25 := fun e => by
      have := HKF.out
      rw [e] at this
      rw [← this] at hk9
      exact absurd hk9 (by decide)
    clear h3 h5 HNV
    rcases c9 with c9 | ⟨c9, c10⟩
    all_goals
      by_cases hu0 : u = 0
      rotate_left
      · have hsv : sv = false := by rw [HAN.out, HN.out]; simp [hu0]
        have cu : ((u : Int) != 0) = true := by simp; omega
        have HRF := Lib.hid (show rightV y.x wide = false by rw [HR.out, hsv]; rfl)
        clear hu0 hsv
        go_wp2_with fail
        go_ret
        exact ⟨by rw [HRF.out]; rfl, by first | exact HB2'.out | exact HB2'.out.setCell HH2.out _⟩
      have cu : ((u : Int) != 0) = false := by simp; omega
      by_cases hs0 : s = 0
      rotate_left
      · have hsv : sv = false := by rw [HAN.out, HN.out]; simp [hs0]
        have cs : (s != 0) = true := by simpa using hs0
        have HRF := Lib.hid (show rightV y.x wide = false by rw [HR.out, hsv]; rfl)
        clear hs0 hsv
        go_wp2_with fail
        go_ret
        exact ⟨by rw [HRF.out]; rfl, by first | exact HB2'.out | exact HB2'.out.setCell HH2.out _⟩
      have cs : (s != 0) = false := by simpa using hs0
      by_cases ht0 : y.x.t = []
      rotate_left
      · have hsv : sv = false := by rw [HAN.out, HN.out]; simp [ht0]
        have ct : (ts.toList == []) = false := by rw [HTE.out, decide_eq_false ht0]
        have dt : (ts.toList != []) = true := by rw [bne, ct]; rfl
        have HRF := Lib.hid (show rightV y.x wide = false by rw [HR.out, hsv]; rfl)
        clear ht0 hsv
        go_wp2_with fail
        go_ret
        exact ⟨by rw [HRF.out]; rfl, by first | exact HB2'.out | exact HB2'.out.setCell HH2.out _⟩
      have ct : (ts.toList == []) = true := by rw [HTE.out, decide_eq_true ht0]
      have dt : (ts.toList != []) = false := by rw [bne, ct]; rfl
      have hsv : sv = true := by rw [HAN.out, HN.out]; simp [hu0, hs0, ht0]
      have HRF := Lib.hid (show rightV y.x wide = fd by rw [HR.out, hsv]; rfl)
      clear hsv
      rw [if_neg hf25] at HD
      have q25 : (f == 25) = false := by simpa using hf25
      have q16 : ((bn : Int) == 16) = decide (bn = 16) := nat_beqR bn 16
      by_cases hf30 : f = 30
      · have q30 : (f == 30) = true := by simpa using hf30
        rw [if_pos hf30] at HD
        clear hf30 hf25 hu0 hs0 ht0
        go_wp2_with fail
        go_ret
        exact ⟨by rw [HRF.out, HD.out, ← q16]; rfl, by first | exact HB2'.out | exact HB2'.out.setCell HH2.out _⟩
      · have q30 : (f == 30) = false := by simpa using hf30
        rw [if_neg hf30, if_pos hk9] at HD
        clear hf30 hf25 hu0 hs0 ht0 q16
        by_cases h65 : bn ≤ 65536
        · have c65 : decide ((bn : Int) ≤ 65536) = true := by simp; omega
          rw [decide_eq_true h65] at HD
          clear h65
          go_wp2_with (first | (go_at_call 43; refine (HT.out _).mono ?_; rintro r w3 ⟨rfl, rfl⟩) | (go_at_call 147; refine (HFI.out _ _ HB2.out).mono ?_; rintro r w4 ⟨rfl, rfl⟩))
          go_ret
          exact ⟨by rw [HRF.out, HD.out]; rfl, by first | exact HB2'.out | exact HB2'.out.setCell HH2.out _⟩
        · have c65 : decide ((bn : Int) ≤ 65536) = false := by simp; omega
          rw [decide_eq_false h65] at HD
          clear h65
          go_wp2_with fail
          go_ret
          exact ⟨by rw [HRF.out, HD.out]; rfl, by first | exact HB2'.out | exact HB2'.out.setCell HH2.out _⟩
  have HN := Lib.hid (by rw [HNV.out, if_neg h3, if_neg h5, if_neg hk9] : N = ⟨f, 0, s, y.x.b, y.x.t⟩)
  have c9 : (k == 9) = false := by simp; omega
  have c10 : (k == 10) = false := by simp; omega
  have hf30 : f ≠ 30 := fun e => by
    have := HKF.out
    rw [e] at this
    exact hk9 (.inl (by rw [← this]; rfl))
  clear h3 h5 HNV
  by_cases hs0 : s = 0
  rotate_left
  · have hsv : sv = false := by rw [HAN.out, HN.out]; simp [hs0]
    have cs : (s != 0) = true := by simpa using hs0
    have HRF := Lib.hid (show rightV y.x wide = false by rw [HR.out, hsv]; rfl)
    clear hs0 hsv
    go_wp2_with fail
    go_ret
    exact ⟨by rw [HRF.out]; rfl, by first | exact HB2'.out | exact HB2'.out.setCell HH2.out _⟩
  have cs : (s != 0) = false := by simpa using hs0
  by_cases hb0 : bn = 0
  rotate_left
  · have hsv : sv = false := by rw [HAN.out, HN.out]; simp [HBN.out, hb0]
    have cb : decide ((0 : Int) < (bn : Int)) = true := by simp; omega
    have db : decide (0 < bn) = true := by simp; omega
    have HRF := Lib.hid (show rightV y.x wide = false by rw [HR.out, hsv]; rfl)
    clear hb0 hsv
    go_wp2_with fail
    go_ret
    exact ⟨by rw [HRF.out]; rfl, by first | exact HB2'.out | exact HB2'.out.setCell HH2.out _⟩
  have cb : decide ((0 : Int) < (bn : Int)) = false := by simp; omega
  have db : decide (0 < bn) = false := by simp; omega
  by_cases ht0 : y.x.t = []
  rotate_left
  · have hsv : sv = false := by rw [HAN.out, HN.out]; simp [ht0]
    have ct : (ts.toList == []) = false := by rw [HTE.out, decide_eq_false ht0]
    have dt : (ts.toList != []) = true := by rw [bne, ct]; rfl
    have HRF := Lib.hid (show rightV y.x wide = false by rw [HR.out, hsv]; rfl)
    clear ht0 hsv
    go_wp2_with fail
    go_ret
    exact ⟨by rw [HRF.out]; rfl, by first | exact HB2'.out | exact HB2'.out.setCell HH2.out _⟩
  have ct : (ts.toList == []) = true := by rw [HTE.out, decide_eq_true ht0]
  have dt : (ts.toList != []) = false := by rw [bne, ct]; rfl
  have hsv : sv = true := by rw [HAN.out, HN.out]; simp [hs0, HBN.out, hb0, ht0]
  have HRF := Lib.hid (show rightV y.x wide = fd by rw [HR.out, hsv]; rfl)
  clear hsv
  by_cases hf25 : f = 25
  · have q25 : (f == 25) = true := by simpa using hf25
    have q1 : ((u : Int) == 1) = decide (u = 1) := nat_beqR u 1
    rw [if_pos hf25] at HD
    clear hf25 hs0 hb0 ht0
    go_wp2_with fail
    go_ret
    exact ⟨by rw [HRF.out, HD.out, ← q1]; rfl, by first | exact HB2'.out | exact HB2'.out.setCell HH2.out _⟩
  · have q25 : (f == 25) = false := by simpa using hf25
    rw [if_neg hf25, if_neg hf30, if_neg hk9] at HD
    have q30 : (f == 30) = false := by simpa using hf30
    clear hf25 hf30 hs0 hb0 ht0
    cases rt with
    | false =>
      go_wp2_with (first | (go_at_call 43; refine (HT.out _).mono ?_; rintro r w3 ⟨rfl, rfl⟩) | (go_at_call 147; refine (HFI.out _ _ HU.out).mono ?_; rintro r w4 ⟨rfl, rfl⟩))
      go_ret
      exact ⟨by rw [HRF.out, HD.out]; rfl, by first | exact HB2'.out | exact HB2'.out.setCell HH2.out _⟩
    | true =>
      go_wp2_with (first | (go_at_call 43; refine (HT.out _).mono ?_; rintro r w3 ⟨rfl, rfl⟩) | (go_at_call 147; refine (HFI.out _ _ HU.out).mono ?_; rintro r w4 ⟨rfl, rfl⟩))
      go_ret
      exact ⟨by rw [HRF.out, HD.out]; rfl, by first | exact HB2'.out | exact HB2'.out.setCell HH2.out _⟩

end Go.Proofs.YtejicboemkpeoaaGreatDoor

namespace Go.Proofs.YtejicboemkpeoaaGreatDoor
open Go Go.RowKit

def fitA (wide : Bool) (t : Att) (p : Spc) : Bool := ofA t p && rightV t.x wide
def fitL (l : List Att) (ps : List Spc) (wide : Bool) : Bool := ofL l ps && rightE l wide
theorem fitL_len {l : List Att} {ps : List Spc} {wide : Bool} (h : fitL l ps wide = true) : l.length = ps.length := by
  unfold fitL at h
  rw [Bool.and_eq_true] at h
  exact ofL_len h.1
theorem fitL_all {l : List Att} {ps : List Spc} {wide : Bool} (hl : l.length = ps.length) (h : ∀ (k : Nat) (t : Att) (p : Spc), l[k]? = some t → ps[k]? = some p → fitA wide t p = true) : fitL l ps wide = true := by
  unfold fitL
  rw [Bool.and_eq_true]
  refine ⟨ofL_all hl fun k t p h1 h2 => ?_, ?_⟩
  · have := h k t p h1 h2
    unfold fitA at this
    rw [Bool.and_eq_true] at this
    exact this.1
  · unfold rightE
    rw [List.all_eq_true]
    intro t ht
    obtain ⟨k, hk, e⟩ := List.mem_iff_getElem.1 ht
    have := h k t (ps[k]'(hl ▸ hk)) (by rw [List.getElem?_eq_getElem hk, e]) (List.getElem?_eq_getElem _)
    unfold fitA at this
    rw [Bool.and_eq_true] at this
    exact this.2
theorem fitL_get {l : List Att} {ps : List Spc} {wide : Bool} {k : Nat} {t : Att} {p : Spc} (h : fitL l ps wide = true) (h1 : l[k]? = some t) (h2 : ps[k]? = some p) : fitA wide t p = true := by
  unfold fitL at h
  rw [Bool.and_eq_true] at h
  unfold fitA
  rw [ofL_get h.1 h1 h2, Bool.true_and]
  unfold rightE at h
  exact List.all_eq_true.1 h.2 t (List.mem_of_getElem? h1)

set_option maxRecDepth 10000 in
set_option maxHeartbeats 1600000 in
theorem rdfits_any {w : World} (y : DLay) (h : Atts w w.heap.size y.a y.L) (hl : y.L.length ≤ 100000) (hin : ∀ t ∈ y.L, t.In) (kc tg : Int) (kd : Bool) (ps : List Spc) (sa : Option Addr) (sc : Nat) (hp : Spcs w w.heap.size sa ps) (hlp : ps.length ≤ 100000) (wide : Bool) :
    Calls Tryz.prog 68 #[.agg #[.int .u64 (y.off : Int), .int .u64 (y.code : Int), .int .i64 y.tag, .int .i64 y.parent, .int .i64 y.depth, .slice y.a y.L.length y.c], .agg #[.int .u64 kc, .int .i64 tg, .bool kd, .slice sa ps.length sc], .bool wide] w fun r w' => r = .returned (.bool (decide (y.tag = tg) && fitL (y.L.map AtL.att) ps wide)) ∧ Below w.heap.size w w' := by
  have e1 := int_beqR y.tag tg
  have e1n : (y.tag != tg) = !decide (y.tag = tg) := by rw [bne, int_beqR]
  obtain ⟨N, hN⟩ : ∃ N, y.L.length = N := ⟨_, rfl⟩
  obtain ⟨n, hn⟩ : ∃ n, ps.length = n := ⟨_, rfl⟩
  obtain ⟨X, hX⟩ : ∃ X, y.L = X := ⟨_, rfl⟩
  have HA := Lib.hid (@fitL_all (X.map AtL.att) ps wide)
  have HG := Lib.hid (fun (k : Nat) (t : AtL) (p : Spc) (h1 : X[k]? = some t) (h2 : ps[k]? = some p) (h3 : fitA wide t.att p = false) => (show fitL (X.map AtL.att) ps wide = false by
    rw [← Bool.not_eq_true]
    intro hh
    have := fitL_get (t := t.att) hh (by rw [List.getElem?_map, h1]; rfl) h2
    rw [h3] at this
    cases this))
  have HLN := Lib.hid (@fitL_len (X.map AtL.att) ps wide)
  rw [List.length_map] at HA HLN
  rw [hX] at hN
  have HN := Lib.hid hN
  have Hn := Lib.hid hn
  have HH := Lib.hid (hX ▸ h)
  have HP := Lib.hid hp
  have HIN := Lib.hid (hX ▸ hin)
  rw [hN, hn] at HA HLN
  rw [hX, hN] at hl
  rw [hn] at hlp
  rw [hX, hN, hn]
  clear h hp hin hX hN hn
  generalize fitL (X.map AtL.att) ps wide = R at *
  generalize decide (y.tag = tg) = b1 at *
  generalize y.off = c0 at *
  generalize y.code = c1 at *
  generalize y.tag = c2 at *
  generalize y.parent = c3 at *
  generalize y.depth = c4 at *
  generalize y.a = ya at *
  generalize y.c = yc at *
  have hA1 := (Below.refl w.heap.size w).alloc (Nat.le_refl _) (.cells #[.int .u64 (c0 : Int), .int .u64 (c1 : Int), .int .i64 c2, .int .i64 c3, .int .i64 c4, .slice ya N yc] 69)
  have hX1 := Box.new w 69 #[.int .u64 (c0 : Int), .int .u64 (c1 : Int), .int .i64 c2, .int .i64 c3, .int .i64 c4, .slice ya N yc]
  have hX2 := Box.new (w.alloc (.cells #[.int .u64 (c0 : Int), .int .u64 (c1 : Int), .int .i64 c2, .int .i64 c3, .int .i64 c4, .slice ya N yc] 69)) 123 #[.int .u64 kc, .int .i64 tg, .bool kd, .slice sa n sc]
  have hA2 := (Below.refl (w.alloc (.cells #[.int .u64 (c0 : Int), .int .u64 (c1 : Int), .int .i64 c2, .int .i64 c3, .int .i64 c4, .slice ya N yc] 69)).heap.size (w.alloc (.cells #[.int .u64 (c0 : Int), .int .u64 (c1 : Int), .int .i64 c2, .int .i64 c3, .int .i64 c4, .slice ya N yc] 69))).alloc (Nat.le_refl _) (.cells #[.int .u64 kc, .int .i64 tg, .bool kd, .slice sa n sc] 123)
  have HX1 := Lib.hid (hX1.below hA2 hX1.lt)
  have HX2 := Lib.hid (show Box _ (w.heap.size + 1) 123 #[.int .u64 kc, .int .i64 tg, .bool kd, .slice sa n sc] from by simpa using hX2)
  have HA2 := Lib.hid (hA1.trans (hA2.mono hA1.size))
  clear hX1 hX2 hA1 hA2
  go_enter Tryz.func68, Tryz.ntmps68
  cases b1 with
  | false =>
    simp only [Bool.not_false] at e1n
    go_wp2_with fail
    go_ret
    exact ⟨rfl, HA2.out⟩
  | true =>
  simp only [Bool.not_true] at e1n
  by_cases hne : N = n
  rotate_left
  · have q : ((N : Int) != (n : Int)) = true := by simp; omega
    have HR := Lib.hid (show R = false by
      rw [← Bool.not_eq_true]
      exact fun hh => hne (HLN.out hh))
    clear hne
    go_wp2_with fail
    go_ret
    exact ⟨by rw [HR.out]; rfl, HA2.out⟩
  subst hne
  go_upto_region 3 with fail
  generalize (w.alloc (.cells #[.int .u64 (c0 : Int), .int .u64 (c1 : Int), .int .i64 c2, .int .i64 c3, .int .i64 c4, .slice ya N yc] 69)).alloc (.cells #[.int .u64 kc, .int .i64 tg, .bool kd, .slice sa N sc] 123) = w2 at *
  go_wp2_with fail
  go_loopw [7] (fun i wr => ∃ k : Nat, k ≤ N ∧ i = .int .i64 k ∧ Hid (Below w2.heap.size w2 wr) ∧ Hid (∀ (j : Nat) (t : AtL) (p : Spc), j < k → X[j]? = some t → ps[j]? = some p → fitA wide t.att p = true)) (fun i _ => N - (intOf i).toNat)
  case atStart => exact ⟨0, Nat.zero_le _, rfl, Lib.hid (Below.refl _ _), Lib.hid (fun j t p hj => by omega)⟩
  case round =>
    obtain ⟨k, hk, rfl, HB, HY⟩ := hrel
    have HBB := Lib.hid (HA2.out.trans (HB.out.mono HA2.out.size))
    obtain ⟨m0, m1, m2, m3, m4, m5⟩ := six_cells (HX1.out.below HB.out HX1.out.lt)
    obtain ⟨z0, z1, z2, z3⟩ := four_cells (HX2.out.below HB.out HX2.out.lt)
    by_cases hlt : k < N
    rotate_left
    · have HR := Lib.hid (HA.out (by first | rfl | trivial) (fun j t p h1 h2 => by
        rw [List.getElem?_map] at h1
        cases hx : X[j]? with
        | none => rw [hx] at h1; cases h1
        | some z =>
          rw [hx] at h1
          injection h1 with h1
          subst h1
          exact HY.out j z p (by have := (List.getElem?_eq_some_iff.1 hx).1; rw [HN.out] at this; omega) hx h2))
      go_wp2_with fail
      (try rw [Exit.noGoto_ret])
      go_ret
      exact ⟨by rw [HR.out]; rfl, HBB.out⟩
    obtain ⟨t, ht⟩ : ∃ t, X[k]? = some t := ⟨X[k]'(by rw [HN.out]; exact hlt), List.getElem?_eq_getElem _⟩
    obtain ⟨p, hp⟩ : ∃ p, ps[k]? = some p := ⟨ps[k]'(by rw [Hn.out]; exact hlt), List.getElem?_eq_getElem _⟩
    obtain ⟨b, o, hao, -, t0, t1, t2, t3, t4, t5⟩ := att_at (HH.out.below HBB.out) ht
    obtain ⟨b2, o2, hao2, -, u0, u1, u2⟩ := spc_at (HP.out.below HBB.out) hp
    subst hao hao2
    have HTI := HIN.out t (List.mem_of_getElem? ht)
    have HW := Lib.hid (fun W => rrightV_any (w := W) t.y HTI.u (Nat.le_trans HTI.b (by decide)) (Nat.le_trans HTI.t (by decide)) wide)
    have HE := Lib.hid (show fitA wide t.att p = ((decide (t.at_ = p.at_) && (decide (t.y.x.form = p.form) && (!decide (p.form = 33) || decide (t.y.x.s = p.imp)))) && rightV t.y.x wide) from rfl)
    have f1 : (t.at_ != p.at_) = !decide (t.at_ = p.at_) := by rw [bne, int_beqR]
    have f2 : (t.y.x.form != p.form) = !decide (t.y.x.form = p.form) := by rw [bne, int_beqR]
    have f3 : (p.form == 33) = decide (p.form = 33) := int_beqR _ _
    have f4 : (t.y.x.s != p.imp) = !decide (t.y.x.s = p.imp) := by rw [bne, int_beqR]
    have HGK := Lib.hid (HG.out k t p ht hp)
    have HYK := Lib.hid (show fitA wide t.att p = true → ∀ (j : Nat) (t' : AtL) (p' : Spc), j < k + 1 → X[j]? = some t' → ps[j]? = some p' → fitA wide t'.att p' = true from fun h j t' p' hj h1 h2 => by
      rcases Nat.lt_or_ge j k with h3 | h3
      · exact HY.out j t' p' h3 h1 h2
      · obtain rfl : j = k := by omega
        rw [ht] at h1
        rw [hp] at h2
        injection h1 with h1
        injection h2 with h2
        rw [← h1, ← h2]
        exact h)
    obtain ⟨bn, hbn⟩ : ∃ bn, t.y.x.b.length = bn := ⟨_, rfl⟩
    rw [hbn] at t4
    simp only [hbn] at HW
    clear ht hp hbn HTI
    generalize fitA wide t.att p = fb at *
    generalize decide (t.at_ = p.at_) = g1 at *
    generalize decide (t.y.x.form = p.form) = g2 at *
    generalize decide (p.form = 33) = g3 at *
    generalize decide (t.y.x.s = p.imp) = g4 at *
    generalize rightV t.y.x wide = g5 at *
    generalize t.y.x.t = tx at *
    generalize t.y.x.form = x0 at *
    generalize t.y.x.u = x1 at *
    generalize t.y.x.s = x2 at *
    generalize t.y.a = ya2 at *
    generalize t.y.c = yc2 at *
    generalize t.at_ = x9 at *
    generalize p.at_ = v0 at *
    generalize p.form = v1 at *
    generalize p.imp = v2 at *
    have hb1 := (Below.refl wr.heap.size wr).alloc (Nat.le_refl _) (.cells #[.int .i64 x9, .int .i64 x0, .int .u64 (x1 : Int), .int .i64 x2, .slice ya2 bn yc2, .string ⟨tx.toArray⟩] 143)
    have u0' := (hb1.cell (p := ⟨b2, o2 + k * 3, none⟩) (World.block_lt_of_cell? wr _ u0)).trans u0
    have u1' := (hb1.cell (p := ⟨b2, o2 + k * 3 + 1, none⟩) (World.block_lt_of_cell? wr _ u1)).trans u1
    have u2' := (hb1.cell (p := ⟨b2, o2 + k * 3 + 2, none⟩) (World.block_lt_of_cell? wr _ u2)).trans u2
    have z3' := (hb1.cell (World.block_lt_of_cell? wr _ z3)).trans z3
    have hX3 := Box.new wr 143 #[.int .i64 x9, .int .i64 x0, .int .u64 (x1 : Int), .int .i64 x2, .slice ya2 bn yc2, .string ⟨tx.toArray⟩]
    go_upto_region 7 with fail
    generalize wr.alloc (.cells #[.int .i64 x9, .int .i64 x0, .int .u64 (x1 : Int), .int .i64 x2, .slice ya2 bn yc2, .string ⟨tx.toArray⟩] 143) = w3 at *
    clear m0 m1 m2 m3 m4 m5 z0 z1 z2 z3 t0 t1 t2 t3 t4 t5 u0 u1 u2
    have hb2 : Below w3.heap.size w3 (w3.alloc (.cells #[.int .i64 v0, .int .i64 v1, .int .i64 v2] 125)) := (Below.refl _ _).alloc (Nat.le_refl _) _
    have hX4 := Box.new w3 125 #[.int .i64 v0, .int .i64 v1, .int .i64 v2]
    go_upto_region 8 with fail
    generalize w3.alloc (.cells #[.int .i64 v0, .int .i64 v1, .int .i64 v2] 125) = w4 at *
    clear u0' u1' u2' z3'
    have HX3 := Lib.hid (hX3.below hb2 hX3.lt)
    have HX4 := Lib.hid hX4
    have HB2 := Lib.hid (HB.out.trans ((hb1.trans (hb2.mono hb1.size)).mono HB.out.size))
    clear hX3 hX4 hb1 hb2
    generalize wr.heap.size = H3 at *
    generalize w3.heap.size = H4 at *
    obtain ⟨m0, m1, m2, m3, m4, m5⟩ := six_cells HX3.out
    have z0 := HX4.out.cell 0
    have z1 := HX4.out.cell 1
    have z2 := HX4.out.cell 2
    simp at z0 z1 z2
    rcases (by cases g1 <;> cases g2 <;> cases g5 <;> cases g3 <;> cases g4 <;> simp : (g1 = false ∨ (g1 = true ∧ g2 = false)) ∨ (g1 = true ∧ g2 = true ∧ g5 = false) ∨ (g1 = true ∧ g2 = true ∧ g5 = true ∧ g3 = true ∧ g4 = false) ∨ (g1 = true ∧ g2 = true ∧ g5 = true ∧ g3 = false) ∨ (g1 = true ∧ g2 = true ∧ g5 = true ∧ g3 = true ∧ g4 = true)) with (rfl | ⟨rfl, rfl⟩) | ⟨rfl, rfl, rfl⟩ | ⟨rfl, rfl, rfl, rfl, rfl⟩ | ⟨rfl, rfl, rfl, rfl⟩ | ⟨rfl, rfl, rfl, rfl, rfl⟩
    rotate_right
    rotate_right
    · have HOK := Lib.hid (HYK.out (by rw [HE.out]; cases g4 <;> rfl))
      simp only [Bool.not_true] at f1 f2 f4
      go_wp2_with (go_at_call 104; refine (HW.out _).mono ?_; rintro r w5 ⟨rfl, hb5⟩; (obtain ⟨z0', z1', z2'⟩ : w5.cell? ⟨H4, 0, none⟩ = some (.int .i64 v0) ∧ w5.cell? ⟨H4, 1, none⟩ = some (.int .i64 v1) ∧ w5.cell? ⟨H4, 2, none⟩ = some (.int .i64 v2) := by have := HX4.out.below hb5 HX4.out.lt; have q0 := this.cell 0; have q1 := this.cell 1; have q2 := this.cell 2; simp at q0 q1 q2; exact ⟨q0, q1, q2⟩))
      have HB3 := Lib.hid (HB2.out.trans (hb5.mono HB2.out.size))
      go_roundw
      case rel => exact ⟨k + 1, by omega, by go_num, HB3, HOK⟩
      case measure => simp [intOf]; omega
    · have HOK := Lib.hid (HYK.out (by rw [HE.out]; rfl))
      simp only [Bool.not_true] at f1 f2 f4
      go_wp2_with (go_at_call 104; refine (HW.out _).mono ?_; rintro r w5 ⟨rfl, hb5⟩; (obtain ⟨z0', z1', z2'⟩ : w5.cell? ⟨H4, 0, none⟩ = some (.int .i64 v0) ∧ w5.cell? ⟨H4, 1, none⟩ = some (.int .i64 v1) ∧ w5.cell? ⟨H4, 2, none⟩ = some (.int .i64 v2) := by have := HX4.out.below hb5 HX4.out.lt; have q0 := this.cell 0; have q1 := this.cell 1; have q2 := this.cell 2; simp at q0 q1 q2; exact ⟨q0, q1, q2⟩); (obtain ⟨m0', m1', m2', m3', m4', m5'⟩ := six_cells (HX3.out.below hb5 HX3.out.lt)))
      have HB3 := Lib.hid (HB2.out.trans (hb5.mono HB2.out.size))
      go_roundw
      case rel => exact ⟨k + 1, by omega, by go_num, HB3, HOK⟩
      case measure => simp [intOf]; omega
    all_goals
      have HR := Lib.hid (HGK.out (by rw [HE.out]; simp))
      (try simp only [Bool.not_true, Bool.not_false] at f1 f2 f4)
      go_wp2_with (go_at_call 104; refine (HW.out _).mono ?_; rintro r w5 ⟨rfl, hb5⟩; (obtain ⟨z0', z1', z2'⟩ : w5.cell? ⟨H4, 0, none⟩ = some (.int .i64 v0) ∧ w5.cell? ⟨H4, 1, none⟩ = some (.int .i64 v1) ∧ w5.cell? ⟨H4, 2, none⟩ = some (.int .i64 v2) := by have := HX4.out.below hb5 HX4.out.lt; have q0 := this.cell 0; have q1 := this.cell 1; have q2 := this.cell 2; simp at q0 q1 q2; exact ⟨q0, q1, q2⟩); (obtain ⟨m0', m1', m2', m3', m4', m5'⟩ := six_cells (HX3.out.below hb5 HX3.out.lt)))
      (try rw [Exit.noGoto_ret])
      go_ret
      exact ⟨by rw [HR.out]; rfl, HA2.out.trans (((by first | exact HB2.out.trans (hb5.mono HB2.out.size) | exact HB2.out) : Below w2.heap.size w2 _).mono HA2.out.size)⟩

end Go.Proofs.YtejicboemkpeoaaGreatDoor
