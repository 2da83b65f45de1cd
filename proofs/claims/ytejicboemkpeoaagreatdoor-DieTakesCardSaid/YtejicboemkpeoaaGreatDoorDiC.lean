/-
  Package die: an entry (entry). (Written by wip/tools/gen_dic.py.)
-/
import Derived.Test.YtejicboemkpeoaaGreatDoorRwM
import Derived.Test.YtejicboemkpeoaaGreatDoorRwE
import Derived.Test.YtejicboemkpeoaaGreatDoorCurN
import Derived.Test.YtejicboemkpeoaaGreatDoorUnE
namespace Go.Proofs.YtejicboemkpeoaaGreatDoor
open Go Go.RowKit

theorem att_info : (Tryz.prog.info? 127).map (fun i => (i.zero, i.size, i.bytes)) = some (some (.agg #[.int .i64 0, .int .i64 0, .int .u64 0, .int .i64 0, .slice none 0 0, .string ⟨#[]⟩]), 6, 72) := by kernel_rfl
theorem dient_info : (Tryz.prog.info? 61).map (fun i => (i.zero, i.size, i.bytes)) = some (some (.agg #[.int .u64 0, .int .u64 0, .int .i64 0, .int .i64 0, .int .i64 0, .slice none 0 0]), 6, 64) := by kernel_rfl
theorem CT.apart {w w' : World} {g : Nat} {v : Value} {l : List UInt8} {s : CSt} {B' m' n' : Nat} {t' : TypeId} {v' : Value} {xs' : List Value} (h : CT w g v l s) (h' : w.ownsRow B' t' m' v' n' xs') (h1 : 177 ≠ t') (h2 : 5 ≠ t') (hf : 2 < B') (hz : 3 < B') (hg : w.grownBy w' v'.ownBlock) : CT w' g v l s :=
  ⟨un_cur h.c h' h1 h2 hg, h.f.grown hg (fun e => Nat.not_le_of_lt hf (h'.lt _ e).1), h.z.grown hg (fun e => Nat.not_le_of_lt hz (h'.lt _ e).1)⟩

set_option maxRecDepth 10000 in
set_option maxHeartbeats 1600000 in
theorem dattrs_any {w : World} {g : Nat} {v : Value} {l : List UInt8} {s : CSt} (h : CT w g v l s) (hlen : l.length ≤ 140737488355328) {B : Nat} {a : Option Addr} {ps : List Spc} (hp : Spcs w B a ps) (hB : B ≤ g) (c : Nat) (hpl : ps.length ≤ 100000) (wide : Bool) (ta : Option Addr) (tn tc : Nat) :
    Calls Tryz.prog 91 #[.agg #[.pointer (some ⟨g, 0, none⟩), .slice ta tn tc, .bool wide], .slice a ps.length c] w fun r w' => ∃ u X, r = .returned u ∧ OwnT 127 w' w.heap.size u X ∧ X.map AtL.att = (attF l wide ps s).1 ∧ CT w' g v l (attF l wide ps s).2 ∧ w.grownBy w' (some g) := by
  obtain ⟨i1, hj1, hy0, hy1, hy2⟩ := info_parts att_info
  have HF := Lib.hid h.f.pos
  have HZ := Lib.hid h.z.pos
  have HGW := Lib.hid h.c.1.lt
  have HL := Lib.hid hlen
  have HP := Lib.hid hp
  have HBG := Lib.hid hB
  have hb0 := (Below.refl w.heap.size w).alloc (Nat.le_refl _) (.cells #[.pointer (some ⟨g, 0, none⟩), .slice ta tn tc, .bool wide] 132)
  have HX0 := Lib.hid (Box.new w 132 #[.pointer (some ⟨g, 0, none⟩), .slice ta tn tc, .bool wide])
  have HC0 := Lib.hid (h.below hb0)
  have HB0 := Lib.hid hb0
  clear h hlen hp hB hb0
  obtain ⟨N, hN⟩ : ∃ N, ps.length = N := ⟨_, rfl⟩
  have HN := Lib.hid hN
  rw [hN] at hpl ⊢
  clear hN
  go_enter Tryz.func91, Tryz.ntmps91
  go_upto_region 3 with fail
  generalize w.alloc (.cells #[.pointer (some ⟨g, 0, none⟩), .slice ta tn tc, .bool wide] 132) = w1 at *
  have HO0 := Lib.hid (OwnT.nil 127 w1 (w.heap.size + 1))
  go_loopg [5, 10] N (fun gk u i wr => ∃ (k : Nat) (X : List AtL), k ≤ N ∧ gk = N - k ∧ i = .int .i64 k ∧ Hid (X.length = k) ∧ Hid (X.map AtL.att = (attF l wide (ps.take k) s).1) ∧ Hid (OwnT 127 wr w.heap.size u X) ∧ Hid (CT wr g v l (attF l wide (ps.take k) s).2) ∧ Hid (w.grownBy wr (some g)) ∧ Hid (Box wr w.heap.size 132 #[.pointer (some ⟨g, 0, none⟩), .slice ta tn tc, .bool wide]))
  case atStart => exact ⟨0, [], Nat.zero_le _, rfl, rfl, Lib.hid rfl, Lib.hid rfl, Lib.hid (OwnT.nil _ _ _), HC0, Lib.hid (only_below HB0.out _), HX0⟩
  case round =>
    obtain ⟨k, X, hk, rfl, rfl, HX, HM, HO, HC, HG, HBX⟩ := hrel
    clear HO0 HC0 HB0 HX0
    by_cases hlt : k < N
    · obtain ⟨p, hp⟩ : ∃ p, ps[k]? = some p := ⟨ps[k]'(by rw [HN.out]; exact hlt), List.getElem?_eq_getElem _⟩
      have HS := Lib.hid (attF_snoc l wide (ps.take k) p s)
      have htk : ps.take (k + 1) = ps.take k ++ [p] := by rw [List.take_add_one, hp]; rfl
      rw [← htk] at HS
      have HBB := Lib.hid (below_of_only (B := B) HG.out (by have := HGW.out; have := HBG.out; omega) (fun x hx => by injection hx with hx; have := HBG.out; omega))
      obtain ⟨b, o, rfl, hb, c0, c1, c2⟩ := spc_at (HP.out.below HBB.out) hp
      generalize attF l wide (ps.take k) s = R1 at *
      obtain ⟨R1a, s1⟩ := R1
      simp only at HM HC HS
      have HT := Lib.hid (fun W (hW : CT W g v l s1) => takeW_st hW HL.out p.at_ p.form p.imp wide)
      generalize takeW l p.form p.imp wide s1 = T at *
      obtain ⟨tv, s2⟩ := T
      simp only at HS HT
      obtain ⟨A3, c3, hu⟩ := un_slc HO.out.row
      rw [HX.out] at hu
      subst hu
      have hmx : k + 1 ≤ maxLen := by unfold maxLen; omega
      have hby : (k + 1) * 72 ≤ 140737488355328 := by omega
      have hxc : (AtL.cells ⟨p.at_, ⟨tv, none, 0⟩⟩).length = 6 := rfl
      have hb2 := (Below.refl wr.heap.size wr).alloc (Nat.le_refl _) (.cells #[.int .i64 p.at_, .int .i64 p.form, .int .i64 p.imp] 125)
      have hY := Box.new wr 125 #[.int .i64 p.at_, .int .i64 p.form, .int .i64 p.imp]
      go_upto_region 5 with fail
      generalize wr.alloc (.cells #[.int .i64 p.at_, .int .i64 p.form, .int .i64 p.imp] 125) = w2 at *
      have hb2d : Below wr.heap.size wr w2.drew := hb2.drew
      have HC2 := Lib.hid (HC.out.below hb2d)
      have HO2 := Lib.hid (HO.out.below hb2d)
      have HG2 := Lib.hid (only_then_below HG.out hb2d)
      have HBX2 := Lib.hid (HBX.out.below hb2d HBX.out.lt)
      have HY2 := Lib.hid hY.drew
      have HGR := Lib.hid (show g < wr.heap.size from HC.out.c.1.lt)
      clear hb2 hb2d hY
      generalize wr.heap.size = H at *
      obtain ⟨bn, hbn⟩ : ∃ bn, tv.b.length = bn := ⟨_, rfl⟩
      have HBN := Lib.hid hbn
      have HT2 := Lib.hid (HT.out _ HC2.out)
      obtain ⟨x0, x1, x2⟩ := three_cellsR HBX2.out
      obtain ⟨y0, y1, y2⟩ := three_cellsR HY2.out
      clear HT hbn c0 c1 c2
      have AC := Lib.hid (fun (A : Option Addr) (q : Nat) (u : Value) (hu : u ∈ ([.int .i64 p.at_, .int .i64 tv.form, .int .u64 (tv.u : Int), .int .i64 tv.s, .slice A bn q, .string ⟨tv.t.toArray⟩] : List Value)) => (by
        simp only [List.mem_cons, List.not_mem_nil, or_false] at hu
        rcases hu with rfl | rfl | rfl | rfl | rfl | rfl <;> rfl : u.oneCell' = true))
      go_region_held_law (fun X => X.cell? ⟨w.heap.size, 0, none⟩ = some (.pointer (some ⟨g, 0, none⟩)) ∧ X.cell? ⟨w.heap.size, 2, none⟩ = some (.bool wide) ∧ X.cell? ⟨H, 0, none⟩ = some (.int .i64 p.at_) ∧ X.cell? ⟨H, 1, none⟩ = some (.int .i64 p.form) ∧ X.cell? ⟨H, 2, none⟩ = some (.int .i64 p.imp)) (first | exact ⟨x0, x2, y0, y1, y2⟩ | exact KS3.out | exact KS4.out | exact KS5.out) (first
        | (go_at_call 134; refine HT2.out.mono ?_; rintro r w3 ⟨⟨A5, c5, rfl, hO5⟩, hC5, hG5⟩; have HSP := Lib.hid (own_base hO5 HG2.out.size); rw [HBN.out]; have hx3 := HBX2.out.grown hG5 (fun e => (by injection e with e; have := HGW.out; omega)); have hy3 := HY2.out.grown hG5 (fun e => (by injection e with e; have := HGR.out; omega)); have KS3 := Lib.hid (And.intro (hx3.cell 0) (And.intro (hx3.cell 2) (And.intro (hy3.cell 0) (And.intro (hy3.cell 1) (hy3.cell 2))))); have HC3 := Lib.hid hC5; have HG3 := Lib.hid (HG2.out.trans hG5); have HO3 := Lib.hid (HO2.out.past hG5 HGW.out); have ha3 := (Below.refl w3.heap.size w3).alloc (Nat.le_refl _) (.cells #[.int .i64 p.at_, .int .i64 tv.form, .int .u64 (tv.u : Int), .int .i64 tv.s, .slice A5 bn c5, .string ⟨tv.t.toArray⟩] 127); have hx4 := hx3.below ha3 hx3.lt; have hy4 := hy3.below ha3 hy3.lt; have KS4 := Lib.hid (And.intro (hx4.cell 0) (And.intro (hx4.cell 2) (And.intro (hy4.cell 0) (And.intro (hy4.cell 1) (hy4.cell 2))))); have HX4 := Lib.hid hx4; have HY4 := Lib.hid hy4; have HOA := Lib.hid (row_below (by have := HO3.out.row; rwa [HX.out] at this : w3.ownsRow w.heap.size 127 6 (.slice A3 k c3) k (cellsF AtL.cells X)) ha3); have hsz : w.heap.size ≤ w3.heap.size + 1 := (by have := HG3.out.size; omega); clear hO5 hC5 hG5 hx3 hy3 ha3 hx4 hy4)
        | (refine step_append_lies _ (by rfl) (.tmp 14) (.tmp 24) _ (by rfl) w.heap.size 127 i1 _ 6 72 Tryz.underlying59 hj1 hy0 hy1 hy2 (by rfl) (by decide) (.slice A3 k c3) k (cellsF AtL.cells X) (by rfl) (by exact HOA.out) ⟨w3.heap.size, 0, none⟩ 1 1 [.int .i64 p.at_, .int .i64 tv.form, .int .u64 (tv.u : Int), .int .i64 tv.s, .slice A5 bn c5, .string ⟨tv.t.toArray⟩] (by rfl) rfl (fun j u h => cells_newA w3 [.int .i64 p.at_, .int .i64 tv.form, .int .u64 (tv.u : Int), .int .i64 tv.s, .slice A5 bn c5, .string ⟨tv.t.toArray⟩] _ j u h) (AC.out A5 c5) (by decide) hmx hby (by simpa using hsz) _ rfl ?_; intro g6 c6 w6 hown6 hg6 hat6 hlt6; clear hat6 hlt6; have hx6 := un_box HX4.out HOA.out (by decide) hg6; have hy6 := un_box HY4.out HOA.out (by decide) hg6; have KS5 := Lib.hid (And.intro (hx6.cell 0) (And.intro (hx6.cell 2) (And.intro (hy6.cell 0) (And.intro (hy6.cell 1) (hy6.cell 2))))); have HX6 := Lib.hid hx6; have HO6 := Lib.hid hown6; have HG6 := Lib.hid hg6; clear hown6 hg6 hx6 hy6))
      have ha6 := (Below.refl w3.heap.size w3).alloc (Nat.le_refl _) (.cells #[.int .i64 p.at_, .int .i64 tv.form, .int .u64 (tv.u : Int), .int .i64 tv.s, .slice A5 bn c5, .string ⟨tv.t.toArray⟩] 127)
      have HON := Lib.hid (show OwnT 127 w6 w.heap.size (.slice (some ⟨g6, 0, none⟩) (k + 1) c6) (X ++ [⟨p.at_, ⟨tv, A5, c5⟩⟩]) from (HO3.out.below ha6).snoc (t := ⟨p.at_, ⟨tv, A5, c5⟩⟩) (row_below HSP.out ha6) (by decide) HG6.out (by
        have h := HO6.out
        rw [← HBN.out] at h
        rw [HX.out]
        exact h))
      have HCN := Lib.hid (CT.apart (HC3.out.below ha6) HOA.out (by decide) (by decide) HF.out HZ.out HG6.out)
      have HGN := Lib.hid (only_trans (only_then_below HG3.out ha6) HG6.out (.inr fun x hx => (HOA.out.lt x hx).1))
      clear ha6 HO6 HG6 KS3 KS4 KS5 HOA HSP HC3 HO3 HG3
      go_wp2_with fail
      go_roundg (N - (k + 1))
      case measure => omega
      case rel => exact ⟨k + 1, X ++ [⟨p.at_, ⟨tv, A5, c5⟩⟩], by omega, rfl, by go_num, Lib.hid (by rw [List.length_append, HX.out]; rfl), Lib.hid (by rw [List.map_append, HM.out, HS.out]; rfl), HON, Lib.hid (by rw [HS.out]; exact HCN.out), HGN, HX6⟩
    · have hkn : k = N := by omega
      have htk : ps.take k = ps := List.take_of_length_le (by rw [HN.out]; omega)
      rw [htk] at HM HC
      clear htk
      go_wp2_with fail
      go_ret
      exact ⟨_, X, rfl, HO.out, HM.out, HC.out, HG.out⟩

end Go.Proofs.YtejicboemkpeoaaGreatDoor

namespace Go.Proofs.YtejicboemkpeoaaGreatDoor
open Go Go.RowKit

def psO (o : Option ALay) : List Spc := match o with | none => [] | some y => y.x.l
def stO (o : Option ALay) (s : CSt) : CSt := match o with | none => sF s 40 | some _ => s
theorem entA_eq (l : List UInt8) (wide : Bool) (o : Option ALay) (n d : Nat) (s : CSt) : entA l wide o n d s = attF l wide (psO o) (if bigQ n d = true then sF (stO o s) 3 else stO o s) := by
  cases o <;> rfl
/-- What entry tells: no entry, or one with its values of the call's own. -/
def EntEnd (w : World) (g : Nat) (v : Value) (l : List UInt8) (R : Option (Ent × Bool) × CSt) (x : Ending) (w' : World) : Prop :=
  CT w' g v l R.2 ∧ w.grownBy w' (some g) ∧
    ((R.1 = none ∧ x = .returned (.tuple #[.agg #[.int .u64 0, .int .u64 0, .int .i64 0, .int .i64 0, .int .i64 0, .slice none 0 0], .bool false])) ∨
    ∃ e k A c X, R.1 = some (e, k) ∧ x = .returned (.tuple #[.agg #[.int .u64 (e.off : Int), .int .u64 (e.code : Int), .int .i64 e.tag, .int .i64 0, .int .i64 e.depth, .slice A X.length c], .bool k]) ∧ OwnT 127 w' w.heap.size (.slice A X.length c) X ∧ X.map AtL.att = e.l)
/-- A reader, as a value. -/
abbrev drV (g : Nat) (ta : Option Addr) (tn tc : Nat) (wide : Bool) : Value := .agg #[.pointer (some ⟨g, 0, none⟩), .slice ta tn tc, .bool wide]
/-- The cursor and the tables, the reader's box, the result's cell. -/
structure ESt17 (w wx : World) (g : Nat) (v : Value) (l : List UInt8) (s : CSt) (H0 H1 : Nat) (ta : Option Addr) (tn tc : Nat) (wide : Bool) (cs : Array Value) : Prop where
  ct : CT wx g v l s
  x : Box wx H0 132 #[.pointer (some ⟨g, 0, none⟩), .slice ta tn tc, .bool wide]
  r : Box wx H1 61 cs
  gr : w.grownBy wx (some g)
section
variable {w wx wy : World} {g : Nat} {v : Value} {l : List UInt8} {s s' : CSt} {H0 H1 : Nat} {ta : Option Addr} {tn tc : Nat} {wide : Bool} {cs : Array Value}
theorem ESt17.call (h : ESt17 w wx g v l s H0 H1 ta tn tc wide cs) (ha : Apt w g H0 H1) (hC : CT wy g v l s') (hG : wx.grownBy wy (some g)) : ESt17 w wy g v l s' H0 H1 ta tn tc wide cs :=
  ⟨hC, h.x.grown hG (fun e => by injection e with e; have := ha.g; have := ha.h0; omega), h.r.grown hG (fun e => by injection e with e; have := ha.g; have := ha.h1; omega), h.gr.trans hG⟩
theorem ESt17.later (h : ESt17 w wx g v l s H0 H1 ta tn tc wide cs) (hb : Below wx.heap.size wx wy) : ESt17 w wy g v l s H0 H1 ta tn tc wide cs :=
  ⟨h.ct.below hb, h.x.below hb h.x.lt, h.r.below hb h.r.lt, only_then_below h.gr hb⟩
/-- The result's cell written. -/
theorem ESt17.told (h : ESt17 w wx g v l s H0 H1 ta tn tc wide cs) (ha : Apt w g H0 H1) (hs : cs.size = 6) (v0 v1 v2 v3 v4 v5 : Value) :
    ESt17 w ((((((wx.setCell ⟨H1, 0, none⟩ v0).setCell ⟨H1, 1, none⟩ v1).setCell ⟨H1, 2, none⟩ v2).setCell ⟨H1, 3, none⟩ v3).setCell ⟨H1, 4, none⟩ v4).setCell ⟨H1, 5, none⟩ v5) g v l s H0 H1 ta tn tc wide #[v0, v1, v2, v3, v4, v5] := by
  have G := six_only wx H1 v0 v1 v2 v3 v4 v5
  exact ⟨h.ct.past h.r (by decide) G (by have := ha.g; have := ha.h1; omega) (by have := ha.f; have := ha.h1; omega) (by have := ha.z; have := ha.h1; omega), h.x.grown G (fun e => by injection e with e; exact ha.ne e), six_box h.r hs _ _ _ _ _ _, only_trans h.gr G (.inr fun x hx => by injection hx with hx; have := ha.h1; omega)⟩
end
theorem own_pastT {T T' : TypeId} {w w' : World} {base : Nat} {v : Value} {X : List AtL} {H : Nat} {cs : Array Value} (h : OwnT T w base v X) (hX : Box w H T' cs) (h1 : T ≠ T') (h2 : 5 ≠ T') (hb : w.grownBy w' (some H)) : OwnT T w' base v X :=
  ⟨un_far h.row hb hX (fun e => h1 e.symm), fun t ht => un_far (h.bs t ht) hb hX (fun e => h2 e.symm)⟩
/-- What is found, cell by cell. -/
structure FoundD (w : World) (B : Nat) (o : Option ALay) (tg : Int) (kd : Bool) (sa : Option Addr) (b : Bool) : Prop where
  tag : tagO o = tg
  kid : kidO o = kd
  spcs : Spcs w B sa (psO o)
  b : b = o.isSome
theorem dfind_any {w : World} {B : Nat} {ta : Option Addr} {T : List ALay} (h : Abbs w B ta T) (hB : B ≤ w.heap.size) (tc : Nat) (hTl : T.length ≤ 100000) (hTin : ∀ y ∈ T, y.x.l.length ≤ 100000) (cd : Nat) :
    Calls Tryz.prog 63 #[.slice ta T.length tc, .int .u64 (cd : Int)] w fun r w' => ∃ kc tg kd sa sc b, r = .returned (.tuple #[.agg #[.int .u64 kc, .int .i64 tg, .bool kd, .slice sa (psO (abbK T cd)).length sc], .bool b]) ∧ FoundD w B (abbK T cd) tg kd sa b ∧ Below w.heap.size w w' := by
  refine (findA_any (h.more hB) tc hTl (fun y hy => Nat.le_trans (hTin y hy) (by decide)) cd).mono ?_
  rintro r w' ⟨z, b, rfl, hf, hb⟩
  rcases found_abb hf with ⟨h1, rfl, rfl⟩ | ⟨y, h1, h2, rfl, rfl⟩
  · rw [h1]
    exact ⟨_, _, _, _, _, _, rfl, ⟨rfl, rfl, fun h => absurd h (by decide), rfl⟩, hb⟩
  · rw [h1]
    exact ⟨_, _, _, _, _, _, rfl, ⟨rfl, rfl, h.spcs y h2, rfl⟩, hb⟩
theorem held_ten {W : World} {Hs Hx : Nat} {T T' : TypeId} {c0 c1 c2 d0 d1 d2 d3 : Value} (h : Box W Hs T #[c0, c1, c2]) (h' : Box W Hx T' #[d0, d1, d2, d3]) : W.cell? ⟨Hs, 0, none⟩ = some c0 ∧ W.cell? ⟨Hs, 1, none⟩ = some c1 ∧ W.cell? ⟨Hs, 2, none⟩ = some c2 ∧ W.cell? ⟨Hx, 1, none⟩ = some d1 ∧ W.cell? ⟨Hx, 3, none⟩ = some d3 := by
  obtain ⟨a0, a1, a2⟩ := three_cellsR h
  obtain ⟨b0, b1, b2, b3⟩ := four_cells h'
  exact ⟨a0, a1, a2, b1, b3⟩
theorem held_last {W : World} {Hr Hx : Nat} {T T' : TypeId} {c0 c1 c2 c3 c4 c5 d0 d1 d2 d3 : Value} (h : Box W Hr T #[c0, c1, c2, c3, c4, c5]) (h' : Box W Hx T' #[d0, d1, d2, d3]) : W.cell? ⟨Hr, 0, none⟩ = some c0 ∧ W.cell? ⟨Hr, 1, none⟩ = some c1 ∧ W.cell? ⟨Hr, 2, none⟩ = some c2 ∧ W.cell? ⟨Hr, 3, none⟩ = some c3 ∧ W.cell? ⟨Hr, 4, none⟩ = some c4 ∧ W.cell? ⟨Hr, 5, none⟩ = some c5 ∧ W.cell? ⟨Hx, 2, none⟩ = some d2 := by
  obtain ⟨a0, a1, a2, a3, a4, a5⟩ := six_cells h
  obtain ⟨b0, b1, b2, b3⟩ := four_cells h'
  exact ⟨a0, a1, a2, a3, a4, a5, b2⟩
theorem psO_len {T : List ALay} (hTin : ∀ y ∈ T, y.x.l.length ≤ 100000) (cd : Nat) : (psO (abbK T cd)).length ≤ 100000 := by
  cases h : abbK T cd with
  | none => exact Nat.zero_le _
  | some y => exact hTin y (abbK_mem h)

set_option maxRecDepth 10000 in
set_option maxHeartbeats 3200000 in
theorem dentry_any {w : World} {g : Nat} {v : Value} {l : List UInt8} {s : CSt} (h : CT w g v l s) (hlen : l.length ≤ 140737488355328) {B : Nat} {ta : Option Addr} {T : List ALay} (hT : Abbs w B ta T) (hB : B ≤ g) (tc : Nat) (hTl : T.length ≤ 100000) (hTin : ∀ y ∈ T, y.x.l.length ≤ 100000) (wide : Bool) (n d : Nat) :
    Calls Tryz.prog 53 #[drV g ta T.length tc wide, .int .i64 (n : Int), .int .i64 (d : Int)] w fun x w' => EntEnd w g v l (entF l wide T n d s) x w' := by
  have HGW := Lib.hid (show g < w.heap.size from h.c.1.lt)
  have HBG := Lib.hid hB
  have HC := Lib.hid h
  have HTT := Lib.hid hT
  have HTL := Lib.hid hTl
  have HTI := Lib.hid hTin
  have HL := Lib.hid hlen
  have HAT := Lib.hid (fun W (hW : CT W g v l s) => at_cur hW.c)
  have HU := Lib.hid (fun W (hW : CT W g v l s) => u_st (s := s) hW.c hlen)
  have HR := Lib.hid (show entF l wide T n d s = if tU l s = 0 then (none, sU l s)
    else if (entA l wide (abbK T (tU l s)) n d (sU l s)).2.2 = 0 then (some (⟨s.1, tU l s, tagO (abbK T (tU l s)), 0, (d : Int), (entA l wide (abbK T (tU l s)) n d (sU l s)).1⟩, kidO (abbK T (tU l s))), (entA l wide (abbK T (tU l s)) n d (sU l s)).2)
    else (none, (entA l wide (abbK T (tU l s)) n d (sU l s)).2) from rfl)
  have hal : s.1 ≤ 140737488355328 := Nat.le_trans h.c.2.2 hlen
  have hw0 : IntKind.u64.wrap (s.1 : Int) = (s.1 : Int) := by rw [IntWalk.u64_in _ (by omega)]
  generalize entF l wide T n d s = R at *
  obtain ⟨tn, htn⟩ : ∃ tn, T.length = tn := ⟨_, rfl⟩
  have HTN := Lib.hid htn
  rw [htn]
  clear h hlen hT hB hTl hTin htn
  go_enter Tryz.func53, Tryz.ntmps53
  go_upto_region 1 with fail
  have HA := Lib.hid (show Apt w g w.heap.size (w.heap.size + 1) from ⟨HGW.out, HC.out.f.pos, HC.out.z.pos, Nat.le_refl _, Nat.le_succ _, by omega⟩)
  generalize hw0 : w.alloc (.cells #[.pointer (some ⟨g, 0, none⟩), .slice ta tn tc, .bool wide] 132) = w0
  have hs0 : w0.heap.size = w.heap.size + 1 := by rw [← hw0]; simp
  generalize hw1 : w0.alloc (.cells #[.int .u64 0, .int .u64 0, .int .i64 0, .int .i64 0, .int .i64 0, .slice none 0 0] 61) = w1
  have hX0 := Box.new w 132 #[.pointer (some ⟨g, 0, none⟩), .slice ta tn tc, .bool wide]
  rw [hw0] at hX0
  have hX1 := Box.new w0 61 #[.int .u64 0, .int .u64 0, .int .i64 0, .int .i64 0, .int .i64 0, .slice none 0 0]
  rw [hw1, hs0] at hX1
  have hb0 : Below w.heap.size w w0 := hw0 ▸ (Below.refl _ _).alloc (Nat.le_refl _) _
  have hb1 : Below w0.heap.size w0 w1 := hw1 ▸ (Below.refl _ _).alloc (Nat.le_refl _) _
  have hb01 := hb0.trans (hb1.mono hb0.size)
  have HE := Lib.hid (show ESt17 w w1 g v l s w.heap.size (w.heap.size + 1) ta tn tc wide #[.int .u64 0, .int .u64 0, .int .i64 0, .int .i64 0, .int .i64 0, .slice none 0 0] from ⟨HC.out.below hb01, hX0.below hb1 hX0.lt, hX1, only_below hb01 _⟩)
  have HBW := Lib.hid (show B ≤ w.heap.size from Nat.le_trans HBG.out (Nat.le_of_lt HGW.out))
  clear hw0 hs0 hw1 hX0 hX1 hb0 hb1 hb01
  generalize hHr : w.heap.size + 1 = Hr at *
  generalize hHs : w.heap.size = Hs at HA HE ⊢
  clear hHr hHs
  obtain ⟨p0, p1, p2⟩ := three_cellsR HE.out.x
  go_upto_region 3 with (first
    | (go_at_call 89; refine (HAT.out _ HE.out.ct).mono ?_; rintro r w2 ⟨rfl, rfl⟩)
    | (go_at_call 90; refine (HU.out _ HE.out.ct).mono ?_; rintro r w3 ⟨rfl, hC3, hG3⟩; have HE3 := Lib.hid (HE.out.call HA.out (HE.out.ct.step hC3 hG3) hG3); clear hC3 hG3))
  clear p0 p1 p2 HU HAT HE HC hw0
  obtain ⟨p0, p1, p2⟩ := three_cellsR HE3.out.x
  obtain ⟨z0, z1, z2, z3, z4, z5⟩ := six_cells HE3.out.r
  obtain ⟨f0, f1, f2, f3, f4, f5⟩ := six_free HE3.out.r
  obtain ⟨cd, hcd⟩ : ∃ cd, tU l s = cd := ⟨_, rfl⟩
  rw [hcd] at HR ⊢
  clear hcd
  by_cases h0 : cd = 0
  · have q : ((cd : Int) == 0) = true := by simpa using h0
    rw [if_pos h0] at HR
    clear h0
    have HE4 := Lib.hid (HE3.out.told HA.out rfl (.int .u64 0) (.int .u64 0) (.int .i64 0) (.int .i64 0) (.int .i64 0) (.slice none 0 0))
    go_wp2_with fail
    refine ret_two Tryz.underlying61 Tryz.results53 HE4.out.r (by kernel_rfl) (by rfl) rfl ?_
    exact ⟨by rw [HR.out]; exact HE4.out.ct, HE4.out.gr, .inl ⟨by rw [HR.out], rfl⟩⟩
  have q : ((cd : Int) == 0) = false := by simpa using h0
  rw [if_neg h0] at HR
  clear h0
  have HBT := Lib.hid (below_of_only (B := B) HE3.out.gr HBW.out (fun x hx => by injection hx with hx; rw [← hx]; exact HBG.out))
  have HFD := Lib.hid (dfind_any (HTT.out.below HBT.out) (Nat.le_trans HBW.out HE3.out.gr.size) tc HTL.out HTI.out cd)
  have HPL := Lib.hid (psO_len HTI.out cd)
  have HEA := Lib.hid (entA_eq l wide (abbK T cd) n d (sU l s))
  rw [HTN.out] at HFD
  obtain ⟨o, ho⟩ : ∃ o, abbK T cd = o := ⟨_, rfl⟩
  rw [ho] at HFD HPL HEA HR
  obtain ⟨pn, hpn⟩ : ∃ pn, (psO o).length = pn := ⟨_, rfl⟩
  have HPN := Lib.hid hpn
  rw [hpn] at HFD HPL
  obtain ⟨s1, hs1⟩ : ∃ s1, sU l s = s1 := ⟨_, rfl⟩
  rw [hs1] at HE3 HEA HR
  clear ho hpn hs1
  go_upto_region 6 with (go_at_call 63; refine HFD.out.mono ?_; rintro r w4 ⟨kc, tg, kd, sa, sc, b, rfl, hFD, hb4⟩; have HFO := Lib.hid hFD; have HB4 := Lib.hid hb4; clear hFD hb4)
  have hX5 := Box.new w4 123 #[.int .u64 kc, .int .i64 tg, .bool kd, .slice sa pn sc]
  have hb5 : Below w4.heap.size w4 (w4.alloc (.cells #[.int .u64 kc, .int .i64 tg, .bool kd, .slice sa pn sc] 123)) := (Below.refl _ _).alloc (Nat.le_refl _) _
  generalize hw5 : w4.alloc (.cells #[.int .u64 kc, .int .i64 tg, .bool kd, .slice sa pn sc] 123) = w5 at *
  have HE5 := Lib.hid ((HE3.out.later HB4.out).later hb5)
  have HSP := Lib.hid (Row.below HFO.out.spcs (((HB4.out.trans (hb5.mono HB4.out.size)).mono (Nat.le_trans HBW.out HE3.out.gr.size))))
  have HX5 := Lib.hid hX5
  have HGX := Lib.hid (show g < w4.heap.size from Nat.lt_of_lt_of_le HGW.out (Nat.le_trans HE3.out.gr.size HB4.out.size))
  clear hw5 hb5 hX5 p0 p1 p2 z0 z1 z2 z3 z4 z5 f0 f1 f2 f3 f4 f5 HE3 HFD HB4 HBT
  generalize w4.heap.size = Hx at *
  obtain ⟨p0, p1, p2⟩ := three_cellsR HE5.out.x
  have HOB := HFO.out.b
  subst HOB
  have HST := Lib.hid (show stO o s1 = if o.isSome = true then s1 else sF s1 40 by cases o <;> rfl)
  have HF1 := Lib.hid (fun W (hW : CT W g v l s1) => f_st (s := s1) hW.c 40)
  have HF2 := Lib.hid (fun W (hW : CT W g v l (stO o s1)) => f_st (s := stO o s1) hW.c 3)
  obtain ⟨s2, hs2⟩ : ∃ s2, stO o s1 = s2 := ⟨_, rfl⟩
  rw [hs2] at HST HEA HF2
  clear hs2
  have HTK := Lib.hid (And.intro HFO.out.tag HFO.out.kid)
  clear HFO
  obtain ⟨ob, hob⟩ : ∃ ob, o.isSome = ob := ⟨_, rfl⟩
  rw [hob] at HST ⊢
  clear hob
  go_upto_if 30 with fail
  go_cut [] (fun wx => ESt17 w wx g v l s2 Hs Hr ta tn tc wide #[.int .u64 0, .int .u64 0, .int .i64 0, .int .i64 0, .int .i64 0, .slice none 0 0] ∧ Box wx Hx 123 #[.int .u64 kc, .int .i64 tg, .bool kd, .slice sa pn sc] ∧ Spcs wx B sa (psO o))
  case first =>
    cases ob with
    | false =>
      have hst := HST.out
      rw [if_neg (by decide)] at hst
      subst hst
      go_wp2_with (go_at_call 54; refine (HF1.out _ HE5.out.ct).mono ?_; rintro r w6 ⟨rfl, hC6, hG6⟩; have HE6 := Lib.hid (HE5.out.call HA.out (HE5.out.ct.step hC6 hG6) hG6); have HX6 := Lib.hid (HX5.out.grown hG6 (fun e => by injection e with e; have := HGX.out; omega)); have HS6 := Lib.hid (Row.below HSP.out (below_of_only (B := B) hG6 (Nat.le_trans HBW.out HE5.out.gr.size) (fun x hx => by injection hx with hx; rw [← hx]; exact HBG.out))); clear hC6 hG6)
      go_meet
      case rel => exact ⟨HE6.out, HX6.out, HS6.out⟩
    | true =>
      have hst := HST.out
      rw [if_pos rfl] at hst
      subst hst
      go_wp2_with fail
      go_meet
      case rel => exact ⟨HE5.out, HX5.out, HSP.out⟩
  case rest =>
  clear p0 p1 p2
  have HE7 := Lib.hid hcut.1
  have HX7 := Lib.hid hcut.2.1
  have HS7 := Lib.hid hcut.2.2
  clear hcut HE5 HX5 HSP HF1 HST
  obtain ⟨p0, p1, p2⟩ := three_cellsR HE7.out.x
  obtain ⟨q1, hq1⟩ : ∃ q, decide (1000 ≤ n) = q := ⟨_, rfl⟩
  obtain ⟨q2, hq2⟩ : ∃ q, decide (40 < d) = q := ⟨_, rfl⟩
  have HBQ := Lib.hid (show bigQ n d = (q1 || q2) by unfold bigQ; rw [hq1, hq2])
  have d1 : decide ((1000 : Int) ≤ (n : Int)) = q1 := by rw [← hq1, Bool.eq_iff_iff]; simp; omega
  have d2 : decide ((40 : Int) < (d : Int)) = q2 := by rw [← hq2, Bool.eq_iff_iff]; simp; omega
  rw [HBQ.out] at HEA
  have HS3 := Lib.hid (show (if (q1 || q2) = true then sF s2 3 else s2) = (if (q1 || q2) = true then sF s2 3 else s2) from rfl)
  generalize hs3 : (if (q1 || q2) = true then sF s2 3 else s2) = s3 at HEA HS3
  rcases (by cases q1 <;> cases q2 <;> simp : q1 = true ∨ (q1 = false ∧ q2 = true) ∨ (q1 = false ∧ q2 = false)) with rfl | ⟨rfl, rfl⟩ | ⟨rfl, rfl⟩
  · simp only [Bool.true_or, if_true] at hs3
    go_upto_region 10 with (go_at_call 54; refine (HF2.out _ HE7.out.ct).mono ?_; rintro r w8 ⟨rfl, hC8, hG8⟩; have HE8 := Lib.hid (HE7.out.call HA.out (HE7.out.ct.step hC8 hG8) hG8); have HX8 := Lib.hid (HX7.out.grown hG8 (fun e => by injection e with e; have := HGX.out; omega)); have HS8 := Lib.hid (Row.below HS7.out (below_of_only (B := B) hG8 (Nat.le_trans HBW.out HE7.out.gr.size) (fun x hx => by injection hx with hx; rw [← hx]; exact HBG.out))); clear hC8 hG8)
    rw [hs3] at HE8
    clear hs3
    clear p0 p1 p2
    have h8d : Below w8.heap.size w8 w8.drew := (Below.refl _ _).drew
    have HE8d := Lib.hid (HE8.out.later h8d)
    have HX8d := Lib.hid HX8.out.drew
    have hat8 := dattrs_any HE8d.out.ct HL.out (Row.below HS8.out (h8d.mono (Nat.le_trans HBW.out HE8.out.gr.size))) HBG.out sc (by rw [HPN.out]; exact HPL.out) wide ta tn tc
    rw [HPN.out] at hat8
    obtain ⟨TA, s4, hta⟩ : ∃ TA s4, attF l wide (psO o) s3 = (TA, s4) := ⟨_, _, rfl⟩
    rw [hta] at hat8 HEA
    have HAT8 := Lib.hid hat8
    clear hat8 hta h8d
    have HER := Lib.hid (fun W (hW : CT W g v l s4) => err_cur hW.c)
    obtain ⟨p0, p1, p2⟩ := three_cellsR HE8d.out.x
    obtain ⟨y0, y1, y2, y3⟩ := four_cells HX8d.out
    refine wp_region_held_drew (S := fun X => X.cell? ⟨Hs, 0, none⟩ = some (.pointer (some ⟨g, 0, none⟩)) ∧ X.cell? ⟨Hs, 1, none⟩ = some (.slice ta tn tc) ∧ X.cell? ⟨Hs, 2, none⟩ = some (.bool wide) ∧ X.cell? ⟨Hx, 1, none⟩ = some (.int .i64 tg) ∧ X.cell? ⟨Hx, 3, none⟩ = some (.slice sa pn sc)) (by kernel_rfl) ?_ (fun hHeld => ?_)
    · exact ⟨p0, p1, p2, y1, y3⟩
    refine take_r (i := 0) (v := ?_) rfl (by kernel_rfl) (by kernel_rfl) (by kernel_rfl) (fun _ _ _ h => h) (Or.inl ⟨by rfl, ?_⟩) hHeld ?_
    rotate_left
    · (intro wS hSw; (try dsimp only at hSw); go_simp; (try with_reducible rfl))
    try simp only [Act.put, List.setIfInBounds_toArray, List.set_cons_zero, List.set_cons_succ]
    refine take_r (i := 1) (v := ?_) rfl (by kernel_rfl) (by kernel_rfl) (by kernel_rfl) (fun _ _ _ h => h) (Or.inl ⟨by rfl, ?_⟩) hHeld ?_
    rotate_left
    · (intro wS hSw; (try dsimp only at hSw); go_simp; (try with_reducible rfl))
    try simp only [Act.put, List.setIfInBounds_toArray, List.set_cons_zero, List.set_cons_succ]
    refine take_r (i := 2) (v := ?_) rfl (by kernel_rfl) (by kernel_rfl) (by kernel_rfl) (fun _ _ _ h => h) (Or.inl ⟨by rfl, ?_⟩) hHeld ?_
    rotate_left
    · (intro wS hSw; (try dsimp only at hSw); go_simp; (try with_reducible rfl))
    try simp only [Act.put, List.setIfInBounds_toArray, List.set_cons_zero, List.set_cons_succ]
    refine take_r (i := 3) (v := ?_) rfl (by kernel_rfl) (by kernel_rfl) (by kernel_rfl) (fun _ _ _ h => h) (Or.inl ⟨by rfl, ?_⟩) hHeld ?_
    rotate_left
    · (intro wS hSw; (try dsimp only at hSw); go_simp; (try with_reducible rfl))
    try simp only [Act.put, List.setIfInBounds_toArray, List.set_cons_zero, List.set_cons_succ]
    refine take_r (i := 4) (v := ?_) rfl (by kernel_rfl) (by kernel_rfl) (by kernel_rfl) (fun _ _ _ h => h) (Or.inl ⟨by rfl, ?_⟩) hHeld ?_
    rotate_left
    · (intro wS hSw; (try dsimp only at hSw); go_simp; (try with_reducible rfl))
    try simp only [Act.put, List.setIfInBounds_toArray, List.set_cons_zero, List.set_cons_succ]
    refine take_r (i := 5) (v := ?_) rfl (by kernel_rfl) (by kernel_rfl) (by kernel_rfl) (fun _ _ _ h => h) (Or.inl ⟨by rfl, ?_⟩) hHeld ?_
    rotate_left
    · (intro wS hSw; (try dsimp only at hSw); go_simp; (try with_reducible rfl))
    try simp only [Act.put, List.setIfInBounds_toArray, List.set_cons_zero, List.set_cons_succ]
    refine take_r (i := 6) (v := ?_) rfl (by kernel_rfl) (by kernel_rfl) (by kernel_rfl) (fun _ _ _ h => h) (Or.inl ⟨by rfl, ?_⟩) hHeld ?_
    rotate_left
    · (intro wS hSw; (try dsimp only at hSw); go_simp; (try with_reducible rfl))
    try simp only [Act.put, List.setIfInBounds_toArray, List.set_cons_zero, List.set_cons_succ]
    refine take_r (i := 7) (v := ?_) rfl (by kernel_rfl) (by kernel_rfl) (by kernel_rfl) (fun _ _ _ h => h) (Or.inl ⟨by rfl, ?_⟩) hHeld ?_
    rotate_left
    · (intro wS hSw; (try dsimp only at hSw); go_simp; (try with_reducible rfl))
    try simp only [Act.put, List.setIfInBounds_toArray, List.set_cons_zero, List.set_cons_succ]
    refine wpAnyH_ready (rs := [8]) (by kernel_rfl) (by simp) ?_
    refine ready_r rfl (fun K hK => ?_)
    go_simp
    go_wp2_with (go_at_call 91; refine HAT8.out.mono ?_; rintro r w9 ⟨u9, X9, rfl, hO9, hM9, hC9, hG9⟩; (obtain ⟨A9, c9, rfl⟩ := un_slc hO9.row); have HE9 := Lib.hid (HE8d.out.call HA.out hC9 hG9); have HX9 := Lib.hid (HX8d.out.grown hG9 (fun e => by injection e with e; have := HGX.out; omega)); have HO9 := Lib.hid hO9; have HM9 := Lib.hid hM9)
    refine hK.out _ _ ?_ (fun hNew => ?_)
    · exact held_ten HE9.out.x HX9.out
    clear hHeld hK K
    have hHeld := hNew
    clear hNew
    clear hO9 hM9 hC9 hG9
    obtain ⟨z0, z1, z2, z3, z4, z5⟩ := six_cells HE9.out.r
    obtain ⟨f0, f1, f2, f3, f4, f5⟩ := six_free HE9.out.r
    refine take_r (i := 9) (v := ?_) rfl (by kernel_rfl) (by kernel_rfl) (by kernel_rfl) (fun _ _ _ h => h) (Or.inl ⟨by rfl, ?_⟩) hHeld ?_
    rotate_left
    · (intro wS hSw; (try dsimp only at hSw); go_simp; (try with_reducible rfl))
    try simp only [Act.put, List.setIfInBounds_toArray, List.set_cons_zero, List.set_cons_succ]
    refine wpAnyH_ready (rs := [10]) (by kernel_rfl) (by simp) ?_
    refine ready_r rfl (fun K hK => ?_)
    go_simp
    go_wp2_with (fail)
    refine hK.out _ _ ?_ (fun hNew => ?_)
    · exact held_ten (HE9.out.told HA.out rfl (.int .u64 (s.1 : Int)) (.int .u64 (cd : Int)) (.int .i64 tg) (.int .i64 0) (.int .i64 (d : Int)) (.slice A9 X9.length c9)).x (HX9.out.grown (six_only w9 Hr (.int .u64 (s.1 : Int)) (.int .u64 (cd : Int)) (.int .i64 tg) (.int .i64 0) (.int .i64 (d : Int)) (.slice A9 X9.length c9)) (fun e => by injection e with e; exact (HX9.out.other HE9.out.r (by decide)) e))
    clear hHeld hK K
    have hHeld := hNew
    clear hNew
    refine wpAnyH_done (by kernel_rfl) ?_ _
    have HE10 := Lib.hid (HE9.out.told HA.out rfl (.int .u64 (s.1 : Int)) (.int .u64 (cd : Int)) (.int .i64 tg) (.int .i64 0) (.int .i64 (d : Int)) (.slice A9 X9.length c9))
    have HX10 := Lib.hid (HX9.out.grown (six_only w9 Hr (.int .u64 (s.1 : Int)) (.int .u64 (cd : Int)) (.int .i64 tg) (.int .i64 0) (.int .i64 (d : Int)) (.slice A9 X9.length c9)) (fun e => by injection e with e; exact (HX9.out.other HE9.out.r (by decide)) e))
    have HO10 := Lib.hid (own_pastT HO9.out HE9.out.r (by decide) (by decide) (six_only w9 Hr (.int .u64 (s.1 : Int)) (.int .u64 (cd : Int)) (.int .i64 tg) (.int .i64 0) (.int .i64 (d : Int)) (.slice A9 X9.length c9)))
    clear p0 p1 p2 y0 y1 y2 y3 z0 z1 z2 z3 z4 z5 f0 f1 f2 f3 f4 f5 hHeld
    generalize (((((w9.setCell ⟨Hr, 0, none⟩ (.int .u64 (s.1 : Int))).setCell ⟨Hr, 1, none⟩ (.int .u64 (cd : Int))).setCell ⟨Hr, 2, none⟩ (.int .i64 tg)).setCell ⟨Hr, 3, none⟩ (.int .i64 0)).setCell ⟨Hr, 4, none⟩ (.int .i64 (d : Int))).setCell ⟨Hr, 5, none⟩ (.slice A9 X9.length c9) = w10 at *
    clear HE9 HX9 HO9
    obtain ⟨z0, z1, z2, z3, z4, z5⟩ := six_cells HE10.out.r
    obtain ⟨f0, f1, f2, f3, f4, f5⟩ := six_free HE10.out.r
    obtain ⟨p0, p1, p2⟩ := three_cellsR HE10.out.x
    obtain ⟨y0, y1, y2, y3⟩ := four_cells HX10.out
    by_cases he : s4.2 = 0
    · have q5 : (s4.2 != 0) = false := by rw [he]; rfl
      rw [HEA.out, if_pos he] at HR
      clear he
      go_upto_region 13 with (go_at_call 56; refine (HER.out _ HE10.out.ct).mono ?_; rintro r w11 ⟨rfl, rfl⟩)
      have h10d : Below w10.heap.size w10 w10.drew := (Below.refl _ _).drew
      have HE10d := Lib.hid (HE10.out.later h10d)
      have HX10d := Lib.hid HX10.out.drew
      have HO10d := Lib.hid (HO10.out.below h10d)
      clear z0 z1 z2 z3 z4 z5 f0 f1 f2 f3 f4 f5 p0 p1 p2 y0 y1 y2 y3 h10d
      obtain ⟨z0, z1, z2, z3, z4, z5⟩ := six_cells HE10d.out.r
      obtain ⟨f0, f1, f2, f3, f4, f5⟩ := six_free HE10d.out.r
      obtain ⟨y0, y1, y2, y3⟩ := four_cells HX10d.out
      refine wp_region_held_drew (S := fun X => X.cell? ⟨Hr, 0, none⟩ = some (.int .u64 (s.1 : Int)) ∧ X.cell? ⟨Hr, 1, none⟩ = some (.int .u64 (cd : Int)) ∧ X.cell? ⟨Hr, 2, none⟩ = some (.int .i64 tg) ∧ X.cell? ⟨Hr, 3, none⟩ = some (.int .i64 0) ∧ X.cell? ⟨Hr, 4, none⟩ = some (.int .i64 (d : Int)) ∧ X.cell? ⟨Hr, 5, none⟩ = some (.slice A9 X9.length c9) ∧ X.cell? ⟨Hx, 2, none⟩ = some (.bool kd)) (by kernel_rfl) ?_ (fun hHeld => ?_)
      · exact ⟨z0, z1, z2, z3, z4, z5, y2⟩
      generalize w10.drew = w12 at *
      refine take_r (i := 0) (v := ?_) rfl (by kernel_rfl) (by kernel_rfl) (by kernel_rfl) (fun _ _ _ h => h) (Or.inl ⟨by rfl, ?_⟩) hHeld ?_
      rotate_left
      · (intro wS hSw; (try dsimp only at hSw); go_simp; (try with_reducible rfl))
      try simp only [Act.put, List.setIfInBounds_toArray, List.set_cons_zero, List.set_cons_succ]
      refine take_r (i := 1) (v := ?_) rfl (by kernel_rfl) (by kernel_rfl) (by kernel_rfl) (fun _ _ _ h => h) (Or.inl ⟨by rfl, ?_⟩) hHeld ?_
      rotate_left
      · (intro wS hSw; (try dsimp only at hSw); go_simp; (try with_reducible rfl))
      try simp only [Act.put, List.setIfInBounds_toArray, List.set_cons_zero, List.set_cons_succ]
      refine take_r (i := 2) (v := ?_) rfl (by kernel_rfl) (by kernel_rfl) (by kernel_rfl) (fun _ _ _ h => h) (Or.inl ⟨by rfl, ?_⟩) hHeld ?_
      rotate_left
      · (intro wS hSw; (try dsimp only at hSw); go_simp; (try with_reducible rfl))
      try simp only [Act.put, List.setIfInBounds_toArray, List.set_cons_zero, List.set_cons_succ]
      refine wpAnyH_ready (rs := [3]) (by kernel_rfl) (by simp) ?_
      refine ready_r rfl (fun K hK => ?_)
      go_simp
      go_wp2_with (fail)
      refine hK.out _ _ ?_ (fun hNew => ?_)
      · exact held_last (HE10d.out.told HA.out rfl (.int .u64 (s.1 : Int)) (.int .u64 (cd : Int)) (.int .i64 tg) (.int .i64 0) (.int .i64 (d : Int)) (.slice A9 X9.length c9)).r (HX10d.out.grown (six_only w12 Hr (.int .u64 (s.1 : Int)) (.int .u64 (cd : Int)) (.int .i64 tg) (.int .i64 0) (.int .i64 (d : Int)) (.slice A9 X9.length c9)) (fun e => by injection e with e; exact (HX10d.out.other HE10d.out.r (by decide)) e))
      clear hHeld hK K
      have hHeld := hNew
      clear hNew
      refine take_r (i := 4) (v := ?_) rfl (by kernel_rfl) (by kernel_rfl) (by kernel_rfl) (fun _ _ _ h => h) (Or.inl ⟨by rfl, ?_⟩) hHeld ?_
      rotate_left
      · (intro wS hSw; (try dsimp only at hSw); go_simp; (try with_reducible rfl))
      try simp only [Act.put, List.setIfInBounds_toArray, List.set_cons_zero, List.set_cons_succ]
      refine wpAnyH_done (by kernel_rfl) ?_ _
      have HE11 := Lib.hid (HE10d.out.told HA.out rfl (.int .u64 (s.1 : Int)) (.int .u64 (cd : Int)) (.int .i64 tg) (.int .i64 0) (.int .i64 (d : Int)) (.slice A9 X9.length c9))
      have HO11 := Lib.hid (own_pastT HO10d.out HE10d.out.r (by decide) (by decide) (six_only w12 Hr (.int .u64 (s.1 : Int)) (.int .u64 (cd : Int)) (.int .i64 tg) (.int .i64 0) (.int .i64 (d : Int)) (.slice A9 X9.length c9)))
      clear hHeld
      generalize (((((w12.setCell ⟨Hr, 0, none⟩ (.int .u64 (s.1 : Int))).setCell ⟨Hr, 1, none⟩ (.int .u64 (cd : Int))).setCell ⟨Hr, 2, none⟩ (.int .i64 tg)).setCell ⟨Hr, 3, none⟩ (.int .i64 0)).setCell ⟨Hr, 4, none⟩ (.int .i64 (d : Int))).setCell ⟨Hr, 5, none⟩ (.slice A9 X9.length c9) = w11 at *
      repeat (first | go_skip | go_guarded | go_step | go_upon)
      refine ret_two Tryz.underlying61 Tryz.results53 HE11.out.r (by kernel_rfl) (by rfl) rfl ?_
      exact ⟨by rw [HR.out]; exact HE11.out.ct, HE11.out.gr, .inr ⟨_, _, A9, c9, X9, by rw [HR.out], by rw [HTK.out.1, HTK.out.2]; rfl, HO11.out.lower HE8d.out.gr.size, HM9.out⟩⟩
    · have q5 : (s4.2 != 0) = true := by simpa using he
      rw [HEA.out, if_neg he] at HR
      have HE11 := Lib.hid (HE10.out.told HA.out rfl (.int .u64 0) (.int .u64 0) (.int .i64 0) (.int .i64 0) (.int .i64 0) (.slice none 0 0))
      clear he
      go_upto_region 12 with (go_at_call 56; refine (HER.out _ HE10.out.ct).mono ?_; rintro r w11 ⟨rfl, rfl⟩)
      repeat (first | go_skip | go_guarded | go_step | go_upon)
      refine ret_two Tryz.underlying61 Tryz.results53 HE11.out.r (by kernel_rfl) (by rfl) rfl ?_
      exact ⟨by rw [HR.out]; exact HE11.out.ct, HE11.out.gr, .inl ⟨by rw [HR.out], rfl⟩⟩
  · simp only [Bool.or_true, if_true] at hs3
    go_upto_region 10 with (go_at_call 54; refine (HF2.out _ HE7.out.ct).mono ?_; rintro r w8 ⟨rfl, hC8, hG8⟩; have HE8 := Lib.hid (HE7.out.call HA.out (HE7.out.ct.step hC8 hG8) hG8); have HX8 := Lib.hid (HX7.out.grown hG8 (fun e => by injection e with e; have := HGX.out; omega)); have HS8 := Lib.hid (Row.below HS7.out (below_of_only (B := B) hG8 (Nat.le_trans HBW.out HE7.out.gr.size) (fun x hx => by injection hx with hx; rw [← hx]; exact HBG.out))); clear hC8 hG8)
    rw [hs3] at HE8
    clear hs3
    clear p0 p1 p2
    have h8d : Below w8.heap.size w8 w8.drew := (Below.refl _ _).drew
    have HE8d := Lib.hid (HE8.out.later h8d)
    have HX8d := Lib.hid HX8.out.drew
    have hat8 := dattrs_any HE8d.out.ct HL.out (Row.below HS8.out (h8d.mono (Nat.le_trans HBW.out HE8.out.gr.size))) HBG.out sc (by rw [HPN.out]; exact HPL.out) wide ta tn tc
    rw [HPN.out] at hat8
    obtain ⟨TA, s4, hta⟩ : ∃ TA s4, attF l wide (psO o) s3 = (TA, s4) := ⟨_, _, rfl⟩
    rw [hta] at hat8 HEA
    have HAT8 := Lib.hid hat8
    clear hat8 hta h8d
    have HER := Lib.hid (fun W (hW : CT W g v l s4) => err_cur hW.c)
    obtain ⟨p0, p1, p2⟩ := three_cellsR HE8d.out.x
    obtain ⟨y0, y1, y2, y3⟩ := four_cells HX8d.out
    refine wp_region_held_drew (S := fun X => X.cell? ⟨Hs, 0, none⟩ = some (.pointer (some ⟨g, 0, none⟩)) ∧ X.cell? ⟨Hs, 1, none⟩ = some (.slice ta tn tc) ∧ X.cell? ⟨Hs, 2, none⟩ = some (.bool wide) ∧ X.cell? ⟨Hx, 1, none⟩ = some (.int .i64 tg) ∧ X.cell? ⟨Hx, 3, none⟩ = some (.slice sa pn sc)) (by kernel_rfl) ?_ (fun hHeld => ?_)
    · exact ⟨p0, p1, p2, y1, y3⟩
    refine take_r (i := 0) (v := ?_) rfl (by kernel_rfl) (by kernel_rfl) (by kernel_rfl) (fun _ _ _ h => h) (Or.inl ⟨by rfl, ?_⟩) hHeld ?_
    rotate_left
    · (intro wS hSw; (try dsimp only at hSw); go_simp; (try with_reducible rfl))
    try simp only [Act.put, List.setIfInBounds_toArray, List.set_cons_zero, List.set_cons_succ]
    refine take_r (i := 1) (v := ?_) rfl (by kernel_rfl) (by kernel_rfl) (by kernel_rfl) (fun _ _ _ h => h) (Or.inl ⟨by rfl, ?_⟩) hHeld ?_
    rotate_left
    · (intro wS hSw; (try dsimp only at hSw); go_simp; (try with_reducible rfl))
    try simp only [Act.put, List.setIfInBounds_toArray, List.set_cons_zero, List.set_cons_succ]
    refine take_r (i := 2) (v := ?_) rfl (by kernel_rfl) (by kernel_rfl) (by kernel_rfl) (fun _ _ _ h => h) (Or.inl ⟨by rfl, ?_⟩) hHeld ?_
    rotate_left
    · (intro wS hSw; (try dsimp only at hSw); go_simp; (try with_reducible rfl))
    try simp only [Act.put, List.setIfInBounds_toArray, List.set_cons_zero, List.set_cons_succ]
    refine take_r (i := 3) (v := ?_) rfl (by kernel_rfl) (by kernel_rfl) (by kernel_rfl) (fun _ _ _ h => h) (Or.inl ⟨by rfl, ?_⟩) hHeld ?_
    rotate_left
    · (intro wS hSw; (try dsimp only at hSw); go_simp; (try with_reducible rfl))
    try simp only [Act.put, List.setIfInBounds_toArray, List.set_cons_zero, List.set_cons_succ]
    refine take_r (i := 4) (v := ?_) rfl (by kernel_rfl) (by kernel_rfl) (by kernel_rfl) (fun _ _ _ h => h) (Or.inl ⟨by rfl, ?_⟩) hHeld ?_
    rotate_left
    · (intro wS hSw; (try dsimp only at hSw); go_simp; (try with_reducible rfl))
    try simp only [Act.put, List.setIfInBounds_toArray, List.set_cons_zero, List.set_cons_succ]
    refine take_r (i := 5) (v := ?_) rfl (by kernel_rfl) (by kernel_rfl) (by kernel_rfl) (fun _ _ _ h => h) (Or.inl ⟨by rfl, ?_⟩) hHeld ?_
    rotate_left
    · (intro wS hSw; (try dsimp only at hSw); go_simp; (try with_reducible rfl))
    try simp only [Act.put, List.setIfInBounds_toArray, List.set_cons_zero, List.set_cons_succ]
    refine take_r (i := 6) (v := ?_) rfl (by kernel_rfl) (by kernel_rfl) (by kernel_rfl) (fun _ _ _ h => h) (Or.inl ⟨by rfl, ?_⟩) hHeld ?_
    rotate_left
    · (intro wS hSw; (try dsimp only at hSw); go_simp; (try with_reducible rfl))
    try simp only [Act.put, List.setIfInBounds_toArray, List.set_cons_zero, List.set_cons_succ]
    refine take_r (i := 7) (v := ?_) rfl (by kernel_rfl) (by kernel_rfl) (by kernel_rfl) (fun _ _ _ h => h) (Or.inl ⟨by rfl, ?_⟩) hHeld ?_
    rotate_left
    · (intro wS hSw; (try dsimp only at hSw); go_simp; (try with_reducible rfl))
    try simp only [Act.put, List.setIfInBounds_toArray, List.set_cons_zero, List.set_cons_succ]
    refine wpAnyH_ready (rs := [8]) (by kernel_rfl) (by simp) ?_
    refine ready_r rfl (fun K hK => ?_)
    go_simp
    go_wp2_with (go_at_call 91; refine HAT8.out.mono ?_; rintro r w9 ⟨u9, X9, rfl, hO9, hM9, hC9, hG9⟩; (obtain ⟨A9, c9, rfl⟩ := un_slc hO9.row); have HE9 := Lib.hid (HE8d.out.call HA.out hC9 hG9); have HX9 := Lib.hid (HX8d.out.grown hG9 (fun e => by injection e with e; have := HGX.out; omega)); have HO9 := Lib.hid hO9; have HM9 := Lib.hid hM9)
    refine hK.out _ _ ?_ (fun hNew => ?_)
    · exact held_ten HE9.out.x HX9.out
    clear hHeld hK K
    have hHeld := hNew
    clear hNew
    clear hO9 hM9 hC9 hG9
    obtain ⟨z0, z1, z2, z3, z4, z5⟩ := six_cells HE9.out.r
    obtain ⟨f0, f1, f2, f3, f4, f5⟩ := six_free HE9.out.r
    refine take_r (i := 9) (v := ?_) rfl (by kernel_rfl) (by kernel_rfl) (by kernel_rfl) (fun _ _ _ h => h) (Or.inl ⟨by rfl, ?_⟩) hHeld ?_
    rotate_left
    · (intro wS hSw; (try dsimp only at hSw); go_simp; (try with_reducible rfl))
    try simp only [Act.put, List.setIfInBounds_toArray, List.set_cons_zero, List.set_cons_succ]
    refine wpAnyH_ready (rs := [10]) (by kernel_rfl) (by simp) ?_
    refine ready_r rfl (fun K hK => ?_)
    go_simp
    go_wp2_with (fail)
    refine hK.out _ _ ?_ (fun hNew => ?_)
    · exact held_ten (HE9.out.told HA.out rfl (.int .u64 (s.1 : Int)) (.int .u64 (cd : Int)) (.int .i64 tg) (.int .i64 0) (.int .i64 (d : Int)) (.slice A9 X9.length c9)).x (HX9.out.grown (six_only w9 Hr (.int .u64 (s.1 : Int)) (.int .u64 (cd : Int)) (.int .i64 tg) (.int .i64 0) (.int .i64 (d : Int)) (.slice A9 X9.length c9)) (fun e => by injection e with e; exact (HX9.out.other HE9.out.r (by decide)) e))
    clear hHeld hK K
    have hHeld := hNew
    clear hNew
    refine wpAnyH_done (by kernel_rfl) ?_ _
    have HE10 := Lib.hid (HE9.out.told HA.out rfl (.int .u64 (s.1 : Int)) (.int .u64 (cd : Int)) (.int .i64 tg) (.int .i64 0) (.int .i64 (d : Int)) (.slice A9 X9.length c9))
    have HX10 := Lib.hid (HX9.out.grown (six_only w9 Hr (.int .u64 (s.1 : Int)) (.int .u64 (cd : Int)) (.int .i64 tg) (.int .i64 0) (.int .i64 (d : Int)) (.slice A9 X9.length c9)) (fun e => by injection e with e; exact (HX9.out.other HE9.out.r (by decide)) e))
    have HO10 := Lib.hid (own_pastT HO9.out HE9.out.r (by decide) (by decide) (six_only w9 Hr (.int .u64 (s.1 : Int)) (.int .u64 (cd : Int)) (.int .i64 tg) (.int .i64 0) (.int .i64 (d : Int)) (.slice A9 X9.length c9)))
    clear p0 p1 p2 y0 y1 y2 y3 z0 z1 z2 z3 z4 z5 f0 f1 f2 f3 f4 f5 hHeld
    generalize (((((w9.setCell ⟨Hr, 0, none⟩ (.int .u64 (s.1 : Int))).setCell ⟨Hr, 1, none⟩ (.int .u64 (cd : Int))).setCell ⟨Hr, 2, none⟩ (.int .i64 tg)).setCell ⟨Hr, 3, none⟩ (.int .i64 0)).setCell ⟨Hr, 4, none⟩ (.int .i64 (d : Int))).setCell ⟨Hr, 5, none⟩ (.slice A9 X9.length c9) = w10 at *
    clear HE9 HX9 HO9
    obtain ⟨z0, z1, z2, z3, z4, z5⟩ := six_cells HE10.out.r
    obtain ⟨f0, f1, f2, f3, f4, f5⟩ := six_free HE10.out.r
    obtain ⟨p0, p1, p2⟩ := three_cellsR HE10.out.x
    obtain ⟨y0, y1, y2, y3⟩ := four_cells HX10.out
    by_cases he : s4.2 = 0
    · have q5 : (s4.2 != 0) = false := by rw [he]; rfl
      rw [HEA.out, if_pos he] at HR
      clear he
      go_upto_region 13 with (go_at_call 56; refine (HER.out _ HE10.out.ct).mono ?_; rintro r w11 ⟨rfl, rfl⟩)
      have h10d : Below w10.heap.size w10 w10.drew := (Below.refl _ _).drew
      have HE10d := Lib.hid (HE10.out.later h10d)
      have HX10d := Lib.hid HX10.out.drew
      have HO10d := Lib.hid (HO10.out.below h10d)
      clear z0 z1 z2 z3 z4 z5 f0 f1 f2 f3 f4 f5 p0 p1 p2 y0 y1 y2 y3 h10d
      obtain ⟨z0, z1, z2, z3, z4, z5⟩ := six_cells HE10d.out.r
      obtain ⟨f0, f1, f2, f3, f4, f5⟩ := six_free HE10d.out.r
      obtain ⟨y0, y1, y2, y3⟩ := four_cells HX10d.out
      refine wp_region_held_drew (S := fun X => X.cell? ⟨Hr, 0, none⟩ = some (.int .u64 (s.1 : Int)) ∧ X.cell? ⟨Hr, 1, none⟩ = some (.int .u64 (cd : Int)) ∧ X.cell? ⟨Hr, 2, none⟩ = some (.int .i64 tg) ∧ X.cell? ⟨Hr, 3, none⟩ = some (.int .i64 0) ∧ X.cell? ⟨Hr, 4, none⟩ = some (.int .i64 (d : Int)) ∧ X.cell? ⟨Hr, 5, none⟩ = some (.slice A9 X9.length c9) ∧ X.cell? ⟨Hx, 2, none⟩ = some (.bool kd)) (by kernel_rfl) ?_ (fun hHeld => ?_)
      · exact ⟨z0, z1, z2, z3, z4, z5, y2⟩
      generalize w10.drew = w12 at *
      refine take_r (i := 0) (v := ?_) rfl (by kernel_rfl) (by kernel_rfl) (by kernel_rfl) (fun _ _ _ h => h) (Or.inl ⟨by rfl, ?_⟩) hHeld ?_
      rotate_left
      · (intro wS hSw; (try dsimp only at hSw); go_simp; (try with_reducible rfl))
      try simp only [Act.put, List.setIfInBounds_toArray, List.set_cons_zero, List.set_cons_succ]
      refine take_r (i := 1) (v := ?_) rfl (by kernel_rfl) (by kernel_rfl) (by kernel_rfl) (fun _ _ _ h => h) (Or.inl ⟨by rfl, ?_⟩) hHeld ?_
      rotate_left
      · (intro wS hSw; (try dsimp only at hSw); go_simp; (try with_reducible rfl))
      try simp only [Act.put, List.setIfInBounds_toArray, List.set_cons_zero, List.set_cons_succ]
      refine take_r (i := 2) (v := ?_) rfl (by kernel_rfl) (by kernel_rfl) (by kernel_rfl) (fun _ _ _ h => h) (Or.inl ⟨by rfl, ?_⟩) hHeld ?_
      rotate_left
      · (intro wS hSw; (try dsimp only at hSw); go_simp; (try with_reducible rfl))
      try simp only [Act.put, List.setIfInBounds_toArray, List.set_cons_zero, List.set_cons_succ]
      refine wpAnyH_ready (rs := [3]) (by kernel_rfl) (by simp) ?_
      refine ready_r rfl (fun K hK => ?_)
      go_simp
      go_wp2_with (fail)
      refine hK.out _ _ ?_ (fun hNew => ?_)
      · exact held_last (HE10d.out.told HA.out rfl (.int .u64 (s.1 : Int)) (.int .u64 (cd : Int)) (.int .i64 tg) (.int .i64 0) (.int .i64 (d : Int)) (.slice A9 X9.length c9)).r (HX10d.out.grown (six_only w12 Hr (.int .u64 (s.1 : Int)) (.int .u64 (cd : Int)) (.int .i64 tg) (.int .i64 0) (.int .i64 (d : Int)) (.slice A9 X9.length c9)) (fun e => by injection e with e; exact (HX10d.out.other HE10d.out.r (by decide)) e))
      clear hHeld hK K
      have hHeld := hNew
      clear hNew
      refine take_r (i := 4) (v := ?_) rfl (by kernel_rfl) (by kernel_rfl) (by kernel_rfl) (fun _ _ _ h => h) (Or.inl ⟨by rfl, ?_⟩) hHeld ?_
      rotate_left
      · (intro wS hSw; (try dsimp only at hSw); go_simp; (try with_reducible rfl))
      try simp only [Act.put, List.setIfInBounds_toArray, List.set_cons_zero, List.set_cons_succ]
      refine wpAnyH_done (by kernel_rfl) ?_ _
      have HE11 := Lib.hid (HE10d.out.told HA.out rfl (.int .u64 (s.1 : Int)) (.int .u64 (cd : Int)) (.int .i64 tg) (.int .i64 0) (.int .i64 (d : Int)) (.slice A9 X9.length c9))
      have HO11 := Lib.hid (own_pastT HO10d.out HE10d.out.r (by decide) (by decide) (six_only w12 Hr (.int .u64 (s.1 : Int)) (.int .u64 (cd : Int)) (.int .i64 tg) (.int .i64 0) (.int .i64 (d : Int)) (.slice A9 X9.length c9)))
      clear hHeld
      generalize (((((w12.setCell ⟨Hr, 0, none⟩ (.int .u64 (s.1 : Int))).setCell ⟨Hr, 1, none⟩ (.int .u64 (cd : Int))).setCell ⟨Hr, 2, none⟩ (.int .i64 tg)).setCell ⟨Hr, 3, none⟩ (.int .i64 0)).setCell ⟨Hr, 4, none⟩ (.int .i64 (d : Int))).setCell ⟨Hr, 5, none⟩ (.slice A9 X9.length c9) = w11 at *
      repeat (first | go_skip | go_guarded | go_step | go_upon)
      refine ret_two Tryz.underlying61 Tryz.results53 HE11.out.r (by kernel_rfl) (by rfl) rfl ?_
      exact ⟨by rw [HR.out]; exact HE11.out.ct, HE11.out.gr, .inr ⟨_, _, A9, c9, X9, by rw [HR.out], by rw [HTK.out.1, HTK.out.2]; rfl, HO11.out.lower HE8d.out.gr.size, HM9.out⟩⟩
    · have q5 : (s4.2 != 0) = true := by simpa using he
      rw [HEA.out, if_neg he] at HR
      have HE11 := Lib.hid (HE10.out.told HA.out rfl (.int .u64 0) (.int .u64 0) (.int .i64 0) (.int .i64 0) (.int .i64 0) (.slice none 0 0))
      clear he
      go_upto_region 12 with (go_at_call 56; refine (HER.out _ HE10.out.ct).mono ?_; rintro r w11 ⟨rfl, rfl⟩)
      repeat (first | go_skip | go_guarded | go_step | go_upon)
      refine ret_two Tryz.underlying61 Tryz.results53 HE11.out.r (by kernel_rfl) (by rfl) rfl ?_
      exact ⟨by rw [HR.out]; exact HE11.out.ct, HE11.out.gr, .inl ⟨by rw [HR.out], rfl⟩⟩
  · simp only [Bool.or_false, Bool.false_eq_true, if_false] at hs3
    go_upto_region 10 with fail
    have HE8 := HE7
    have HX8 := HX7
    have HS8 := HS7
    rw [hs3] at HE8
    clear hs3
    clear p0 p1 p2
    have h8d : Below wc.heap.size wc wc.drew := (Below.refl _ _).drew
    have HE8d := Lib.hid (HE8.out.later h8d)
    have HX8d := Lib.hid HX8.out.drew
    have hat8 := dattrs_any HE8d.out.ct HL.out (Row.below HS8.out (h8d.mono (Nat.le_trans HBW.out HE8.out.gr.size))) HBG.out sc (by rw [HPN.out]; exact HPL.out) wide ta tn tc
    rw [HPN.out] at hat8
    obtain ⟨TA, s4, hta⟩ : ∃ TA s4, attF l wide (psO o) s3 = (TA, s4) := ⟨_, _, rfl⟩
    rw [hta] at hat8 HEA
    have HAT8 := Lib.hid hat8
    clear hat8 hta h8d
    have HER := Lib.hid (fun W (hW : CT W g v l s4) => err_cur hW.c)
    obtain ⟨p0, p1, p2⟩ := three_cellsR HE8d.out.x
    obtain ⟨y0, y1, y2, y3⟩ := four_cells HX8d.out
    refine wp_region_held_drew (S := fun X => X.cell? ⟨Hs, 0, none⟩ = some (.pointer (some ⟨g, 0, none⟩)) ∧ X.cell? ⟨Hs, 1, none⟩ = some (.slice ta tn tc) ∧ X.cell? ⟨Hs, 2, none⟩ = some (.bool wide) ∧ X.cell? ⟨Hx, 1, none⟩ = some (.int .i64 tg) ∧ X.cell? ⟨Hx, 3, none⟩ = some (.slice sa pn sc)) (by kernel_rfl) ?_ (fun hHeld => ?_)
    · exact ⟨p0, p1, p2, y1, y3⟩
    refine take_r (i := 0) (v := ?_) rfl (by kernel_rfl) (by kernel_rfl) (by kernel_rfl) (fun _ _ _ h => h) (Or.inl ⟨by rfl, ?_⟩) hHeld ?_
    rotate_left
    · (intro wS hSw; (try dsimp only at hSw); go_simp; (try with_reducible rfl))
    try simp only [Act.put, List.setIfInBounds_toArray, List.set_cons_zero, List.set_cons_succ]
    refine take_r (i := 1) (v := ?_) rfl (by kernel_rfl) (by kernel_rfl) (by kernel_rfl) (fun _ _ _ h => h) (Or.inl ⟨by rfl, ?_⟩) hHeld ?_
    rotate_left
    · (intro wS hSw; (try dsimp only at hSw); go_simp; (try with_reducible rfl))
    try simp only [Act.put, List.setIfInBounds_toArray, List.set_cons_zero, List.set_cons_succ]
    refine take_r (i := 2) (v := ?_) rfl (by kernel_rfl) (by kernel_rfl) (by kernel_rfl) (fun _ _ _ h => h) (Or.inl ⟨by rfl, ?_⟩) hHeld ?_
    rotate_left
    · (intro wS hSw; (try dsimp only at hSw); go_simp; (try with_reducible rfl))
    try simp only [Act.put, List.setIfInBounds_toArray, List.set_cons_zero, List.set_cons_succ]
    refine take_r (i := 3) (v := ?_) rfl (by kernel_rfl) (by kernel_rfl) (by kernel_rfl) (fun _ _ _ h => h) (Or.inl ⟨by rfl, ?_⟩) hHeld ?_
    rotate_left
    · (intro wS hSw; (try dsimp only at hSw); go_simp; (try with_reducible rfl))
    try simp only [Act.put, List.setIfInBounds_toArray, List.set_cons_zero, List.set_cons_succ]
    refine take_r (i := 4) (v := ?_) rfl (by kernel_rfl) (by kernel_rfl) (by kernel_rfl) (fun _ _ _ h => h) (Or.inl ⟨by rfl, ?_⟩) hHeld ?_
    rotate_left
    · (intro wS hSw; (try dsimp only at hSw); go_simp; (try with_reducible rfl))
    try simp only [Act.put, List.setIfInBounds_toArray, List.set_cons_zero, List.set_cons_succ]
    refine take_r (i := 5) (v := ?_) rfl (by kernel_rfl) (by kernel_rfl) (by kernel_rfl) (fun _ _ _ h => h) (Or.inl ⟨by rfl, ?_⟩) hHeld ?_
    rotate_left
    · (intro wS hSw; (try dsimp only at hSw); go_simp; (try with_reducible rfl))
    try simp only [Act.put, List.setIfInBounds_toArray, List.set_cons_zero, List.set_cons_succ]
    refine take_r (i := 6) (v := ?_) rfl (by kernel_rfl) (by kernel_rfl) (by kernel_rfl) (fun _ _ _ h => h) (Or.inl ⟨by rfl, ?_⟩) hHeld ?_
    rotate_left
    · (intro wS hSw; (try dsimp only at hSw); go_simp; (try with_reducible rfl))
    try simp only [Act.put, List.setIfInBounds_toArray, List.set_cons_zero, List.set_cons_succ]
    refine take_r (i := 7) (v := ?_) rfl (by kernel_rfl) (by kernel_rfl) (by kernel_rfl) (fun _ _ _ h => h) (Or.inl ⟨by rfl, ?_⟩) hHeld ?_
    rotate_left
    · (intro wS hSw; (try dsimp only at hSw); go_simp; (try with_reducible rfl))
    try simp only [Act.put, List.setIfInBounds_toArray, List.set_cons_zero, List.set_cons_succ]
    refine wpAnyH_ready (rs := [8]) (by kernel_rfl) (by simp) ?_
    refine ready_r rfl (fun K hK => ?_)
    go_simp
    go_wp2_with (go_at_call 91; refine HAT8.out.mono ?_; rintro r w9 ⟨u9, X9, rfl, hO9, hM9, hC9, hG9⟩; (obtain ⟨A9, c9, rfl⟩ := un_slc hO9.row); have HE9 := Lib.hid (HE8d.out.call HA.out hC9 hG9); have HX9 := Lib.hid (HX8d.out.grown hG9 (fun e => by injection e with e; have := HGX.out; omega)); have HO9 := Lib.hid hO9; have HM9 := Lib.hid hM9)
    refine hK.out _ _ ?_ (fun hNew => ?_)
    · exact held_ten HE9.out.x HX9.out
    clear hHeld hK K
    have hHeld := hNew
    clear hNew
    clear hO9 hM9 hC9 hG9
    obtain ⟨z0, z1, z2, z3, z4, z5⟩ := six_cells HE9.out.r
    obtain ⟨f0, f1, f2, f3, f4, f5⟩ := six_free HE9.out.r
    refine take_r (i := 9) (v := ?_) rfl (by kernel_rfl) (by kernel_rfl) (by kernel_rfl) (fun _ _ _ h => h) (Or.inl ⟨by rfl, ?_⟩) hHeld ?_
    rotate_left
    · (intro wS hSw; (try dsimp only at hSw); go_simp; (try with_reducible rfl))
    try simp only [Act.put, List.setIfInBounds_toArray, List.set_cons_zero, List.set_cons_succ]
    refine wpAnyH_ready (rs := [10]) (by kernel_rfl) (by simp) ?_
    refine ready_r rfl (fun K hK => ?_)
    go_simp
    go_wp2_with (fail)
    refine hK.out _ _ ?_ (fun hNew => ?_)
    · exact held_ten (HE9.out.told HA.out rfl (.int .u64 (s.1 : Int)) (.int .u64 (cd : Int)) (.int .i64 tg) (.int .i64 0) (.int .i64 (d : Int)) (.slice A9 X9.length c9)).x (HX9.out.grown (six_only w9 Hr (.int .u64 (s.1 : Int)) (.int .u64 (cd : Int)) (.int .i64 tg) (.int .i64 0) (.int .i64 (d : Int)) (.slice A9 X9.length c9)) (fun e => by injection e with e; exact (HX9.out.other HE9.out.r (by decide)) e))
    clear hHeld hK K
    have hHeld := hNew
    clear hNew
    refine wpAnyH_done (by kernel_rfl) ?_ _
    have HE10 := Lib.hid (HE9.out.told HA.out rfl (.int .u64 (s.1 : Int)) (.int .u64 (cd : Int)) (.int .i64 tg) (.int .i64 0) (.int .i64 (d : Int)) (.slice A9 X9.length c9))
    have HX10 := Lib.hid (HX9.out.grown (six_only w9 Hr (.int .u64 (s.1 : Int)) (.int .u64 (cd : Int)) (.int .i64 tg) (.int .i64 0) (.int .i64 (d : Int)) (.slice A9 X9.length c9)) (fun e => by injection e with e; exact (HX9.out.other HE9.out.r (by decide)) e))
    have HO10 := Lib.hid (own_pastT HO9.out HE9.out.r (by decide) (by decide) (six_only w9 Hr (.int .u64 (s.1 : Int)) (.int .u64 (cd : Int)) (.int .i64 tg) (.int .i64 0) (.int .i64 (d : Int)) (.slice A9 X9.length c9)))
    clear p0 p1 p2 y0 y1 y2 y3 z0 z1 z2 z3 z4 z5 f0 f1 f2 f3 f4 f5 hHeld
    generalize (((((w9.setCell ⟨Hr, 0, none⟩ (.int .u64 (s.1 : Int))).setCell ⟨Hr, 1, none⟩ (.int .u64 (cd : Int))).setCell ⟨Hr, 2, none⟩ (.int .i64 tg)).setCell ⟨Hr, 3, none⟩ (.int .i64 0)).setCell ⟨Hr, 4, none⟩ (.int .i64 (d : Int))).setCell ⟨Hr, 5, none⟩ (.slice A9 X9.length c9) = w10 at *
    clear HE9 HX9 HO9
    obtain ⟨z0, z1, z2, z3, z4, z5⟩ := six_cells HE10.out.r
    obtain ⟨f0, f1, f2, f3, f4, f5⟩ := six_free HE10.out.r
    obtain ⟨p0, p1, p2⟩ := three_cellsR HE10.out.x
    obtain ⟨y0, y1, y2, y3⟩ := four_cells HX10.out
    by_cases he : s4.2 = 0
    · have q5 : (s4.2 != 0) = false := by rw [he]; rfl
      rw [HEA.out, if_pos he] at HR
      clear he
      go_upto_region 13 with (go_at_call 56; refine (HER.out _ HE10.out.ct).mono ?_; rintro r w11 ⟨rfl, rfl⟩)
      have h10d : Below w10.heap.size w10 w10.drew := (Below.refl _ _).drew
      have HE10d := Lib.hid (HE10.out.later h10d)
      have HX10d := Lib.hid HX10.out.drew
      have HO10d := Lib.hid (HO10.out.below h10d)
      clear z0 z1 z2 z3 z4 z5 f0 f1 f2 f3 f4 f5 p0 p1 p2 y0 y1 y2 y3 h10d
      obtain ⟨z0, z1, z2, z3, z4, z5⟩ := six_cells HE10d.out.r
      obtain ⟨f0, f1, f2, f3, f4, f5⟩ := six_free HE10d.out.r
      obtain ⟨y0, y1, y2, y3⟩ := four_cells HX10d.out
      refine wp_region_held_drew (S := fun X => X.cell? ⟨Hr, 0, none⟩ = some (.int .u64 (s.1 : Int)) ∧ X.cell? ⟨Hr, 1, none⟩ = some (.int .u64 (cd : Int)) ∧ X.cell? ⟨Hr, 2, none⟩ = some (.int .i64 tg) ∧ X.cell? ⟨Hr, 3, none⟩ = some (.int .i64 0) ∧ X.cell? ⟨Hr, 4, none⟩ = some (.int .i64 (d : Int)) ∧ X.cell? ⟨Hr, 5, none⟩ = some (.slice A9 X9.length c9) ∧ X.cell? ⟨Hx, 2, none⟩ = some (.bool kd)) (by kernel_rfl) ?_ (fun hHeld => ?_)
      · exact ⟨z0, z1, z2, z3, z4, z5, y2⟩
      generalize w10.drew = w12 at *
      refine take_r (i := 0) (v := ?_) rfl (by kernel_rfl) (by kernel_rfl) (by kernel_rfl) (fun _ _ _ h => h) (Or.inl ⟨by rfl, ?_⟩) hHeld ?_
      rotate_left
      · (intro wS hSw; (try dsimp only at hSw); go_simp; (try with_reducible rfl))
      try simp only [Act.put, List.setIfInBounds_toArray, List.set_cons_zero, List.set_cons_succ]
      refine take_r (i := 1) (v := ?_) rfl (by kernel_rfl) (by kernel_rfl) (by kernel_rfl) (fun _ _ _ h => h) (Or.inl ⟨by rfl, ?_⟩) hHeld ?_
      rotate_left
      · (intro wS hSw; (try dsimp only at hSw); go_simp; (try with_reducible rfl))
      try simp only [Act.put, List.setIfInBounds_toArray, List.set_cons_zero, List.set_cons_succ]
      refine take_r (i := 2) (v := ?_) rfl (by kernel_rfl) (by kernel_rfl) (by kernel_rfl) (fun _ _ _ h => h) (Or.inl ⟨by rfl, ?_⟩) hHeld ?_
      rotate_left
      · (intro wS hSw; (try dsimp only at hSw); go_simp; (try with_reducible rfl))
      try simp only [Act.put, List.setIfInBounds_toArray, List.set_cons_zero, List.set_cons_succ]
      refine wpAnyH_ready (rs := [3]) (by kernel_rfl) (by simp) ?_
      refine ready_r rfl (fun K hK => ?_)
      go_simp
      go_wp2_with (fail)
      refine hK.out _ _ ?_ (fun hNew => ?_)
      · exact held_last (HE10d.out.told HA.out rfl (.int .u64 (s.1 : Int)) (.int .u64 (cd : Int)) (.int .i64 tg) (.int .i64 0) (.int .i64 (d : Int)) (.slice A9 X9.length c9)).r (HX10d.out.grown (six_only w12 Hr (.int .u64 (s.1 : Int)) (.int .u64 (cd : Int)) (.int .i64 tg) (.int .i64 0) (.int .i64 (d : Int)) (.slice A9 X9.length c9)) (fun e => by injection e with e; exact (HX10d.out.other HE10d.out.r (by decide)) e))
      clear hHeld hK K
      have hHeld := hNew
      clear hNew
      refine take_r (i := 4) (v := ?_) rfl (by kernel_rfl) (by kernel_rfl) (by kernel_rfl) (fun _ _ _ h => h) (Or.inl ⟨by rfl, ?_⟩) hHeld ?_
      rotate_left
      · (intro wS hSw; (try dsimp only at hSw); go_simp; (try with_reducible rfl))
      try simp only [Act.put, List.setIfInBounds_toArray, List.set_cons_zero, List.set_cons_succ]
      refine wpAnyH_done (by kernel_rfl) ?_ _
      have HE11 := Lib.hid (HE10d.out.told HA.out rfl (.int .u64 (s.1 : Int)) (.int .u64 (cd : Int)) (.int .i64 tg) (.int .i64 0) (.int .i64 (d : Int)) (.slice A9 X9.length c9))
      have HO11 := Lib.hid (own_pastT HO10d.out HE10d.out.r (by decide) (by decide) (six_only w12 Hr (.int .u64 (s.1 : Int)) (.int .u64 (cd : Int)) (.int .i64 tg) (.int .i64 0) (.int .i64 (d : Int)) (.slice A9 X9.length c9)))
      clear hHeld
      generalize (((((w12.setCell ⟨Hr, 0, none⟩ (.int .u64 (s.1 : Int))).setCell ⟨Hr, 1, none⟩ (.int .u64 (cd : Int))).setCell ⟨Hr, 2, none⟩ (.int .i64 tg)).setCell ⟨Hr, 3, none⟩ (.int .i64 0)).setCell ⟨Hr, 4, none⟩ (.int .i64 (d : Int))).setCell ⟨Hr, 5, none⟩ (.slice A9 X9.length c9) = w11 at *
      repeat (first | go_skip | go_guarded | go_step | go_upon)
      refine ret_two Tryz.underlying61 Tryz.results53 HE11.out.r (by kernel_rfl) (by rfl) rfl ?_
      exact ⟨by rw [HR.out]; exact HE11.out.ct, HE11.out.gr, .inr ⟨_, _, A9, c9, X9, by rw [HR.out], by rw [HTK.out.1, HTK.out.2]; rfl, HO11.out.lower HE8d.out.gr.size, HM9.out⟩⟩
    · have q5 : (s4.2 != 0) = true := by simpa using he
      rw [HEA.out, if_neg he] at HR
      have HE11 := Lib.hid (HE10.out.told HA.out rfl (.int .u64 0) (.int .u64 0) (.int .i64 0) (.int .i64 0) (.int .i64 0) (.slice none 0 0))
      clear he
      go_upto_region 12 with (go_at_call 56; refine (HER.out _ HE10.out.ct).mono ?_; rintro r w11 ⟨rfl, rfl⟩)
      repeat (first | go_skip | go_guarded | go_step | go_upon)
      refine ret_two Tryz.underlying61 Tryz.results53 HE11.out.r (by kernel_rfl) (by rfl) rfl ?_
      exact ⟨by rw [HR.out]; exact HE11.out.ct, HE11.out.gr, .inl ⟨by rw [HR.out], rfl⟩⟩

end Go.Proofs.YtejicboemkpeoaaGreatDoor
