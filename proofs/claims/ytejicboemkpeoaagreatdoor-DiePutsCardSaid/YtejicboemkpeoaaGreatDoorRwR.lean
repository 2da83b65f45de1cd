/-
  RawBack's walk.
-/
import Derived.Test.YtejicboemkpeoaaGreatDoorAbK
import Derived.Test.YtejicboemkpeoaaGreatDoorAbM
import Derived.Test.YtejicboemkpeoaaGreatDoorRefP
import Derived.Test.YtejicboemkpeoaaGreatDoorSyT
import Derived.Deep.DeepCutAuto
import Derived.Deep.LoopGhost
import Derived.Test.YtejicboemkpeoaaGreatDoorDiO
import Derived.Test.YtejicboemkpeoaaGreatDoorDiF
import Derived.Test.YtejicboemkpeoaaGreatDoorRwN
import Derived.BigQuiet
import Derived.Test.YtejicboemkpeoaaGreatDoorRwM
import Derived.Test.YtejicboemkpeoaaGreatDoorSeR
import Derived.Test.YtejicboemkpeoaaGreatDoorCurN
namespace Go.Proofs.YtejicboemkpeoaaGreatDoor
open Go Go.RowKit Go.Maps

theorem rputU_rd (w : World) (x : Nat) (hx : x < 2 ^ 64) :
    Calls Tryz.prog 69 #[.int .u64 (x : Int)] w fun r w' => ∃ A c, r = .returned (.slice A (lebPut (sizeU x) (x : Int)).length c) ∧ Rd w' w'.heap.size A (lebPut (sizeU x) (x : Int)) ∧ Below w.heap.size w w' :=
  (rputU_any w x hx).mono fun r w' ⟨v, e, ho, hb⟩ => by
    obtain ⟨A, c, rfl, _, _, hr⟩ := own_slice ho
    exact ⟨A, c, e, hr, hb⟩
theorem RelSt.size {w wr : World} {u : Value} {T : List UInt8} (h : RelSt w wr u T) : w.heap.size ≤ wr.heap.size := h.below.size

end Go.Proofs.YtejicboemkpeoaaGreatDoor

namespace Go.Proofs.YtejicboemkpeoaaGreatDoor
open Go Go.RowKit

/-- Depths from 0 on. -/
def deps (n : Nat) : List Value := (List.range n).map fun (j : Nat) => Value.int .i64 (j : Int)
theorem deps_at {n j : Nat} (h : j < n) : (deps n)[j]? = some (.int .i64 (j : Int)) := by simp [deps, h]
theorem deps_take {n d : Nat} (h : d ≤ n) : (deps n).take d = deps d := by
  unfold deps
  rw [← List.map_take, List.take_range, Nat.min_eq_left h]
theorem deps_succ (n : Nat) : deps (n + 1) = deps n ++ [.int .i64 (n : Int)] := by simp [deps, List.range_succ]
/-- The bytes so far, the depths of the entries that stand open, the abbreviation. -/
structure DqSt (w wr : World) (u : Value) (bs : List UInt8) (e : Value) (n H : Nat) (cs : Array Value) : Prop where
  r : RelSt w wr u bs
  e : wr.ownsRow w.heap.size 3 1 e n (deps n)
  b : Box wr H 123 cs
section
variable {w wr w2 w3 : World} {u u' e e' : Value} {bs T' : List UInt8} {n H H' : Nat} {cs cs' : Array Value}
theorem DqSt.below (h : DqSt w wr u bs e n H cs) (hb : Below wr.heap.size wr w2) : DqSt w w2 u bs e n H cs :=
  ⟨⟨row_below h.r.row hb, h.r.below.trans (hb.mono h.r.below.size)⟩, row_below h.e hb, h.b.below hb h.b.lt⟩
theorem DqSt.more (h : DqSt w wr u bs e n H cs) (hb : Below wr.heap.size wr w2) (ho : Own w3 w.heap.size u' T') (hg : w2.grownBy w3 u.ownBlock) : DqSt w w3 u' T' e n H cs :=
  ⟨h.r.more hb ho hg, own_apart (row_below h.e hb) (row_below h.r.row hb) (by decide) hg, un_box (h.b.below hb h.b.lt) (row_below h.r.row hb) (by decide) hg⟩
theorem DqSt.push (h : DqSt w wr u bs e n H cs) (hb : Below wr.heap.size wr w2) (he : w3.ownsRow w.heap.size 3 1 e' (n + 1) (deps n ++ [.int .i64 (n : Int)])) (hg : w2.grownBy w3 e.ownBlock) : DqSt w w3 u bs e' (n + 1) H cs :=
  ⟨⟨own_apart (row_below h.r.row hb) (row_below h.e hb) (by decide) hg, (h.r.below.trans (hb.mono h.r.below.size)).grown hg (Nat.le_trans h.r.below.size hb.size) (fun x hx => (h.e.lt x hx).1)⟩, by rw [deps_succ]; exact he, un_box (h.b.below hb h.b.lt) (row_below h.e hb) (by decide) hg⟩
theorem DqSt.cut {A : Option Addr} {c d : Nat} (h : DqSt w wr u bs (.slice A n c) n H cs) (hn : 0 < n) (hd : d ≤ n) : DqSt w wr u bs (.slice A d c) d H cs :=
  ⟨h.r, by have := (own_cutI h.e hn hd).1; rwa [deps_take hd] at this, h.b⟩
theorem DqSt.last {A : Option Addr} {c : Nat} (h : DqSt w wr u bs (.slice A (n + 1) c) (n + 1) H cs) : ∃ g, A = some ⟨g, 0, none⟩ ∧ n + 1 ≤ c ∧ wr.cell? ⟨g, n, none⟩ = some (.int .i64 (n : Int)) := by
  obtain ⟨-, g, rfl, hc⟩ := own_cutI h.e (Nat.succ_pos n) (Nat.le_succ n)
  refine ⟨g, rfl, hc, ?_⟩
  have := World.ownsRow.cellAt (g := g) (cap := c) h.e n (by omega)
  rw [this, deps_at (Nat.lt_succ_self n)]
end
theorem ent_cells {w wr : World} {B b o : Nat} {L : List DLay} (h : Ents w B (some ⟨b, o, none⟩) L) (hb : Below B w wr) {i : Nat} {y : DLay} (hy : L[i]? = some y) :
    wr.cell? ⟨b, o + i * 6, none⟩ = some (.int .u64 (y.off : Int)) ∧ wr.cell? ⟨b, o + i * 6 + 1, none⟩ = some (.int .u64 (y.code : Int)) ∧ wr.cell? ⟨b, o + i * 6 + 2, none⟩ = some (.int .i64 y.tag) ∧
    wr.cell? ⟨b, o + i * 6 + 3, none⟩ = some (.int .i64 y.parent) ∧ wr.cell? ⟨b, o + i * 6 + 4, none⟩ = some (.int .i64 y.depth) ∧ wr.cell? ⟨b, o + i * 6 + 5, none⟩ = some (.slice y.a y.L.length y.c) := by
  obtain ⟨b', o', e, -, k⟩ := ent_at (h.below hb) hy
  cases e
  exact k
/-- What the document's fits tells, and Put's own tests. -/
theorem dokP_fit (wide : Bool) (T : List ALay) (i : Nat) (o : Int) (e : Ent) : dokP wide T i o e = ((abbK T e.code).isSome && ((decide (e.tag = tagO (abbK T e.code)) && fitL e.l (psO (abbK T e.code)) wide) && (decide ((if i = 0 then 0 else 1) ≤ e.depth) && decide (e.depth ≤ o)))) := by
  rw [dokP_eq]
  unfold fitL
  cases (abbK T e.code).isSome <;> cases decide (e.tag = tagO (abbK T e.code)) <;> cases ofL e.l (psO (abbK T e.code)) <;> cases decide ((if i = 0 then 0 else 1) ≤ e.depth) <;> cases decide (e.depth ≤ o) <;> cases rightE e.l wide <;> rfl
theorem rput_rd {w : World} (y : WLay) (hy : Rd w w.heap.size y.a y.x.b) (hu : y.x.u < two64) (hs : InI y.x.s) (hb : y.x.b.length ≤ 9223372036854775807) (ht : y.x.t.length ≤ 140737488355000) (wide : Bool) (hr : rightV y.x wide = true) :
    Calls Tryz.prog 70 #[.agg #[.int .i64 y.x.form, .int .u64 (y.x.u : Int), .int .i64 y.x.s, .slice y.a y.x.b.length y.c, .string ⟨y.x.t.toArray⟩], .bool wide] w fun r w' => ∃ A c E, r = .returned (.tuple #[.slice A (putV y.x wide).length c, .int .i64 E]) ∧ Rd w' w'.heap.size A (putV y.x wide) ∧ Below w.heap.size w w' := by
  refine (rputW_any y hy hu hs hb ht wide).mono ?_
  rintro r w' ⟨⟨A, c, e, hr'⟩, hB⟩
  have he : rputV y.x wide = putV y.x wide := by unfold rputV; rw [if_pos hr]
  rw [he] at e hr'
  exact ⟨A, c, _, e, hr', hB⟩

end Go.Proofs.YtejicboemkpeoaaGreatDoor

namespace Go.Proofs.YtejicboemkpeoaaGreatDoor
open Go Go.RowKit

set_option maxRecDepth 10000 in
set_option maxHeartbeats 6400000 in
theorem rput17_any {w : World} {a : Option Addr} {L : List DLay} (h : Ents w w.heap.size a L) (c : Nat) (hl : L.length ≤ 100000) (hin : ∀ y ∈ L, y.In) {ta : Option Addr} {T : List ALay} (hT : Abbs w w.heap.size ta T) (tc : Nat) (hTl : T.length ≤ 100000) (hTin : ∀ y ∈ T, y.x.l.length ≤ 100000) (wide : Bool) :
    Calls Tryz.prog 29 #[.slice a L.length c, .slice ta T.length tc, .bool wide] w fun r w' => ∃ v, r = .returned (.tuple #[v, .int .i64 (pE (dieP wide T (L.map DLay.ent)))]) ∧ Own w' w.heap.size v (pB (dieP wide T (L.map DLay.ent))) ∧ Below w.heap.size w w' := by
  obtain ⟨i0, hi, hz0, hz1, hz2⟩ := info_parts u8_info
  obtain ⟨i2, hk1, hj0, hj1, hj2⟩ := info_parts int_info
  have HH := Lib.hid h
  have HIN := Lib.hid hin
  have HTT := Lib.hid hT
  have HTL := Lib.hid hTl
  have HTI := Lib.hid hTin
  obtain ⟨N, hN⟩ : ∃ N, L.length = N := ⟨_, rfl⟩
  have HN := Lib.hid hN
  obtain ⟨tn, htn⟩ : ∃ tn, T.length = tn := ⟨_, rfl⟩
  have HTN := Lib.hid htn
  have HD := Lib.hid (show dieP wide T (L.map DLay.ent) = if L.map DLay.ent = [] ∨ 1000 < (L.map DLay.ent).length then none else putF wide T (L.map DLay.ent) 0 [] 0 from rfl)
  have HE := Lib.hid (show L.map DLay.ent = [] ↔ N = 0 by rw [List.map_eq_nil_iff, ← hN, List.length_eq_zero_iff])
  rw [List.length_map, hN] at HD
  rw [hN] at hl
  rw [hN, htn]
  clear h hin hT hTl hTin hN htn
  generalize dieP wide T (L.map DLay.ent) = D at *
  by_cases hbad : N = 0 ∨ 1000 < N
  · have hd : D = none := by
      rw [HD.out, if_pos]
      rcases hbad with h | h
      · exact .inl (HE.out.2 h)
      · exact .inr h
    subst hd
    rcases hbad with h0 | h0
    · subst h0
      go_enter Tryz.func29, Tryz.ntmps29
      go_wp2_with fail
      go_ret2
      exact ⟨_, rfl, own_nilR _ _, Below.refl _ _⟩
    · have q1 : ((N : Int) == 0) = false := by simp; omega
      have q2 : decide ((1000 : Int) < (N : Int)) = true := by simp; omega
      clear h0
      go_enter Tryz.func29, Tryz.ntmps29
      go_wp2_with fail
      go_ret2
      exact ⟨_, rfl, own_nilR _ _, Below.refl _ _⟩
  have hN0 : N ≠ 0 := fun e => hbad (.inl e)
  have hN1 : N ≤ 1000 := by
    rcases Nat.lt_or_ge 1000 N with h | h
    · exact absurd (.inr h) hbad
    · exact h
  have HD1 := Lib.hid (show D = putF wide T (L.map DLay.ent) 0 [] 0 by
    rw [HD.out, if_neg]
    rintro (h | h)
    · exact hN0 (HE.out.1 h)
    · omega)
  have q1 : ((N : Int) == 0) = false := by simpa using hN0
  have q2 : decide ((1000 : Int) < (N : Int)) = false := by simp; omega
  have hNp : 0 < N := Nat.pos_of_ne_zero hN0
  obtain ⟨y0, hy0⟩ : ∃ y0, L[0]? = some y0 := ⟨L[0]'(by rw [HN.out]; exact hNp), List.getElem?_eq_getElem _⟩
  obtain ⟨b, oo, hao, -, c0, c1, c2, c3, c4, c5⟩ := ent_at HH.out hy0
  subst hao
  simp only [Nat.zero_mul, Nat.add_zero] at c0 c1 c2 c3 c4 c5
  have HY0 := Lib.hid hy0
  clear HD HE hbad hN0 hy0 c0 c1 c2 c3 c5
  by_cases hz : y0.depth = 0
  rotate_left
  · have q3 : (y0.depth != 0) = true := by simpa using hz
    have HDN := Lib.hid (show D = none by
      rw [HD1.out]
      have hdr : L.map DLay.ent = y0.ent :: (L.drop 1).map DLay.ent := by
        have hkl : 0 < L.length := by rw [HN.out]; exact hNp
        have := List.drop_eq_getElem_cons hkl
        rw [List.drop_zero] at this
        have h2 := HY0.out
        rw [List.getElem?_eq_getElem hkl] at h2
        injection h2 with h2
        rw [h2] at this
        conv => lhs; rw [this]
        rfl
      rw [hdr]
      refine putF_no ?_
      rw [dokP_eq, ← Bool.not_eq_true]
      intro hh
      simp only [Bool.and_eq_true, decide_eq_true_eq] at hh
      have e1 := hh.2.2.1
      have e2 := hh.2.2.2.1
      rw [if_pos trivial] at e1
      exact hz (show y0.depth = 0 from by
        have e1 : (0 : Int) ≤ y0.depth := e1
        have e2 : y0.depth ≤ 0 := e2
        omega))
    clear hz
    go_enter Tryz.func29, Tryz.ntmps29
    go_wp2_with fail
    go_ret2
    exact ⟨_, by rw [HDN.out]; rfl, by rw [HDN.out]; exact own_nilR _ _, Below.refl _ _⟩
  rw [hz] at c4
  have HZ0 := Lib.hid hz
  clear hz
  go_enter Tryz.func29, Tryz.ntmps29
  go_wp2_with fail
  go_loopg [8, 9, 10] N (fun gk u e i wr => ∃ (k o : Nat) (bs : List UInt8), k ≤ N ∧ gk = N - k ∧ i = .int .i64 k ∧ o ≤ k ∧ Hid (RelSt w wr u bs) ∧ Hid (wr.ownsRow w.heap.size 3 1 e o (deps o)) ∧ Hid (bs.length ≤ k * 300000000) ∧ Hid (D = putF wide T ((L.drop k).map DLay.ent) k bs (o : Int)) ∧ Hid (∀ (k' : Nat) (yp : DLay), k = k' + 1 → L[k']? = some yp → (o : Int) = if kidO (abbK T yp.code) = true then yp.depth + 1 else yp.depth))
  case atStart => exact ⟨0, 0, [], Nat.zero_le _, rfl, rfl, Nat.le_refl _, Lib.hid ⟨own_nilR _ _, Below.refl _ _⟩, Lib.hid (World.ownsRow_nil _ _ _ _), Lib.hid (Nat.zero_le _), HD1, Lib.hid (fun k' yp h => by cases h)⟩
  case round =>
    obtain ⟨k, o, bs, hk, rfl, rfl, ho, HR, HEE, HBL, HP, HPV⟩ := hrel
    clear HD1 c4
    by_cases hlt : k < N
    rotate_left
    · have hd : L.drop k = [] := List.drop_eq_nil_of_le (by rw [HN.out]; omega)
      have HP2 := Lib.hid (show D = some (bs ++ List.replicate o 0) by rw [HP.out, hd]; rfl)
      have HBB := Lib.hid (show bs.length ≤ 1000 * 300000000 from Nat.le_trans HBL.out (Nat.mul_le_mul_right _ (by omega)))
      obtain ⟨A9, c9, hu9⟩ := un_slc HEE.out
      subst hu9
      have ho1 : o ≤ 1000 := by omega
      clear hd HP HBL HPV ho HEE
      generalize wr = wj at *
      go_upto_region 29 with fail
      go_wp2_with fail
      clear hlt
      go_loopg [8, 19] o (fun gk u2 i wr => ∃ j : Nat, j ≤ o ∧ gk = o - j ∧ i = .int .i64 j ∧ Hid (RelSt w wr u2 (bs ++ List.replicate j 0)))
      case atStart => exact ⟨0, Nat.zero_le _, rfl, rfl, Lib.hid (by rw [List.replicate_zero, List.append_nil]; exact HR.out)⟩
      case round =>
        obtain ⟨j, hj, rfl, rfl, HRJ⟩ := hrel
        by_cases hjo : j < o
        rotate_left
        · obtain rfl : j = o := by omega
          go_wp2_with fail
          go_ret2
          exact ⟨_, by rw [HP2.out]; rfl, by rw [HP2.out]; exact HRJ.out.row, HRJ.out.below⟩
        have S1 := Lib.hid (show (bs ++ List.replicate j 0).length + ([0] : List UInt8).length ≤ 140737488355328 by
          have := HBB.out
          rw [List.length_append, List.length_replicate, List.length_singleton]
          omega)
        have HA2 := Lib.hid ((Below.refl wr.heap.size wr).alloc (Nat.le_refl _) (.cells #[.int .u8 0] 5))
        have HRD2 := Lib.hid (rd_one wr 0 0 rfl)
        have hbs2 : w.heap.size ≤ (wr.alloc (.cells #[.int .u8 0] 5)).heap.size := Nat.le_trans HRJ.out.size HA2.out.size
        have HOB := Lib.hid (own_below HRJ.out.row HA2.out)
        go_wp2_with (at_builtin; refine wpList_append_bytes (by rfl) (.tmp 186) (.tmp 187) _ (by rfl) w.heap.size i0 Tryz.underlying26 hi hz0 hz1 hz2 _ (bs ++ List.replicate j 0) (by rfl) HOB.out (wr.heap.size + 1) (some ⟨wr.heap.size, 0, none⟩) 1 1 [0] rfl (by rfl) HRD2.out S1.out hbs2 ?_; intro v7 w7 hown7 hg7 hat7; have HS7 := Lib.hid (HRJ.out.more HA2.out hown7 hg7); clear hown7 hg7 hat7)
        go_roundg (o - (j + 1))
        case measure => omega
        case rel => exact ⟨j + 1, by omega, rfl, by go_num, Lib.hid (by rw [List.replicate_succ', ← List.append_assoc]; exact HS7.out)⟩
    obtain ⟨y, hy⟩ : ∃ y, L[k]? = some y := ⟨L[k]'(by rw [HN.out]; exact hlt), List.getElem?_eq_getElem _⟩
    have hdr : L.drop k = y :: L.drop (k + 1) := by
      have hkl : k < L.length := by rw [HN.out]; exact hlt
      rw [List.drop_eq_getElem_cons hkl]
      congr 1
      rw [List.getElem?_eq_getElem hkl] at hy
      injection hy
    have HPC := Lib.hid (show D = putF wide T (y.ent :: (L.drop (k + 1)).map DLay.ent) k bs (o : Int) by rw [HP.out, hdr]; rfl)
    have HNO := Lib.hid (fun (h : dokP wide T k (o : Int) y.ent = false) => HPC.out.trans (putF_no h))
    have HGO := Lib.hid (fun (h : dokP wide T k (o : Int) y.ent = true) => HPC.out.trans (putF_go h))
    have HOK := Lib.hid (dokP_fit wide T k (o : Int) y.ent)
    have HYK := Lib.hid hy
    have HYI := Lib.hid (HIN.out y (List.mem_of_getElem? hy))
    have HYA := Lib.hid (HH.out.ats y (List.mem_of_getElem? hy))
    have HC := Lib.hid (fun W (hW : Below w.heap.size w W) => ent_cells HH.out hW hy)
    clear hy hdr HP HPC
    obtain ⟨xn, hxn⟩ : ∃ xn, y.L.length = xn := ⟨_, rfl⟩
    have HXN := Lib.hid hxn
    rw [hxn] at HC
    have hxl : xn ≤ 3000 := by have := HYI.out.len; rwa [hxn] at this
    obtain ⟨c0, c1, c2, c3, c4, c5⟩ := HC.out _ HR.out.below
    have HFD := Lib.hid (rdfind_any (HTT.out.below HR.out.below) HR.out.size tc HTL.out HTI.out y.code)
    have HPL := Lib.hid (psO_len HTI.out y.code)
    rw [HTN.out] at HFD
    rw [show y.ent.code = y.code from rfl] at HOK HGO
    obtain ⟨ab, hab⟩ : ∃ ab, abbK T y.code = ab := ⟨_, rfl⟩
    rw [hab] at HFD HPL HOK HGO
    have HAB := Lib.hid hab
    obtain ⟨pn, hpn⟩ : ∃ pn, (psO ab).length = pn := ⟨_, rfl⟩
    have HPN := Lib.hid hpn
    rw [hpn] at HFD HPL
    clear hxn hab hpn
    go_upto_region 9 with (go_at_call 67; refine HFD.out.mono ?_; rintro r w4 ⟨kc, tg, kd, sa, sc, bb, rfl, hFD, hb4⟩; have HFO := Lib.hid hFD; have HB4 := Lib.hid hb4; clear hFD hb4)
    have hX5 := Box.new w4 123 #[.int .u64 kc, .int .i64 tg, .bool kd, .slice sa pn sc]
    have hb5 : Below w4.heap.size w4 (w4.alloc (.cells #[.int .u64 kc, .int .i64 tg, .bool kd, .slice sa pn sc] 123)) := (Below.refl _ _).alloc (Nat.le_refl _) _
    generalize w4.alloc (.cells #[.int .u64 kc, .int .i64 tg, .bool kd, .slice sa pn sc] 123) = w5 at *
    have HW5 := Lib.hid (show DqSt w w5 u8 bs u9 o w4.heap.size #[.int .u64 kc, .int .i64 tg, .bool kd, .slice sa pn sc] from ⟨⟨row_below HR.out.row (HB4.out.trans (hb5.mono HB4.out.size)), HR.out.below.trans ((HB4.out.trans (hb5.mono HB4.out.size)).mono HR.out.size)⟩, row_below HEE.out (HB4.out.trans (hb5.mono HB4.out.size)), hX5⟩)
    have HSP := Lib.hid (Row.back HFO.out.spcs HR.out.below)
    have HKD := Lib.hid HFO.out.kid
    have hbo := HFO.out.b
    have htg := HFO.out.tag
    subst hbo
    rw [htg] at HOK
    clear hX5 hb5 HFO HB4 HFD HR HEE c0 c1 c2 c3 c4 c5 htg
    generalize w4.heap.size = H5 at *
    have hb6 : Below w5.heap.size w5 w5.drew := (Below.refl _ _).drew
    have HW6 := Lib.hid (HW5.out.below hb6)
    clear hb6 HW5
    obtain ⟨b1, hb1⟩ : ∃ b, ab.isSome = b := ⟨_, rfl⟩
    rw [hb1] at HOK
    rw [hb1]
    clear hb1
    obtain ⟨c0, c1, c2, c3, c4, c5⟩ := HC.out _ HW6.out.r.below
    obtain ⟨z0, z1, z2, z3⟩ := four_cells HW6.out.b
    cases b1 with
    | false =>
      have HNN := Lib.hid (HNO.out (by rw [HOK.out]; rfl))
      refine wp_region_held_drew (S := fun X => X.cell? ⟨b, oo + k * 6, none⟩ = some (.int .u64 (y.off : Int)) ∧ X.cell? ⟨b, oo + k * 6 + 1, none⟩ = some (.int .u64 (y.code : Int)) ∧ X.cell? ⟨b, oo + k * 6 + 2, none⟩ = some (.int .i64 y.tag) ∧ X.cell? ⟨b, oo + k * 6 + 3, none⟩ = some (.int .i64 y.parent) ∧ X.cell? ⟨b, oo + k * 6 + 4, none⟩ = some (.int .i64 y.depth) ∧ X.cell? ⟨b, oo + k * 6 + 5, none⟩ = some (.slice y.a xn y.c) ∧ X.cell? ⟨H5, 0, none⟩ = some (.int .u64 kc) ∧ X.cell? ⟨H5, 1, none⟩ = some (.int .i64 tg) ∧ X.cell? ⟨H5, 2, none⟩ = some (.bool kd) ∧ X.cell? ⟨H5, 3, none⟩ = some (.slice sa pn sc)) (by kernel_rfl) ?_ (fun hHeld => ?_)
      · exact ⟨c0, c1, c2, c3, c4, c5, z0, z1, z2, z3⟩
      generalize w5.drew = w6 at *
      refine take_r (i := 0) (v := ?_) rfl (by kernel_rfl) (by kernel_rfl) (by kernel_rfl) (fun _ _ _ h => h) (Or.inl ⟨by rfl, ?_⟩) hHeld ?_
      rotate_left
      · (intro wS hSw; (try dsimp only at hSw); go_simp; (try with_reducible rfl))
      try simp only [Act.put, List.setIfInBounds_toArray, List.set_cons_zero, List.set_cons_succ]
      refine take_r (i := 1) (v := ?_) rfl (by kernel_rfl) (by kernel_rfl) (by kernel_rfl) (fun _ _ _ h => h) (Or.inl ⟨by rfl, ?_⟩) hHeld ?_
      rotate_left
      · (intro wS hSw; (try dsimp only at hSw); go_simp; (try with_reducible rfl))
      try simp only [Act.put, List.setIfInBounds_toArray, List.set_cons_zero, List.set_cons_succ]
      refine take_r (i := 2) (v := ?_) rfl (by kernel_rfl) (by kernel_rfl) (by kernel_rfl) (fun _ _ _ h => h) (Or.inl ⟨by rfl, ?_⟩) hHeld ?_
      rotate_left
      · (intro wS hSw; (try dsimp only at hSw); go_simp; (try with_reducible rfl))
      try simp only [Act.put, List.setIfInBounds_toArray, List.set_cons_zero, List.set_cons_succ]
      refine take_r (i := 3) (v := undef) rfl (by kernel_rfl) (by kernel_rfl) (by kernel_rfl) (fun _ _ _ h => h) (Or.inr ⟨by rfl, rfl⟩) hHeld ?_; try simp only [Act.put, List.setIfInBounds_toArray, List.set_cons_zero, List.set_cons_succ]
      refine take_r (i := 4) (v := undef) rfl (by kernel_rfl) (by kernel_rfl) (by kernel_rfl) (fun _ _ _ h => h) (Or.inr ⟨by rfl, rfl⟩) hHeld ?_; try simp only [Act.put, List.setIfInBounds_toArray, List.set_cons_zero, List.set_cons_succ]
      refine take_r (i := 5) (v := undef) rfl (by kernel_rfl) (by kernel_rfl) (by kernel_rfl) (fun _ _ _ h => h) (Or.inr ⟨by rfl, rfl⟩) hHeld ?_; try simp only [Act.put, List.setIfInBounds_toArray, List.set_cons_zero, List.set_cons_succ]
      refine take_r (i := 6) (v := undef) rfl (by kernel_rfl) (by kernel_rfl) (by kernel_rfl) (fun _ _ _ h => h) (Or.inr ⟨by rfl, rfl⟩) hHeld ?_; try simp only [Act.put, List.setIfInBounds_toArray, List.set_cons_zero, List.set_cons_succ]
      refine take_r (i := 7) (v := undef) rfl (by kernel_rfl) (by kernel_rfl) (by kernel_rfl) (fun _ _ _ h => h) (Or.inr ⟨by rfl, rfl⟩) hHeld ?_; try simp only [Act.put, List.setIfInBounds_toArray, List.set_cons_zero, List.set_cons_succ]
      refine take_r (i := 8) (v := undef) rfl (by kernel_rfl) (by kernel_rfl) (by kernel_rfl) (fun _ _ _ h => h) (Or.inr ⟨by rfl, rfl⟩) hHeld ?_; try simp only [Act.put, List.setIfInBounds_toArray, List.set_cons_zero, List.set_cons_succ]
      refine take_r (i := 9) (v := undef) rfl (by kernel_rfl) (by kernel_rfl) (by kernel_rfl) (fun _ _ _ h => h) (Or.inr ⟨by rfl, rfl⟩) hHeld ?_; try simp only [Act.put, List.setIfInBounds_toArray, List.set_cons_zero, List.set_cons_succ]
      refine take_r (i := 10) (v := undef) rfl (by kernel_rfl) (by kernel_rfl) (by kernel_rfl) (fun _ _ _ h => h) (Or.inr ⟨by rfl, rfl⟩) hHeld ?_; try simp only [Act.put, List.setIfInBounds_toArray, List.set_cons_zero, List.set_cons_succ]
      refine take_r (i := 11) (v := ?_) rfl (by kernel_rfl) (by kernel_rfl) (by kernel_rfl) (fun _ _ _ h => h) (Or.inl ⟨by rfl, ?_⟩) hHeld ?_
      rotate_left
      · (intro wS hSw; (try dsimp only at hSw); go_simp; (try with_reducible rfl))
      try simp only [Act.put, List.setIfInBounds_toArray, List.set_cons_zero, List.set_cons_succ]
      refine wpAnyH_done (by kernel_rfl) ?_ _
      go_wp2_with fail
      (try rw [Exit.noGoto_ret])
      go_ret2
      exact ⟨_, by rw [HNN.out]; rfl, by rw [HNN.out]; exact own_nilR _ _, HW6.out.r.below⟩
    | true =>
      obtain ⟨F, hF⟩ : ∃ F, (decide (y.tag = tg) && fitL (y.L.map AtL.att) (psO ab) wide) = F := ⟨_, rfl⟩
      rw [show y.ent.tag = y.tag from rfl, show y.ent.l = y.L.map AtL.att from rfl, hF, show y.ent.depth = y.depth from rfl] at HOK
      have HOF := Lib.hid (fun W (hW : Below w.heap.size w W) => (by
        have := rdfits_any (w := W) y ((HYA.out.below hW).more hW.size) (Nat.le_trans HYI.out.len (by decide)) HYI.out.ats kc tg kd (psO ab) sa sc (Row.more (Row.below HSP.out hW) hW.size) (by rw [HPN.out]; exact HPL.out) wide
        rw [HXN.out, HPN.out, hF] at this
        exact this : Calls Tryz.prog 68 #[.agg #[.int .u64 (y.off : Int), .int .u64 (y.code : Int), .int .i64 y.tag, .int .i64 y.parent, .int .i64 y.depth, .slice y.a xn y.c], .agg #[.int .u64 kc, .int .i64 tg, .bool kd, .slice sa pn sc], .bool wide] W fun r w' => r = .returned (.bool F) ∧ Below W.heap.size W w'))
      have HF1 := Lib.hid hF
      clear hF
      refine wp_region_held_drew (S := fun X => X.cell? ⟨b, oo + k * 6, none⟩ = some (.int .u64 (y.off : Int)) ∧ X.cell? ⟨b, oo + k * 6 + 1, none⟩ = some (.int .u64 (y.code : Int)) ∧ X.cell? ⟨b, oo + k * 6 + 2, none⟩ = some (.int .i64 y.tag) ∧ X.cell? ⟨b, oo + k * 6 + 3, none⟩ = some (.int .i64 y.parent) ∧ X.cell? ⟨b, oo + k * 6 + 4, none⟩ = some (.int .i64 y.depth) ∧ X.cell? ⟨b, oo + k * 6 + 5, none⟩ = some (.slice y.a xn y.c) ∧ X.cell? ⟨H5, 0, none⟩ = some (.int .u64 kc) ∧ X.cell? ⟨H5, 1, none⟩ = some (.int .i64 tg) ∧ X.cell? ⟨H5, 2, none⟩ = some (.bool kd) ∧ X.cell? ⟨H5, 3, none⟩ = some (.slice sa pn sc)) (by kernel_rfl) ?_ (fun hHeld => ?_)
      · exact ⟨c0, c1, c2, c3, c4, c5, z0, z1, z2, z3⟩
      generalize w5.drew = w6 at *
      refine take_r (i := 0) (v := ?_) rfl (by kernel_rfl) (by kernel_rfl) (by kernel_rfl) (fun _ _ _ h => h) (Or.inl ⟨by rfl, ?_⟩) hHeld ?_
      rotate_left
      · (intro wS hSw; (try dsimp only at hSw); go_simp; (try with_reducible rfl))
      try simp only [Act.put, List.setIfInBounds_toArray, List.set_cons_zero, List.set_cons_succ]
      refine take_r (i := 1) (v := ?_) rfl (by kernel_rfl) (by kernel_rfl) (by kernel_rfl) (fun _ _ _ h => h) (Or.inl ⟨by rfl, ?_⟩) hHeld ?_
      rotate_left
      · (intro wS hSw; (try dsimp only at hSw); go_simp; (try with_reducible rfl))
      try simp only [Act.put, List.setIfInBounds_toArray, List.set_cons_zero, List.set_cons_succ]
      refine take_r (i := 2) (v := ?_) rfl (by kernel_rfl) (by kernel_rfl) (by kernel_rfl) (fun _ _ _ h => h) (Or.inl ⟨by rfl, ?_⟩) hHeld ?_
      rotate_left
      · (intro wS hSw; (try dsimp only at hSw); go_simp; (try with_reducible rfl))
      try simp only [Act.put, List.setIfInBounds_toArray, List.set_cons_zero, List.set_cons_succ]
      refine take_r (i := 3) (v := ?_) rfl (by kernel_rfl) (by kernel_rfl) (by kernel_rfl) (fun _ _ _ h => h) (Or.inl ⟨by rfl, ?_⟩) hHeld ?_
      rotate_left
      · (intro wS hSw; (try dsimp only at hSw); go_simp; (try with_reducible rfl))
      try simp only [Act.put, List.setIfInBounds_toArray, List.set_cons_zero, List.set_cons_succ]
      refine take_r (i := 4) (v := ?_) rfl (by kernel_rfl) (by kernel_rfl) (by kernel_rfl) (fun _ _ _ h => h) (Or.inl ⟨by rfl, ?_⟩) hHeld ?_
      rotate_left
      · (intro wS hSw; (try dsimp only at hSw); go_simp; (try with_reducible rfl))
      try simp only [Act.put, List.setIfInBounds_toArray, List.set_cons_zero, List.set_cons_succ]
      refine take_r (i := 5) (v := ?_) rfl (by kernel_rfl) (by kernel_rfl) (by kernel_rfl) (fun _ _ _ h => h) (Or.inl ⟨by rfl, ?_⟩) hHeld ?_
      rotate_left
      · (intro wS hSw; (try dsimp only at hSw); go_simp; (try with_reducible rfl))
      try simp only [Act.put, List.setIfInBounds_toArray, List.set_cons_zero, List.set_cons_succ]
      refine take_r (i := 6) (v := ?_) rfl (by kernel_rfl) (by kernel_rfl) (by kernel_rfl) (fun _ _ _ h => h) (Or.inl ⟨by rfl, ?_⟩) hHeld ?_
      rotate_left
      · (intro wS hSw; (try dsimp only at hSw); go_simp; (try with_reducible rfl))
      try simp only [Act.put, List.setIfInBounds_toArray, List.set_cons_zero, List.set_cons_succ]
      refine take_r (i := 7) (v := ?_) rfl (by kernel_rfl) (by kernel_rfl) (by kernel_rfl) (fun _ _ _ h => h) (Or.inl ⟨by rfl, ?_⟩) hHeld ?_
      rotate_left
      · (intro wS hSw; (try dsimp only at hSw); go_simp; (try with_reducible rfl))
      try simp only [Act.put, List.setIfInBounds_toArray, List.set_cons_zero, List.set_cons_succ]
      refine take_r (i := 8) (v := ?_) rfl (by kernel_rfl) (by kernel_rfl) (by kernel_rfl) (fun _ _ _ h => h) (Or.inl ⟨by rfl, ?_⟩) hHeld ?_
      rotate_left
      · (intro wS hSw; (try dsimp only at hSw); go_simp; (try with_reducible rfl))
      try simp only [Act.put, List.setIfInBounds_toArray, List.set_cons_zero, List.set_cons_succ]
      refine wpAnyH_ready (rs := [9]) (by kernel_rfl) (by simp) ?_
      refine ready_r rfl (fun K hK => ?_)
      go_simp
      go_wp2_with (go_at_call 68; refine (HOF.out _ HW6.out.r.below).mono ?_; rintro r w7 ⟨rfl, hb7⟩; have HW7 := Lib.hid (HW6.out.below hb7); clear hb7)
      refine hK.out _ _ ?_ (fun hNew => ?_)
      · (obtain ⟨n0, n1, n2, n3, n4, n5⟩ := HC.out _ HW7.out.r.below; obtain ⟨m0, m1, m2, m3⟩ := four_cells HW7.out.b; exact ⟨n0, n1, n2, n3, n4, n5, m0, m1, m2, m3⟩)
      clear hHeld hK K
      have hHeld := hNew
      clear hNew
      refine take_r (i := 10) (v := ?_) rfl (by kernel_rfl) (by kernel_rfl) (by kernel_rfl) (fun _ _ _ h => h) (Or.inl ⟨by rfl, ?_⟩) hHeld ?_
      rotate_left
      · (intro wS hSw; (try dsimp only at hSw); go_simp; (try with_reducible rfl))
      try simp only [Act.put, List.setIfInBounds_toArray, List.set_cons_zero, List.set_cons_succ]
      refine take_r (i := 11) (v := ?_) rfl (by kernel_rfl) (by kernel_rfl) (by kernel_rfl) (fun _ _ _ h => h) (Or.inl ⟨by rfl, ?_⟩) hHeld ?_
      rotate_left
      · (intro wS hSw; (try dsimp only at hSw); go_simp; (try with_reducible rfl))
      try simp only [Act.put, List.setIfInBounds_toArray, List.set_cons_zero, List.set_cons_succ]
      refine wpAnyH_done (by kernel_rfl) ?_ _
      cases F with
      | false =>
        have HNN := Lib.hid (HNO.out (by rw [HOK.out]; rfl))
        go_wp2_with fail
        (try rw [Exit.noGoto_ret])
        go_ret2
        exact ⟨_, by rw [HNN.out]; rfl, by rw [HNN.out]; exact own_nilR _ _, HW7.out.r.below⟩
      | true =>
      obtain ⟨mi, hmi⟩ : ∃ mi : Int, (if k = 0 then 0 else 1) = mi := ⟨_, rfl⟩
      have HMI := Lib.hid hmi
      rw [hmi] at HOK
      clear hmi HOF HSP HPL HPN HW6 c0 c1 c2 c3 c4 c5 z0 z1 z2 z3
      have HNV := Lib.hid (fun (h : ¬ (mi ≤ y.depth ∧ y.depth ≤ (o : Int))) => HNO.out (by
        rw [HOK.out, Bool.true_and, Bool.true_and, ← Bool.not_eq_true, Bool.and_eq_true, decide_eq_true_eq, decide_eq_true_eq]
        exact h))
      have HYV := Lib.hid (fun (h : mi ≤ y.depth ∧ y.depth ≤ (o : Int)) => HGO.out (by
        rw [HOK.out, Bool.true_and, Bool.true_and, Bool.and_eq_true, decide_eq_true_eq, decide_eq_true_eq]
        exact h))
      clear HOK HGO HNO
      have HON := Lib.hid ho
      go_upto_if 64 with fail
      go_cut [] (fun wx => Hid (DqSt w wx u8 bs u9 o H5 #[.int .u64 kc, .int .i64 tg, .bool kd, .slice sa pn sc]) ∧ Hid (mi ≤ y.depth ∧ y.depth ≤ (o : Int)))
      case first =>
        by_cases hk0 : k = 0
        · have hy00 : y0 = y := by
            have h1 := HY0.out
            rw [← hk0, HYK.out] at h1
            injection h1 with h1
            exact h1.symm
          have HV := Lib.hid (show mi ≤ y.depth ∧ y.depth ≤ (o : Int) by
            have h2 := HZ0.out
            rw [hy00] at h2
            have h3 := HMI.out
            rw [if_pos hk0] at h3
            have h4 := HON.out
            omega)
          have hkp3 : ¬ 0 < k := by omega
          have hkp : decide ((0 : Int) < (k : Int)) = false := by simp; omega
          clear hy00 hk0
          go_wp2_with fail
          go_meet
          case rel => exact ⟨HW7, HV⟩
        obtain ⟨k', hk'⟩ : ∃ k', k = k' + 1 := ⟨k - 1, by omega⟩
        have hkp : decide ((0 : Int) < (k : Int)) = true := by simp; omega
        have hkp3 : 0 < k := by omega
        have hklt : k' < N := by omega
        obtain ⟨yp, hyp⟩ : ∃ yp, L[k']? = some yp := ⟨L[k']'(by rw [HN.out]; exact hklt), List.getElem?_eq_getElem _⟩
        have HOP := Lib.hid (HPV.out k' yp hk' hyp)
        have HCP := Lib.hid (fun W (hW : Below w.heap.size w W) => ent_cells HH.out hW hyp)
        have HMI1 := Lib.hid (show mi = 1 by rw [← HMI.out, if_neg hk0])
        have hsub : IntKind.i64.wrap ((k : Int) - 1) = (k' : Int) := by rw [IntWalk.i64_in _ (by omega), hk']; omega
        have hsub2 : wrap64 ((k : Int) - 1) = (k' : Int) := by rw [← i64_wrap_eq]; exact hsub
        have HFP := Lib.hid (fun W (hW : Below w.heap.size w W) => (by
          have := rdfind_any (HTT.out.below hW) hW.size tc HTL.out HTI.out yp.code
          rwa [HTN.out] at this : Calls Tryz.prog 67 #[.slice ta tn tc, .int .u64 (yp.code : Int)] W fun r w' => ∃ kc tg kd sa sc b, r = .returned (.tuple #[.agg #[.int .u64 kc, .int .i64 tg, .bool kd, .slice sa (psO (abbK T yp.code)).length sc], .bool b]) ∧ FoundD W w.heap.size (abbK T yp.code) tg kd sa b ∧ Below W.heap.size W w'))
        generalize abbK T yp.code = abp at *
        obtain ⟨kp, hkp'⟩ : ∃ kp, kidO abp = kp := ⟨_, rfl⟩
        obtain ⟨pd, hpd⟩ : ∃ pd, yp.depth = pd := ⟨_, rfl⟩
        obtain ⟨cp, hcp⟩ : ∃ cp, yp.code = cp := ⟨_, rfl⟩
        rw [hkp', hpd] at HOP
        rw [hpd, hcp] at HCP
        rw [hcp] at HFP
        have HKP := Lib.hid hkp'
        obtain ⟨U, hU⟩ : ∃ U, pd + 1 = U := ⟨_, rfl⟩
        have HUP := Lib.hid (show U = if kp = true then (o : Int) else (o : Int) + 1 by
          have := HOP.out
          cases kp with
          | true => rw [if_pos rfl] at this ⊢; omega
          | false => rw [if_neg (by decide)] at this ⊢; omega)
        have hup : IntKind.i64.wrap (pd + 1) = U := by
          rw [IntWalk.i64_in _ (by have h1 := HUP.out; have h2 := HON.out; have h3 : U = (o : Int) ∨ U = (o : Int) + 1 := by { rw [h1]; split <;> simp }; omega), hU]
        have hup2 : wrap64 (pd + 1) = U := by rw [← i64_wrap_eq]; exact hup
        clear hyp hk' hk0 hkp' hpd hcp hU
        obtain ⟨c0, c1, c2, c3, c4, c5⟩ := HC.out _ HW7.out.r.below
        obtain ⟨e0, e1, e2, e3, e4, e5⟩ := HCP.out _ HW7.out.r.below
        by_cases hd1 : y.depth < 1
        · have d1 : decide (y.depth < 1) = true := decide_eq_true hd1
          have HNN := Lib.hid (HNV.out (fun h => by have := HMI1.out; omega))
          clear hd1
          go_wp2_with fail
          (try rw [Exit.noGoto_ret])
          go_ret2
          exact ⟨_, by rw [HNN.out]; rfl, by rw [HNN.out]; exact own_nilR _ _, HW7.out.r.below⟩
        have d1 : decide (y.depth < 1) = false := decide_eq_false hd1
        by_cases hd2 : U < y.depth
        · have d2 : decide (U < y.depth) = true := decide_eq_true hd2
          have HNN := Lib.hid (HNV.out (fun h => by have := HUP.out; cases kp <;> simp at this <;> omega))
          clear hd1 hd2
          go_wp2_with fail
          (try rw [Exit.noGoto_ret])
          go_ret2
          exact ⟨_, by rw [HNN.out]; rfl, by rw [HNN.out]; exact own_nilR _ _, HW7.out.r.below⟩
        have d2 : decide (U < y.depth) = false := decide_eq_false hd2
        have HD1 := Lib.hid hd1
        have HD2 := Lib.hid hd2
        clear hd1 hd2
        go_upto_region 16 with (go_at_call 67; refine (HFP.out _ HW7.out.r.below).mono ?_; rintro r w8 ⟨kc2, tg2, kd2, sa2, sc2, bb2, rfl, hFD2, hb8⟩; have HK2 := Lib.hid (hFD2.kid.symm.trans HKP.out); have HB8 := Lib.hid hb8; clear hFD2 hb8)
        obtain ⟨pm, hpm⟩ : ∃ pm, (psO abp).length = pm := ⟨_, rfl⟩
        rw [hpm]
        have hX9 := Box.new w8 123 #[.int .u64 kc2, .int .i64 tg2, .bool kd2, .slice sa2 pm sc2]
        have hb9 : Below w8.heap.size w8 (w8.alloc (.cells #[.int .u64 kc2, .int .i64 tg2, .bool kd2, .slice sa2 pm sc2] 123)) := (Below.refl _ _).alloc (Nat.le_refl _) _
        generalize w8.alloc (.cells #[.int .u64 kc2, .int .i64 tg2, .bool kd2, .slice sa2 pm sc2] 123) = w9 at *
        have HW9 := Lib.hid (HW7.out.below (HB8.out.trans (hb9.mono HB8.out.size)))
        obtain ⟨z0, z1, z2, z3⟩ := four_cells hX9
        clear hX9 hb9 hpm c0 c1 c2 c3 c4 c5 e0 e1 e2 e3 e4 e5
        obtain ⟨c0, c1, c2, c3, c4, c5⟩ := HC.out _ HW9.out.r.below
        generalize w8.heap.size = H8 at *
        have hkk := HK2.out
        subst hkk
        clear HK2 HKP
        by_cases hd3 : y.depth = U
        · have d3 : (y.depth == U) = true := by simpa using hd3
          cases kd2 with
          | true =>
            have HV := Lib.hid (show mi ≤ y.depth ∧ y.depth ≤ (o : Int) by
              have h1 := HMI1.out; have h2 := HD1.out; have h3 := HUP.out
              rw [if_pos rfl] at h3
              omega)
            clear hd3
            go_wp2_with fail
            go_meet
            case rel => exact ⟨HW9, HV⟩
          | false =>
            have HNN := Lib.hid (HNV.out (fun h => by
              have h3 := HUP.out
              rw [if_neg (by decide)] at h3
              omega))
            clear hd3
            go_wp2_with fail
            (try rw [Exit.noGoto_ret])
            go_ret2
            exact ⟨_, by rw [HNN.out]; rfl, by rw [HNN.out]; exact own_nilR _ _, HW9.out.r.below⟩
        · have d3 : (y.depth == U) = false := by simpa using hd3
          have HV := Lib.hid (show mi ≤ y.depth ∧ y.depth ≤ (o : Int) by
            have h1 := HMI1.out; have h2 := HD1.out; have h3 := HUP.out; have h4 := HD2.out
            cases kd2 <;> simp at h3 <;> omega)
          clear hd3
          go_wp2_with fail
          go_meet
          case rel => exact ⟨HW9, HV⟩
      case rest =>
        obtain ⟨HW, HV⟩ := hcut
        have HPD := Lib.hid (HYV.out HV.out)
        obtain ⟨dd, hdd⟩ : ∃ dd : Nat, y.depth = (dd : Int) := ⟨y.depth.toNat, by
          have h1 := HMI.out
          have h2 := HV.out.1
          split at h1 <;> omega⟩
        have hdo : dd ≤ o := by have := HV.out.2; omega
        have HDD := Lib.hid hdd
        rw [hdd] at HC
        have HLB := Lib.hid (show bs.length ≤ 1000 * 300000000 from Nat.le_trans HBL.out (Nat.mul_le_mul_right _ (by omega)))
        have HRE := Lib.hid (show rightE (y.L.map AtL.att) wide = true from by
          have := HF1.out
          rw [Bool.and_eq_true] at this
          have := this.2
          unfold fitL at this
          rw [Bool.and_eq_true] at this
          exact this.2)
        clear HNV HYV HW7 HPV HMI HV hdd HF1
        generalize wc = wd at *
        go_wp2_with fail
        go_loopg [8, 9] (o - dd) (fun gk u e wr => ∃ m : Nat, dd ≤ m ∧ m ≤ o ∧ gk = m - dd ∧ Hid (DqSt w wr u (bs ++ List.replicate (o - m) 0) e m H5 #[.int .u64 kc, .int .i64 tg, .bool kd, .slice sa pn sc]))
        case atStart => exact ⟨o, hdo, Nat.le_refl _, rfl, Lib.hid (by rw [Nat.sub_self, List.replicate_zero, List.append_nil]; exact HW.out)⟩
        case round =>
          obtain ⟨m, hdm, hmo, rfl, HM⟩ := hrel
          clear HW
          obtain ⟨A9, c9, hu9⟩ := un_slc HM.out.e
          subst hu9
          obtain ⟨c0, c1, c2, c3, c4, c5⟩ := HC.out _ HM.out.r.below
          by_cases hmd : dd < m
          · obtain ⟨m', hm'⟩ : ∃ m', m = m' + 1 := ⟨m - 1, by omega⟩
            have HMS := Lib.hid hm'
            have hs1 : IntKind.i64.wrap ((m : Int) - 1) = (m' : Int) := by rw [IntWalk.i64_in _ (by omega)]; omega
            have hs2 : wrap64 ((m : Int) - 1) = (m' : Int) := by rw [← i64_wrap_eq]; exact hs1
            have hm0 : 0 < m := by omega
            have hm1 : m' < m := by omega
            have hm2 : dd ≤ m' := by omega
            have d0 : decide ((0 : Int) < (m : Int)) = true := by simp; omega
            have d1 : decide ((dd : Int) ≤ (m' : Int)) = true := by simp; omega
            have hla := HM.out
            rw [hm'] at hla
            obtain ⟨g, hg, hgc, hcell⟩ := hla.last
            subst hg
            have hrc := fun W => run_cutI W (g := g) (n := m) (c := c9) (d := m') (by omega) (by omega)
            clear hla hm'
            go_upto_region 18 with fail
            go_quiet (fail)
            have HMQ := Lib.hid (HM.out.below (below_drewN (Below.refl _ _) nq))
            generalize wr.drewN nq = w3 at *
            have S1 := Lib.hid (show (bs ++ List.replicate (o - m) 0).length + ([0] : List UInt8).length ≤ 140737488355328 by
              have := HLB.out
              rw [List.length_append, List.length_replicate, List.length_singleton]
              omega)
            have HA2 := Lib.hid ((Below.refl w3.heap.size w3).alloc (Nat.le_refl _) (.cells #[.int .u8 0] 5))
            have HRD2 := Lib.hid (rd_one w3 0 0 rfl)
            have hbs2 : w.heap.size ≤ (w3.alloc (.cells #[.int .u8 0] 5)).heap.size := Nat.le_trans HMQ.out.r.size HA2.out.size
            have HOB := Lib.hid (own_below HMQ.out.r.row HA2.out)
            go_wp2_with (at_builtin; refine wpList_append_bytes (by rfl) (.tmp 127) (.tmp 128) _ (by rfl) w.heap.size i0 Tryz.underlying26 hi hz0 hz1 hz2 _ (bs ++ List.replicate (o - m) 0) (by rfl) HOB.out (w3.heap.size + 1) (some ⟨w3.heap.size, 0, none⟩) 1 1 [0] rfl (by rfl) HRD2.out S1.out hbs2 ?_; intro v7 w7 hown7 hg7 hat7; have HS7 := Lib.hid (HMQ.out.more HA2.out hown7 hg7); clear hown7 hg7 hat7)
            go_roundg (m' - dd)
            case measure => omega
            case rel => exact ⟨m', by omega, by omega, rfl, Lib.hid (by
              have := HS7.out.cut hm0 (Nat.le_of_lt hm1)
              rw [List.append_assoc, ← List.replicate_succ', show o - m + 1 = o - m' by have := HMS.out; omega] at this
              exact this)⟩
          · obtain rfl : m = dd := by omega
            clear hmd hdm hdo
            generalize wr = wg at *
            rcases Nat.eq_zero_or_pos m with hz | hm0
            case' inl =>
              have hm0 : ¬ 0 < m := by omega
              have d0 : decide ((0 : Int) < (m : Int)) = false := by simp; omega
              clear hz
              go_upto_region 18 with fail
              go_quiet (fail)
              clear d0 hm0
              go_upto_region 21 with fail
            case' inr =>
              obtain ⟨m', hm'⟩ : ∃ m', m = m' + 1 := ⟨m - 1, by omega⟩
              have hs1 : IntKind.i64.wrap ((m : Int) - 1) = (m' : Int) := by rw [IntWalk.i64_in _ (by omega)]; omega
              have hs2 : wrap64 ((m : Int) - 1) = (m' : Int) := by rw [← i64_wrap_eq]; exact hs1
              have hm1 : m' < m := by omega
              have hm2 : ¬ m ≤ m' := by omega
              have d0 : decide ((0 : Int) < (m : Int)) = true := by simp; omega
              have d1 : decide ((m : Int) ≤ (m' : Int)) = false := by simp; omega
              have hla := HM.out
              rw [hm'] at hla
              obtain ⟨g, hg, hgc, hcell⟩ := hla.last
              subst hg
              clear hla hm'
              go_upto_region 18 with fail
              go_quiet (fail)
              go_upto_region 21 with fail
              clear hs1 hs2 hm0 hm1 hm2 d0 d1 hgc hcell
              generalize (some { block := g, off := 0 } : Option Addr) = A9 at *
            all_goals
              have HM3 := Lib.hid (HM.out.below (below_drewN (Below.refl _ _) nq))
              generalize wg.drewN nq = w3 at *
              clear HM c0 c1 c2 c3 c4 c5
              obtain ⟨c0, c1, c2, c3, c4, c5⟩ := HC.out _ HM3.out.r.below
              obtain ⟨Z0, hZ0⟩ : ∃ Z0, bs ++ List.replicate (o - m) 0 = Z0 := ⟨_, rfl⟩
              obtain ⟨P1, hP1⟩ : ∃ P1, lebPut (sizeU y.code) (y.code : Int) = P1 := ⟨_, rfl⟩
              obtain ⟨n1, hn1⟩ : ∃ n1, P1.length = n1 := ⟨_, rfl⟩
              have hcd : y.code < 2 ^ 64 := by have := HYI.out.code; unfold two64 at this; omega
              have hul : P1.length ≤ 10 := by rw [← hP1]; exact putU_len hcd
              have hzl : Z0.length ≤ 300000001000 := by
                have := HLB.out
                rw [← hZ0, List.length_append, List.length_replicate]
                omega
              have HPU1 := Lib.hid (fun W => (by have := rputU_rd W y.code hcd; rwa [hP1, hn1] at this : Calls Tryz.prog 69 #[.int .u64 (y.code : Int)] W fun r w' => ∃ A c, r = .returned (.slice A n1 c) ∧ Rd w' w'.heap.size A P1 ∧ Below W.heap.size W w'))
              have S1 := Lib.hid (show Z0.length + P1.length ≤ 140737488355328 by omega)
              have HXL := Lib.hid (show (Z0 ++ P1).length ≤ 300000001010 by rw [List.length_append]; omega)
              have HZ0 := Lib.hid hZ0
              have HP1 := Lib.hid hP1
              have HN1 := Lib.hid hn1
              rw [hZ0] at HM3
              clear hZ0 hP1 hn1 hcd hul hzl
              go_upto_region 22 with (first
                | (go_at_call 69; refine (HPU1.out _).mono ?_; rintro r w4 ⟨A4, d4, rfl, hr4, hb4⟩; have ho4 := own_below HM3.out.r.row hb4; have hz4 : w.heap.size ≤ w4.heap.size := Nat.le_trans HM3.out.r.size hb4.size)
                | (at_builtin; refine wpList_append_bytes (by rfl) (.tmp 135) (.tmp 141) _ (by rfl) w.heap.size i0 Tryz.underlying26 hi hz0 hz1 hz2 _ Z0 (by rfl) ho4 w4.heap.size A4 n1 d4 P1 HN1.out (by rfl) hr4 S1.out hz4 ?_; intro v5 w5 hown5 hg5 hat5; have HM5 := Lib.hid (HM3.out.more hb4 hown5 hg5); clear hown5 hg5 hat5 hr4 hb4 ho4 hz4))
              clear c0 c1 c2 c3 c4 c5 HPU1 HM3
              go_wp2_with fail
              go_loopg [8, 16] xn (fun gk u i wr => ∃ j : Nat, j ≤ xn ∧ gk = xn - j ∧ i = .int .i64 j ∧ Hid (DqSt w wr u (Z0 ++ P1 ++ valsB ((y.L.take j).map AtL.att) wide) (.slice A9 m c9) m H5 #[.int .u64 kc, .int .i64 tg, .bool kd, .slice sa pn sc]))
              case atStart => exact ⟨0, Nat.zero_le _, rfl, rfl, Lib.hid (by show DqSt w w5 v5 (Z0 ++ P1 ++ []) _ _ _ _; rw [List.append_nil]; exact HM5.out)⟩
              case round =>
                obtain ⟨j, hj, rfl, rfl, HT⟩ := hrel
                clear HM5
                obtain ⟨c0, c1, c2, c3, c4, c5⟩ := HC.out _ HT.out.r.below
                have HVL := Lib.hid (show (Z0 ++ P1 ++ valsB ((y.L.take j).map AtL.att) wide).length ≤ 300200000000 by
                  have h1 := valsB_len (l := (y.L.take j).map AtL.att) (wide := wide) (fun z hz => by
                    obtain ⟨q, hq, rfl⟩ := List.mem_map.1 hz
                    exact (HYI.out.ats q (List.mem_of_mem_take hq)).att) (by
                      unfold rightE
                      rw [List.all_eq_true]
                      intro z hz
                      obtain ⟨q, hq, rfl⟩ := List.mem_map.1 hz
                      have := HRE.out
                      unfold rightE at this
                      exact List.all_eq_true.1 this _ (List.mem_map.2 ⟨q, List.mem_of_mem_take hq, rfl⟩))
                  have h2 : ((y.L.take j).map AtL.att).length ≤ j := by rw [List.length_map, List.length_take]; exact Nat.min_le_left _ _
                  have h3 : ((y.L.take j).map AtL.att).length * 65600 ≤ 3000 * 65600 := Nat.mul_le_mul_right _ (by have := HYI.out.len; rw [HXN.out] at this; omega)
                  have h4 := HXL.out
                  rw [List.length_append]
                  omega)
                by_cases hlj : j < xn
                · obtain ⟨t, ht⟩ : ∃ t, y.L[j]? = some t := ⟨y.L[j]'(by rw [HXN.out]; exact hlj), List.getElem?_eq_getElem _⟩
                  obtain ⟨b2, o2, hao2, -, t0, t1, t2, t3, t4, t5⟩ := att_at (HYA.out.below HT.out.r.below) ht
                  rw [hao2] at c5
                  have hti := HYI.out.ats t (List.mem_of_getElem? ht)
                  have hrt : rightV t.y.x wide = true := by
                    have := HRE.out
                    unfold rightE at this
                    exact List.all_eq_true.1 this t.att (List.mem_map.2 ⟨t, List.mem_of_getElem? ht, rfl⟩)
                  have HPW := Lib.hid (fun W (hW : Below w.heap.size w W) => rput_rd (w := W) t.y (((HYA.out.bs t (List.mem_of_getElem? ht)).below hW).more hW.size) hti.u hti.s (Nat.le_trans hti.b (by decide)) (Nat.le_trans hti.t (by decide)) wide hrt)
                  have HTK := Lib.hid (show (y.L.take (j + 1)).map AtL.att = (y.L.take j).map AtL.att ++ [t.att] by rw [List.take_add_one, ht, List.map_append]; rfl)
                  have HVS := Lib.hid (valsB_snoc ((y.L.take j).map AtL.att) t.att wide)
                  have hpl := putV_len hti.att (show rightV t.att.x wide = true from hrt)
                  have HPV2 := Lib.hid (show putV t.att.x wide = putV t.y.x wide from rfl)
                  rw [show t.att.x = t.y.x from rfl] at hpl
                  obtain ⟨PV, hPV⟩ : ∃ PV, putV t.y.x wide = PV := ⟨_, rfl⟩
                  rw [hPV] at HPW hpl HPV2
                  obtain ⟨pl, hpll⟩ : ∃ pl, PV.length = pl := ⟨_, rfl⟩
                  rw [hpll] at HPW
                  have HPLL := Lib.hid hpll
                  obtain ⟨U, hU⟩ : ∃ U, Z0 ++ P1 ++ valsB ((y.L.take j).map AtL.att) wide = U := ⟨_, rfl⟩
                  have HU := Lib.hid hU
                  rw [hU] at HT HVL
                  have S2 := Lib.hid (show U.length + PV.length ≤ 140737488355328 by have := HVL.out; omega)
                  obtain ⟨bn, hbn⟩ : ∃ bn, t.y.x.b.length = bn := ⟨_, rfl⟩
                  rw [hbn] at t4
                  simp only [hbn] at HPW
                  clear ht hao2 hti hrt hpl hPV hpll hU hbn
                  generalize t.y.x.t = tx at *
                  generalize t.y.x.form = x0 at *
                  generalize t.y.x.u = x1 at *
                  generalize t.y.x.s = x2 at *
                  generalize t.y.a = ya2 at *
                  generalize t.y.c = yc2 at *
                  generalize t.at_ = x9 at *
                  go_wp2_with (first
                    | (go_at_call 70; refine (HPW.out _ HT.out.r.below).mono ?_; rintro r w6 ⟨A6, d6, E6, rfl, hr6, hb6⟩; have ho6 := own_below HT.out.r.row hb6; have hz6 : w.heap.size ≤ w6.heap.size := Nat.le_trans HT.out.r.size hb6.size)
                    | (at_builtin; refine wpList_append_bytes (by rfl) (.tmp 167) (.tmp 168) _ (by rfl) w.heap.size i0 Tryz.underlying26 hi hz0 hz1 hz2 _ U (by rfl) ho6 w6.heap.size A6 pl d6 PV HPLL.out (by rfl) hr6 S2.out hz6 ?_; intro v7 w7 hown7 hg7 hat7; have HT7 := Lib.hid (HT.out.more hb6 hown7 hg7); clear hown7 hg7 hat7 hr6 hb6 ho6 hz6))
                  go_roundg (xn - (j + 1))
                  case measure => omega
                  case rel => exact ⟨j + 1, hlj, rfl, by go_num, Lib.hid (by rw [HTK.out, HVS.out, HPV2.out, ← List.append_assoc, HU.out]; exact HT7.out)⟩
                · have htk : y.L.take j = y.L := List.take_of_length_le (by rw [HXN.out]; omega)
                  rw [htk] at HT
                  have HPD2 := Lib.hid (show D = putF wide T ((L.drop (k + 1)).map DLay.ent) (k + 1) (Z0 ++ P1 ++ valsB (y.L.map AtL.att) wide) (if kd = true then (m : Int) + 1 else (m : Int)) from by
                    have h := HPD.out
                    rw [show y.ent.depth = (m : Int) from HDD.out, show ((o : Int) - (m : Int)).toNat = o - m by omega, HKD.out, show dentB y.ent wide = lebPut (sizeU y.code) (y.code : Int) ++ valsB (y.L.map AtL.att) wide from rfl, HP1.out, HZ0.out, ← List.append_assoc] at h
                    exact h)
                  have HBN := Lib.hid (show (Z0 ++ P1 ++ valsB (y.L.map AtL.att) wide).length ≤ (k + 1) * 300000000 by
                    have e1 := dentB_len (e := y.ent) (wide := wide) HYI.out.code (fun t ht => by obtain ⟨x, hx, rfl⟩ := List.mem_map.1 ht; exact (HYI.out.ats x hx).att) (by rw [show y.ent.l = y.L.map AtL.att from rfl, List.length_map]; exact HYI.out.len) HRE.out
                    rw [show dentB y.ent wide = lebPut (sizeU y.code) (y.code : Int) ++ valsB (y.L.map AtL.att) wide from rfl, HP1.out] at e1
                    have e2 := HBL.out
                    rw [List.append_assoc, List.length_append, ← HZ0.out, List.length_append, List.length_replicate, Nat.add_mul]
                    omega)
                  have HKY := Lib.hid (fun (k' : Nat) (yp : DLay) (h1 : k + 1 = k' + 1) (h2 : L[k']? = some yp) => (show yp = y from by
                    have : k' = k := by omega
                    rw [this, HYK.out] at h2
                    injection h2 with h2
                    exact h2.symm))
                  have HKI := Lib.hid (show kidO (abbK T y.code) = kd from by rw [HAB.out]; exact HKD.out)
                  obtain ⟨z0, z1, z2, z3⟩ := four_cells HT.out.b
                  clear htk HVL hj
                  cases kd with
                  | true =>
                    have hA5 : Below wr.heap.size wr (wr.alloc (.cells #[.int .i64 (m : Int)] 3)) := (Below.refl _ _).alloc (Nat.le_refl _) _
                    have HPA := Lib.hid (row_below HT.out.e hA5)
                    have hsz5 : w.heap.size ≤ wr.heap.size + 1 := Nat.le_succ_of_le HT.out.r.size
                    have hmx2 : m + 1 ≤ maxLen := by unfold maxLen; omega
                    have hby2 : (m + 1) * 8 ≤ 140737488355328 := by omega
                    go_wp2_with (at_builtin; refine wpList_append_own_at _ (by rfl) (.tmp 172) (.tmp 178) _ (by rfl) w.heap.size 3 i2 _ 1 8 Tryz.underlying153 hk1 hj0 hj1 hj2 rfl (by decide) _ m (deps m) (by rfl) HPA.out ⟨wr.heap.size, 0, none⟩ 1 1 [.int .i64 (m : Int)] (by rfl) rfl (fun j u h => cells_newA wr [.int .i64 (m : Int)] _ j u h) (by simp [Value.oneCell']) hmx2 hby2 (by simpa using hsz5) ?_; intro v6 w6 hown6 hg6 hn6 hat6; clear hn6 hat6; have HT6 := Lib.hid (HT.out.push hA5 hown6 hg6); clear hown6 hg6)
                    go_roundg (N - (k + 1))
                    case measure => omega
                    case rel => exact ⟨k + 1, m + 1, _, hlt, rfl, by go_num, by omega, Lib.hid HT6.out.r, Lib.hid HT6.out.e, HBN, Lib.hid (by have := HPD2.out; rw [if_pos (by first | rfl | trivial)] at this; exact this), Lib.hid (fun k' yp h1 h2 => by
                      have := HKY.out k' yp h1 h2
                      subst this
                      rw [HKI.out, if_pos rfl, HDD.out]
                      rfl)⟩
                  | false =>
                    go_wp2_with fail
                    go_roundg (N - (k + 1))
                    case measure => omega
                    case rel => exact ⟨k + 1, m, _, hlt, rfl, by go_num, by omega, Lib.hid HT.out.r, Lib.hid HT.out.e, HBN, Lib.hid (by have := HPD2.out; rw [if_neg (by decide)] at this; exact this), Lib.hid (fun k' yp h1 h2 => by
                      have := HKY.out k' yp h1 h2
                      subst this
                      rw [HKI.out, if_neg (by decide), HDD.out])⟩

end Go.Proofs.YtejicboemkpeoaaGreatDoor

namespace Go.Proofs.YtejicboemkpeoaaGreatDoor
open Go Go.RowKit

/-- What Bulk bounds. -/
structure DLay.Small (y : DLay) : Prop where
  l : y.L.length ≤ 3000
  b : ∀ t ∈ y.L, t.y.x.b.length ≤ 3000 ∧ t.y.x.t.length ≤ 3000

set_option maxRecDepth 10000 in
set_option maxHeartbeats 1600000 in
theorem bulk17_any {w : World} {a : Option Addr} {L : List DLay} (h : Ents w w.heap.size a L) (c : Nat) :
    Calls Tryz.prog 26 #[.slice a L.length c, .int .i64 3000] w fun r w' => (∃ n : Int, r = .returned (.int .i64 n) ∧ (n ≤ 3000 → L.length ≤ 3000 ∧ ∀ y ∈ L, y.Small)) ∧ Below w.heap.size w w' := by
  obtain ⟨N, hN⟩ : ∃ N, L.length = N := ⟨_, rfl⟩
  have HH := Lib.hid h
  have HN := Lib.hid hN
  rw [hN]
  clear h hN
  by_cases hbig : 3000 < N
  · have d : decide ((3000 : Int) < (N : Int)) = true := decide_eq_true (by omega)
    clear hbig
    go_enter Tryz.func26, Tryz.ntmps26
    go_wp2_with fail
    go_ret
    exact ⟨⟨_, rfl, fun h => absurd h (by decide)⟩, Below.refl _ _⟩
  have d : decide ((3000 : Int) < (N : Int)) = false := decide_eq_false (by omega)
  have hN5 : N ≤ 3000 := by omega
  clear hbig
  go_enter Tryz.func26, Tryz.ntmps26
  go_wp2_with fail
  clear d
  go_loopg [5, 6] N (fun gk n i wr => ∃ k m : Nat, k ≤ N ∧ gk = N - k ∧ n = .int .i64 m ∧ i = .int .i64 k ∧ m ≤ 9000 ∧ Hid (Below w.heap.size w wr) ∧ Hid (∀ (j : Nat) (y : DLay), j < k → L[j]? = some y → y.Small))
  case atStart => exact ⟨0, N, Nat.zero_le _, rfl, rfl, rfl, by omega, Lib.hid (Below.refl _ _), Lib.hid (fun j y hj => by omega)⟩
  case round =>
    obtain ⟨k, m, hk, rfl, rfl, rfl, hm, HB, HJ⟩ := hrel
    by_cases hlt : k < N
    rotate_left
    · have HE := Lib.hid (show ∀ y ∈ L, y.Small from fun y hy => by
        obtain ⟨j, hj⟩ := List.getElem?_of_mem hy
        exact HJ.out j y (by have := (List.getElem?_eq_some_iff.1 hj).1; rw [HN.out] at this; omega) hj)
      go_wp2_with fail
      go_ret
      exact ⟨⟨_, rfl, fun _ => ⟨hN5, HE.out⟩⟩, HB.out⟩
    obtain ⟨y, hy⟩ : ∃ y, L[k]? = some y := ⟨L[k]'(by rw [HN.out]; exact hlt), List.getElem?_eq_getElem _⟩
    obtain ⟨b, oo, hao, -, c0, c1, c2, c3, c4, c5⟩ := ent_at (HH.out.below HB.out) hy
    subst hao
    have HC := Lib.hid (fun W (hW : Below w.heap.size w W) => ent_cells HH.out hW hy)
    by_cases hm5 : 3000 < m
    · have d1 : decide ((3000 : Int) < (m : Int)) = true := decide_eq_true (by omega)
      clear hm5 hy
      generalize y.L.length = ln at *
      go_wp2_with fail
      (try rw [Exit.noGoto_ret])
      go_ret
      exact ⟨⟨_, rfl, fun h => absurd h (by decide)⟩, HB.out⟩
    have d1 : decide ((3000 : Int) < (m : Int)) = false := decide_eq_false (by omega)
    have hm6 : m ≤ 3000 := by omega
    by_cases hl5 : 3000 < y.L.length
    · have d2 : decide ((3000 : Int) < (y.L.length : Int)) = true := decide_eq_true (by omega)
      clear hm5 hy hl5
      generalize y.L.length = ln at *
      go_wp2_with fail
      (try rw [Exit.noGoto_ret])
      go_ret
      exact ⟨⟨_, rfl, fun h => absurd h (by decide)⟩, HB.out⟩
    have d2 : decide ((3000 : Int) < (y.L.length : Int)) = false := decide_eq_false (by omega)
    obtain ⟨xn, hxn⟩ : ∃ xn, y.L.length = xn := ⟨_, rfl⟩
    have hx6 : xn ≤ 3000 := by omega
    rw [hxn] at d2 c5 HC
    have HXN := Lib.hid hxn
    have HYA := Lib.hid (HH.out.ats y (List.mem_of_getElem? hy))
    have HYK := Lib.hid hy
    clear hm5 hl5 hxn hy
    generalize wr = wj at *
    go_upto_region 10 with fail
    clear c0 c1 c2 c3 c4 c5 d1 d2
    go_wp2_with fail
    go_loopg [5, 7] xn (fun gk n i wr => ∃ j m' : Nat, j ≤ xn ∧ gk = xn - j ∧ n = .int .i64 m' ∧ i = .int .i64 j ∧ m' ≤ 9000 ∧ Hid (Below w.heap.size w wr) ∧ Hid (∀ (i : Nat) (t : AtL), i < j → y.L[i]? = some t → t.y.x.b.length ≤ 3000 ∧ t.y.x.t.length ≤ 3000))
    case atStart => exact ⟨0, m + xn, Nat.zero_le _, rfl, by go_num, rfl, by omega, HB, Lib.hid (fun i t hi => by omega)⟩
    case round =>
      obtain ⟨j, m', hj, rfl, rfl, rfl, hm', HBJ, HTJ⟩ := hrel
      obtain ⟨c0, c1, c2, c3, c4, c5⟩ := HC.out _ HBJ.out
      by_cases hlj : j < xn
      rotate_left
      · have HYS := Lib.hid (show y.Small from ⟨by rw [HXN.out]; exact hx6, fun t ht => by
          obtain ⟨i, hi⟩ := List.getElem?_of_mem ht
          exact HTJ.out i t (by have := (List.getElem?_eq_some_iff.1 hi).1; rw [HXN.out] at this; omega) hi⟩)
        have HJ2 := Lib.hid (show ∀ (i : Nat) (z : DLay), i < k + 1 → L[i]? = some z → z.Small from fun i z hi hz => by
          rcases Nat.lt_or_ge i k with h | h
          · exact HJ.out i z h hz
          · obtain rfl : i = k := by omega
            rw [HYK.out] at hz
            injection hz with hz
            subst hz
            exact HYS.out)
        go_wp2_with fail
        go_roundg (N - (k + 1))
        case measure => omega
        case rel => exact ⟨k + 1, m', hlt, rfl, by go_num, by go_num, hm', HBJ, HJ2⟩
      obtain ⟨t, ht⟩ : ∃ t, y.L[j]? = some t := ⟨y.L[j]'(by rw [HXN.out]; exact hlj), List.getElem?_eq_getElem _⟩
      obtain ⟨b2, o2, hao2, -, t0, t1, t2, t3, t4, t5⟩ := att_at (HYA.out.below HBJ.out) ht
      rw [hao2] at c5
      have HTT := Lib.hid (fun (h : t.y.x.b.length ≤ 3000 ∧ t.y.x.t.length ≤ 3000) => (show ∀ (i : Nat) (u : AtL), i < j + 1 → y.L[i]? = some u → u.y.x.b.length ≤ 3000 ∧ u.y.x.t.length ≤ 3000 from fun i u hi hu => by
        rcases Nat.lt_or_ge i j with h1 | h1
        · exact HTJ.out i u h1 hu
        · obtain rfl : i = j := by omega
          rw [ht] at hu
          injection hu with hu
          rw [← hu]
          exact h))
      have hA := (Below.refl wr.heap.size wr).alloc (Nat.le_refl _) (.cells #[.int .i64 t.y.x.form, .int .u64 (t.y.x.u : Int), .int .i64 t.y.x.s, .slice t.y.a t.y.x.b.length t.y.c, .string ⟨t.y.x.t.toArray⟩] 63)
      have hX := Box.new wr 63 #[.int .i64 t.y.x.form, .int .u64 (t.y.x.u : Int), .int .i64 t.y.x.s, .slice t.y.a t.y.x.b.length t.y.c, .string ⟨t.y.x.t.toArray⟩]
      have HB2 := Lib.hid (HBJ.out.trans (hA.mono HBJ.out.size))
      obtain ⟨bn, hbn⟩ : ∃ bn, t.y.x.b.length = bn := ⟨_, rfl⟩
      obtain ⟨tl, htl⟩ : ∃ tl, t.y.x.t.length = tl := ⟨_, rfl⟩
      have hsz : (⟨t.y.x.t.toArray⟩ : ByteArray).size = tl := by rw [← htl]; simp [ByteArray.size]
      rw [hbn] at t4 hX
      rw [hbn, htl] at HTT
      simp only [hbn] at HB2
      obtain ⟨xs, hxs⟩ : ∃ xs : ByteArray, (⟨t.y.x.t.toArray⟩ : ByteArray) = xs := ⟨_, rfl⟩
      rw [hxs] at t5 hX hsz
      simp only [hxs] at HB2
      clear ht hao2 hbn htl hA hxs
      generalize t.y.x.form = x0 at *
      generalize t.y.x.u = x1 at *
      generalize t.y.x.s = x2 at *
      generalize t.y.a = ya2 at *
      generalize t.y.c = yc2 at *
      go_upto_region 14 with fail
      generalize wr.alloc (.cells #[.int .i64 x0, .int .u64 (x1 : Int), .int .i64 x2, .slice ya2 bn yc2, .string xs] 63) = w2 at *
      obtain ⟨z0, z1, z2, z3, z4⟩ := five_cellsR hX
      clear t0 t1 t2 t3 t4 t5 c0 c1 c2 c3 c4 c5 hX
      by_cases hm5 : 3000 < m'
      · have d1 : decide ((3000 : Int) < (m' : Int)) = true := decide_eq_true (by omega)
        clear hm5
        go_wp2_with fail
        (try rw [Exit.noGoto_ret])
        go_ret
        exact ⟨⟨_, rfl, fun h => absurd h (by decide)⟩, HB2.out⟩
      have d1 : decide ((3000 : Int) < (m' : Int)) = false := decide_eq_false (by omega)
      have hm7 : m' ≤ 3000 := by omega
      by_cases hb5 : 3000 < bn
      · have d2 : decide ((3000 : Int) < (bn : Int)) = true := decide_eq_true (by omega)
        clear hm5 hb5
        go_wp2_with fail
        (try rw [Exit.noGoto_ret])
        go_ret
        exact ⟨⟨_, rfl, fun h => absurd h (by decide)⟩, HB2.out⟩
      have d2 : decide ((3000 : Int) < (bn : Int)) = false := decide_eq_false (by omega)
      by_cases ht5 : 3000 < tl
      · have d3 : decide ((3000 : Int) < (tl : Int)) = true := decide_eq_true (by omega)
        clear hm5 hb5 ht5
        go_wp2_with fail
        (try rw [Exit.noGoto_ret])
        go_ret
        exact ⟨⟨_, rfl, fun h => absurd h (by decide)⟩, HB2.out⟩
      have d3 : decide ((3000 : Int) < (tl : Int)) = false := decide_eq_false (by omega)
      have HT2 := Lib.hid (HTT.out ⟨by omega, by omega⟩)
      have hb7 : bn ≤ 3000 := by omega
      have ht7 : tl ≤ 3000 := by omega
      clear hm5 hb5 ht5 HTT
      go_wp2_with fail
      go_roundg (xn - (j + 1))
      case measure => omega
      case rel => exact ⟨j + 1, m' + bn + tl, hlj, rfl, by go_num, by go_num, by omega, HB2, HT2⟩

end Go.Proofs.YtejicboemkpeoaaGreatDoor

namespace Go.Proofs.YtejicboemkpeoaaGreatDoor
open Go Go.RowKit

/-! ### The first of a list -/
def findG {α : Type} [DecidableEq α] (l : List α) (x : α) : Int := match firstK (fun y => decide (y = x)) 0 l with | some k => (k : Int) | none => -1
section
variable {α : Type} [DecidableEq α] {l : List α} {x : α}
theorem findG_at {k : Nat} (h : l[k]? = some x) (hn : (l.take k).all (fun y => !(decide (y = x))) = true) : findG l x = (k : Int) := by
  have := firstK_take (p := fun y => decide (y = x)) l 0 k x h hn (by simp)
  unfold findG
  rw [this, Nat.zero_add]
theorem findG_no (hn : l.all (fun y => !(decide (y = x))) = true) : findG l x = -1 := by
  unfold findG
  rw [firstK_none l 0 hn]
theorem all_takeD {k : Nat} {y : α} (hx : l[k]? = some y) (h : (l.take k).all (fun z => !(decide (z = x))) = true) (hp : y ≠ x) : (l.take (k + 1)).all (fun z => !(decide (z = x))) = true := by
  rw [List.take_add_one, hx, List.all_append, h]
  simp [hp]
end
/-! ### The program's -/
theorem dfind1_any {w : World} (y : DLay) (off g : Nat) (hg : w.cell? ⟨g, 0, none⟩ = some (.int .u64 (off : Int))) :
    Calls Tryz.prog 60 #[.agg #[.int .u64 (y.off : Int), .int .u64 (y.code : Int), .int .i64 y.tag, .int .i64 y.parent, .int .i64 y.depth, .slice y.a y.L.length y.c], .pointer (some ⟨g, 0, none⟩)] w fun r w' => r = .returned (.bool (decide (y.off = off))) ∧ Below w.heap.size w w' := by
  have hb : ((y.off : Int) == (off : Int)) = decide (y.off = off) := nat_beqR _ _
  have hlt : g < w.heap.size := by simpa using World.block_lt_of_cell? w _ hg
  generalize decide (y.off = off) = b at *
  generalize y.L.length = ln at *
  generalize y.off = o at *
  generalize y.code = cd at *
  generalize y.tag = tg at *
  generalize y.parent = pa at *
  generalize y.depth = dp at *
  generalize y.a = ya at *
  generalize y.c = yc at *
  have HB0 := Lib.hid (show Below w.heap.size w (w.alloc (.cells #[.int .u64 (o : Int), .int .u64 (cd : Int), .int .i64 tg, .int .i64 pa, .int .i64 dp, .slice ya ln yc] 61)) from (Below.refl _ _).alloc (Nat.le_refl _) _)
  have hg1 : (w.alloc (.cells #[.int .u64 (o : Int), .int .u64 (cd : Int), .int .i64 tg, .int .i64 pa, .int .i64 dp, .slice ya ln yc] 61)).cell? ⟨g, 0, none⟩ = some (.int .u64 (off : Int)) := by
    rw [HB0.out.cell (p := ⟨g, 0, none⟩) hlt]; exact hg
  clear hlt
  go_enter Tryz.func60, Tryz.ntmps60
  go_wp2_with fail
  go_ret
  exact ⟨by rw [← hb]; rfl, HB0.out⟩

set_option maxRecDepth 10000 in
set_option maxHeartbeats 1600000 in
theorem dindex_any {w : World} {a : Option Addr} {L : List DLay} (h : Ents w w.heap.size a L) (c : Nat) (hl : L.length ≤ 100000) (off g : Nat) (hg : w.cell? ⟨g, 0, none⟩ = some (.int .u64 (off : Int))) :
    Calls Tryz.prog 59 #[.slice a L.length c, .func (.func 60) #[] #[.pointer (some ⟨g, 0, none⟩)]] w fun r w' => r = .returned (.int .i64 (findG (L.map DLay.off) off)) ∧ Below w.heap.size w w' := by
  obtain ⟨N, hN⟩ : ∃ N, L.length = N := ⟨_, rfl⟩
  have HH := Lib.hid h
  have HN := Lib.hid hN
  have hlt : g < w.heap.size := by simpa using World.block_lt_of_cell? w _ hg
  have HG := Lib.hid (fun (W : World) (hW : Below w.heap.size w W) => (show W.cell? ⟨g, 0, none⟩ = some (.int .u64 (off : Int)) by rw [hW.cell (p := ⟨g, 0, none⟩) hlt]; exact hg))
  rw [hN] at hl ⊢
  clear h hN hg hlt
  go_enter Tryz.func59, Tryz.ntmps59
  go_wp2_with fail
  go_loopw [8] (fun i wr => ∃ k : Nat, k ≤ N ∧ i = .int .i64 k ∧ Hid (Below w.heap.size w wr) ∧ Hid (((L.map DLay.off).take k).all (fun z => !(decide (z = off))) = true)) (fun i _ => N - (intOf i).toNat)
  case atStart => exact ⟨0, Nat.zero_le _, rfl, Lib.hid (Below.refl _ _), Lib.hid rfl⟩
  case round =>
    obtain ⟨k, hk, rfl, HB, HY⟩ := hrel
    by_cases hlt : k < N
    · obtain ⟨y, hy⟩ : ∃ y, L[k]? = some y := ⟨L[k]'(by rw [HN.out]; exact hlt), List.getElem?_eq_getElem _⟩
      have hyo : (L.map DLay.off)[k]? = some y.off := by rw [List.getElem?_map, hy]; rfl
      obtain ⟨b, o, rfl, hb, c0, c1, c2, c3, c4, c5⟩ := ent_at (HH.out.below HB.out) hy
      have HW := Lib.hid (dfind1_any (w := wr) y off g (HG.out wr HB.out))
      by_cases hst : y.off = off
      · have HF := Lib.hid (show findG (L.map DLay.off) off = (k : Int) from findG_at (by rw [hyo, hst]) HY.out)
        have hd : decide (y.off = off) = true := by simpa using hst
        rw [hd] at HW
        clear hy hst hd hyo
        generalize y.L.length = ln at *
        generalize y.off = yo at *
        generalize y.code = cd at *
        generalize y.tag = tg at *
        generalize y.parent = pa at *
        generalize y.depth = dp at *
        generalize y.a = ya at *
        generalize y.c = yc at *
        go_wp2_with (go_at_call 60; refine HW.out.mono ?_; rintro r w1 ⟨rfl, hb1⟩)
        have HB1 := Lib.hid (HB.out.trans (hb1.mono HB.out.size))
        go_ret
        exact ⟨by rw [HF.out]; rfl, HB1.out⟩
      · have HF := Lib.hid (all_takeD hyo HY.out hst)
        have hd : decide (y.off = off) = false := by simpa using hst
        rw [hd] at HW
        clear hy hst hd hyo
        generalize y.L.length = ln at *
        generalize y.off = yo at *
        generalize y.code = cd at *
        generalize y.tag = tg at *
        generalize y.parent = pa at *
        generalize y.depth = dp at *
        generalize y.a = ya at *
        generalize y.c = yc at *
        go_wp2_with (go_at_call 60; refine HW.out.mono ?_; rintro r w1 ⟨rfl, hb1⟩)
        have HB1 := Lib.hid (HB.out.trans (hb1.mono HB.out.size))
        go_roundw
        case rel => exact ⟨k + 1, by omega, by go_num, HB1, HF⟩
        case measure => simp [intOf]; omega
    · have HF := Lib.hid (show findG (L.map DLay.off) off = -1 by
        have := HY.out
        rw [List.take_of_length_le (by rw [List.length_map, HN.out]; omega)] at this
        exact findG_no this)
      go_wp2_with fail
      go_ret
      exact ⟨by rw [HF.out]; rfl, HB.out⟩

set_option maxRecDepth 10000 in
theorem dfindE_any {w : World} {a : Option Addr} {L : List DLay} (h : Ents w w.heap.size a L) (c : Nat) (hl : L.length ≤ 100000) (off : Nat) :
    Calls Tryz.prog 21 #[.slice a L.length c, .int .u64 (off : Int)] w fun r w' => r = .returned (.int .i64 (findG (L.map DLay.off) off)) ∧ Below w.heap.size w w' := by
  have hmf : ∀ (fn : Fn) (first cap : Array Value) (W : World), (Instr.makeFunc fn first cap).run Tryz.prog W = .ok (.func fn first cap) W := fun _ _ _ _ => rfl
  have hb0 : Below w.heap.size w (w.alloc (.cells #[.int .u64 (off : Int)] 38)) := (Below.refl _ _).alloc (Nat.le_refl _) _
  have hX0 := Box.new w 38 #[.int .u64 (off : Int)]
  have HI := Lib.hid (dindex_any (h.up hb0) c hl off w.heap.size (by rw [hX0.cell]; rfl))
  have HB := Lib.hid hb0
  generalize L.length = N at *
  generalize findG (L.map DLay.off) off = R at *
  clear h hb0 hX0 hl
  go_enter Tryz.func21, Tryz.ntmps21
  go_wp2_with (go_at_call 59; refine HI.out.mono ?_; rintro r w2 ⟨rfl, hb2⟩; have HB2 := Lib.hid (HB.out.trans (hb2.mono HB.out.size)); clear hb2)
  go_ret
  exact ⟨rfl, HB2.out⟩

end Go.Proofs.YtejicboemkpeoaaGreatDoor

namespace Go.Proofs.YtejicboemkpeoaaGreatDoor
open Go Go.RowKit

/-! ### The chapter's example -/
def exT17 (a b : Option Addr) (c d : Nat) : List ALay := [⟨⟨1, 17, true, [⟨3, 11, 0⟩]⟩, a, c⟩, ⟨⟨2, 52, false, []⟩, b, d⟩]
def exV17 : RV := ⟨11, 7, 0, [], []⟩
def exL17 : List Ent := [⟨0, 1, 17, 0, 0, [⟨3, exV17⟩]⟩, ⟨0, 2, 52, 0, 1, []⟩]
def exR17 : List Ent := [⟨0, 1, 17, -1, 0, [⟨3, exV17⟩]⟩, ⟨2, 2, 52, 0, 1, []⟩]
def exB17 : List UInt8 := [1, 7, 2, 0]
section
variable (a b : Option Addr) (c d : Nat)
theorem ex17_put : dieP false (exT17 a b c d) exL17 = some exB17 := by kernel_rfl
theorem ex17_e0 : entF exB17 false (exT17 a b c d) 0 0 (0, 0) = (some (⟨0, 1, 17, 0, 0, [⟨3, exV17⟩]⟩, true), (2, 0)) := by kernel_rfl
theorem ex17_e1 : entF exB17 false (exT17 a b c d) 1 1 (2, 0) = (some (⟨2, 2, 52, 0, 1, []⟩, false), (3, 0)) := by kernel_rfl
theorem ex17_e2 : entF exB17 false (exT17 a b c d) 2 1 (3, 0) = (none, (4, 0)) := by kernel_rfl
theorem ex17_tree : treeW exB17 false (exT17 a b c d) (0, 0) [] [-1] = (exR17, (4, 0)) := by
  rw [treeW_kids (P := [-1]) (ex17_e0 a b c d)]
  show contW exB17 false (exT17 a b c d) (2, 0) [⟨0, 1, 17, -1, 0, [⟨3, exV17⟩]⟩] [0, -1] = _
  unfold contW
  rw [if_neg (by decide), treeW_leaf (L := [_]) (P := [0, -1]) (ex17_e1 a b c d)]
  show contW exB17 false (exT17 a b c d) (3, 0) exR17 [0, -1] = _
  unfold contW
  rw [if_neg (by decide), treeW_none (P := [0, -1]) (ex17_e2 a b c d)]
  rfl
theorem ex17_take : dieE exB17 false (exT17 a b c d) 0 4 = 0 ∧ dieL exB17 false (exT17 a b c d) 0 4 = exR17 := by
  have h0 : dieR exB17 false (exT17 a b c d) 0 4 = (exR17, (4, 0)) := ex17_tree a b c d
  have h1 : dieE exB17 false (exT17 a b c d) 0 4 = 0 := by
    unfold dieE
    rw [if_neg (by decide), h0]
    rfl
  refine ⟨h1, ?_⟩
  unfold dieL
  rw [if_pos h1, h0]
end

end Go.Proofs.YtejicboemkpeoaaGreatDoor

namespace Go.Proofs.YtejicboemkpeoaaGreatDoor
open Go Go.RowKit

def exT0 : AtL := ⟨3, exV17, none, 0⟩
def exY0 (g : Nat) : DLay := ⟨0, 1, 17, 0, 0, [exT0], some ⟨g, 0, none⟩, 1⟩
def exY1 : DLay := ⟨0, 2, 52, 0, 1, [], none, 0⟩
theorem ex17_att : (exT0).In := ⟨by decide, by constructor <;> decide, by decide, by decide⟩
theorem ex17_in (g : Nat) : ∀ y ∈ [exY0 g, exY1], y.In := fun y hy => by
  rcases List.mem_cons.1 hy with rfl | hy
  · exact ⟨show (1 : Nat) < two64 by decide, show InI 0 by constructor <;> decide, show 1 ≤ 3000 by decide, fun t ht => by rw [List.mem_singleton.1 ht]; exact ex17_att⟩
  · rw [List.mem_singleton.1 hy]
    exact ⟨show (2 : Nat) < two64 by decide, show InI 1 by constructor <;> decide, show 0 ≤ 3000 by decide, fun t ht => by cases ht⟩
theorem ex17_few (a b : Option Addr) (c d : Nat) : ∀ y ∈ exT17 a b c d, y.x.l.length ≤ 100000 := fun y hy => by
  rcases List.mem_cons.1 hy with rfl | hy
  · exact show 1 ≤ 100000 by decide
  · rw [List.mem_singleton.1 hy]
    exact show 0 ≤ 100000 by decide
/-- The example's memory. -/
theorem ex17_mem {w w1 w2 w3 w4 : World}
    (hw1 : w.alloc (.cells #[.int .i64 3, .int .i64 11, .int .i64 0] 125) = w1)
    (hw2 : w1.alloc (.cells #[.int .u64 1, .int .i64 17, .bool true, .slice (some ⟨w.heap.size, 0, none⟩) 1 1, .int .u64 2, .int .i64 52, .bool false, .slice none 0 0] 123) = w2)
    (hw3 : w2.alloc (.cells #[.int .i64 3, .int .i64 11, .int .u64 7, .int .i64 0, .slice none 0 0, .string ⟨#[]⟩] 127) = w3)
    (hw4 : w3.alloc (.cells #[.int .u64 0, .int .u64 1, .int .i64 17, .int .i64 0, .int .i64 0, .slice (some ⟨w2.heap.size, 0, none⟩) 1 1, .int .u64 0, .int .u64 2, .int .i64 52, .int .i64 0, .int .i64 1, .slice none 0 0] 61) = w4) :
    Abbs w4 w4.heap.size (some ⟨w1.heap.size, 0, none⟩) (exT17 (some ⟨w.heap.size, 0, none⟩) none 1 0) ∧ Ents w4 w4.heap.size (some ⟨w3.heap.size, 0, none⟩) [exY0 w2.heap.size, exY1] ∧ Below w.heap.size w w4 := by
  have hb1 : Below w.heap.size w w1 := hw1 ▸ (Below.refl _ _).alloc (Nat.le_refl _) _
  have hb2 : Below w1.heap.size w1 w2 := hw2 ▸ (Below.refl _ _).alloc (Nat.le_refl _) _
  have hb3 : Below w2.heap.size w2 w3 := hw3 ▸ (Below.refl _ _).alloc (Nat.le_refl _) _
  have hb4 : Below w3.heap.size w3 w4 := hw4 ▸ (Below.refl _ _).alloc (Nat.le_refl _) _
  have hs1 : w1.heap.size = w.heap.size + 1 := by rw [← hw1]; simp
  have hs2 : w2.heap.size = w1.heap.size + 1 := by rw [← hw2]; simp
  have hs3 : w3.heap.size = w2.heap.size + 1 := by rw [← hw3]; simp
  have hs4 : w4.heap.size = w3.heap.size + 1 := by rw [← hw4]; simp
  have hr1 : Spcs w1 w1.heap.size (some ⟨w.heap.size, 0, none⟩) [⟨3, 11, 0⟩] := by
    rw [hs1, ← hw1]
    exact lit_row spc_three w 125 [⟨3, 11, 0⟩]
  have hr2 : Row 4 ALay.cells w2 w2.heap.size (some ⟨w1.heap.size, 0, none⟩) (exT17 (some ⟨w.heap.size, 0, none⟩) none 1 0) := by
    rw [hs2, ← hw2]
    exact lit_row abb_four w1 123 (exT17 (some ⟨w.heap.size, 0, none⟩) none 1 0)
  have hr3 : Row 6 AtL.cells w3 w3.heap.size (some ⟨w2.heap.size, 0, none⟩) [exT0] := by
    rw [hs3, ← hw3]
    exact lit_row att_six w2 127 [exT0]
  have hr4 : Row 6 DLay.cells w4 w4.heap.size (some ⟨w3.heap.size, 0, none⟩) [exY0 w2.heap.size, exY1] := by
    rw [hs4, ← hw4]
    exact lit_row ent_six w3 61 [exY0 w2.heap.size, exY1]
  have hb24 : Below w2.heap.size w2 w4 := hb3.trans (hb4.mono hb3.size)
  have hb14 : Below w1.heap.size w1 w4 := hb2.trans (hb24.mono hb2.size)
  refine ⟨⟨(Row.below hr2 hb24).more hb24.size, fun y hy => ?_⟩, ⟨hr4, fun y hy => ?_⟩, hb1.trans (hb14.mono hb1.size)⟩
  · rcases List.mem_cons.1 hy with rfl | hy
    · exact Row.more (Row.below hr1 hb14) hb14.size
    · rw [List.mem_singleton.1 hy]
      exact fun h => absurd h (by decide)
  · rcases List.mem_cons.1 hy with rfl | hy
    · exact ⟨(Row.below hr3 hb4).more hb4.size, fun t ht => by rw [List.mem_singleton.1 ht]; exact fun h => absurd h (by decide)⟩
    · rw [List.mem_singleton.1 hy]
      exact Atts.nil_
/-- Two entries that are the example's. -/
theorem ex17_two {L : List DLay} (h : L.map DLay.ent = exR17) : ∃ y z : DLay, L = [y, z] ∧ z.off = 2 ∧ z.tag = 52 ∧ z.parent = 0 ∧ y.off = 0 := by
  have hl : L.length = 2 := by have := congrArg List.length h; rwa [List.length_map] at this
  obtain ⟨y, z, rfl⟩ : ∃ y z, L = [y, z] := by
    rcases L with _ | ⟨y, _ | ⟨z, _ | ⟨u, L⟩⟩⟩
    · exact absurd hl (by decide)
    · exact absurd hl (show ¬ (1 = 2) by decide)
    · exact ⟨y, z, rfl⟩
    · have : L.length + 3 = 2 := hl
      omega
  have h0 : y.ent = ⟨0, 1, 17, -1, 0, [⟨3, exV17⟩]⟩ := (List.cons.inj h).1
  have h1 : z.ent = ⟨2, 2, 52, 0, 1, []⟩ := (List.cons.inj (List.cons.inj h).2).1
  exact ⟨y, z, rfl, congrArg Ent.off h1, congrArg Ent.tag h1, congrArg Ent.parent h1, congrArg Ent.off h0⟩

set_option maxRecDepth 10000 in
set_option maxHeartbeats 3200000 in
theorem works17_any {w : World} (hF : Ft w) (hS : Sz w) : Calls Tryz.prog 16 #[] w fun r w' => r = .returned (.bool true) ∧ Below w.heap.size w w' := by
  have hF0 := Lib.hid (fun (W : World) (hb : Below w.heap.size w W) => And.intro (hF.up hb) (hS.below hb hS.pos))
  clear hF hS
  generalize hw1 : w.alloc (.cells #[.int .i64 3, .int .i64 11, .int .i64 0] 125) = w1
  generalize hw2 : w1.alloc (.cells #[.int .u64 1, .int .i64 17, .bool true, .slice (some ⟨w.heap.size, 0, none⟩) 1 1, .int .u64 2, .int .i64 52, .bool false, .slice none 0 0] 123) = w2
  generalize hw3 : w2.alloc (.cells #[.int .i64 3, .int .i64 11, .int .u64 7, .int .i64 0, .slice none 0 0, .string ⟨#[]⟩] 127) = w3
  generalize hw4 : w3.alloc (.cells #[.int .u64 0, .int .u64 1, .int .i64 17, .int .i64 0, .int .i64 0, .slice (some ⟨w2.heap.size, 0, none⟩) 1 1, .int .u64 0, .int .u64 2, .int .i64 52, .int .i64 0, .int .i64 1, .slice none 0 0] 61) = w4
  obtain ⟨hA, hE, hb4⟩ := ex17_mem hw1 hw2 hw3 hw4
  have HB4 := Lib.hid hb4
  have HAB := Lib.hid hA
  have P1 := Lib.hid (show Calls Tryz.prog 27 #[.slice (some ⟨w3.heap.size, 0, none⟩) 2 2, .slice (some ⟨w1.heap.size, 0, none⟩) 2 2, .bool false] w4 fun r w' => ∃ A c, r = .returned (.tuple #[.slice A 4 c, .int .i64 0]) ∧ 4 ≤ c ∧ Rd w' w'.heap.size A exB17 ∧ Own w' w4.heap.size (.slice A 4 c) exB17 ∧ Below w4.heap.size w4 w' from
    (dPut_any (hF0.out _ hb4).1 (hF0.out _ hb4).2 hE 2 (show 2 ≤ 100000 by decide) (ex17_in _) hA 2 (show 2 ≤ 100000 by decide) (ex17_few _ _ _ _) false).mono fun r w' ⟨u, e, ho, hb⟩ => by
      rw [show [exY0 w2.heap.size, exY1].map DLay.ent = exL17 from rfl, ex17_put] at e ho
      obtain ⟨A, c, rfl, h1, -, hrd⟩ := own_slice (show Own w' w4.heap.size u exB17 from ho)
      exact ⟨A, c, e, h1, hrd, ho, hb⟩)
  have T1 := Lib.hid (fun (W : World) (A : Option Addr) (c : Nat) (hW : Below w4.heap.size w4 W) (hr : Rd W W.heap.size A exB17) (hc : 4 ≤ c) => (show Calls Tryz.prog 17 #[.slice A 4 c, .agg #[.int .i64 1, .bool false, .int .u64 0, .int .u64 0, .int .u64 0, .int .u64 0, .int .u64 0, .int .u64 4], .slice (some ⟨w1.heap.size, 0, none⟩) 2 2] W fun r w' => ∃ g c2 M, r = .returned (.tuple #[.slice (some ⟨g, 0, none⟩) 2 c2, .int .i64 0]) ∧ w'.cell? ⟨g, 6, none⟩ = some (.int .u64 2) ∧ w'.cell? ⟨g, 8, none⟩ = some (.int .i64 52) ∧ w'.cell? ⟨g, 9, none⟩ = some (.int .i64 0) ∧ Ents w' w'.heap.size (some ⟨g, 0, none⟩) M ∧ M.length = 2 ∧ findG (M.map DLay.off) 2 = 1 ∧ Below W.heap.size W w' from
    (dtake_any (hF0.out _ (hb4.trans (hW.mono hb4.size))).1 (hF0.out _ (hb4.trans (hW.mono hb4.size))).2 hr c hc (by decide) (hA.up hW) 2 (show 2 ≤ 100000 by decide) (ex17_few _ _ _ _) ⟨1, false, 0, 0, 0, 0, 0, 4⟩ (by decide)).mono fun r w' ⟨u, M, e, ho, hm, _, hb⟩ => by
      obtain ⟨x1, x2⟩ := ex17_take (some ⟨w.heap.size, 0, none⟩) none 1 0
      rw [show dieE exB17 false (exT17 (some ⟨w.heap.size, 0, none⟩) none 1 0) 0 4 = 0 from x1] at e
      rw [show dieL exB17 false (exT17 (some ⟨w.heap.size, 0, none⟩) none 1 0) 0 4 = exR17 from x2] at hm
      obtain ⟨y, z, rfl, z1, z2, z3, z4⟩ := ex17_two hm
      obtain ⟨A', c', hu, -, -, hrow⟩ := ho.lies
      rcases ho.row.2 with ⟨_, h0⟩ | ⟨g, cap, cur, hv, -⟩
      · cases h0
      · subst hv
        injection hu with hu1 hu2 hu3
        subst hu1
        have hc := fun j hj => World.ownsRow.cellAt (g := g) (cap := cap) ho.row j hj
        refine ⟨g, cap, [y, z], e, ?_, ?_, ?_, hrow, rfl, ?_, hb⟩
        · exact (hc 6 (show 6 < 12 by decide)).trans (show some (Value.int .u64 (z.off : Int)) = _ by rw [z1]; rfl)
        · exact (hc 8 (show 8 < 12 by decide)).trans (show some (Value.int .i64 z.tag) = _ by rw [z2])
        · exact (hc 9 (show 9 < 12 by decide)).trans (show some (Value.int .i64 z.parent) = _ by rw [z3])
        · rw [show [y, z].map DLay.off = [y.off, z.off] from rfl, z1, z4]; decide))
  have F1 := Lib.hid (fun (W : World) (a : Option Addr) (c : Nat) (M : List DLay) (h : Ents W W.heap.size a M) (hl : M.length = 2) (hf : findG (M.map DLay.off) 2 = 1) => (show Calls Tryz.prog 21 #[.slice a 2 c, .int .u64 2] W fun r w' => r = .returned (.int .i64 1) ∧ Below W.heap.size W w' from (by
    have := dfindE_any h c (by omega) 2
    rw [hl, hf] at this
    exact this)))
  obtain ⟨s1, hs1⟩ : ∃ s : ByteArray, s = ⟨exB17.toArray⟩ := ⟨_, rfl⟩
  have E1 := Lib.hid hs1
  have q1 : (s1.toList == [1, 7, 2, 0]) = true := by rw [hs1, Lib.toList_data]; rfl
  clear hs1 hA hE hb4 HAB hF0
  go_enter Tryz.func16, Tryz.ntmps16
  go_upto_region 2 with fail
  try rw [hw1]
  try rw [hw2]
  clear hw1 hw2
  go_upto_region 3 with fail
  try rw [hw3]
  try rw [hw4]
  clear hw3 hw4
  go_upto_region 4 with (go_at_call 27; refine P1.out.mono ?_; rintro r w5 ⟨A, c, rfl, hc, hr, ho, hb⟩; have HC5 := Lib.hid hc; have HR5 := Lib.hid hr; have HO5 := Lib.hid ho; have HB45 := Lib.hid hb; clear hc hr ho hb)
  go_upto_region 5 with (go_at_call 17; refine (T1.out _ _ _ HB45.out HR5.out HC5.out).mono ?_; rintro r w6 ⟨g, c2, M, rfl, k6, k8, k9, hE, hl, hf, hb⟩; have HE6 := Lib.hid hE; have HL6 := Lib.hid hl; have HF6 := Lib.hid hf; have HB6 := Lib.hid (HB4.out.trans ((HB45.out.trans (hb.mono HB45.out.size)).mono HB4.out.size)); have HO6 := Lib.hid (own_below HO5.out hb); clear hE hl hf hb)
  have cv : (convert 26 9 (.slice A 4 c)).run Tryz.prog w6 = .ok (.string s1) w6 := by rw [E1.out]; exact conv_own HO6.out
  go_wp2_with (go_at_call 21; refine (F1.out _ _ _ _ HE6.out HL6.out HF6.out).mono ?_; rintro r w7 ⟨rfl, hb⟩; have HB7 := Lib.hid (HB6.out.trans (hb.mono HB6.out.size)); clear hb)
  go_ret
  exact ⟨rfl, HB7.out⟩

end Go.Proofs.YtejicboemkpeoaaGreatDoor

namespace Go.Proofs.YtejicboemkpeoaaGreatDoor
open Go Go.RowKit

/-- Entries copied so far. -/
structure ToSt (T TE : TypeId) (w wr : World) (v : Value) (M : List DLay) : Prop where
  b : Below w.heap.size w wr
  row : wr.ownsRow w.heap.size TE 6 v M.length (cellsF DLay.cells M)
  ats : ∀ y ∈ M, wr.ownsRow w.heap.size T 6 (.slice y.a y.L.length y.c) y.L.length (cellsF AtL.cells y.L)
section
variable {T TE : TypeId} {w wr wy : World} {v : Value} {M : List DLay}
theorem ToSt.below (h : ToSt T TE w wr v M) (hb : Below wr.heap.size wr wy) : ToSt T TE w wy v M :=
  ⟨h.b.trans (hb.mono h.b.size), row_below h.row hb, fun y hy => row_below (h.ats y hy) hb⟩
/-- Behind a step of a row of the pairs. -/
theorem ToSt.lies (h : ToSt T TE w wr v M) {A : Option Addr} {L : List DLay} (hs : Ents w w.heap.size A L) (hm : ∀ y ∈ M, ∃ z ∈ L, z.L = y.L) : ∃ A c, v = .slice A M.length c ∧ Ents wr wr.heap.size A M := by
  obtain ⟨A, c, e, h1, h2, hr⟩ := own_row ent_six h.row
  refine ⟨A, c, e, hr, fun y hy => ?_⟩
  obtain ⟨A', c', e', -, -, hr'⟩ := own_row att_six (h.ats y hy)
  injection e' with e1 _ _
  rw [e1]
  refine ⟨hr', fun t ht => ?_⟩
  obtain ⟨z, hz, hzl⟩ := hm y hy
  exact (((hs.ats z hz).bs t (by rw [hzl]; exact ht)).below h.b).more h.b.size
end
/-- The entry that is copied: its box, its values so far. -/
structure ToIn (T TE : TypeId) (w wr : World) (v : Value) (M : List DLay) (H : Nat) (c0 c1 c2 c3 c4 u : Value) (X : List AtL) : Prop where
  s : ToSt T TE w wr v M
  x : Box wr H TE #[c0, c1, c2, c3, c4, u]
  o : wr.ownsRow w.heap.size T 6 u X.length (cellsF AtL.cells X)
  v : ∀ k, v.ownBlock = some k → k < H
  h : w.heap.size ≤ H
  m : ∀ y ∈ M, ∀ k, (Value.slice y.a y.L.length y.c).ownBlock = some k → k < H
  u : ∀ k, u.ownBlock = some k → H ≤ k
section
variable {T TE : TypeId} {w wr wy : World} {v : Value} {M : List DLay} {H : Nat} {c0 c1 c2 c3 c4 u u' : Value} {X : List AtL} {t : AtL}
theorem ToIn.below (h : ToIn T TE w wr v M H c0 c1 c2 c3 c4 u X) (hb : Below wr.heap.size wr wy) : ToIn T TE w wy v M H c0 c1 c2 c3 c4 u X :=
  ⟨h.s.below hb, h.x.below hb h.x.lt, row_below h.o hb, h.v, h.h, h.m, h.u⟩
/-- A value more, appended to the row and stored. -/
theorem ToIn.more (h : ToIn T TE w wr v M H c0 c1 c2 c3 c4 u X) (hT : TE ≠ T) (hG : wr.grownBy wy u.ownBlock) (hr : wy.ownsRow w.heap.size T 6 u' (X.length + 1) (cellsF AtL.cells X ++ t.cells)) (hu : ∀ k, u'.ownBlock = some k → H ≤ k) :
    ToIn T TE w (wy.setCell ⟨H, 5, none⟩ u') v M H c0 c1 c2 c3 c4 u' (X ++ [t]) ∧ Box wy H TE #[c0, c1, c2, c3, c4, u] := by
  have hx := un_box h.x h.o hT hG
  have G : wy.grownBy (wy.setCell ⟨H, 5, none⟩ u') (some H) := only_set (only_refl wy (some H)) 5 u'
  have hrow := own_apart h.s.row h.o hT hG
  have hb1 : Below w.heap.size w wy := h.s.b.grown hG h.s.b.size (fun k hk => (h.o.lt k hk).1)
  refine ⟨⟨⟨hb1.grown G hb1.size (fun k hk => by injection hk with hk; have := h.h; omega), ?_, fun y hy => ?_⟩, by simpa using hx.set 5 u', ?_, h.v, h.h, h.m, hu⟩, hx⟩
  · refine hrow.kept G ?_
    cases hv : v.ownBlock with
    | none => exact .inl rfl
    | some k => exact .inr (fun e => by injection e with e; have := h.v k hv; omega)
  · refine un_far ?_ G hx hT
    refine (h.s.ats y hy).kept hG ?_
    cases hk : (Value.slice y.a y.L.length y.c).ownBlock with
    | none => exact .inl rfl
    | some k => exact .inr (fun e => by have h1 := h.m y hy k hk; have h2 := h.u k e.symm; omega)
  · rw [List.length_append, cellsF_append, cellsF_one]
    exact un_far hr G hx hT
end

set_option maxRecDepth 10000 in
set_option maxHeartbeats 3200000 in
theorem given17_any {w : World} {a : Option Addr} {L : List DLay} (h : Ents w w.heap.size a L) (c : Nat) (hl : L.length ≤ 100000) (hll : ∀ y ∈ L, y.L.length ≤ 100000) :
    Calls Tryz.prog 28 #[.slice a L.length c] w fun r w' => ∃ A2 c2 M, r = .returned (.slice A2 L.length c2) ∧ Ents w' w'.heap.size A2 M ∧ M.map DLay.ent = L.map DLay.ent ∧ Below w.heap.size w w' := by
  obtain ⟨i1, hj1, hy0, hy1, hy2⟩ := info_parts dient_info
  obtain ⟨i2, hk1, hz0, hz1, hz2⟩ := info_parts att_info
  obtain ⟨N, hN⟩ : ∃ N, L.length = N := ⟨_, rfl⟩
  have HH := Lib.hid h
  have HN := Lib.hid hN
  have HLL := Lib.hid hll
  rw [hN] at hl ⊢
  clear h hll hN
  go_enter Tryz.func28, Tryz.ntmps28
  go_wp2_with fail
  go_loopg [3, 11] N (fun gk v i wr => ∃ (k : Nat) (M : List DLay), k ≤ N ∧ gk = N - k ∧ i = .int .i64 k ∧ Hid (M.length = k) ∧ Hid (M.map DLay.ent = (L.take k).map DLay.ent) ∧ Hid (∀ y ∈ M, ∃ z ∈ L, z.L = y.L) ∧ Hid (ToSt 127 61 w wr v M))
  case atStart => exact ⟨0, [], Nat.zero_le _, rfl, rfl, Lib.hid rfl, Lib.hid rfl, Lib.hid (fun y hy => by cases hy), Lib.hid ⟨Below.refl _ _, World.ownsRow_nil _ _ _ _, fun y hy => by cases hy⟩⟩
  case round =>
    obtain ⟨k, M, hk, rfl, rfl, HX, HM, HZ, HT⟩ := hrel
    by_cases hlt : k < N
    rotate_left
    · have hkn : k = N := by omega
      obtain ⟨A2, c2, e, hE⟩ := HT.out.lies HH.out HZ.out
      rw [HX.out, hkn] at e
      subst e
      have HE := Lib.hid hE
      have HM2 := Lib.hid (show M.map DLay.ent = L.map DLay.ent by rw [HM.out, List.take_of_length_le (by rw [HN.out]; omega)])
      clear hE
      go_wp2_with fail
      go_ret
      exact ⟨A2, c2, M, rfl, HE.out, HM2.out, HT.out.b⟩
    obtain ⟨y, hy⟩ : ∃ y, L[k]? = some y := ⟨L[k]'(by rw [HN.out]; exact hlt), List.getElem?_eq_getElem _⟩
    obtain ⟨b, o, rfl, -, c0, c1, c2', c3, c4, c5⟩ := ent_at (HH.out.below HT.out.b) hy
    have HAY := Lib.hid (HH.out.ats y (List.mem_of_getElem? hy))
    have hyl := HLL.out y (List.mem_of_getElem? hy)
    have HYM := Lib.hid (List.mem_of_getElem? hy)
    have HTK := Lib.hid (show (L.take (k + 1)).map DLay.ent = (L.take k).map DLay.ent ++ [y.ent] by rw [List.take_add_one, hy, List.map_append]; rfl)
    have HYE := Lib.hid (show y.ent = ⟨y.off, y.code, y.tag, y.parent, y.depth, y.L.map AtL.att⟩ from rfl)
    obtain ⟨n, hn⟩ : ∃ n, y.L.length = n := ⟨_, rfl⟩
    have HNN := Lib.hid hn
    rw [hn] at c5 hyl
    obtain ⟨A3, c3', hu⟩ := un_slc HT.out.row
    rw [HX.out] at hu
    subst hu
    clear hy hn
    generalize y.ent = ye at *
    generalize y.off = x0 at *
    generalize y.code = x1 at *
    generalize y.tag = x2 at *
    generalize y.parent = x3 at *
    generalize y.depth = x4 at *
    generalize y.a = ya at *
    generalize y.c = yc at *
    obtain ⟨YL, hYL⟩ : ∃ YL, y.L = YL := ⟨_, rfl⟩
    have HYQ := Lib.hid hYL
    rw [hYL] at HAY HYE HNN
    clear hYL
    go_upto_region 5 with fail
    have hb1 : Below wr.heap.size wr (wr.alloc (.cells #[.int .u64 (x0 : Int), .int .u64 (x1 : Int), .int .i64 x2, .int .i64 x3, .int .i64 x4, .slice ya n yc] 69)) := (Below.refl _ _).alloc (Nat.le_refl _) _
    have hX1 := Box.new wr 69 #[.int .u64 (x0 : Int), .int .u64 (x1 : Int), .int .i64 x2, .int .i64 x3, .int .i64 x4, .slice ya n yc]
    generalize wr.alloc (.cells #[.int .u64 (x0 : Int), .int .u64 (x1 : Int), .int .i64 x2, .int .i64 x3, .int .i64 x4, .slice ya n yc] 69) = w1 at *
    have HT1 := Lib.hid (HT.out.below hb1)
    clear hb1 c0 c1 c2' c3 c4 c5 HT
    generalize wr.heap.size = H1 at *
    obtain ⟨c0, c1, c2', c3, c4, c5⟩ := six_cells hX1
    go_upto_region 6 with fail
    have hb2 : Below w1.heap.size w1 (w1.alloc (.cells #[.int .u64 (x0 : Int), .int .u64 (x1 : Int), .int .i64 x2, .int .i64 x3, .int .i64 x4, .slice none 0 0] 61)) := (Below.refl _ _).alloc (Nat.le_refl _) _
    have hX2 := Box.new w1 61 #[.int .u64 (x0 : Int), .int .u64 (x1 : Int), .int .i64 x2, .int .i64 x3, .int .i64 x4, .slice none 0 0]
    generalize w1.alloc (.cells #[.int .u64 (x0 : Int), .int .u64 (x1 : Int), .int .i64 x2, .int .i64 x3, .int .i64 x4, .slice none 0 0] 61) = w2 at *
    have HI2 := Lib.hid (show ToIn 127 61 w w2 (.slice A3 k c3') M w1.heap.size (.int .u64 (x0 : Int)) (.int .u64 (x1 : Int)) (.int .i64 x2) (.int .i64 x3) (.int .i64 x4) (.slice none 0 0) [] from
      ⟨HT1.out.below hb2, hX2, World.ownsRow_nil _ _ _ _, fun j hj => (HT1.out.row.lt j hj).2, HT1.out.b.size, fun y hy j hj => ((HT1.out.ats y hy).lt j hj).2, fun j hj => by cases hj⟩)
    have HX1 := Lib.hid (hX1.below hb2 hX1.lt)
    clear hb2 hX1 hX2 c0 c1 c2' c3 c4 c5 HT1
    generalize w1.heap.size = H2 at *
    obtain ⟨c0, c1, c2', c3, c4, c5⟩ := six_cells HX1.out
    generalize wr = wj at *
    have HHX := Lib.hid (show H1 < w2.heap.size from HX1.out.lt)
    go_wp2_with fail
    go_loopg [29] n (fun gk i wr => ∃ (j : Nat) (u : Value), j ≤ n ∧ gk = n - j ∧ i = .int .i64 j ∧ Hid (ToIn 127 61 w wr (.slice A3 k c3') M H2 (.int .u64 (x0 : Int)) (.int .u64 (x1 : Int)) (.int .i64 x2) (.int .i64 x3) (.int .i64 x4) u (YL.take j)))
    case atStart => exact ⟨0, .slice none 0 0, Nat.zero_le _, rfl, rfl, HI2⟩
    case round =>
      obtain ⟨j, u, hj, rfl, rfl, HI⟩ := hrel
      clear HI2
      have htl : (YL.take j).length = j := by rw [List.length_take, HNN.out]; omega
      have HTL := Lib.hid htl
      obtain ⟨A5, c5', hu⟩ := un_slc HI.out.o
      rw [htl] at hu
      subst hu
      clear htl c0 c1 c2' c3 c4 c5
      obtain ⟨c0, c1, c2', c3, c4, c5⟩ := six_cells HI.out.x
      by_cases hlj : j < n
      rotate_left
      · have hjn : j = n := by omega
        subst hjn
        have HTA := Lib.hid (show YL.take j = YL from List.take_of_length_le (by rw [HNN.out]; omega))
        obtain ⟨yd, hyd⟩ : ∃ yd : DLay, yd = ⟨x0, x1, x2, x3, x4, YL, A5, c5'⟩ := ⟨_, rfl⟩
        have HYC := Lib.hid (show yd.cells = [.int .u64 (x0 : Int), .int .u64 (x1 : Int), .int .i64 x2, .int .i64 x3, .int .i64 x4, .slice A5 j c5'] by rw [hyd, ← HNN.out]; rfl)
        have HYN := Lib.hid (show yd.ent = ye by rw [hyd, HYE.out]; rfl)
        have HYL := Lib.hid (show yd.L = YL by rw [hyd])
        have HYO := Lib.hid (show wr.ownsRow w.heap.size 127 6 (.slice yd.a yd.L.length yd.c) yd.L.length (cellsF AtL.cells yd.L) by
          have := HI.out.o
          rw [HTA.out] at this
          rw [hyd]
          show wr.ownsRow w.heap.size _ 6 (.slice A5 YL.length c5') YL.length _
          rw [HNN.out] at this ⊢
          exact this)
        have hA7 : Below wr.heap.size wr (wr.alloc (.cells #[.int .u64 (x0 : Int), .int .u64 (x1 : Int), .int .i64 x2, .int .i64 x3, .int .i64 x4, .slice A5 j c5'] 61)) := (Below.refl _ _).alloc (Nat.le_refl _) _
        have HS7 := Lib.hid (HI.out.s.below hA7)
        have HY7 := Lib.hid (row_below HYO.out hA7)
        have hR7 := HS7.out.row
        rw [HX.out] at hR7
        have HR7 := Lib.hid hR7
        have AC := Lib.hid (fun (u : Value) (hu : u ∈ ([.int .u64 (x0 : Int), .int .u64 (x1 : Int), .int .i64 x2, .int .i64 x3, .int .i64 x4, .slice A5 j c5'] : List Value)) => (by
          rw [← HYC.out] at hu
          exact ent_one yd u hu : u.oneCell' = true))
        have hmx : k + 1 ≤ maxLen := by unfold maxLen; omega
        have hby : (k + 1) * 64 ≤ 140737488355328 := by omega
        have hsz7 : w.heap.size ≤ (wr.alloc (.cells #[.int .u64 (x0 : Int), .int .u64 (x1 : Int), .int .i64 x2, .int .i64 x3, .int .i64 x4, .slice A5 j c5'] 61)).heap.size := HS7.out.b.size
        clear hyd hA7 hR7 HYO
        go_wp2_with (at_builtin; refine wpList_append_own_at _ (by rfl) (.tmp 40) (.tmp 42) _ (by rfl) w.heap.size 61 i1 _ 6 64 Tryz.underlying48 hj1 hy0 hy1 hy2 rfl (by decide) _ k (cellsF DLay.cells M) (by rfl) HR7.out ⟨wr.heap.size, 0, none⟩ 1 1 [.int .u64 (x0 : Int), .int .u64 (x1 : Int), .int .i64 x2, .int .i64 x3, .int .i64 x4, .slice A5 j c5'] (by rfl) rfl (fun j' u h => cells_newA wr [.int .u64 (x0 : Int), .int .u64 (x1 : Int), .int .i64 x2, .int .i64 x3, .int .i64 x4, .slice A5 j c5'] _ j' u h) AC.out hmx hby hsz7 ?_; intro v8 w8 hown8 hg8 hn8 hat8; clear hn8 hat8; have HO8 := Lib.hid hown8; have HG8 := Lib.hid hg8; clear hown8 hg8)
        have HTN := Lib.hid (show ToSt 127 61 w w8 v8 (M ++ [yd]) from ⟨HS7.out.b.grown HG8.out HS7.out.b.size (fun x hx => (HR7.out.lt x hx).1), by
          rw [List.length_append, HX.out, cellsF_append, cellsF_one, HYC.out]
          exact HO8.out, fun z hz => by
          rcases List.mem_append.1 hz with hz | hz
          · exact own_apart (HS7.out.ats z hz) HR7.out (by decide) HG8.out
          · rw [List.mem_singleton.1 hz]
            exact own_apart HY7.out HR7.out (by decide) HG8.out⟩)
        clear HO8 HG8
        (try rw [Exit.noGoto_ret])
        go_roundg (N - (k + 1))
        case measure => omega
        case rel => exact ⟨k + 1, M ++ [yd], by omega, rfl, by go_num, Lib.hid (by rw [List.length_append, HX.out]; rfl), Lib.hid (by rw [List.map_append, HM.out, HTK.out, List.map_cons, List.map_nil, HYN.out]), Lib.hid (fun z hz => by
          rcases List.mem_append.1 hz with hz | hz
          · exact HZ.out z hz
          · rw [List.mem_singleton.1 hz]
            exact ⟨_, HYM.out, by rw [HYQ.out, HYL.out]⟩), HTN⟩
      obtain ⟨t, ht⟩ : ∃ t, YL[j]? = some t := ⟨YL[j]'(by rw [HNN.out]; exact hlj), List.getElem?_eq_getElem _⟩
      obtain ⟨b, o, rfl, -, t0, t1, t2, t3, t4, t5⟩ := att_at (HAY.out.below HI.out.s.b) ht
      have HTK1 := Lib.hid (show YL.take (j + 1) = YL.take j ++ [t] by rw [List.take_add_one, ht]; rfl)
      have HTC := Lib.hid (show t.cells = [.int .i64 t.at_, .int .i64 t.y.x.form, .int .u64 (t.y.x.u : Int), .int .i64 t.y.x.s, .slice t.y.a t.y.x.b.length t.y.c, .string ⟨t.y.x.t.toArray⟩] from rfl)
      have HTO := Lib.hid (att_one t)
      obtain ⟨bn, hbn⟩ : ∃ bn, t.y.x.b.length = bn := ⟨_, rfl⟩
      obtain ⟨xs, hxs⟩ : ∃ xs : ByteArray, (⟨t.y.x.t.toArray⟩ : ByteArray) = xs := ⟨_, rfl⟩
      rw [hbn] at t4 HTC
      rw [hxs] at t5 HTC
      clear ht hbn hxs
      generalize t.y.x.form = y0 at *
      generalize t.y.x.u = y1 at *
      generalize t.y.x.s = y2 at *
      generalize t.y.a = y3 at *
      generalize t.y.c = y4 at *
      generalize t.at_ = y7 at *
      go_upto_region 9 with fail
      have hb3 : Below wr.heap.size wr (wr.alloc (.cells #[.int .i64 y7, .int .i64 y0, .int .u64 (y1 : Int), .int .i64 y2, .slice y3 bn y4, .string xs] 143)) := (Below.refl _ _).alloc (Nat.le_refl _) _
      have hX3 := Box.new wr 143 #[.int .i64 y7, .int .i64 y0, .int .u64 (y1 : Int), .int .i64 y2, .slice y3 bn y4, .string xs]
      generalize wr.alloc (.cells #[.int .i64 y7, .int .i64 y0, .int .u64 (y1 : Int), .int .i64 y2, .slice y3 bn y4, .string xs] 143) = w3 at *
      have HI3 := Lib.hid (HI.out.below hb3)
      have hA4 : Below w3.heap.size w3 (w3.alloc (.cells #[.int .i64 y7, .int .i64 y0, .int .u64 (y1 : Int), .int .i64 y2, .slice y3 bn y4, .string xs] 127)) := (Below.refl _ _).alloc (Nat.le_refl _) _
      have HI4 := Lib.hid (HI3.out.below hA4)
      have HR4 := Lib.hid (by have := HI4.out.o; rw [HTL.out] at this; exact this : (w3.alloc (.cells #[.int .i64 y7, .int .i64 y0, .int .u64 (y1 : Int), .int .i64 y2, .slice y3 bn y4, .string xs] 127)).ownsRow w.heap.size 127 6 (.slice A5 j c5') j (cellsF AtL.cells (YL.take j)))
      have AC := Lib.hid (fun (u : Value) (hu : u ∈ ([.int .i64 y7, .int .i64 y0, .int .u64 (y1 : Int), .int .i64 y2, .slice y3 bn y4, .string xs] : List Value)) => (by
        rw [← HTC.out] at hu
        exact HTO.out u hu : u.oneCell' = true))
      have hmx : j + 1 ≤ maxLen := by unfold maxLen; omega
      have hby : (j + 1) * 72 ≤ 140737488355328 := by omega
      have hsz4 : w.heap.size ≤ (w3.alloc (.cells #[.int .i64 y7, .int .i64 y0, .int .u64 (y1 : Int), .int .i64 y2, .slice y3 bn y4, .string xs] 127)).heap.size := HI4.out.s.b.size
      have HHZ := Lib.hid (show H2 ≤ w3.heap.size from Nat.le_of_lt (HI3.out.x.lt))
      clear hb3 hA4 t0 t1 t2 t3 t4 t5 c0 c1 c2' c3 c4 c5 HI
      obtain ⟨t0, t1, t2, t3, t4, t5⟩ := six_cells hX3
      have c5 := (six_cells HI3.out.x).2.2.2.2.2
      generalize wr.heap.size = H3 at *
      go_wp2_with (at_builtin; refine wpList_append_own_at _ (by rfl) (.tmp 34) (.tmp 36) _ (by rfl) w.heap.size 127 i2 _ 6 72 Tryz.underlying59 hk1 hz0 hz1 hz2 rfl (by decide) _ j (cellsF AtL.cells (YL.take j)) (by rfl) HR4.out ⟨w3.heap.size, 0, none⟩ 1 1 [.int .i64 y7, .int .i64 y0, .int .u64 (y1 : Int), .int .i64 y2, .slice y3 bn y4, .string xs] (by rfl) rfl (fun j' u h => cells_newA w3 [.int .i64 y7, .int .i64 y0, .int .u64 (y1 : Int), .int .i64 y2, .slice y3 bn y4, .string xs] _ j' u h) AC.out hmx hby hsz4 ?_; intro v8 w8 hown8 hg8 hn8 hat8; clear hn8; (obtain ⟨A8, c8, rfl⟩ := un_slc hown8); (obtain ⟨hmo, hbx⟩ := HI4.out.more (t := t) (u' := .slice A8 (j + 1) c8) (by decide) hg8 (by rw [HTL.out, HTC.out]; exact hown8) (fun k hk => by
        rcases hat8 with h1 | h1
        · exact HI4.out.u k (h1 ▸ hk)
        · rw [h1] at hk
          injection hk with hk
          rw [← hk]
          have := HHZ.out
          simp
          omega)); have HMO := Lib.hid hmo; have z5 := (six_cells hbx).2.2.2.2.2; have f5 := hbx.free 5; clear hown8 hg8 hat8 hmo hbx)
      go_roundg (n - (j + 1))
      case measure => omega
      case rel => exact ⟨j + 1, _, by omega, rfl, by go_num, Lib.hid (by rw [HTK1.out]; exact HMO.out)⟩

end Go.Proofs.YtejicboemkpeoaaGreatDoor

namespace Go.Proofs.YtejicboemkpeoaaGreatDoor
open Go Go.RowKit

/-- What came in as a value: its bytes lie, its numbers are numbers. -/
structure WLay.In (w : World) (y : WLay) : Prop where
  rd : Rd w w.heap.size y.a y.x.b
  u : y.x.u < two64
  s : InI y.x.s
  b : y.x.b.length ≤ 9223372036854775807
theorem WLay.In.up {w w' : World} {y : WLay} (h : y.In w) (hb : Below w.heap.size w w') : y.In w' := ⟨(h.rd.below hb).more hb.size, h.u, h.s, h.b⟩

end Go.Proofs.YtejicboemkpeoaaGreatDoor
