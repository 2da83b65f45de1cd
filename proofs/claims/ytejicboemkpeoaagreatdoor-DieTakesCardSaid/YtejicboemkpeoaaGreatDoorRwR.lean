/-
  RawBack's walk.
-/
import Derived.Test.YtejicboemkpeoaaGreatDoorDiC
import Derived.Test.YtejicboemkpeoaaGreatDoorRwM
import Derived.Test.YtejicboemkpeoaaGreatDoorZeros
import Derived.Deep.DeepCutAuto
import Derived.Test.YtejicboemkpeoaaGreatDoorDiG
import Derived.Test.YtejicboemkpeoaaGreatDoorRwG
import Derived.Test.YtejicboemkpeoaaGreatDoorDiK
import Derived.Test.YtejicboemkpeoaaGreatDoorAbK
import Derived.Test.YtejicboemkpeoaaGreatDoorRwE
import Derived.Test.YtejicboemkpeoaaGreatDoorAbH
import Derived.Test.YtejicboemkpeoaaGreatDoorAbM
import Derived.Test.YtejicboemkpeoaaGreatDoorCurN
namespace Go.Proofs.YtejicboemkpeoaaGreatDoor
open Go Go.RowKit

/-! ### Bytes -/
def valsB (l : List Att) (wide : Bool) : List UInt8 := l.flatMap fun t => putV t.x wide
def dentB (e : Ent) (wide : Bool) : List UInt8 := lebPut (sizeU e.code) (e.code : Int) ++ valsB e.l wide
def ofA (t : Att) (p : Spc) : Bool := decide (t.at_ = p.at_) && (decide (t.x.form = p.form) && (!decide (p.form = 33) || decide (t.x.s = p.imp)))
def ofL : List Att → List Spc → Bool
  | [], [] => true
  | t :: l, p :: ps => ofA t p && ofL l ps
  | _, _ => false
def ofE (e : Ent) (y : ALay) : Bool := decide (e.tag = y.x.tag) && ofL e.l y.x.l
def rightE (l : List Att) (wide : Bool) : Bool := l.all fun t => rightV t.x wide
/-- Whether an entry may stand in the i-th place, where so many may still get children. -/
def dokP (wide : Bool) (T : List ALay) (i : Nat) (o : Int) (e : Ent) : Bool :=
  match abbK T e.code with
  | none => false
  | some y => ofE e y && (decide ((if i = 0 then 0 else 1) ≤ e.depth) && (decide (e.depth ≤ o) && rightE e.l wide))
def putF (wide : Bool) (T : List ALay) : List Ent → Nat → List UInt8 → Int → Option (List UInt8)
  | [], _, b, o => some (b ++ List.replicate o.toNat 0)
  | e :: es, i, b, o => if dokP wide T i o e = true then putF wide T es (i + 1) (b ++ List.replicate (o - e.depth).toNat 0 ++ dentB e wide) (if kidO (abbK T e.code) = true then e.depth + 1 else e.depth) else none
def dieP (wide : Bool) (T : List ALay) (l : List Ent) : Option (List UInt8) := if l = [] ∨ 1000 < l.length then none else putF wide T l 0 [] 0
def pE (o : Option (List UInt8)) : Int := match o with | some _ => 0 | none => 2
def pB (o : Option (List UInt8)) : List UInt8 := match o with | some b => b | none => []

theorem ofL_len : ∀ {l : List Att} {ps : List Spc}, ofL l ps = true → l.length = ps.length
  | [], [], _ => rfl
  | t :: l, p :: ps, h => by
    rw [ofL, Bool.and_eq_true] at h
    exact congrArg Nat.succ (ofL_len h.2)
  | [], _ :: _, h => by cases h
  | _ :: _, [], h => by cases h
theorem ofL_all : ∀ {l : List Att} {ps : List Spc}, l.length = ps.length → (∀ (k : Nat) (t : Att) (p : Spc), l[k]? = some t → ps[k]? = some p → ofA t p = true) → ofL l ps = true
  | [], [], _, _ => rfl
  | t :: l, p :: ps, h, ha => by
    rw [ofL, ha 0 t p rfl rfl, Bool.true_and]
    exact ofL_all (Nat.succ.inj h) (fun k t' p' h1 h2 => ha (k + 1) t' p' h1 h2)
  | [], _ :: _, h, _ => by cases h
  | _ :: _, [], h, _ => by cases h
theorem ofL_get : ∀ {l : List Att} {ps : List Spc} {k : Nat} {t : Att} {p : Spc}, ofL l ps = true → l[k]? = some t → ps[k]? = some p → ofA t p = true
  | t' :: l, p' :: ps, 0, t, p, h, h1, h2 => by
    rw [ofL, Bool.and_eq_true] at h
    simp at h1 h2
    subst h1 h2
    exact h.1
  | t' :: l, p' :: ps, k + 1, t, p, h, h1, h2 => by
    rw [ofL, Bool.and_eq_true] at h
    exact ofL_get h.2 (by simpa using h1) (by simpa using h2)
  | [], _, _, _, _, _, h1, _ => by simp at h1
  | _ :: _, [], _, _, _, h, _, _ => by cases h
theorem valsB_snoc (l : List Att) (t : Att) (wide : Bool) : valsB (l ++ [t]) wide = valsB l wide ++ putV t.x wide := by simp [valsB]
/-- Values that came in. -/
structure Att.In (t : Att) : Prop where
  u : t.x.u < two64
  s : InI t.x.s
  b : t.x.b.length ≤ 3000
  t : t.x.t.length ≤ 3000
theorem putV_len {t : Att} {wide : Bool} (h : t.In) (hr : rightV t.x wide = true) : (putV t.x wide).length ≤ 65600 := by
  obtain ⟨-, h1, h2⟩ := rightV_spec hr
  exact wholeV_len h.u h.s h1 h2
theorem valsB_len {wide : Bool} : ∀ {l : List Att}, (∀ t ∈ l, t.In) → rightE l wide = true → (valsB l wide).length ≤ l.length * 65600
  | [], _, _ => Nat.le_refl _
  | t :: l, h, hr => by
    rw [rightE, List.all_cons, Bool.and_eq_true] at hr
    have h1 := putV_len (h t (by simp)) hr.1
    have h2 := valsB_len (l := l) (fun x hx => h x (by simp [hx])) hr.2
    have h3 : (valsB (t :: l) wide).length = (putV t.x wide).length + (valsB l wide).length := by simp [valsB]
    rw [h3, List.length_cons, Nat.add_mul]
    omega

/-! ### ends -/
section
variable {P : Program}
theorem wpList_append_zeros0 {w : World} {ops : Array Oper} {rest : List Oper} {o : Oper} {a : Act} {Q : Exit → Act → World → Prop} (hgd : o.guard = none) (s x : Operand) (t tn : TypeId)
    (ho : o.op = .call { callee := .builtin .append, args := #[s, x], argTypes := #[t, tn] })
    (base : Nat) (i : TypeInfo) (kn kq : IntKind) (ht : P.underlying t = some (.slice 5)) (htn : P.underlying tn = some (.int kn)) (hi : P.info? 5 = some i) (hz : i.zero = some (.int .u8 0)) (hs : i.size = 1) (hy : i.bytes = 1)
    (v : Value) (l : List UInt8) (hv : a.eval s = v) (hown : Own w base v l) (n : Nat) (z : Int) (hx : a.eval x = .int kq z) (hzn : z = (n : Int))
    (hl : l.length + n ≤ 140737488355328) (hbase : base ≤ w.heap.size)
    (h : ∀ v' w', Laid w w' base v v' (l ++ List.replicate n 0) → wpList P ops Q rest (a.put o.dst v') w') :
    wpList P ops Q (o :: rest) a w := by
  rcases Nat.eq_zero_or_pos n with rfl | h0
  · refine wpList_plain hgd fun K hK => ?_
    subst hzn
    obtain ⟨A, c, hu, hlc, -, -⟩ := own_slice hown
    have hw0 : IntKind.i64.wrap 0 = 0 := rfl
    have hr : (Builtin.append_ #[t, tn] o.type #[v, .int kq ((0 : Nat) : Int)]).run P w = .ok v w := by
      subst hu
      rcases A with _ | ad
      · rcases hown.2 with ⟨e, h0⟩ | ⟨g, cap, cur, e, -⟩
        · injection e with e1 e2 e3
          simp [Builtin.append_, run_underlying ht, run_underlying htn, sizeOf, typeInfo, zeroValue, hi, hz, hy, asInt, asIntOf, hw0, e2, e3]
        · cases e
      · simp [Builtin.append_, run_underlying ht, run_underlying htn, sizeOf, typeInfo, zeroValue, hi, hz, hy, asInt, asIntOf, hw0, hlc, storeCells]
    unfold Oper.wp execOp
    simp only [ho, resolve, invoke, builtin, Sem.run_bind, Sem.run_pure, Result.andThen_ok, List.map_toArray, List.map_cons, List.map_nil, hv, hx, hr]
    exact hK _ _ (h v w (by rw [List.replicate_zero, List.append_nil]; exact Laid.refl hown))
  · exact wpList_append_zeros hgd s x t tn ho base i kn kq ht htn hi hz hs hy v l hv hown n z hx hzn h0 hl hbase (fun v' w' h1 h2 h3 _ => h v' w' (Laid.of_append (Below.refl _ _) h1 h2 h3))
end
theorem ends_any {w : World} {base : Nat} {v : Value} {l : List UInt8} (hown : Own w base v l) (hbase : base ≤ w.heap.size) (n : Nat) (hlen : l.length + n ≤ 140737488355328) :
    Calls Tryz.prog 66 #[v, .int .i64 (n : Int)] w fun r w' => ∃ v', r = .returned v' ∧ Laid w w' base v v' (l ++ List.replicate n 0) := by
  obtain ⟨i0, hi, hz0, hz1, hz2⟩ := info_parts u8_info
  have HO := Lib.hid hown
  clear hown
  go_enter Tryz.func66, Tryz.ntmps66
  go_wp2_with (at_builtin; refine wpList_append_zeros0 (by rfl) (.tmp 5) (.tmp 6) _ _ (by rfl) base i0 .i64 .i64 Tryz.underlying26 Tryz.underlying3 hi hz0 hz1 hz2 v l (by rfl) HO.out n (n : Int) (by rfl) rfl hlen hbase ?_; intro v1 w1 hL; have HL := Lib.hid hL; clear hL)
  go_ret
  exact ⟨_, rfl, HL.out⟩

end Go.Proofs.YtejicboemkpeoaaGreatDoor

namespace Go.Proofs.YtejicboemkpeoaaGreatDoor
open Go Go.RowKit

/-- What came in as a value in memory. -/
structure AtL.In (t : AtL) : Prop where
  u : t.y.x.u < two64
  s : InI t.y.x.s
  b : t.y.x.b.length ≤ 3000
  t : t.y.x.t.length ≤ 3000
theorem AtL.In.att {t : AtL} (h : t.In) : t.att.In := ⟨h.u, h.s, h.b, h.t⟩
/-- What put tells of a row that it puts behind. -/
def PutEnd (w : World) (base : Nat) (v : Value) (l : List UInt8) (ok : Bool) (B : List UInt8) (r : Ending) (w' : World) : Prop :=
  (ok = true ∧ ∃ v', r = .returned (.tuple #[v', .int .i64 0]) ∧ Laid w w' base v v' (l ++ B)) ∨ (ok = false ∧ r = .returned (.tuple #[.slice none 0 0, .int .i64 2]) ∧ w.grownBy w' v.ownBlock)

set_option maxRecDepth 10000 in
set_option maxHeartbeats 3200000 in
theorem dput1_any {w : World} {base : Nat} {v : Value} {l : List UInt8} (hown : Own w base v l) (hbase : base ≤ w.heap.size) (hF : Ft w) (hS : Sz w) (hf : 2 < base) (hz : 3 < base) (y : DLay) (hy : Atts w base y.a y.L) (hcd : y.code < two64) (hin : ∀ t ∈ y.L, t.In) (hxl : y.L.length ≤ 3000) (wide : Bool) (hlen : l.length ≤ 100000000000000) :
    Calls Tryz.prog 65 #[v, .agg #[.int .u64 (y.off : Int), .int .u64 (y.code : Int), .int .i64 y.tag, .int .i64 y.parent, .int .i64 y.depth, .slice y.a y.L.length y.c], .bool wide] w fun r w' => PutEnd w base v l (rightE (y.L.map AtL.att) wide) (dentB y.ent wide) r w' := by
  have HBX := Lib.hid (Box.new w 61 #[.int .u64 (y.off : Int), .int .u64 (y.code : Int), .int .i64 y.tag, .int .i64 y.parent, .int .i64 y.depth, .slice y.a y.L.length y.c])
  have hb0 : Below w.heap.size w (w.alloc (.cells #[.int .u64 (y.off : Int), .int .u64 (y.code : Int), .int .i64 y.tag, .int .i64 y.parent, .int .i64 y.depth, .slice y.a y.L.length y.c] 61)) := (Below.refl _ _).alloc (Nat.le_refl _) _
  have hl0 : Laid w (w.alloc (.cells #[.int .u64 (y.off : Int), .int .u64 (y.code : Int), .int .i64 y.tag, .int .i64 y.parent, .int .i64 y.depth, .slice y.a y.L.length y.c] 61)) base v v l := ⟨row_below hown hb0, only_below hb0 _, .inl rfl⟩
  have HPU := Lib.hid (putU_any hl0.1 (Nat.le_trans hbase hb0.size) y.code (by unfold two64 at hcd; omega) (by omega))
  have HL0 := Lib.hid hl0
  have HY := Lib.hid hy
  have HFT := Lib.hid hF
  have HSZ := Lib.hid hS
  have HFB := Lib.hid hf
  have HZB := Lib.hid hz
  have HIN := Lib.hid hin
  have HBW := Lib.hid hbase
  have HOW := Lib.hid (show ∀ x, v.ownBlock = some x → base ≤ x from fun x hx => (hown.lt x hx).1)
  have HLE := Lib.hid hlen
  have hul : (lebPut (sizeU y.code) (y.code : Int)).length ≤ 10 := putU_len (by unfold two64 at hcd; omega)
  have HEB := Lib.hid (show dentB y.ent wide = lebPut (sizeU y.code) (y.code : Int) ++ valsB (y.L.map AtL.att) wide from rfl)
  generalize dentB y.ent wide = EB at *
  generalize lebPut (sizeU y.code) (y.code : Int) = P0 at *
  obtain ⟨X, hX⟩ : ∃ X, y.L = X := ⟨_, rfl⟩
  obtain ⟨n, hn⟩ : ∃ n, y.L.length = n := ⟨_, rfl⟩
  have HNN := Lib.hid (show X.length = n by rw [← hX]; exact hn)
  have HUL := Lib.hid hul
  rw [hn] at hxl HBX HL0 HPU
  rw [hX] at HY HIN HEB
  rw [hn, hX]
  clear hown hbase hF hS hf hz hy hcd hin hlen hb0 hl0 hul hX hn
  generalize y.off = c0 at *
  generalize y.code = c1 at *
  generalize y.tag = c2 at *
  generalize y.parent = c3 at *
  generalize y.depth = c4 at *
  generalize y.a = ya at *
  generalize y.c = yc at *
  go_enter Tryz.func65, Tryz.ntmps65
  go_upto_region 1 with fail
  have hx := HBX.out
  generalize w.alloc (.cells #[.int .u64 (c0 : Int), .int .u64 (c1 : Int), .int .i64 c2, .int .i64 c3, .int .i64 c4, .slice ya n yc] 61) = w1 at *
  obtain ⟨p0, p1, p2, p3, p4, p5⟩ := six_cells hx
  clear HBX
  have HX1 := Lib.hid hx
  clear hx
  generalize hH : w.heap.size = H at HX1 p0 p1 p2 p3 p4 p5 ⊢
  have HH := Lib.hid hH
  clear hH
  go_upto_region 2 with (go_at_call 102; refine HPU.out.mono ?_; rintro r w2 ⟨v2, rfl, hL2⟩; have HX2 := Lib.hid (un_box HX1.out HL0.out.1 (by decide) hL2.2.1); have HL2 := Lib.hid (HL0.out.trans hL2); clear hL2)
  clear p0 p1 p2 p3 p4 p5
  obtain ⟨p0, p1, p2, p3, p4, p5⟩ := six_cells HX2.out
  go_upto_region 3 with fail
  clear p0 p1 p2 p3 p4 p5
  go_loopg [0, 18] n (fun gk u i wr => ∃ k : Nat, k ≤ n ∧ gk = n - k ∧ i = .int .i64 k ∧ Hid (rightE ((X.take k).map AtL.att) wide = true) ∧ Hid (Laid w wr base v u (l ++ (P0 ++ valsB ((X.take k).map AtL.att) wide))))
  case atStart => exact ⟨0, Nat.zero_le _, rfl, rfl, Lib.hid rfl, Lib.hid (by show Laid w w2 base v v2 (l ++ (P0 ++ [])); rw [List.append_nil]; exact HL2.out)⟩
  case round =>
    obtain ⟨k, hk, rfl, rfl, HR, HL⟩ := hrel
    clear HL2 HX2
    by_cases hlt : k < n
    rotate_left
    · have htk : X.take k = X := List.take_of_length_le (by rw [HNN.out]; omega)
      rw [htk] at HR HL
      clear htk
      go_wp2_with fail
      go_ret2
      exact .inl ⟨HR.out, _, rfl, by rw [HEB.out]; exact HL.out⟩
    obtain ⟨t, ht⟩ : ∃ t, X[k]? = some t := ⟨X[k]'(by rw [HNN.out]; exact hlt), List.getElem?_eq_getElem _⟩
    have hGB : Below base w wr := below_of_only HL.out.2.1 HBW.out (HOW.out)
    obtain ⟨b, o, hao, -, t0, t1, t2, t3, t4, t5⟩ := att_at (HY.out.below hGB) ht
    subst hao
    have HTI := HIN.out t (List.mem_of_getElem? ht)
    have HTM := Lib.hid HTI
    have HRD := Lib.hid ((HY.out.bs t (List.mem_of_getElem? ht)).below hGB)
    have HTK := Lib.hid (show (X.take (k + 1)).map AtL.att = (X.take k).map AtL.att ++ [t.att] by rw [List.take_add_one, ht, List.map_append]; rfl)
    have hvl := valsB_len (l := (X.take k).map AtL.att) (wide := wide) (fun z hz => by
      obtain ⟨q, hq, rfl⟩ := List.mem_map.1 hz
      exact (HIN.out q (List.mem_of_mem_take hq)).att) HR.out
    have hkl : ((X.take k).map AtL.att).length = k := by rw [List.length_map, List.length_take, HNN.out]; omega
    rw [hkl] at hvl
    have hl9 : (l ++ (P0 ++ valsB ((X.take k).map AtL.att) wide)).length ≤ 140737488280000 := by
      rw [List.length_append, List.length_append]
      have h1 := HUL.out
      have h2 := HLE.out
      have h3 : k * 65600 ≤ 3000 * 65600 := Nat.mul_le_mul_right _ (by omega)
      omega
    have HVS := Lib.hid (valsB_snoc ((X.take k).map AtL.att) t.att wide)
    have HRS := Lib.hid (show rightE ((X.take k).map AtL.att ++ [t.att]) wide = rightV t.y.x wide by
      rw [rightE, List.all_append]
      have := HR.out
      rw [rightE] at this
      rw [this, Bool.true_and, List.all_cons, List.all_nil, Bool.and_true]
      rfl)
    have HRA := Lib.hid (show rightV t.y.x wide = false → rightE (X.map AtL.att) wide = false from fun h => by
      rw [← Bool.not_eq_true]
      intro hh
      rw [rightE, List.all_eq_true] at hh
      have := hh t.att (List.mem_map.2 ⟨t, List.mem_of_getElem? ht, rfl⟩)
      rw [show rightV t.att.x wide = rightV t.y.x wide from rfl, h] at this
      cases this)
    obtain ⟨bn, hbn⟩ : ∃ bn, t.y.x.b.length = bn := ⟨_, rfl⟩
    have HBN := Lib.hid hbn
    have hbn2 : bn ≤ 3000 := by rw [← hbn]; exact HTM.out.b
    rw [hbn] at t4
    have hb1 : Below wr.heap.size wr (wr.alloc (.cells #[.int .i64 t.at_, .int .i64 t.y.x.form, .int .u64 (t.y.x.u : Int), .int .i64 t.y.x.s, .slice t.y.a bn t.y.c, .string ⟨t.y.x.t.toArray⟩] 127)) := (Below.refl _ _).alloc (Nat.le_refl _) _
    have hXA := Box.new wr 127 #[.int .i64 t.at_, .int .i64 t.y.x.form, .int .u64 (t.y.x.u : Int), .int .i64 t.y.x.s, .slice t.y.a bn t.y.c, .string ⟨t.y.x.t.toArray⟩]
    go_upto_region 5 with fail
    generalize wr.alloc (.cells #[.int .i64 t.at_, .int .i64 t.y.x.form, .int .u64 (t.y.x.u : Int), .int .i64 t.y.x.s, .slice t.y.a bn t.y.c, .string ⟨t.y.x.t.toArray⟩] 127) = w3 at *
    have HB3 := Lib.hid (hGB.trans (hb1.mono (Nat.le_trans HBW.out HL.out.2.1.size)))
    have HL3 := Lib.hid (show Laid w w3 base v _ (l ++ (P0 ++ valsB ((X.take k).map AtL.att) wide)) from ⟨row_below HL.out.1 hb1, only_then_below HL.out.2.1 hb1, HL.out.2.2⟩)
    have HPW := Lib.hid (putW_any HL3.out.1 (Nat.le_trans HBW.out HL3.out.2.1.size) (HFT.out.grown HL3.out.2.1 (fun e => by have := HOW.out _ e; have := HFB.out; omega)) (HSZ.out.grown HL3.out.2.1 (fun e => by have := HOW.out _ e; have := HZB.out; omega)) t.y ((HY.out.bs t (List.mem_of_getElem? ht)).below HB3.out) HTM.out.u HTM.out.s (Nat.le_trans HTM.out.b (by decide)) wide hl9)
    have HPE := Lib.hid (show putWE t.y.x wide = if rightV t.y.x wide = true then 0 else 2 from rfl)
    simp only [hbn] at HPW
    obtain ⟨q0, q1, q2, q3, q4, q5⟩ := six_cells hXA
    have HPV := Lib.hid (show putV t.att.x wide = putV t.y.x wide from rfl)
    clear ht hXA hb1 hbn t0 t1 t2 t3 t4 t5 HTM HTI hvl hl9 hkl HRD HB3 hGB
    generalize t.att.x = tx at *
    generalize putV t.y.x wide = PV at *
    generalize putWE t.y.x wide = PE at *
    generalize rightV t.y.x wide = rr at *
    generalize valsB ((X.take k).map AtL.att) wide = VB at *
    generalize t.y.x.t = txt at *
    generalize t.y.x.form = x0 at *
    generalize t.y.x.u = x1 at *
    generalize t.y.x.s = x2 at *
    generalize t.y.a = y3 at *
    generalize t.y.c = y4 at *
    generalize t.at_ = x9 at *
    cases rr with
    | true =>
      have hpe := HPE.out
      rw [if_pos rfl] at hpe
      subst hpe
      go_wp2_with (go_at_call 103; refine HPW.out.mono ?_; rintro r w4 ⟨v4, rfl, hL4, -⟩; have HL4 := Lib.hid (HL3.out.trans (hL4 rfl)); clear hL4)
      go_roundg (n - (k + 1))
      case measure => omega
      case rel => exact ⟨k + 1, by omega, rfl, by go_num, Lib.hid (by rw [HTK.out, HRS.out]), Lib.hid (by rw [HTK.out, HVS.out, HPV.out, ← List.append_assoc P0, ← List.append_assoc l]; exact HL4.out)⟩
    | false =>
      have hpe := HPE.out
      rw [if_neg (by decide)] at hpe
      subst hpe
      go_wp2_with (go_at_call 103; refine HPW.out.mono ?_; rintro r w4 ⟨v4, rfl, -, hL4⟩; (obtain ⟨rfl, hb4⟩ := hL4 rfl); have HG4 := Lib.hid (only_then_below HL3.out.2.1 hb4); clear hb4 hL4)
      (try rw [Exit.noGoto_ret])
      go_ret2
      exact .inr ⟨by first | exact HRA.out rfl | exact HRA.out trivial, rfl, HG4.out⟩

/-! ### of -/
set_option maxRecDepth 10000 in
set_option maxHeartbeats 1600000 in
theorem of1_any {w : World} (t : AtL) (p : Spc) :
    Calls Tryz.prog 101 #[.agg #[.int .i64 t.at_, .int .i64 t.y.x.form, .int .u64 (t.y.x.u : Int), .int .i64 t.y.x.s, .slice t.y.a t.y.x.b.length t.y.c, .string ⟨t.y.x.t.toArray⟩], .agg #[.int .i64 p.at_, .int .i64 p.form, .int .i64 p.imp]] w fun r w' => r = .returned (.bool (ofA t.att p)) ∧ Below w.heap.size w w' := by
  have HE := Lib.hid (show ofA t.att p = (decide (t.at_ = p.at_) && (decide (t.y.x.form = p.form) && (!decide (p.form = 33) || decide (t.y.x.s = p.imp)))) from rfl)
  have e1 := int_beqR t.at_ p.at_
  have e2 := int_beqR t.y.x.form p.form
  have e3 : (p.form != 33) = !decide (p.form = 33) := by rw [bne, int_beqR]
  have e4 := int_beqR t.y.x.s p.imp
  have hA1 := (Below.refl w.heap.size w).alloc (Nat.le_refl _) (.cells #[.int .i64 t.at_, .int .i64 t.y.x.form, .int .u64 (t.y.x.u : Int), .int .i64 t.y.x.s, .slice t.y.a t.y.x.b.length t.y.c, .string ⟨t.y.x.t.toArray⟩] 127)
  have HA2 := Lib.hid (hA1.alloc hA1.size (.cells #[.int .i64 p.at_, .int .i64 p.form, .int .i64 p.imp] 125))
  clear hA1
  generalize ofA t.att p = R at *
  generalize decide (t.at_ = p.at_) = b1 at *
  generalize decide (t.y.x.form = p.form) = b2 at *
  generalize decide (p.form = 33) = b3 at *
  generalize decide (t.y.x.s = p.imp) = b4 at *
  generalize t.y.x.b.length = ln at *
  generalize t.y.x.t = tx at *
  generalize t.y.x.form = x0 at *
  generalize t.y.x.u = x1 at *
  generalize t.y.x.s = x2 at *
  generalize t.y.a = ya at *
  generalize t.y.c = yc at *
  generalize t.at_ = x9 at *
  generalize p.at_ = z0 at *
  generalize p.form = z1 at *
  generalize p.imp = z2 at *
  go_enter Tryz.func101, Tryz.ntmps101
  cases b1 <;> cases b2 <;> cases b3
  all_goals
    (try simp only [Bool.not_true, Bool.not_false] at e3)
    go_wp2_with fail
    go_ret
    exact ⟨by rw [HE.out]; cases b4 <;> rfl, HA2.out⟩

set_option maxRecDepth 10000 in
set_option maxHeartbeats 1600000 in
theorem equalA_any {w : World} {a sa : Option Addr} {X : List AtL} {ps : List Spc} (h : Atts w w.heap.size a X) (hp : Spcs w w.heap.size sa ps) (c sc : Nat) (hl : X.length ≤ 100000) (hlp : ps.length ≤ 100000) :
    Calls Tryz.prog 100 #[.slice a X.length c, .slice sa ps.length sc, .func (.func 101) #[] #[]] w fun r w' => r = .returned (.bool (ofL (X.map AtL.att) ps)) ∧ Below w.heap.size w w' := by
  have HA := Lib.hid (@ofL_all (X.map AtL.att) ps)
  have HG := Lib.hid (fun (k : Nat) (t : AtL) (p : Spc) (h1 : X[k]? = some t) (h2 : ps[k]? = some p) (h3 : ofA t.att p = false) => (show ofL (X.map AtL.att) ps = false by
    rw [← Bool.not_eq_true]
    intro hh
    have := ofL_get (t := t.att) hh (by rw [List.getElem?_map, h1]; rfl) h2
    rw [h3] at this
    cases this))
  have HLN := Lib.hid (@ofL_len (X.map AtL.att) ps)
  rw [List.length_map] at HA HLN
  generalize ofL (X.map AtL.att) ps = R at *
  obtain ⟨N, hN⟩ : ∃ N, X.length = N := ⟨_, rfl⟩
  obtain ⟨n, hn⟩ : ∃ n, ps.length = n := ⟨_, rfl⟩
  have HN := Lib.hid hN
  have Hn := Lib.hid hn
  have HH := Lib.hid h
  have HP := Lib.hid hp
  rw [hN, hn] at HA HLN
  rw [hN] at hl
  rw [hn] at hlp
  rw [hN, hn]
  clear h hp hN hn
  by_cases hne : N = n
  rotate_left
  · have q : ((N : Int) != (n : Int)) = true := by simp; omega
    have HR := Lib.hid (show R = false by
      rw [← Bool.not_eq_true]
      exact fun hh => hne (HLN.out hh))
    clear hne
    go_enter Tryz.func100, Tryz.ntmps100
    go_wp2_with fail
    go_ret
    exact ⟨by rw [HR.out]; rfl, Below.refl _ _⟩
  subst hne
  go_enter Tryz.func100, Tryz.ntmps100
  go_wp2_with fail
  go_loopw [17] (fun i wr => ∃ k : Nat, k ≤ N ∧ i = .int .i64 k ∧ Hid (Below w.heap.size w wr) ∧ Hid (∀ (j : Nat) (t : AtL) (p : Spc), j < k → X[j]? = some t → ps[j]? = some p → ofA t.att p = true)) (fun i _ => N - (intOf i).toNat)
  case atStart => exact ⟨0, Nat.zero_le _, rfl, Lib.hid (Below.refl _ _), Lib.hid (fun j t p hj => by omega)⟩
  case round =>
    obtain ⟨k, hk, rfl, HB, HY⟩ := hrel
    by_cases hlt : k < N
    rotate_left
    · have HR := Lib.hid (HA.out (by first | rfl | trivial) (fun j t p h1 h2 => by
        rw [List.getElem?_map] at h1
        cases hx : X[j]? with
        | none => rw [hx] at h1; cases h1
        | some z =>
          rw [hx] at h1
          injection h1 with h1
          subst h1
          exact HY.out j z p (by have := (List.getElem?_eq_some_iff.1 hx).1; rw [HN.out] at this; omega) hx h2))
      go_wp2_with fail
      go_ret
      exact ⟨by rw [HR.out]; rfl, HB.out⟩
    obtain ⟨t, ht⟩ : ∃ t, X[k]? = some t := ⟨X[k]'(by rw [HN.out]; exact hlt), List.getElem?_eq_getElem _⟩
    obtain ⟨p, hp⟩ : ∃ p, ps[k]? = some p := ⟨ps[k]'(by rw [Hn.out]; exact hlt), List.getElem?_eq_getElem _⟩
    obtain ⟨b, o, hao, -, t0, t1, t2, t3, t4, t5⟩ := att_at (HH.out.below HB.out) ht
    obtain ⟨b2, o2, hao2, -, u0, u1, u2⟩ := spc_at (HP.out.below HB.out) hp
    subst hao hao2
    have HW := Lib.hid (fun W => of1_any (w := W) t p)
    have HGK := Lib.hid (HG.out k t p ht hp)
    have HYK := Lib.hid (show ofA t.att p = true → ∀ (j : Nat) (t' : AtL) (p' : Spc), j < k + 1 → X[j]? = some t' → ps[j]? = some p' → ofA t'.att p' = true from fun h j t' p' hj h1 h2 => by
      rcases Nat.lt_or_ge j k with h3 | h3
      · exact HY.out j t' p' h3 h1 h2
      · obtain rfl : j = k := by omega
        rw [ht] at h1
        rw [hp] at h2
        injection h1 with h1
        injection h2 with h2
        rw [← h1, ← h2]
        exact h)
    obtain ⟨bn, hbn⟩ : ∃ bn, t.y.x.b.length = bn := ⟨_, rfl⟩
    rw [hbn] at t4
    simp only [hbn] at HW
    clear ht hp hbn
    generalize ofA t.att p = b at *
    generalize t.y.x.t = tx at *
    generalize t.y.x.form = x0 at *
    generalize t.y.x.u = x1 at *
    generalize t.y.x.s = x2 at *
    generalize t.y.a = ya at *
    generalize t.y.c = yc at *
    generalize t.at_ = x9 at *
    generalize p.at_ = z0 at *
    generalize p.form = z1 at *
    generalize p.imp = z2 at *
    have hb1 := (Below.refl wr.heap.size wr).alloc (Nat.le_refl _) (.cells #[.int .i64 x9, .int .i64 x0, .int .u64 (x1 : Int), .int .i64 x2, .slice ya bn yc, .string ⟨tx.toArray⟩] 127)
    have u0' := (hb1.cell (p := ⟨b2, o2 + k * 3, none⟩) (World.block_lt_of_cell? wr _ u0)).trans u0
    have u1' := (hb1.cell (p := ⟨b2, o2 + k * 3 + 1, none⟩) (World.block_lt_of_cell? wr _ u1)).trans u1
    have u2' := (hb1.cell (p := ⟨b2, o2 + k * 3 + 2, none⟩) (World.block_lt_of_cell? wr _ u2)).trans u2
    have HB2 := Lib.hid (HB.out.trans ((hb1.alloc hb1.size (.cells #[.int .i64 z0, .int .i64 z1, .int .i64 z2] 125)).mono HB.out.size))
    clear hb1
    cases b with
    | true =>
      go_wp2_with (go_at_call 101; refine (HW.out _).mono ?_; rintro r w1 ⟨rfl, hb1⟩)
      have HB3 := Lib.hid (HB2.out.trans (hb1.mono HB2.out.size))
      go_roundw
      case rel => exact ⟨k + 1, by omega, by go_num, HB3, Lib.hid (by first | exact HYK.out rfl | exact HYK.out trivial)⟩
      case measure => simp [intOf]; omega
    | false =>
      go_wp2_with (go_at_call 101; refine (HW.out _).mono ?_; rintro r w1 ⟨rfl, hb1⟩)
      have HB3 := Lib.hid (HB2.out.trans (hb1.mono HB2.out.size))
      (try rw [Exit.noGoto_ret])
      go_ret
      have HR := Lib.hid (show R = false by first | exact HGK.out rfl | exact HGK.out trivial)
      exact ⟨by rw [HR.out]; rfl, HB3.out⟩

set_option maxRecDepth 10000 in
set_option maxHeartbeats 1600000 in
theorem of_dany {w : World} (y : DLay) (h : Atts w w.heap.size y.a y.L) (hl : y.L.length ≤ 100000) (kc tg : Int) (kd : Bool) (ps : List Spc) (sa : Option Addr) (sc : Nat) (hp : Spcs w w.heap.size sa ps) (hlp : ps.length ≤ 100000) :
    Calls Tryz.prog 64 #[.agg #[.int .u64 (y.off : Int), .int .u64 (y.code : Int), .int .i64 y.tag, .int .i64 y.parent, .int .i64 y.depth, .slice y.a y.L.length y.c], .agg #[.int .u64 kc, .int .i64 tg, .bool kd, .slice sa ps.length sc]] w fun r w' => r = .returned (.bool (decide (y.tag = tg) && ofL (y.L.map AtL.att) ps)) ∧ Below w.heap.size w w' := by
  have e1 := int_beqR y.tag tg
  have hA1 := (Below.refl w.heap.size w).alloc (Nat.le_refl _) (.cells #[.int .u64 (y.off : Int), .int .u64 (y.code : Int), .int .i64 y.tag, .int .i64 y.parent, .int .i64 y.depth, .slice y.a y.L.length y.c] 61)
  have hA2 := hA1.alloc hA1.size (.cells #[.int .u64 kc, .int .i64 tg, .bool kd, .slice sa ps.length sc] 123)
  have HEQ := Lib.hid (fun W (hW : Below w.heap.size w W) => equalA_any (h.up hW) (Row.up hp hW) y.c sc hl hlp)
  have HA2 := Lib.hid hA2
  clear h hp hA1 hA2
  generalize ofL (y.L.map AtL.att) ps = R at *
  generalize decide (y.tag = tg) = b1 at *
  generalize y.L.length = n at *
  generalize ps.length = m at *
  generalize y.off = c0 at *
  generalize y.code = c1 at *
  generalize y.tag = c2 at *
  generalize y.parent = c3 at *
  generalize y.depth = c4 at *
  generalize y.a = ya at *
  generalize y.c = yc at *
  go_enter Tryz.func64, Tryz.ntmps64
  cases b1 with
  | true =>
    go_wp2_with (go_at_call 100; refine (HEQ.out _ HA2.out).mono ?_; rintro r w1 ⟨rfl, hb1⟩; have HB3 := Lib.hid (HA2.out.trans (hb1.mono HA2.out.size)))
    go_ret
    exact ⟨rfl, HB3.out⟩
  | false =>
    go_wp2_with fail
    go_ret
    exact ⟨rfl, HA2.out⟩

end Go.Proofs.YtejicboemkpeoaaGreatDoor

namespace Go.Proofs.YtejicboemkpeoaaGreatDoor
open Go Go.RowKit

/-- Entries that came in. -/
structure DLay.In (y : DLay) : Prop where
  code : y.code < two64
  depth : InI y.depth
  len : y.L.length ≤ 3000
  ats : ∀ t ∈ y.L, t.In
theorem putF_no {wide : Bool} {T : List ALay} {e : Ent} {es : List Ent} {i : Nat} {b : List UInt8} {o : Int} (h : dokP wide T i o e = false) : putF wide T (e :: es) i b o = none := by
  rw [putF, if_neg (by rw [h]; decide)]
theorem putF_go {wide : Bool} {T : List ALay} {e : Ent} {es : List Ent} {i : Nat} {b : List UInt8} {o : Int} (h : dokP wide T i o e = true) : putF wide T (e :: es) i b o = putF wide T es (i + 1) (b ++ List.replicate (o - e.depth).toNat 0 ++ dentB e wide) (if kidO (abbK T e.code) = true then e.depth + 1 else e.depth) := by
  rw [putF, if_pos h]
theorem dokP_eq (wide : Bool) (T : List ALay) (i : Nat) (o : Int) (e : Ent) : dokP wide T i o e = ((abbK T e.code).isSome && ((decide (e.tag = tagO (abbK T e.code)) && ofL e.l (psO (abbK T e.code))) && (decide ((if i = 0 then 0 else 1) ≤ e.depth) && (decide (e.depth ≤ o) && rightE e.l wide)))) := by
  unfold dokP
  cases abbK T e.code <;> rfl
theorem dentB_len {e : Ent} {wide : Bool} (hc : e.code < two64) (hi : ∀ t ∈ e.l, t.In) (hl : e.l.length ≤ 3000) (hr : rightE e.l wide = true) : (dentB e wide).length ≤ 200000000 := by
  have h1 := valsB_len hi hr
  have h2 : (lebPut (sizeU e.code) (e.code : Int)).length ≤ 10 := putU_len (by unfold two64 at hc; omega)
  have h3 : e.l.length * 65600 ≤ 3000 * 65600 := Nat.mul_le_mul_right _ hl
  unfold dentB
  rw [List.length_append]
  omega

set_option maxRecDepth 10000 in
set_option maxHeartbeats 3200000 in
theorem dPut_any {w : World} (hF : Ft w) (hS : Sz w) {a : Option Addr} {L : List DLay} (h : Ents w w.heap.size a L) (c : Nat) (hl : L.length ≤ 100000) (hin : ∀ y ∈ L, y.In) {ta : Option Addr} {T : List ALay} (hT : Abbs w w.heap.size ta T) (tc : Nat) (hTl : T.length ≤ 100000) (hTin : ∀ y ∈ T, y.x.l.length ≤ 100000) (wide : Bool) :
    Calls Tryz.prog 27 #[.slice a L.length c, .slice ta T.length tc, .bool wide] w fun r w' => ∃ v, r = .returned (.tuple #[v, .int .i64 (pE (dieP wide T (L.map DLay.ent)))]) ∧ Own w' w.heap.size v (pB (dieP wide T (L.map DLay.ent))) ∧ Below w.heap.size w w' := by
  have HH := Lib.hid h
  have HIN := Lib.hid hin
  have HTT := Lib.hid hT
  have HTL := Lib.hid hTl
  have HTI := Lib.hid hTin
  have HFT := Lib.hid hF
  have HSZ := Lib.hid hS
  obtain ⟨N, hN⟩ : ∃ N, L.length = N := ⟨_, rfl⟩
  have HN := Lib.hid hN
  obtain ⟨tn, htn⟩ : ∃ tn, T.length = tn := ⟨_, rfl⟩
  have HTN := Lib.hid htn
  have HD := Lib.hid (show dieP wide T (L.map DLay.ent) = if L.map DLay.ent = [] ∨ 1000 < (L.map DLay.ent).length then none else putF wide T (L.map DLay.ent) 0 [] 0 from rfl)
  have HE := Lib.hid (show L.map DLay.ent = [] ↔ N = 0 by rw [List.map_eq_nil_iff, ← hN, List.length_eq_zero_iff])
  rw [List.length_map, hN] at HD
  rw [hN] at hl
  rw [hN, htn]
  clear h hin hT hTl hTin hF hS hN htn
  generalize dieP wide T (L.map DLay.ent) = D at *
  by_cases hbad : N = 0 ∨ 1000 < N
  · have hd : D = none := by
      rw [HD.out, if_pos]
      rcases hbad with h | h
      · exact .inl (HE.out.2 h)
      · exact .inr h
    subst hd
    rcases hbad with h0 | h0
    · subst h0
      go_enter Tryz.func27, Tryz.ntmps27
      go_wp2_with fail
      go_ret2
      exact ⟨_, rfl, own_nilR _ _, Below.refl _ _⟩
    · have q1 : ((N : Int) == 0) = false := by simp; omega
      have q2 : decide ((1000 : Int) < (N : Int)) = true := by simp; omega
      clear h0
      go_enter Tryz.func27, Tryz.ntmps27
      go_wp2_with fail
      go_ret2
      exact ⟨_, rfl, own_nilR _ _, Below.refl _ _⟩
  have hN0 : N ≠ 0 := fun e => hbad (.inl e)
  have hN1 : N ≤ 1000 := by
    rcases Nat.lt_or_ge 1000 N with h | h
    · exact absurd (.inr h) hbad
    · exact h
  have HD1 := Lib.hid (show D = putF wide T (L.map DLay.ent) 0 [] 0 by
    rw [HD.out, if_neg]
    rintro (h | h)
    · exact hN0 (HE.out.1 h)
    · omega)
  have q1 : ((N : Int) == 0) = false := by simpa using hN0
  have q2 : decide ((1000 : Int) < (N : Int)) = false := by simp; omega
  clear HD HE hbad hN0
  go_enter Tryz.func27, Tryz.ntmps27
  go_wp2_with fail
  go_loopg [8, 9, 25] N (fun gk u op i wr => ∃ (k o : Nat) (bs : List UInt8), k ≤ N ∧ gk = N - k ∧ op = .int .i64 o ∧ i = .int .i64 k ∧ o ≤ k ∧ Hid (Laid w wr w.heap.size (.slice none 0 0) u bs) ∧ Hid (bs.length ≤ k * 300000000) ∧ Hid (D = putF wide T ((L.drop k).map DLay.ent) k bs (o : Int)))
  case atStart => exact ⟨0, 0, [], Nat.zero_le _, rfl, rfl, rfl, Nat.le_refl _, Lib.hid (Laid.refl (own_nilR _ _)), Lib.hid (Nat.zero_le _), HD1⟩
  case round =>
    obtain ⟨k, o, bs, hk, rfl, rfl, rfl, ho, HL, HBL, HP⟩ := hrel
    clear HD1
    have hGB : Below w.heap.size w wr := below_of_only HL.out.2.1 (Nat.le_refl _) (fun x hx => by cases hx)
    have HGB := Lib.hid hGB
    clear hGB
    by_cases hlt : k < N
    rotate_left
    · have hd : L.drop k = [] := List.drop_eq_nil_of_le (by rw [HN.out]; omega)
      have HP2 := Lib.hid (show D = some (bs ++ List.replicate o 0) by rw [HP.out, hd]; rfl)
      have hbl : bs.length ≤ 1000 * 300000000 := Nat.le_trans HBL.out (Nat.mul_le_mul_right _ (by omega))
      have HEN := Lib.hid (ends_any HL.out.1 HGB.out.size o (by omega))
      clear hd
      go_wp2_with (go_at_call 66; refine HEN.out.mono ?_; rintro r w2 ⟨v2, rfl, hL2⟩; have HL2 := Lib.hid (HL.out.trans hL2); clear hL2)
      go_ret2
      exact ⟨_, by rw [HP2.out]; rfl, by rw [HP2.out]; exact HL2.out.1, below_of_only HL2.out.2.1 (Nat.le_refl _) (fun x hx => by cases hx)⟩
    obtain ⟨y, hy⟩ : ∃ y, L[k]? = some y := ⟨L[k]'(by rw [HN.out]; exact hlt), List.getElem?_eq_getElem _⟩
    have hdr : L.drop k = y :: L.drop (k + 1) := by
      have hkl : k < L.length := by rw [HN.out]; exact hlt
      rw [List.drop_eq_getElem_cons hkl]
      congr 1
      rw [List.getElem?_eq_getElem hkl] at hy
      injection hy
    have HPC := Lib.hid (show D = putF wide T (y.ent :: (L.drop (k + 1)).map DLay.ent) k bs (o : Int) by rw [HP.out, hdr]; rfl)
    have HNO := Lib.hid (fun (h : dokP wide T k (o : Int) y.ent = false) => HPC.out.trans (putF_no h))
    have HGO := Lib.hid (fun (h : dokP wide T k (o : Int) y.ent = true) => HPC.out.trans (putF_go h))
    have HOK := Lib.hid (dokP_eq wide T k (o : Int) y.ent)
    have HYI := Lib.hid (HIN.out y (List.mem_of_getElem? hy))
    have HYA := Lib.hid (HH.out.ats y (List.mem_of_getElem? hy))
    obtain ⟨b, oo, hao, -, c0, c1, c2, c3, c4, c5⟩ := ent_at (HH.out.below HGB.out) hy
    subst hao
    clear hy hdr HP HPC
    obtain ⟨xn, hxn⟩ : ∃ xn, y.L.length = xn := ⟨_, rfl⟩
    have HXN := Lib.hid hxn
    rw [hxn] at c5
    go_upto_region 8 with fail
    have hb1 : Below wr.heap.size wr (wr.alloc (.cells #[.int .u64 (y.off : Int), .int .u64 (y.code : Int), .int .i64 y.tag, .int .i64 y.parent, .int .i64 y.depth, .slice y.a xn y.c] 61)) := (Below.refl _ _).alloc (Nat.le_refl _) _
    have hX1 := Box.new wr 61 #[.int .u64 (y.off : Int), .int .u64 (y.code : Int), .int .i64 y.tag, .int .i64 y.parent, .int .i64 y.depth, .slice y.a xn y.c]
    generalize wr.alloc (.cells #[.int .u64 (y.off : Int), .int .u64 (y.code : Int), .int .i64 y.tag, .int .i64 y.parent, .int .i64 y.depth, .slice y.a xn y.c] 61) = w1 at *
    have HGB1 := Lib.hid (HGB.out.trans (hb1.mono HGB.out.size))
    have HL1 := Lib.hid (show Laid w w1 w.heap.size (.slice none 0 0) u8 bs from ⟨row_below HL.out.1 hb1, only_then_below HL.out.2.1 hb1, HL.out.2.2⟩)
    have HFD := Lib.hid (dfind_any (HTT.out.below HGB1.out) HGB1.out.size tc HTL.out HTI.out y.code)
    have HPL := Lib.hid (psO_len HTI.out y.code)
    rw [HTN.out] at HFD
    rw [show y.ent.code = y.code from rfl] at HOK HGO
    obtain ⟨ab, hab⟩ : ∃ ab, abbK T y.code = ab := ⟨_, rfl⟩
    rw [hab] at HFD HPL HOK HGO
    obtain ⟨pn, hpn⟩ : ∃ pn, (psO ab).length = pn := ⟨_, rfl⟩
    have HPN := Lib.hid hpn
    rw [hpn] at HFD HPL
    clear hab hpn c0 c1 c2 c3 c4 c5
    obtain ⟨p0, p1, p2, p3, p4, p5⟩ := six_cells hX1
    have HX1 := Lib.hid hX1
    clear hX1 hb1 HL HGB
    generalize wr.heap.size = H1 at *
    go_upto_region 9 with (go_at_call 63; refine HFD.out.mono ?_; rintro r w4 ⟨kc, tg, kd, sa, sc, bb, rfl, hFD, hb4⟩; have HFO := Lib.hid hFD; have HB4 := Lib.hid hb4; clear hFD hb4)
    have hX5 := Box.new w4 123 #[.int .u64 kc, .int .i64 tg, .bool kd, .slice sa pn sc]
    have hb5 : Below w4.heap.size w4 (w4.alloc (.cells #[.int .u64 kc, .int .i64 tg, .bool kd, .slice sa pn sc] 123)) := (Below.refl _ _).alloc (Nat.le_refl _) _
    generalize w4.alloc (.cells #[.int .u64 kc, .int .i64 tg, .bool kd, .slice sa pn sc] 123) = w5 at *
    have hb15 := HB4.out.trans (hb5.mono HB4.out.size)
    have HL5 := Lib.hid (show Laid w w5 w.heap.size (.slice none 0 0) u8 bs from ⟨row_below HL1.out.1 hb15, only_then_below HL1.out.2.1 hb15, HL1.out.2.2⟩)
    have HGB5 := Lib.hid (HGB1.out.trans (hb15.mono HGB1.out.size))
    have HX15 := Lib.hid (HX1.out.below hb15 HX1.out.lt)
    have HSP := Lib.hid (Row.below HFO.out.spcs (hb15.mono HGB1.out.size))
    have HX5 := Lib.hid hX5
    have hbo := HFO.out.b
    have htg := HFO.out.tag
    have HKD := Lib.hid HFO.out.kid
    subst hbo
    rw [htg] at HOK
    clear hX5 hb5 hb15 HFO HB4 HFD HX1 HL1 HGB1 p0 p1 p2 p3 p4 p5 htg
    generalize w4.heap.size = H5 at *
    obtain ⟨p0, p1, p2, p3, p4, p5⟩ := six_cells HX15.out
    obtain ⟨z0, z1, z2, z3⟩ := four_cells HX5.out
    have HOF := Lib.hid (fun W (hW : Below w5.heap.size w5 W) => (by
      have hYW := HYA.out.below (HGB5.out.trans (hW.mono HGB5.out.size))
      have := of_dany (w := W) y (hYW.more (Nat.le_trans HGB5.out.size hW.size)) (Nat.le_trans HYI.out.len (by decide)) kc tg kd (psO ab) sa sc (Row.more (Row.below (Row.below HSP.out (Below.refl _ _)) (hW.mono HGB5.out.size)) (Nat.le_trans HGB5.out.size hW.size)) (by rw [HPN.out]; exact HPL.out)
      rw [HXN.out, HPN.out] at this
      exact this : Calls Tryz.prog 64 #[.agg #[.int .u64 (y.off : Int), .int .u64 (y.code : Int), .int .i64 y.tag, .int .i64 y.parent, .int .i64 y.depth, .slice y.a xn y.c], .agg #[.int .u64 kc, .int .i64 tg, .bool kd, .slice sa pn sc]] W fun r w' => r = .returned (.bool (decide (y.tag = tg) && ofL (y.L.map AtL.att) (psO ab))) ∧ Below W.heap.size W w'))
    have hmn : min (k : Int) 1 = if k = 0 then 0 else 1 := by split <;> omega
    obtain ⟨mi, hmi⟩ : ∃ mi : Int, (if k = 0 then 0 else 1) = mi := ⟨_, rfl⟩
    have HMI := Lib.hid (show 0 ≤ mi by rw [← hmi]; split <;> decide)
    rw [hmi] at hmn HOK
    obtain ⟨b1, hb1⟩ : ∃ b, ab.isSome = b := ⟨_, rfl⟩
    obtain ⟨b2, hb2⟩ : ∃ b, (decide (y.tag = tg) && ofL (y.L.map AtL.att) (psO ab)) = b := ⟨_, rfl⟩
    obtain ⟨b3, hb3⟩ : ∃ b, decide (mi ≤ y.depth) = b := ⟨_, rfl⟩
    obtain ⟨b4, hb4⟩ : ∃ b, decide (y.depth ≤ (o : Int)) = b := ⟨_, rfl⟩
    rw [show y.ent.tag = y.tag from rfl, show y.ent.l = y.L.map AtL.att from rfl, show y.ent.depth = y.depth from rfl, hb1, hb2, hb3, hb4] at HOK
    rw [hb1]
    rw [hb2] at HOF
    have d3 : decide (y.depth < mi) = !b3 := by rw [← hb3, Bool.eq_iff_iff]; simp
    have d4 : decide ((o : Int) < y.depth) = !b4 := by rw [← hb4, Bool.eq_iff_iff]; simp
    have HB34 := Lib.hid (And.intro hb3 hb4)
    clear hb1 hb2 hb3 hb4 hmi
    rcases (by cases b1 <;> cases b2 <;> cases b3 <;> cases b4 <;> simp : b1 = false ∨ (b1 = true ∧ b2 = false) ∨ (b1 = true ∧ b2 = true ∧ b3 = false) ∨ (b1 = true ∧ b2 = true ∧ b3 = true ∧ b4 = false) ∨ (b1 = true ∧ b2 = true ∧ b3 = true ∧ b4 = true)) with rfl | ⟨rfl, rfl⟩ | ⟨rfl, rfl, rfl⟩ | ⟨rfl, rfl, rfl, rfl⟩ | ⟨rfl, rfl, rfl, rfl⟩
    rotate_right
    · simp only [Bool.not_true] at d3 d4
      have h3 := of_decide_eq_true HB34.out.1
      have h4 := of_decide_eq_true HB34.out.2
      obtain ⟨dd, hdd⟩ : ∃ dd : Nat, y.depth = (dd : Int) := ⟨y.depth.toNat, by have := HMI.out; omega⟩
      have hdo : dd ≤ o := by omega
      have HDD := Lib.hid hdd
      have HLB := Lib.hid (show bs.length ≤ 1000 * 300000000 from Nat.le_trans HBL.out (Nat.mul_le_mul_right _ (by omega)))
      rw [hdd] at HX15 p4 HOF d3 d4 ⊢
      obtain ⟨rr, hrr⟩ : ∃ rr, rightE (y.L.map AtL.att) wide = rr := ⟨_, rfl⟩
      have HRR := Lib.hid hrr
      rw [hrr] at HOK
      clear h3 h4 hdd hrr HB34 HMI
      go_upto_region 12 with (go_at_call 64; refine (HOF.out _ (Below.refl _ _)).mono ?_; rintro r w6 ⟨rfl, hb6⟩; (obtain ⟨m0, m1, m2, m3, m4, m5⟩ := six_cells (HX15.out.below hb6 HX15.out.lt)); have HX6 := Lib.hid (HX15.out.below hb6 HX15.out.lt); have HX56 := Lib.hid (HX5.out.below hb6 HX5.out.lt); have HL6 := Lib.hid (show Laid w w6 w.heap.size (.slice none 0 0) u8 bs from ⟨row_below HL5.out.1 hb6, only_then_below HL5.out.2.1 hb6, HL5.out.2.2⟩); clear hb6)
      clear p0 p1 p2 p3 p4 p5 z0 z1 z2 z3 m0 m1 m2 m3 m4 m5 HX15 HX5 HL5 d3 d4 hmn
      have h6d : Below w6.heap.size w6 w6.drew := (Below.refl _ _).drew
      have HX6d := Lib.hid HX6.out.drew
      have HL6d := Lib.hid (show Laid w w6.drew w.heap.size (.slice none 0 0) u8 bs from ⟨row_below HL6.out.1 h6d, only_then_below HL6.out.2.1 h6d, HL6.out.2.2⟩)
      have HX56d := Lib.hid HX56.out.drew
      have hsu : IntKind.i64.wrap ((o : Int) - (dd : Int)) = ((o - dd : Nat) : Int) := by rw [IntWalk.i64_in _ (by omega)]; omega
      obtain ⟨q, hq⟩ : ∃ q, o - dd = q := ⟨_, rfl⟩
      have HQ := Lib.hid hq
      have hsu2 : wrap64 ((o : Int) - (dd : Int)) = (q : Int) := by rw [← i64_wrap_eq, hsu, hq]
      rw [hq] at hsu
      have HEN := Lib.hid (ends_any HL6d.out.1 (HL6d.out.2.1.size) q (by have := HLB.out; omega))
      have HPT := Lib.hid (fun W (v' : Value) (hL : Laid w W w.heap.size (.slice none 0 0) v' (bs ++ List.replicate q 0)) => (by
        have hb7 : Below w.heap.size w W := below_of_only hL.2.1 (Nat.le_refl _) (fun x hx => by cases hx)
        have := dput1_any hL.1 hL.2.1.size (HFT.out.up hb7) (HSZ.out.below hb7 HSZ.out.pos) HFT.out.pos HSZ.out.pos y (HYA.out.below hb7) HYI.out.code HYI.out.ats HYI.out.len wide (by rw [List.length_append, List.length_replicate]; have := HLB.out; have := HQ.out; omega)
        rw [HXN.out, HRR.out, HDD.out] at this
        exact this : Calls Tryz.prog 65 #[v', .agg #[.int .u64 (y.off : Int), .int .u64 (y.code : Int), .int .i64 y.tag, .int .i64 y.parent, .int .i64 (dd : Int), .slice y.a xn y.c], .bool wide] W fun r w' => PutEnd W w.heap.size v' (bs ++ List.replicate q 0) rr (dentB y.ent wide) r w'))
      have HKX := Lib.hid (fun W (hx : Box W H1 61 #[.int .u64 (y.off : Int), .int .u64 (y.code : Int), .int .i64 y.tag, .int .i64 y.parent, .int .i64 (dd : Int), .slice y.a xn y.c]) => six_cells hx)
      clear h6d hq
      cases rr with
      | true =>
        refine wp_region_held_drew (S := fun X => X.cell? ⟨H1, 0, none⟩ = some (.int .u64 (y.off : Int)) ∧ X.cell? ⟨H1, 1, none⟩ = some (.int .u64 (y.code : Int)) ∧ X.cell? ⟨H1, 2, none⟩ = some (.int .i64 y.tag) ∧ X.cell? ⟨H1, 3, none⟩ = some (.int .i64 y.parent) ∧ X.cell? ⟨H1, 4, none⟩ = some (.int .i64 (dd : Int)) ∧ X.cell? ⟨H1, 5, none⟩ = some (.slice y.a xn y.c)) (by kernel_rfl) ?_ (fun hHeld => ?_)
        · exact HKX.out _ HX6d.out
        refine take_r (i := 0) (v := ?_) rfl (by kernel_rfl) (by kernel_rfl) (by kernel_rfl) (fun _ _ _ h => h) (Or.inl ⟨by rfl, ?_⟩) hHeld ?_
        rotate_left
        · (intro wS hSw; (try dsimp only at hSw); go_simp; (try with_reducible rfl))
        try simp only [Act.put, List.setIfInBounds_toArray, List.set_cons_zero, List.set_cons_succ]
        refine take_r (i := 1) (v := ?_) rfl (by kernel_rfl) (by kernel_rfl) (by kernel_rfl) (fun _ _ _ h => h) (Or.inl ⟨by rfl, ?_⟩) hHeld ?_
        rotate_left
        · (intro wS hSw; (try dsimp only at hSw); go_simp; (try with_reducible rfl))
        try simp only [Act.put, List.setIfInBounds_toArray, List.set_cons_zero, List.set_cons_succ]
        refine take_r (i := 2) (v := ?_) rfl (by kernel_rfl) (by kernel_rfl) (by kernel_rfl) (fun _ _ _ h => h) (Or.inl ⟨by rfl, ?_⟩) hHeld ?_
        rotate_left
        · (intro wS hSw; (try dsimp only at hSw); go_simp; (try with_reducible rfl))
        try simp only [Act.put, List.setIfInBounds_toArray, List.set_cons_zero, List.set_cons_succ]
        refine take_r (i := 3) (v := ?_) rfl (by kernel_rfl) (by kernel_rfl) (by kernel_rfl) (fun _ _ _ h => h) (Or.inl ⟨by rfl, ?_⟩) hHeld ?_
        rotate_left
        · (intro wS hSw; (try dsimp only at hSw); go_simp; (try with_reducible rfl))
        try simp only [Act.put, List.setIfInBounds_toArray, List.set_cons_zero, List.set_cons_succ]
        refine take_r (i := 4) (v := ?_) rfl (by kernel_rfl) (by kernel_rfl) (by kernel_rfl) (fun _ _ _ h => h) (Or.inl ⟨by rfl, ?_⟩) hHeld ?_
        rotate_left
        · (intro wS hSw; (try dsimp only at hSw); go_simp; (try with_reducible rfl))
        try simp only [Act.put, List.setIfInBounds_toArray, List.set_cons_zero, List.set_cons_succ]
        refine take_r (i := 6) (v := ?_) rfl (by kernel_rfl) (by kernel_rfl) (by kernel_rfl) (fun _ _ _ h => h) (Or.inl ⟨by rfl, ?_⟩) hHeld ?_
        rotate_left
        · (intro wS hSw; (try dsimp only at hSw); go_simp; (try with_reducible rfl))
        try simp only [Act.put, List.setIfInBounds_toArray, List.set_cons_zero, List.set_cons_succ]
        refine take_r (i := 7) (v := ?_) rfl (by kernel_rfl) (by kernel_rfl) (by kernel_rfl) (fun _ _ _ h => h) (Or.inl ⟨by rfl, ?_⟩) hHeld ?_
        rotate_left
        · (intro wS hSw; (try dsimp only at hSw); go_simp; (try with_reducible rfl))
        try simp only [Act.put, List.setIfInBounds_toArray, List.set_cons_zero, List.set_cons_succ]
        refine wpAnyH_ready (rs := [5]) (by kernel_rfl) (by simp) ?_
        refine ready_r rfl (fun K hK => ?_)
        go_simp
        go_wp2_with (go_at_call 66; refine HEN.out.mono ?_; rintro r w7 ⟨v7, rfl, hL7⟩; have HX7 := Lib.hid (un_box HX6d.out HL6d.out.1 (by decide) hL7.2.1); have HX57 := Lib.hid (un_box HX56d.out HL6d.out.1 (by decide) hL7.2.1); have HL7 := Lib.hid (HL6d.out.trans hL7); clear hL7)
        refine hK.out _ _ ?_ (fun hNew => ?_)
        · exact HKX.out _ HX7.out
        clear hHeld hK K
        have hHeld := hNew
        clear hNew
        refine wpAnyH_ready (rs := [8]) (by kernel_rfl) (by simp) ?_
        refine ready_r rfl (fun K hK => ?_)
        go_simp
        go_wp2_with (go_at_call 65; refine (HPT.out _ _ HL7.out).mono ?_; rintro r w8 hP8; (obtain ⟨-, v8, rfl, hL8⟩ := hP8.resolve_right (fun h => by cases h.1)); have HX8 := Lib.hid (un_box HX7.out HL7.out.1 (by decide) hL8.2.1); have HX58 := Lib.hid (un_box HX57.out HL7.out.1 (by decide) hL8.2.1); have HL8 := Lib.hid (HL7.out.trans hL8); clear hL8 hP8)
        refine hK.out _ _ ?_ (fun hNew => ?_)
        · exact HKX.out _ HX8.out
        clear hHeld hK K
        have hHeld := hNew
        clear hNew
        refine take_r (i := 9) (v := ?_) rfl (by kernel_rfl) (by kernel_rfl) (by kernel_rfl) (fun _ _ _ h => h) (Or.inl ⟨by rfl, ?_⟩) hHeld ?_
        rotate_left
        · (intro wS hSw; (try dsimp only at hSw); go_simp; (try with_reducible rfl))
        try simp only [Act.put, List.setIfInBounds_toArray, List.set_cons_zero, List.set_cons_succ]
        refine take_r (i := 10) (v := ?_) rfl (by kernel_rfl) (by kernel_rfl) (by kernel_rfl) (fun _ _ _ h => h) (Or.inl ⟨by rfl, ?_⟩) hHeld ?_
        rotate_left
        · (intro wS hSw; (try dsimp only at hSw); go_simp; (try with_reducible rfl))
        try simp only [Act.put, List.setIfInBounds_toArray, List.set_cons_zero, List.set_cons_succ]
        refine take_r (i := 11) (v := ?_) rfl (by kernel_rfl) (by kernel_rfl) (by kernel_rfl) (fun _ _ _ h => h) (Or.inl ⟨by rfl, ?_⟩) hHeld ?_
        rotate_left
        · (intro wS hSw; (try dsimp only at hSw); go_simp; (try with_reducible rfl))
        try simp only [Act.put, List.setIfInBounds_toArray, List.set_cons_zero, List.set_cons_succ]
        refine take_r (i := 12) (v := ?_) rfl (by kernel_rfl) (by kernel_rfl) (by kernel_rfl) (fun _ _ _ h => h) (Or.inl ⟨by rfl, ?_⟩) hHeld ?_
        rotate_left
        · (intro wS hSw; (try dsimp only at hSw); go_simp; (try with_reducible rfl))
        try simp only [Act.put, List.setIfInBounds_toArray, List.set_cons_zero, List.set_cons_succ]
        refine take_r (i := 13) (v := ?_) rfl (by kernel_rfl) (by kernel_rfl) (by kernel_rfl) (fun _ _ _ h => h) (Or.inl ⟨by rfl, ?_⟩) hHeld ?_
        rotate_left
        · (intro wS hSw; (try dsimp only at hSw); go_simp; (try with_reducible rfl))
        try simp only [Act.put, List.setIfInBounds_toArray, List.set_cons_zero, List.set_cons_succ]
        refine wpAnyH_done (by kernel_rfl) ?_ _
        have HPD := Lib.hid (HGO.out (by rw [HOK.out]; rfl))
        have HB8 := Lib.hid (below_of_only HL8.out.2.1 (Nat.le_refl _) (fun x hx => by cases hx))
        obtain ⟨m0, m1, m2, m3, m4, m5⟩ := six_cells HX8.out
        obtain ⟨z0, z1, z2, z3⟩ := four_cells HX58.out
        have HLN := Lib.hid (show (bs ++ List.replicate q 0 ++ dentB y.ent wide).length ≤ (k + 1) * 300000000 by
          have e1 := dentB_len (e := y.ent) (wide := wide) HYI.out.code (fun t ht => by obtain ⟨x, hx, rfl⟩ := List.mem_map.1 ht; exact (HYI.out.ats x hx).att) (by rw [show y.ent.l = y.L.map AtL.att from rfl, List.length_map]; exact HYI.out.len) HRR.out
          have e2 := HBL.out
          have e3 := HQ.out
          rw [List.length_append, List.length_append, List.length_replicate, Nat.add_mul]
          omega)
        rw [show y.ent.depth = (dd : Int) from HDD.out, show (((o : Int) - (dd : Int)).toNat) = q by have := HQ.out; omega, HKD.out] at HPD
        cases kd with
        | true =>
          have hso : IntKind.i64.wrap ((dd : Int) + 1) = ((dd + 1 : Nat) : Int) := by rw [IntWalk.i64_in _ (by omega)]; rfl
          have hso2 : wrap64 ((dd : Int) + 1) = ((dd + 1 : Nat) : Int) := by rw [← i64_wrap_eq]; exact hso
          have HPE := Lib.hid (HPD.out.trans (by rw [if_pos rfl]; rfl) : D = putF wide T ((L.drop (k + 1)).map DLay.ent) (k + 1) (bs ++ List.replicate q 0 ++ dentB y.ent wide) ((dd + 1 : Nat) : Int))
          clear HPD
          go_wp2_with fail
          go_roundg (N - (k + 1))
          case measure => omega
          case rel => exact ⟨k + 1, dd + 1, _, by omega, rfl, rfl, by go_num, Nat.succ_le_succ (Nat.le_trans hdo ho), HL8, HLN, HPE⟩
        | false =>
          have HPE := Lib.hid (HPD.out.trans (by rw [if_neg (by decide)]) : D = putF wide T ((L.drop (k + 1)).map DLay.ent) (k + 1) (bs ++ List.replicate q 0 ++ dentB y.ent wide) (dd : Int))
          clear HPD
          go_wp2_with fail
          go_roundg (N - (k + 1))
          case measure => omega
          case rel => exact ⟨k + 1, dd, _, by omega, rfl, rfl, by go_num, Nat.le_succ_of_le (Nat.le_trans hdo ho), HL8, HLN, HPE⟩
      | false =>
        refine wp_region_held_drew (S := fun X => X.cell? ⟨H1, 0, none⟩ = some (.int .u64 (y.off : Int)) ∧ X.cell? ⟨H1, 1, none⟩ = some (.int .u64 (y.code : Int)) ∧ X.cell? ⟨H1, 2, none⟩ = some (.int .i64 y.tag) ∧ X.cell? ⟨H1, 3, none⟩ = some (.int .i64 y.parent) ∧ X.cell? ⟨H1, 4, none⟩ = some (.int .i64 (dd : Int)) ∧ X.cell? ⟨H1, 5, none⟩ = some (.slice y.a xn y.c)) (by kernel_rfl) ?_ (fun hHeld => ?_)
        · exact HKX.out _ HX6d.out
        refine take_r (i := 0) (v := ?_) rfl (by kernel_rfl) (by kernel_rfl) (by kernel_rfl) (fun _ _ _ h => h) (Or.inl ⟨by rfl, ?_⟩) hHeld ?_
        rotate_left
        · (intro wS hSw; (try dsimp only at hSw); go_simp; (try with_reducible rfl))
        try simp only [Act.put, List.setIfInBounds_toArray, List.set_cons_zero, List.set_cons_succ]
        refine take_r (i := 1) (v := ?_) rfl (by kernel_rfl) (by kernel_rfl) (by kernel_rfl) (fun _ _ _ h => h) (Or.inl ⟨by rfl, ?_⟩) hHeld ?_
        rotate_left
        · (intro wS hSw; (try dsimp only at hSw); go_simp; (try with_reducible rfl))
        try simp only [Act.put, List.setIfInBounds_toArray, List.set_cons_zero, List.set_cons_succ]
        refine take_r (i := 2) (v := ?_) rfl (by kernel_rfl) (by kernel_rfl) (by kernel_rfl) (fun _ _ _ h => h) (Or.inl ⟨by rfl, ?_⟩) hHeld ?_
        rotate_left
        · (intro wS hSw; (try dsimp only at hSw); go_simp; (try with_reducible rfl))
        try simp only [Act.put, List.setIfInBounds_toArray, List.set_cons_zero, List.set_cons_succ]
        refine take_r (i := 3) (v := ?_) rfl (by kernel_rfl) (by kernel_rfl) (by kernel_rfl) (fun _ _ _ h => h) (Or.inl ⟨by rfl, ?_⟩) hHeld ?_
        rotate_left
        · (intro wS hSw; (try dsimp only at hSw); go_simp; (try with_reducible rfl))
        try simp only [Act.put, List.setIfInBounds_toArray, List.set_cons_zero, List.set_cons_succ]
        refine take_r (i := 4) (v := ?_) rfl (by kernel_rfl) (by kernel_rfl) (by kernel_rfl) (fun _ _ _ h => h) (Or.inl ⟨by rfl, ?_⟩) hHeld ?_
        rotate_left
        · (intro wS hSw; (try dsimp only at hSw); go_simp; (try with_reducible rfl))
        try simp only [Act.put, List.setIfInBounds_toArray, List.set_cons_zero, List.set_cons_succ]
        refine take_r (i := 6) (v := ?_) rfl (by kernel_rfl) (by kernel_rfl) (by kernel_rfl) (fun _ _ _ h => h) (Or.inl ⟨by rfl, ?_⟩) hHeld ?_
        rotate_left
        · (intro wS hSw; (try dsimp only at hSw); go_simp; (try with_reducible rfl))
        try simp only [Act.put, List.setIfInBounds_toArray, List.set_cons_zero, List.set_cons_succ]
        refine take_r (i := 7) (v := ?_) rfl (by kernel_rfl) (by kernel_rfl) (by kernel_rfl) (fun _ _ _ h => h) (Or.inl ⟨by rfl, ?_⟩) hHeld ?_
        rotate_left
        · (intro wS hSw; (try dsimp only at hSw); go_simp; (try with_reducible rfl))
        try simp only [Act.put, List.setIfInBounds_toArray, List.set_cons_zero, List.set_cons_succ]
        refine wpAnyH_ready (rs := [5]) (by kernel_rfl) (by simp) ?_
        refine ready_r rfl (fun K hK => ?_)
        go_simp
        go_wp2_with (go_at_call 66; refine HEN.out.mono ?_; rintro r w7 ⟨v7, rfl, hL7⟩; have HX7 := Lib.hid (un_box HX6d.out HL6d.out.1 (by decide) hL7.2.1); have HX57 := Lib.hid (un_box HX56d.out HL6d.out.1 (by decide) hL7.2.1); have HL7 := Lib.hid (HL6d.out.trans hL7); clear hL7)
        refine hK.out _ _ ?_ (fun hNew => ?_)
        · exact HKX.out _ HX7.out
        clear hHeld hK K
        have hHeld := hNew
        clear hNew
        refine wpAnyH_ready (rs := [8]) (by kernel_rfl) (by simp) ?_
        refine ready_r rfl (fun K hK => ?_)
        go_simp
        go_wp2_with (go_at_call 65; refine (HPT.out _ _ HL7.out).mono ?_; rintro r w8 hP8; (obtain ⟨-, rfl, hG8⟩ := hP8.resolve_left (fun h => by cases h.1)); have HX8 := Lib.hid (un_box HX7.out HL7.out.1 (by decide) hG8); have HG8 := Lib.hid (only_trans HL7.out.2.1 hG8 (HL7.out.2.2)); clear hG8 hP8)
        refine hK.out _ _ ?_ (fun hNew => ?_)
        · exact HKX.out _ HX8.out
        clear hHeld hK K
        have hHeld := hNew
        clear hNew
        refine take_r (i := 9) (v := ?_) rfl (by kernel_rfl) (by kernel_rfl) (by kernel_rfl) (fun _ _ _ h => h) (Or.inl ⟨by rfl, ?_⟩) hHeld ?_
        rotate_left
        · (intro wS hSw; (try dsimp only at hSw); go_simp; (try with_reducible rfl))
        try simp only [Act.put, List.setIfInBounds_toArray, List.set_cons_zero, List.set_cons_succ]
        refine take_r (i := 10) (v := ?_) rfl (by kernel_rfl) (by kernel_rfl) (by kernel_rfl) (fun _ _ _ h => h) (Or.inl ⟨by rfl, ?_⟩) hHeld ?_
        rotate_left
        · (intro wS hSw; (try dsimp only at hSw); go_simp; (try with_reducible rfl))
        try simp only [Act.put, List.setIfInBounds_toArray, List.set_cons_zero, List.set_cons_succ]
        refine take_r (i := 11) (v := ?_) rfl (by kernel_rfl) (by kernel_rfl) (by kernel_rfl) (fun _ _ _ h => h) (Or.inl ⟨by rfl, ?_⟩) hHeld ?_
        rotate_left
        · (intro wS hSw; (try dsimp only at hSw); go_simp; (try with_reducible rfl))
        try simp only [Act.put, List.setIfInBounds_toArray, List.set_cons_zero, List.set_cons_succ]
        refine take_r (i := 12) (v := ?_) rfl (by kernel_rfl) (by kernel_rfl) (by kernel_rfl) (fun _ _ _ h => h) (Or.inl ⟨by rfl, ?_⟩) hHeld ?_
        rotate_left
        · (intro wS hSw; (try dsimp only at hSw); go_simp; (try with_reducible rfl))
        try simp only [Act.put, List.setIfInBounds_toArray, List.set_cons_zero, List.set_cons_succ]
        refine take_r (i := 13) (v := ?_) rfl (by kernel_rfl) (by kernel_rfl) (by kernel_rfl) (fun _ _ _ h => h) (Or.inl ⟨by rfl, ?_⟩) hHeld ?_
        rotate_left
        · (intro wS hSw; (try dsimp only at hSw); go_simp; (try with_reducible rfl))
        try simp only [Act.put, List.setIfInBounds_toArray, List.set_cons_zero, List.set_cons_succ]
        refine wpAnyH_done (by kernel_rfl) ?_ _
        have HNN := Lib.hid (HNO.out (by rw [HOK.out]; simp))
        go_wp2_with fail
        (try rw [Exit.noGoto_ret])
        go_ret2
        exact ⟨_, by rw [HNN.out]; rfl, by rw [HNN.out]; exact own_nilR _ _, below_of_only HG8.out (Nat.le_refl _) (fun x hx => by cases hx)⟩
    all_goals
      have HNN := Lib.hid (HNO.out (by rw [HOK.out]; simp))
      (try simp only [Bool.not_true, Bool.not_false] at d3 d4)
      go_wp2_with (go_at_call 64; refine (HOF.out _ (Below.refl _ _)).mono ?_; rintro r w6 ⟨rfl, hb6⟩; (obtain ⟨m0, m1, m2, m3, m4, m5⟩ := six_cells (HX15.out.below hb6 HX15.out.lt)))
      (try rw [Exit.noGoto_ret])
      go_ret2
      exact ⟨_, by rw [HNN.out]; rfl, by rw [HNN.out]; exact own_nilR _ _, by first | exact HGB5.out.trans (hb6.mono HGB5.out.size) | exact HGB5.out⟩

end Go.Proofs.YtejicboemkpeoaaGreatDoor

namespace Go.Proofs.YtejicboemkpeoaaGreatDoor
open Go Go.RowKit

theorem entF_few {M : Nat} {l : List UInt8} {wide : Bool} {T : List ALay} (hT : ∀ y ∈ T, y.x.l.length ≤ M) {n d : Nat} {s s' : CSt} {e : Ent} {k : Bool} (h : entF l wide T n d s = (some (e, k), s')) : e.l.length ≤ M := by
  unfold entF at h
  split at h
  · cases h
  · split at h
    · obtain ⟨h1, -⟩ := Prod.mk.inj h
      obtain ⟨rfl, -⟩ := Prod.mk.inj (Option.some.inj h1)
      show (entA l wide (abbK T (tU l s)) n d (sU l s)).1.length ≤ M
      cases ha : abbK T (tU l s) with
      | none => exact Nat.zero_le _
      | some y =>
        have := hT y (abbK_mem ha)
        show (attF l wide y.x.l _).1.length ≤ M
        rw [attF_len]
        exact this
    · cases h
theorem contW_few {M : Nat} {l : List UInt8} {wide : Bool} {T : List ALay} {N : Nat} (hT : ∀ (s : CSt) (L : List Ent) (P : List Int), 2 * (l.length - s.1) + P.length ≤ N → (∀ e ∈ L, e.l.length ≤ M) → ∀ e ∈ (treeW l wide T s L P).1, e.l.length ≤ M) (s : CSt) (L : List Ent) (P : List Int) (hm : 2 * (l.length - s.1) + P.length ≤ N) (hL : ∀ e ∈ L, e.l.length ≤ M) : ∀ e ∈ (contW l wide T s L P).1, e.l.length ≤ M := by
  unfold contW
  split
  · exact hL
  · exact hT s L P hm hL
theorem snoc_few {M : Nat} {L : List Ent} {e : Ent} (hL : ∀ e ∈ L, e.l.length ≤ M) (he : e.l.length ≤ M) : ∀ x ∈ L ++ [e], x.l.length ≤ M := fun x hx => by
  rcases List.mem_append.1 hx with hx | hx
  · exact hL x hx
  · rw [List.mem_singleton.1 hx]; exact he
theorem treeW_few {M : Nat} {l : List UInt8} {wide : Bool} {T : List ALay} (hT : ∀ y ∈ T, y.x.l.length ≤ M) : ∀ (N : Nat) (s : CSt) (L : List Ent) (P : List Int), 2 * (l.length - s.1) + P.length ≤ N → (∀ e ∈ L, e.l.length ≤ M) → ∀ e ∈ (treeW l wide T s L P).1, e.l.length ≤ M
  | 0, s, L, P, hm, hL => by
    have hP : P = [] := List.eq_nil_of_length_eq_zero (by omega)
    subst hP
    rcases hR : entF l wide T L.length (([] : List Int).length - 1) s with ⟨_ | ⟨e, k⟩, s'⟩
    · rw [treeW_none hR]
      exact hL
    · obtain ⟨h1, -⟩ := entF_some hR
      omega
  | N + 1, s, L, P, hm, hL => by
    rcases hR : entF l wide T L.length (P.length - 1) s with ⟨_ | ⟨e, k⟩, s'⟩
    · rw [treeW_none hR]
      have := entF_mono l wide T L.length (P.length - 1) s
      rw [hR] at this
      simp only at this
      cases P with
      | nil => exact hL
      | cons p P =>
        rw [List.tail_cons]
        rw [List.length_cons] at hm
        exact contW_few (treeW_few hT N) s' L P (by omega) hL
    · obtain ⟨h1, h2, -⟩ := entF_some hR
      have hf := snoc_few (e := { e with parent := P.headD 0 }) hL (show e.l.length ≤ M from entF_few hT hR)
      cases k with
      | true =>
        rw [treeW_kids hR]
        exact contW_few (treeW_few hT N) s' _ _ (by rw [List.length_cons]; omega) hf
      | false =>
        rw [treeW_leaf hR]
        exact contW_few (treeW_few hT N) s' _ _ (by omega) hf
theorem dieL_few {M : Nat} {l : List UInt8} {wide : Bool} {T : List ALay} (hT : ∀ y ∈ T, y.x.l.length ≤ M) (first stop : Nat) : ∀ e ∈ dieL l wide T first stop, e.l.length ≤ M := by
  unfold dieL
  split
  · exact treeW_few hT _ _ _ _ (Nat.le_refl _) (fun e he => by cases he)
  · intro e he
    cases he
theorem map_few {M : Nat} {L : List DLay} {R : List Ent} (h : L.map DLay.ent = R) (hR : ∀ e ∈ R, e.l.length ≤ M) : ∀ y ∈ L, y.L.length ≤ M := fun y hy => by
  have := hR y.ent (by rw [← h]; exact List.mem_map.2 ⟨y, hy, rfl⟩)
  rwa [show y.ent.l = y.L.map AtL.att from rfl, List.length_map] at this

/-! ### The chapter's example -/
def exT17 (a b : Option Addr) (c d : Nat) : List ALay := [⟨⟨1, 17, true, [⟨3, 11, 0⟩]⟩, a, c⟩, ⟨⟨2, 52, false, []⟩, b, d⟩]
def exV17 : RV := ⟨11, 7, 0, [], []⟩
def exL17 : List Ent := [⟨0, 1, 17, 0, 0, [⟨3, exV17⟩]⟩, ⟨0, 2, 52, 0, 1, []⟩]
def exR17 : List Ent := [⟨0, 1, 17, -1, 0, [⟨3, exV17⟩]⟩, ⟨2, 2, 52, 0, 1, []⟩]
def exB17 : List UInt8 := [1, 7, 2, 0]
section
variable (a b : Option Addr) (c d : Nat)
theorem ex17_put : dieP false (exT17 a b c d) exL17 = some exB17 := by kernel_rfl
theorem ex17_e0 : entF exB17 false (exT17 a b c d) 0 0 (0, 0) = (some (⟨0, 1, 17, 0, 0, [⟨3, exV17⟩]⟩, true), (2, 0)) := by kernel_rfl
theorem ex17_e1 : entF exB17 false (exT17 a b c d) 1 1 (2, 0) = (some (⟨2, 2, 52, 0, 1, []⟩, false), (3, 0)) := by kernel_rfl
theorem ex17_e2 : entF exB17 false (exT17 a b c d) 2 1 (3, 0) = (none, (4, 0)) := by kernel_rfl
theorem ex17_tree : treeW exB17 false (exT17 a b c d) (0, 0) [] [-1] = (exR17, (4, 0)) := by
  rw [treeW_kids (P := [-1]) (ex17_e0 a b c d)]
  show contW exB17 false (exT17 a b c d) (2, 0) [⟨0, 1, 17, -1, 0, [⟨3, exV17⟩]⟩] [0, -1] = _
  unfold contW
  rw [if_neg (by decide), treeW_leaf (L := [_]) (P := [0, -1]) (ex17_e1 a b c d)]
  show contW exB17 false (exT17 a b c d) (3, 0) exR17 [0, -1] = _
  unfold contW
  rw [if_neg (by decide), treeW_none (P := [0, -1]) (ex17_e2 a b c d)]
  rfl
theorem ex17_take : dieE exB17 false (exT17 a b c d) 0 4 = 0 ∧ dieL exB17 false (exT17 a b c d) 0 4 = exR17 := by
  have h0 : dieR exB17 false (exT17 a b c d) 0 4 = (exR17, (4, 0)) := ex17_tree a b c d
  have h1 : dieE exB17 false (exT17 a b c d) 0 4 = 0 := by
    unfold dieE
    rw [if_neg (by decide), h0]
    rfl
  refine ⟨h1, ?_⟩
  unfold dieL
  rw [if_pos h1, h0]
end

end Go.Proofs.YtejicboemkpeoaaGreatDoor

namespace Go.Proofs.YtejicboemkpeoaaGreatDoor
open Go Go.RowKit

def exT0 : AtL := ⟨3, exV17, none, 0⟩
def exY0 (g : Nat) : DLay := ⟨0, 1, 17, 0, 0, [exT0], some ⟨g, 0, none⟩, 1⟩
def exY1 : DLay := ⟨0, 2, 52, 0, 1, [], none, 0⟩
theorem ex17_att : (exT0).In := ⟨by decide, by constructor <;> decide, by decide, by decide⟩
theorem ex17_in (g : Nat) : ∀ y ∈ [exY0 g, exY1], y.In := fun y hy => by
  rcases List.mem_cons.1 hy with rfl | hy
  · exact ⟨show (1 : Nat) < two64 by decide, show InI 0 by constructor <;> decide, show 1 ≤ 3000 by decide, fun t ht => by rw [List.mem_singleton.1 ht]; exact ex17_att⟩
  · rw [List.mem_singleton.1 hy]
    exact ⟨show (2 : Nat) < two64 by decide, show InI 1 by constructor <;> decide, show 0 ≤ 3000 by decide, fun t ht => by cases ht⟩
theorem ex17_few (a b : Option Addr) (c d : Nat) : ∀ y ∈ exT17 a b c d, y.x.l.length ≤ 100000 := fun y hy => by
  rcases List.mem_cons.1 hy with rfl | hy
  · exact show 1 ≤ 100000 by decide
  · rw [List.mem_singleton.1 hy]
    exact show 0 ≤ 100000 by decide
/-- The example's memory. -/
theorem ex17_mem {w w1 w2 w3 w4 : World}
    (hw1 : w.alloc (.cells #[.int .i64 3, .int .i64 11, .int .i64 0] 125) = w1)
    (hw2 : w1.alloc (.cells #[.int .u64 1, .int .i64 17, .bool true, .slice (some ⟨w.heap.size, 0, none⟩) 1 1, .int .u64 2, .int .i64 52, .bool false, .slice none 0 0] 123) = w2)
    (hw3 : w2.alloc (.cells #[.int .i64 3, .int .i64 11, .int .u64 7, .int .i64 0, .slice none 0 0, .string ⟨#[]⟩] 127) = w3)
    (hw4 : w3.alloc (.cells #[.int .u64 0, .int .u64 1, .int .i64 17, .int .i64 0, .int .i64 0, .slice (some ⟨w2.heap.size, 0, none⟩) 1 1, .int .u64 0, .int .u64 2, .int .i64 52, .int .i64 0, .int .i64 1, .slice none 0 0] 61) = w4) :
    Abbs w4 w4.heap.size (some ⟨w1.heap.size, 0, none⟩) (exT17 (some ⟨w.heap.size, 0, none⟩) none 1 0) ∧ Ents w4 w4.heap.size (some ⟨w3.heap.size, 0, none⟩) [exY0 w2.heap.size, exY1] ∧ Below w.heap.size w w4 := by
  have hb1 : Below w.heap.size w w1 := hw1 ▸ (Below.refl _ _).alloc (Nat.le_refl _) _
  have hb2 : Below w1.heap.size w1 w2 := hw2 ▸ (Below.refl _ _).alloc (Nat.le_refl _) _
  have hb3 : Below w2.heap.size w2 w3 := hw3 ▸ (Below.refl _ _).alloc (Nat.le_refl _) _
  have hb4 : Below w3.heap.size w3 w4 := hw4 ▸ (Below.refl _ _).alloc (Nat.le_refl _) _
  have hs1 : w1.heap.size = w.heap.size + 1 := by rw [← hw1]; simp
  have hs2 : w2.heap.size = w1.heap.size + 1 := by rw [← hw2]; simp
  have hs3 : w3.heap.size = w2.heap.size + 1 := by rw [← hw3]; simp
  have hs4 : w4.heap.size = w3.heap.size + 1 := by rw [← hw4]; simp
  have hr1 : Spcs w1 w1.heap.size (some ⟨w.heap.size, 0, none⟩) [⟨3, 11, 0⟩] := by
    rw [hs1, ← hw1]
    exact lit_row spc_three w 125 [⟨3, 11, 0⟩]
  have hr2 : Row 4 ALay.cells w2 w2.heap.size (some ⟨w1.heap.size, 0, none⟩) (exT17 (some ⟨w.heap.size, 0, none⟩) none 1 0) := by
    rw [hs2, ← hw2]
    exact lit_row abb_four w1 123 (exT17 (some ⟨w.heap.size, 0, none⟩) none 1 0)
  have hr3 : Row 6 AtL.cells w3 w3.heap.size (some ⟨w2.heap.size, 0, none⟩) [exT0] := by
    rw [hs3, ← hw3]
    exact lit_row att_six w2 127 [exT0]
  have hr4 : Row 6 DLay.cells w4 w4.heap.size (some ⟨w3.heap.size, 0, none⟩) [exY0 w2.heap.size, exY1] := by
    rw [hs4, ← hw4]
    exact lit_row ent_six w3 61 [exY0 w2.heap.size, exY1]
  have hb24 : Below w2.heap.size w2 w4 := hb3.trans (hb4.mono hb3.size)
  have hb14 : Below w1.heap.size w1 w4 := hb2.trans (hb24.mono hb2.size)
  refine ⟨⟨(Row.below hr2 hb24).more hb24.size, fun y hy => ?_⟩, ⟨hr4, fun y hy => ?_⟩, hb1.trans (hb14.mono hb1.size)⟩
  · rcases List.mem_cons.1 hy with rfl | hy
    · exact Row.more (Row.below hr1 hb14) hb14.size
    · rw [List.mem_singleton.1 hy]
      exact fun h => absurd h (by decide)
  · rcases List.mem_cons.1 hy with rfl | hy
    · exact ⟨(Row.below hr3 hb4).more hb4.size, fun t ht => by rw [List.mem_singleton.1 ht]; exact fun h => absurd h (by decide)⟩
    · rw [List.mem_singleton.1 hy]
      exact Atts.nil_
/-- Two entries that are the example's. -/
theorem ex17_two {L : List DLay} (h : L.map DLay.ent = exR17) : ∃ y z : DLay, L = [y, z] ∧ z.off = 2 ∧ z.tag = 52 ∧ z.parent = 0 ∧ y.off = 0 := by
  have hl : L.length = 2 := by have := congrArg List.length h; rwa [List.length_map] at this
  obtain ⟨y, z, rfl⟩ : ∃ y z, L = [y, z] := by
    rcases L with _ | ⟨y, _ | ⟨z, _ | ⟨u, L⟩⟩⟩
    · exact absurd hl (by decide)
    · exact absurd hl (show ¬ (1 = 2) by decide)
    · exact ⟨y, z, rfl⟩
    · have : L.length + 3 = 2 := hl
      omega
  have h0 : y.ent = ⟨0, 1, 17, -1, 0, [⟨3, exV17⟩]⟩ := (List.cons.inj h).1
  have h1 : z.ent = ⟨2, 2, 52, 0, 1, []⟩ := (List.cons.inj (List.cons.inj h).2).1
  exact ⟨y, z, rfl, congrArg Ent.off h1, congrArg Ent.tag h1, congrArg Ent.parent h1, congrArg Ent.off h0⟩

set_option maxRecDepth 10000 in
set_option maxHeartbeats 3200000 in
theorem works17_any {w : World} (hF : Ft w) (hS : Sz w) : Calls Tryz.prog 16 #[] w fun r w' => r = .returned (.bool true) ∧ Below w.heap.size w w' := by
  have hF0 := Lib.hid (fun (W : World) (hb : Below w.heap.size w W) => And.intro (hF.up hb) (hS.below hb hS.pos))
  clear hF hS
  generalize hw1 : w.alloc (.cells #[.int .i64 3, .int .i64 11, .int .i64 0] 125) = w1
  generalize hw2 : w1.alloc (.cells #[.int .u64 1, .int .i64 17, .bool true, .slice (some ⟨w.heap.size, 0, none⟩) 1 1, .int .u64 2, .int .i64 52, .bool false, .slice none 0 0] 123) = w2
  generalize hw3 : w2.alloc (.cells #[.int .i64 3, .int .i64 11, .int .u64 7, .int .i64 0, .slice none 0 0, .string ⟨#[]⟩] 127) = w3
  generalize hw4 : w3.alloc (.cells #[.int .u64 0, .int .u64 1, .int .i64 17, .int .i64 0, .int .i64 0, .slice (some ⟨w2.heap.size, 0, none⟩) 1 1, .int .u64 0, .int .u64 2, .int .i64 52, .int .i64 0, .int .i64 1, .slice none 0 0] 61) = w4
  obtain ⟨hA, hE, hb4⟩ := ex17_mem hw1 hw2 hw3 hw4
  have HB4 := Lib.hid hb4
  have HAB := Lib.hid hA
  have P1 := Lib.hid (show Calls Tryz.prog 27 #[.slice (some ⟨w3.heap.size, 0, none⟩) 2 2, .slice (some ⟨w1.heap.size, 0, none⟩) 2 2, .bool false] w4 fun r w' => ∃ A c, r = .returned (.tuple #[.slice A 4 c, .int .i64 0]) ∧ 4 ≤ c ∧ Rd w' w'.heap.size A exB17 ∧ Own w' w4.heap.size (.slice A 4 c) exB17 ∧ Below w4.heap.size w4 w' from
    (dPut_any (hF0.out _ hb4).1 (hF0.out _ hb4).2 hE 2 (show 2 ≤ 100000 by decide) (ex17_in _) hA 2 (show 2 ≤ 100000 by decide) (ex17_few _ _ _ _) false).mono fun r w' ⟨u, e, ho, hb⟩ => by
      rw [show [exY0 w2.heap.size, exY1].map DLay.ent = exL17 from rfl, ex17_put] at e ho
      obtain ⟨A, c, rfl, h1, -, hrd⟩ := own_slice (show Own w' w4.heap.size u exB17 from ho)
      exact ⟨A, c, e, h1, hrd, ho, hb⟩)
  have T1 := Lib.hid (fun (W : World) (A : Option Addr) (c : Nat) (hW : Below w4.heap.size w4 W) (hr : Rd W W.heap.size A exB17) (hc : 4 ≤ c) => (show Calls Tryz.prog 17 #[.slice A 4 c, .agg #[.int .i64 1, .bool false, .int .u64 0, .int .u64 0, .int .u64 0, .int .u64 0, .int .u64 0, .int .u64 4], .slice (some ⟨w1.heap.size, 0, none⟩) 2 2] W fun r w' => ∃ g c2 M, r = .returned (.tuple #[.slice (some ⟨g, 0, none⟩) 2 c2, .int .i64 0]) ∧ w'.cell? ⟨g, 6, none⟩ = some (.int .u64 2) ∧ w'.cell? ⟨g, 8, none⟩ = some (.int .i64 52) ∧ w'.cell? ⟨g, 9, none⟩ = some (.int .i64 0) ∧ Ents w' w'.heap.size (some ⟨g, 0, none⟩) M ∧ M.length = 2 ∧ findG (M.map DLay.off) 2 = 1 ∧ Below W.heap.size W w' from
    (dtake_any (hF0.out _ (hb4.trans (hW.mono hb4.size))).1 (hF0.out _ (hb4.trans (hW.mono hb4.size))).2 hr c hc (by decide) (hA.up hW) 2 (show 2 ≤ 100000 by decide) (ex17_few _ _ _ _) ⟨1, false, 0, 0, 0, 0, 0, 4⟩ (by decide)).mono fun r w' ⟨u, M, e, ho, hm, _, hb⟩ => by
      obtain ⟨x1, x2⟩ := ex17_take (some ⟨w.heap.size, 0, none⟩) none 1 0
      rw [show dieE exB17 false (exT17 (some ⟨w.heap.size, 0, none⟩) none 1 0) 0 4 = 0 from x1] at e
      rw [show dieL exB17 false (exT17 (some ⟨w.heap.size, 0, none⟩) none 1 0) 0 4 = exR17 from x2] at hm
      obtain ⟨y, z, rfl, z1, z2, z3, z4⟩ := ex17_two hm
      obtain ⟨A', c', hu, -, -, hrow⟩ := ho.lies
      rcases ho.row.2 with ⟨_, h0⟩ | ⟨g, cap, cur, hv, -⟩
      · cases h0
      · subst hv
        injection hu with hu1 hu2 hu3
        subst hu1
        have hc := fun j hj => World.ownsRow.cellAt (g := g) (cap := cap) ho.row j hj
        refine ⟨g, cap, [y, z], e, ?_, ?_, ?_, hrow, rfl, ?_, hb⟩
        · exact (hc 6 (show 6 < 12 by decide)).trans (show some (Value.int .u64 (z.off : Int)) = _ by rw [z1]; rfl)
        · exact (hc 8 (show 8 < 12 by decide)).trans (show some (Value.int .i64 z.tag) = _ by rw [z2])
        · exact (hc 9 (show 9 < 12 by decide)).trans (show some (Value.int .i64 z.parent) = _ by rw [z3])
        · rw [show [y, z].map DLay.off = [y.off, z.off] from rfl, z1, z4]; decide))
  have F1 := Lib.hid (fun (W : World) (a : Option Addr) (c : Nat) (M : List DLay) (h : Ents W W.heap.size a M) (hl : M.length = 2) (hf : findG (M.map DLay.off) 2 = 1) => (show Calls Tryz.prog 21 #[.slice a 2 c, .int .u64 2] W fun r w' => r = .returned (.int .i64 1) ∧ Below W.heap.size W w' from (by
    have := dfindE_any h c (by omega) 2
    rw [hl, hf] at this
    exact this)))
  obtain ⟨s1, hs1⟩ : ∃ s : ByteArray, s = ⟨exB17.toArray⟩ := ⟨_, rfl⟩
  have E1 := Lib.hid hs1
  have q1 : (s1.toList == [1, 7, 2, 0]) = true := by rw [hs1, Lib.toList_data]; rfl
  clear hs1 hA hE hb4 HAB hF0
  go_enter Tryz.func16, Tryz.ntmps16
  go_upto_region 2 with fail
  try rw [hw1]
  try rw [hw2]
  clear hw1 hw2
  go_upto_region 3 with fail
  try rw [hw3]
  try rw [hw4]
  clear hw3 hw4
  go_upto_region 4 with (go_at_call 27; refine P1.out.mono ?_; rintro r w5 ⟨A, c, rfl, hc, hr, ho, hb⟩; have HC5 := Lib.hid hc; have HR5 := Lib.hid hr; have HO5 := Lib.hid ho; have HB45 := Lib.hid hb; clear hc hr ho hb)
  go_upto_region 5 with (go_at_call 17; refine (T1.out _ _ _ HB45.out HR5.out HC5.out).mono ?_; rintro r w6 ⟨g, c2, M, rfl, k6, k8, k9, hE, hl, hf, hb⟩; have HE6 := Lib.hid hE; have HL6 := Lib.hid hl; have HF6 := Lib.hid hf; have HB6 := Lib.hid (HB4.out.trans ((HB45.out.trans (hb.mono HB45.out.size)).mono HB4.out.size)); have HO6 := Lib.hid (own_below HO5.out hb); clear hE hl hf hb)
  have cv : (convert 26 9 (.slice A 4 c)).run Tryz.prog w6 = .ok (.string s1) w6 := by rw [E1.out]; exact conv_own HO6.out
  go_wp2_with (go_at_call 21; refine (F1.out _ _ _ _ HE6.out HL6.out HF6.out).mono ?_; rintro r w7 ⟨rfl, hb⟩; have HB7 := Lib.hid (HB6.out.trans (hb.mono HB6.out.size)); clear hb)
  go_ret
  exact ⟨rfl, HB7.out⟩

end Go.Proofs.YtejicboemkpeoaaGreatDoor

namespace Go.Proofs.YtejicboemkpeoaaGreatDoor
open Go Go.RowKit

theorem map_off (L : List DLay) : (L.map DLay.ent).map Ent.off = L.map DLay.off := by rw [List.map_map]; rfl
theorem hasG_map {X Y : List AtL} (h : X.map AtL.att = Y.map AtL.att) (at_ : Int) : hasG X at_ = hasG Y at_ := by
  have e : X.map AtL.at_ = Y.map AtL.at_ := by
    have := congrArg (List.map Att.at_) h
    rw [List.map_map, List.map_map] at this
    exact this
  unfold hasG
  rw [e]

set_option maxRecDepth 10000 in
set_option maxHeartbeats 3200000 in
theorem dtakes17_walk (a0 : Option Addr) (len0 cap0 : Nat) (z0 : List Int) (y : UHd) (a1 : Option Addr) (c1 : Nat) (T : List ALay) (off at_ : Int) (w : World) (hF : Ft w) (hS : Sz w) (w0 : IsRow .u8 w a0 len0 cap0 z0) (hy : y.first < two64) (h1 : Abbs w w.heap.size a1 T) (w3 : (Lit.int .u64 off).wf = true) :
    Calls Tryz.prog 5 #[.slice a0 len0 cap0, .agg #[.int .i64 y.kind, .bool y.wide, .int .u64 (y.ab : Int), .int .u64 (y.sig : Int), .int .u64 (y.ty : Int), .int .u64 (y.off : Int), .int .u64 (y.first : Int), .int .u64 (y.stop : Int)], .slice a1 T.length c1, .int .u64 off, .int .i64 at_] w fun e w' => e = .returned (.bool true) ∧ Below w.heap.size w w' := by
  obtain ⟨l, hlen, hrd, hlc, hcm⟩ := row_bytes w0
  obtain ⟨of, rfl, -⟩ := nat_of_u64 w3
  clear w0 w3
  subst hlen
  obtain ⟨i0, hi, hz0, hz1, hz2⟩ := info_parts u8_info
  have HF := Lib.hid (fun (W : World) (hb : Below w.heap.size w W) => And.intro (hF.up hb) (hS.below hb hS.pos))
  have HWK := Lib.hid (fun (W : World) (hb : Below w.heap.size w W) => works17_any (HF.out W hb).1 (HF.out W hb).2)
  have HT := Lib.hid (fun (W : World) (hb : Below w.heap.size w W) => h1.up hb)
  have HBA := Lib.hid (fun (W : World) (hb : Below w.heap.size w W) => bulkA_any (h1.up hb) c1)
  have HRD := Lib.hid (fun (W : World) (hb : Below w.heap.size w W) => (hrd.below hb).more hb.size)
  obtain ⟨tn, hTn⟩ : ∃ n, T.length = n := ⟨_, rfl⟩
  have HTN := Lib.hid hTn
  have HYF := Lib.hid hy
  have HLC := Lib.hid hlc
  have HCM := Lib.hid hcm
  rw [hTn] at HBA ⊢
  have hb1 : Below w.heap.size w (w.alloc (.cells #[.int .i64 y.kind, .bool y.wide, .int .u64 (y.ab : Int), .int .u64 (y.sig : Int), .int .u64 (y.ty : Int), .int .u64 (y.off : Int), .int .u64 (y.first : Int), .int .u64 (y.stop : Int)] 45)) := (Below.refl _ _).alloc (Nat.le_refl _) _
  have HX := Lib.hid (Box.new w 45 #[.int .i64 y.kind, .bool y.wide, .int .u64 (y.ab : Int), .int .u64 (y.sig : Int), .int .u64 (y.ty : Int), .int .u64 (y.off : Int), .int .u64 (y.first : Int), .int .u64 (y.stop : Int)])
  clear hF hS h1 hTn hy hrd hlc hcm
  go_enter Tryz.func5, Tryz.ntmps5
  go_upto_region 1 with fail
  generalize hwb : w.alloc (.cells #[.int .i64 y.kind, .bool y.wide, .int .u64 (y.ab : Int), .int .u64 (y.sig : Int), .int .u64 (y.ty : Int), .int .u64 (y.off : Int), .int .u64 (y.first : Int), .int .u64 (y.stop : Int)] 45) = wb at *
  clear hwb
  have HB1 := Lib.hid hb1
  clear hb1
  by_cases hbig : 4000 < l.length
  · have d : decide ((4000 : Int) < (l.length : Int)) = true := decide_eq_true (by omega)
    clear hbig
    generalize l.length = N at *
    go_wp2_with (go_at_call 16; refine (HWK.out _ HB1.out).mono ?_; rintro r w3 ⟨rfl, hb3⟩; have HB3 := Lib.hid (HB1.out.trans (hb3.mono HB1.out.size)); clear hb3)
    go_ret
    exact ⟨rfl, HB3.out⟩
  have d : decide ((4000 : Int) < (l.length : Int)) = false := decide_eq_false (by omega)
  have HLN := Lib.hid (show l.length ≤ 4000 by omega)
  clear hbig
  obtain ⟨N, hN⟩ : ∃ N, l.length = N := ⟨_, rfl⟩
  have HN := Lib.hid hN
  rw [hN] at d ⊢
  clear hN
  go_wp2_with fail
  refine (HBA.out _ HB1.out).mono ?_
  rintro r w2 ⟨⟨m, rfl, hm⟩, rfl⟩
  have HMB := Lib.hid hm
  clear hm HBA
  by_cases hm3 : 1500 < m
  · have d4 : decide ((1500 : Int) < m) = true := decide_eq_true hm3
    clear hm3
    go_wp2_with (go_at_call 16; refine (HWK.out _ HB1.out).mono ?_; rintro r w3 ⟨rfl, hb3⟩; have HB3 := Lib.hid (HB1.out.trans (hb3.mono HB1.out.size)); clear hb3)
    go_ret
    exact ⟨rfl, HB3.out⟩
  have d4 : decide ((1500 : Int) < m) = false := decide_eq_false hm3
  obtain ⟨ht3, hu3⟩ := HMB.out (by omega)
  have HT3 := Lib.hid ht3
  have HTF := Lib.hid (show ∀ y ∈ T, y.x.l.length ≤ 1500 from hu3)
  have HTI := Lib.hid (show ∀ y ∈ T, y.x.l.length ≤ 100000 from fun y hy => by have := hu3 y hy; omega)
  clear ht3 hu3 hm3 HMB
  -- what is told
  obtain ⟨E, hE⟩ : ∃ E, dieE l y.wide T y.first y.stop = E := ⟨_, rfl⟩
  obtain ⟨R, hR⟩ : ∃ R, dieL l y.wide T y.first y.stop = R := ⟨_, rfl⟩
  obtain ⟨nr, hnr⟩ : ∃ n, R.length = n := ⟨_, rfl⟩
  have HNR := Lib.hid hnr
  have HFW := Lib.hid (show ∀ e ∈ R, e.l.length ≤ 1500 from hR ▸ dieL_few HTF.out y.first y.stop)
  have HT1 := Lib.hid (fun (W : World) (hb : Below w.heap.size w W) (A : Option Addr) (c : Nat) (hr : Rd W W.heap.size A l) (hc : l.length ≤ c) => (show Calls Tryz.prog 17 #[.slice A N c, .agg #[.int .i64 y.kind, .bool y.wide, .int .u64 (y.ab : Int), .int .u64 (y.sig : Int), .int .u64 (y.ty : Int), .int .u64 (y.off : Int), .int .u64 (y.first : Int), .int .u64 (y.stop : Int)], .slice a1 tn c1] W fun r w' => ∃ A2 c2 L, r = .returned (.tuple #[.slice A2 nr c2, .int .i64 E]) ∧ nr ≤ 1000 ∧ Ents w' w'.heap.size A2 L ∧ L.map DLay.ent = R ∧ Below W.heap.size W w' from (by
    have := dtake_any (HF.out W hb).1 (HF.out W hb).2 hr c hc (by have := HLN.out; omega) (HT.out W hb) c1 (by rw [HTN.out]; have := HT3.out; omega) HTI.out y HYF.out
    rw [HTN.out, HN.out, hE, hR] at this
    exact this.mono fun r w' ⟨u, L, e, ho, hm, h10, hb⟩ => by
      obtain ⟨A', c', hu, -, -, hrow⟩ := ho.lies
      have hll : L.length = nr := by rw [← hnr, ← hm, List.length_map]
      rw [hll] at hu h10
      subst hu
      exact ⟨A', c', L, e, h10, hrow, hm, hb⟩)))
  have HT2 := Lib.hid (fun (W : World) (hb : Below w.heap.size w W) => (show Calls Tryz.prog 18 #[.slice a0 N cap0, .agg #[.int .i64 y.kind, .bool y.wide, .int .u64 (y.ab : Int), .int .u64 (y.sig : Int), .int .u64 (y.ty : Int), .int .u64 (y.off : Int), .int .u64 (y.first : Int), .int .u64 (y.stop : Int)], .slice a1 tn c1] W fun r w' => ∃ A2 c2 L, r = .returned (.tuple #[.slice A2 nr c2, .int .i64 E]) ∧ Ents w' w'.heap.size A2 L ∧ L.map DLay.ent = R ∧ Below W.heap.size W w' from (by
    have := rdtake_any (HRD.out W hb) cap0 HLC.out HCM.out (by have := HLN.out; omega) (HT.out W hb) c1 (by rw [HTN.out]; have := HT3.out; omega) HTI.out y
    rw [HTN.out, HN.out, hE, hR] at this
    exact this.mono fun r w' ⟨u, L, e, ho, hm, h10, hb⟩ => by
      obtain ⟨A', c', hu, -, -, hrow⟩ := ho.lies
      have hll : L.length = nr := by rw [← hnr, ← hm, List.length_map]
      rw [hll] at hu
      subst hu
      exact ⟨A', c', L, e, hrow, hm, hb⟩)))
  clear hE hR hnr HF HT HTI HTF HT3
  have hb0 := (HB1.out).alloc HB1.out.size (.cells #[] 5)
  have HXA := Lib.hid (HX.out.below ((Below.refl wb.heap.size wb).alloc (Nat.le_refl _) (.cells #[] 5)) HX.out.lt)
  have hsum : ([] : List UInt8).length + l.length ≤ 140737488355328 := by have := HLN.out; simp only [List.length_nil]; omega
  go_upto_region 4 with (at_builtin; go_loud (refine wpList_append_bytes (by rfl) (.tmp 31) (.tmp 32) _ (by rfl) wb.heap.size i0 Tryz.underlying26 hi hz0 hz1 hz2 (.slice (some ⟨wb.heap.size, 0, none⟩) 0 0) [] (by rfl) (by exact own_new wb) _ a0 N cap0 l HN.out (by rfl) (HRD.out _ hb0) hsum (by simp) ?_; intro v1 w1 hown1 hg1 hat1; have HB2 := Lib.hid (hb0.grown hg1 hb0.size (by intro k hk; have h := HB1.out.size; simp [Value.ownBlock] at hk; omega)); have HX2 := Lib.hid (HXA.out.grown hg1 (by intro e; have h := HX.out.lt; simp [Value.ownBlock] at e; omega)); rw [List.nil_append] at hown1; have HO1 := Lib.hid hown1; (obtain ⟨A1, c2, rfl, hlc1, _, hrd1⟩ := own_slice hown1); have HR1 := Lib.hid hrd1; have HL1 := Lib.hid hlc1; clear hg1 hat1 hown1 hrd1 hlc1 hsum hb0))
  rw [HN.out]
  clear hi hz0 hz1 hz2
  obtain ⟨k0, k1, k2, k3, k4, k5, k6, k7⟩ := eight_cells HX2.out
  go_upto_region 5 with (go_at_call 17; refine (HT1.out _ HB2.out _ _ HR1.out HL1.out).mono ?_; rintro r w2 ⟨A2, c3, L, rfl, h10, hE, hm, hb⟩; have HN10 := Lib.hid h10; have HE2 := Lib.hid hE; have HM2 := Lib.hid hm; have HB3 := Lib.hid (HB2.out.trans (hb.mono HB2.out.size)); have HX3 := Lib.hid (HX2.out.below hb HX2.out.lt); have HO2 := Lib.hid (own_below HO1.out hb); clear h10 hE hm hb)
  clear k0 k1 k2 k3 k4 k5 k6 k7
  obtain ⟨k0, k1, k2, k3, k4, k5, k6, k7⟩ := eight_cells HX3.out
  go_upto_region 6 with (go_at_call 18; refine (HT2.out _ HB3.out).mono ?_; rintro r w3 ⟨A3, c4, M, rfl, hE, hm, hb⟩; have HE3 := Lib.hid hE; have HM3 := Lib.hid hm; have HB4 := Lib.hid (HB3.out.trans (hb.mono HB3.out.size)); have HO3 := Lib.hid (own_below HO2.out hb); have HE23 := Lib.hid (HE2.out.up hb); clear hE hm hb)
  clear k0 k1 k2 k3 k4 k5 k6 k7
  have hLn : L.length = nr := by rw [← HNR.out, ← HM2.out, List.length_map]
  have hMn : M.length = nr := by rw [← HNR.out, ← HM3.out, List.length_map]
  have hlf : ∀ y ∈ L, y.L.length ≤ 100000 := fun y hy => by have := map_few HM2.out HFW.out y hy; omega
  have hmf : ∀ y ∈ M, y.L.length ≤ 100000 := fun y hy => by have := map_few HM3.out HFW.out y hy; omega
  have HLF := Lib.hid hlf
  have HMF := Lib.hid hmf
  have HLNR := Lib.hid hLn
  have HMNR := Lib.hid hMn
  clear HT1 HT2 HFW HE2 HO1 HO2 HX HXA HX2 HX3 HR1 HL1
  obtain ⟨fi, hfi⟩ : ∃ f, findG (R.map Ent.off) of = f := ⟨_, rfl⟩
  have TO := Lib.hid (by
    have := told17_any HE23.out c3 (by have := HN10.out; omega) hlf
    rw [hLn] at this
    exact this : Calls Tryz.prog 20 #[.slice A2 nr c3] w3 fun r w' => ∃ A5 c5 M5, r = .returned (.slice A5 nr c5) ∧ Ents w' w'.heap.size A5 M5 ∧ M5.map DLay.ent = L.map DLay.ent ∧ Below w3.heap.size w3 w')
  have SM := Lib.hid (fun (W : World) (A5 : Option Addr) (c5 : Nat) (M5 : List DLay) (h : Ents W W.heap.size A5 M5) (h2 : Ents W W.heap.size A3 M) (he : M5.map DLay.ent = L.map DLay.ent) => (by
    have he2 : M.map DLay.ent = M5.map DLay.ent := by rw [he, HM2.out, HM3.out]
    have h5 : M5.length = nr := by rw [← hLn]; simpa using congrArg List.length he
    have := rsameE_any h h2 he2.symm c5 c4 (by have := HN10.out; omega) (fun y hy => by
      have e1 : y.ent ∈ M.map DLay.ent := by rw [he2]; exact List.mem_map.2 ⟨y, hy, rfl⟩
      obtain ⟨x, hx, hxe⟩ := List.mem_map.1 e1
      have e2 := congrArg (fun e : Ent => e.l.length) hxe
      simp only [DLay.ent, List.length_map] at e2
      have := hmf x hx
      omega)
    rw [h5, hMn] at this
    exact this : Calls Tryz.prog 19 #[.slice A5 nr c5, .slice A3 nr c4, .bool true] W fun r w' => r = .returned (.bool true) ∧ Below W.heap.size W w'))
  have FD := Lib.hid (fun (W : World) (h : Ents W W.heap.size A2 L) => (by
    have := dfindE_any h c3 (by have := HN10.out; omega) of
    rw [hLn, ← map_off, HM2.out, hfi] at this
    exact this : Calls Tryz.prog 21 #[.slice A2 nr c3, .int .u64 (of : Int)] W fun r w' => r = .returned (.int .i64 fi) ∧ Below W.heap.size W w'))
  have RFD := Lib.hid (fun (W : World) (h : Ents W W.heap.size A3 M) => (by
    have := rfindE_any h c4 (by have := HN10.out; omega) of
    rw [hMn, ← map_off, HM3.out, hfi] at this
    exact this : Calls Tryz.prog 22 #[.slice A3 nr c4, .int .u64 (of : Int)] W fun r w' => r = .returned (.int .i64 fi) ∧ w' = W))
  obtain ⟨s, hs⟩ : ∃ s : ByteArray, s = ⟨l.toArray⟩ := ⟨_, rfl⟩
  have KS := Lib.hid (fun (W : World) (hb : Below w3.heap.size w3 W) => (by
    have h1 := conv_own (own_below HO3.out hb)
    have h2 := conv_rd (HRD.out W (HB4.out.trans (hb.mono HB4.out.size))) cap0
    rw [HN.out, ← hs] at h1 h2
    exact ⟨h1, h2⟩ : (convert 26 9 (.slice A1 N c2)).run Tryz.prog W = .ok (.string s) W ∧ (convert 26 9 (.slice a0 N cap0)).run Tryz.prog W = .ok (.string s) W))
  have q1 : (E != E) = false := by simp
  have q2 : (fi != fi) = false := by simp
  have q3 : (s.toList == s.toList) = true := by simp
  clear hfi hs hLn hMn hlf hmf
  go_upto_region 8 with (first
    | (go_at_call 20; refine TO.out.mono ?_; rintro r w4 ⟨A5, c5, M5, rfl, hE, hm, hb⟩; have HE5 := Lib.hid hE; have HM5 := Lib.hid hm; have HB5 := Lib.hid (HB4.out.trans (hb.mono HB4.out.size)); have HE25 := Lib.hid (HE23.out.up hb); have HE35 := Lib.hid (HE3.out.up hb); have HB35 := Lib.hid hb; clear hE hm hb)
    | (go_at_call 19; refine (SM.out _ _ _ _ HE5.out HE35.out HM5.out).mono ?_; rintro r w5 ⟨rfl, hb⟩; have HB6 := Lib.hid (HB5.out.trans (hb.mono HB5.out.size)); have HE26 := Lib.hid (HE25.out.up hb); have HE36 := Lib.hid (HE35.out.up hb); have HB36 := Lib.hid (HB35.out.trans (hb.mono HB35.out.size)); clear hb)
    | (go_at_call 21; refine (FD.out _ HE26.out).mono ?_; rintro r w6 ⟨rfl, hb⟩; have HB7 := Lib.hid (HB6.out.trans (hb.mono HB6.out.size)); have HE27 := Lib.hid (HE26.out.up hb); have HE37 := Lib.hid (HE36.out.up hb); (obtain ⟨cv1, cv2⟩ := KS.out _ (HB36.out.trans (hb.mono HB36.out.size))); clear hb)
    | (go_at_call 22; refine (RFD.out _ HE37.out).mono ?_; rintro r w7 ⟨rfl, rfl⟩))
  clear TO SM FD RFD KS q1 q2 q3 cv1 cv2 HE5 HM5 HE25 HE35 HE26 HE36 HB35 HB36 HE23 HE3 HO3
  go_upto_region 9 with fail
  generalize w7 = wd at *
  go_loopg [76] nr (fun gk i wx => ∃ k : Nat, k ≤ nr ∧ gk = nr - k ∧ i = .int .i64 k ∧ Hid (Below wd.heap.size wd wx))
  case atStart => exact ⟨0, Nat.zero_le _, rfl, rfl, Lib.hid (Below.refl _ _)⟩
  case round =>
    obtain ⟨k, hk, rfl, rfl, HB⟩ := hrel
    by_cases hkn : k < nr
    rotate_left
    · have hke : k = nr := by omega
      have HBW := Lib.hid (HB7.out.trans (HB.out.mono HB7.out.size))
      go_wp2_with (go_at_call 16; refine (HWK.out _ HBW.out).mono ?_; rintro r w8 ⟨rfl, hb8⟩; have HB8 := Lib.hid (HBW.out.trans (hb8.mono HBW.out.size)); clear hb8)
      go_ret
      exact ⟨rfl, HB8.out⟩
    have HKN := Lib.hid hkn
    obtain ⟨x, hx⟩ : ∃ x, L[k]? = some x := ⟨L[k]'(by rw [HLNR.out]; exact hkn), List.getElem?_eq_getElem _⟩
    obtain ⟨z, hz⟩ : ∃ z, M[k]? = some z := ⟨M[k]'(by rw [HMNR.out]; exact hkn), List.getElem?_eq_getElem _⟩
    have hxz : x.L.map AtL.att = z.L.map AtL.att := by
      have h1 : (L.map DLay.ent)[k]? = some x.ent := by rw [List.getElem?_map, hx]; rfl
      have h2 : (M.map DLay.ent)[k]? = some z.ent := by rw [List.getElem?_map, hz]; rfl
      rw [HM2.out] at h1
      rw [HM3.out, h1] at h2
      exact congrArg Ent.l (Option.some.inj h2)
    obtain ⟨b, o, hA2, hlt, c0, c1', c2', c3', c4', c5'⟩ := ent_at (HE27.out.below HB.out) hx
    have CZ := Lib.hid (fun (W : World) (hW : Below wd.heap.size wd W) => ent_at (HE37.out.below hW) hz)
    obtain ⟨bz, oz, hA3, -, -⟩ := CZ.out _ HB.out
    have CZ2 := Lib.hid (fun (W : World) (hW : Below wd.heap.size wd W) => (by
      obtain ⟨b1, o1, e1, -, h1⟩ := CZ.out W hW
      rw [hA3] at e1
      injection e1 with e1
      injection e1 with e1 e2 _
      rw [← e1, ← e2] at h1
      exact h1 : W.cell? ⟨bz, oz + k * 6, none⟩ = some (.int .u64 (z.off : Int)) ∧ W.cell? ⟨bz, oz + k * 6 + 1, none⟩ = some (.int .u64 (z.code : Int)) ∧ W.cell? ⟨bz, oz + k * 6 + 2, none⟩ = some (.int .i64 z.tag) ∧
    W.cell? ⟨bz, oz + k * 6 + 3, none⟩ = some (.int .i64 z.parent) ∧ W.cell? ⟨bz, oz + k * 6 + 4, none⟩ = some (.int .i64 z.depth) ∧ W.cell? ⟨bz, oz + k * 6 + 5, none⟩ = some (.slice z.a z.L.length z.c)))
    have HAX := Lib.hid (fun (W : World) (hW : Below wd.heap.size wd W) => ((HE27.out.ats x (List.mem_of_getElem? hx)).below hW).more hW.size)
    have HAZ := Lib.hid (fun (W : World) (hW : Below wd.heap.size wd W) => ((HE37.out.ats z (List.mem_of_getElem? hz)).below hW).more hW.size)
    have hxl := HLF.out x (List.mem_of_getElem? hx)
    have hzl := HMF.out z (List.mem_of_getElem? hz)
    obtain ⟨v, hv⟩ : ∃ v, getV (x.L.map AtL.att) at_ = v := ⟨_, rfl⟩
    obtain ⟨hg, hhg⟩ : ∃ g, hasG x.L at_ = g := ⟨_, rfl⟩
    obtain ⟨vf, vu, vs, vb, vt⟩ := v
    obtain ⟨vn, hvn⟩ : ∃ n, vb.length = n := ⟨_, rfl⟩
    have GD := Lib.hid (fun (W : World) (hW : Below wd.heap.size wd W) => (show Calls Tryz.prog 23 #[.agg #[.int .u64 (x.off : Int), .int .u64 (x.code : Int), .int .i64 x.tag, .int .i64 x.parent, .int .i64 x.depth, .slice x.a x.L.length x.c], .int .i64 at_] W fun r w' => ∃ pa pc, r = .returned (.tuple #[.agg #[.int .i64 vf, .int .u64 (vu : Int), .int .i64 vs, .slice pa vn pc, .string ⟨vt.toArray⟩], .bool hg]) ∧ Rd w' w'.heap.size pa vb ∧ Below W.heap.size W w' from (by
      have := dget_any x (HAX.out W hW) hxl at_
      rw [hv, hhg] at this
      exact this.mono fun r w' ⟨⟨p, e, hr, hp⟩, hb⟩ => by
        obtain ⟨px, pa, pc⟩ := p
        simp only at hp
        subst hp
        exact ⟨pa, pc, by rw [e, ← hvn], hr, hb⟩)))
    have RG := Lib.hid (fun (W : World) (hW : Below wd.heap.size wd W) => (show Calls Tryz.prog 24 #[.agg #[.int .u64 (z.off : Int), .int .u64 (z.code : Int), .int .i64 z.tag, .int .i64 z.parent, .int .i64 z.depth, .slice z.a z.L.length z.c], .int .i64 at_] W fun r w' => ∃ pa pc, r = .returned (.tuple #[.agg #[.int .i64 vf, .int .u64 (vu : Int), .int .i64 vs, .slice pa vn pc, .string ⟨vt.toArray⟩], .bool hg]) ∧ Rd w' w'.heap.size pa vb ∧ Below W.heap.size W w' from (by
      have := rdget_any z (HAZ.out W hW) hzl at_
      rw [← hxz, ← hasG_map hxz, hv, hhg] at this
      exact this.mono fun r w' ⟨⟨p, e, hr, hp⟩, hb⟩ => by
        obtain ⟨px, pa, pc⟩ := p
        simp only at hp
        subst hp
        exact ⟨pa, pc, by rw [e, ← hvn], hr, hb⟩)))
    have SV := Lib.hid (fun (W : World) (pa qa : Option Addr) (pc qc : Nat) (h1 : Rd W W.heap.size pa vb) (h2 : Rd W W.heap.size qa vb) => (show Calls Tryz.prog 25 #[.agg #[.int .i64 vf, .int .u64 (vu : Int), .int .i64 vs, .slice pa vn pc, .string ⟨vt.toArray⟩], .agg #[.int .i64 vf, .int .u64 (vu : Int), .int .i64 vs, .slice qa vn qc, .string ⟨vt.toArray⟩]] W fun r w' => r = .returned (.bool true) ∧ Below W.heap.size W w' from (by
      have := rsameV_any (w := W) ⟨⟨vf, vu, vs, vb, vt⟩, pa, pc⟩ ⟨⟨vf, vu, vs, vb, vt⟩, qa, qc⟩ h1 h2
      rw [show sameV (WLay.x ⟨⟨vf, vu, vs, vb, vt⟩, pa, pc⟩) (WLay.x ⟨⟨vf, vu, vs, vb, vt⟩, qa, qc⟩) = true from sameV_self _] at this
      rw [← hvn]
      exact this)))
    clear hx hz hxz hxl hzl hv hhg hvn hlt HAX HAZ CZ
    generalize x.off = x0 at *
    generalize x.code = x1 at *
    generalize x.tag = x2 at *
    generalize x.parent = x3 at *
    generalize x.depth = x4 at *
    generalize x.a = xa at *
    generalize x.L.length = xn at *
    generalize x.c = xc at *
    generalize z.off = y0 at *
    generalize z.code = y1 at *
    generalize z.tag = y2 at *
    generalize z.parent = y3 at *
    generalize z.depth = y4 at *
    generalize z.a = ya at *
    generalize z.L.length = yn at *
    generalize z.c = yc at *
    rw [hA2, hA3]
    go_upto_region 11 with fail
    have hb8 : Below wr.heap.size wr (wr.alloc (.cells #[.int .u64 (x0 : Int), .int .u64 (x1 : Int), .int .i64 x2, .int .i64 x3, .int .i64 x4, .slice xa xn xc] 61)) := (Below.refl _ _).alloc (Nat.le_refl _) _
    have hX8 := Box.new wr 61 #[.int .u64 (x0 : Int), .int .u64 (x1 : Int), .int .i64 x2, .int .i64 x3, .int .i64 x4, .slice xa xn xc]
    generalize wr.alloc (.cells #[.int .u64 (x0 : Int), .int .u64 (x1 : Int), .int .i64 x2, .int .i64 x3, .int .i64 x4, .slice xa xn xc] 61) = w8 at *
    have HB8 := Lib.hid (HB.out.trans (hb8.mono HB.out.size))
    clear hb8 c0 c1' c2' c3' c4' c5'
    generalize wr.heap.size = H1 at *
    obtain ⟨c0, c1', c2', c3', c4', c5'⟩ := six_cells hX8
    go_upto_region 12 with (go_at_call 23; refine (GD.out _ HB8.out).mono ?_; rintro r w9 ⟨pa, pc, rfl, hr, hb⟩; have HR9 := Lib.hid hr; have HB9 := Lib.hid (HB8.out.trans (hb.mono HB8.out.size)); clear hr hb)
    clear c0 c1' c2' c3' c4' c5' hX8
    have hb10 : Below w9.heap.size w9 (w9.alloc (.cells #[.int .i64 vf, .int .u64 (vu : Int), .int .i64 vs, .slice pa vn pc, .string ⟨vt.toArray⟩] 63)) := (Below.refl _ _).alloc (Nat.le_refl _) _
    have hX10 := Box.new w9 63 #[.int .i64 vf, .int .u64 (vu : Int), .int .i64 vs, .slice pa vn pc, .string ⟨vt.toArray⟩]
    generalize w9.alloc (.cells #[.int .i64 vf, .int .u64 (vu : Int), .int .i64 vs, .slice pa vn pc, .string ⟨vt.toArray⟩] 63) = w10 at *
    have HB10 := Lib.hid (HB9.out.trans (hb10.mono HB9.out.size))
    have HR10 := Lib.hid ((HR9.out.below hb10).more hb10.size)
    have HX10 := Lib.hid hX10
    clear hb10 hX10
    generalize w9.heap.size = H2 at *
    obtain ⟨c0, c1', c2', c3', c4', c5'⟩ := CZ2.out _ HB10.out
    go_upto_region 13 with (go_at_call 24; refine (RG.out _ HB10.out).mono ?_; rintro r w11 ⟨qa, qc, rfl, hr, hb⟩; have HR11 := Lib.hid hr; have HR12 := Lib.hid ((HR10.out.below hb).more hb.size); have HX11 := Lib.hid (HX10.out.below hb HX10.out.lt); have HB11 := Lib.hid (HB10.out.trans (hb.mono HB10.out.size)); clear hr hb)
    clear c0 c1' c2' c3' c4' c5'
    have hb12 : Below w11.heap.size w11 (w11.alloc (.cells #[.int .i64 vf, .int .u64 (vu : Int), .int .i64 vs, .slice qa vn qc, .string ⟨vt.toArray⟩] 63)) := (Below.refl _ _).alloc (Nat.le_refl _) _
    have hX12 := Box.new w11 63 #[.int .i64 vf, .int .u64 (vu : Int), .int .i64 vs, .slice qa vn qc, .string ⟨vt.toArray⟩]
    generalize w11.alloc (.cells #[.int .i64 vf, .int .u64 (vu : Int), .int .i64 vs, .slice qa vn qc, .string ⟨vt.toArray⟩] 63) = w12 at *
    have HB12 := Lib.hid (HB11.out.trans (hb12.mono HB11.out.size))
    have HRP := Lib.hid ((HR12.out.below hb12).more hb12.size)
    have HRQ := Lib.hid ((HR11.out.below hb12).more hb12.size)
    have hX13 := HX11.out.below hb12 HX11.out.lt
    clear hb12
    generalize w11.heap.size = H3 at *
    obtain ⟨c0, c1', c2', c3', c4'⟩ := five_cells hX12
    obtain ⟨d0, d1, d2, d3, d4⟩ := five_cells hX13
    have p1 : (hg != hg) = false := by cases hg <;> rfl
    go_wp2_with (go_at_call 25; refine (SV.out _ _ _ _ _ HRP.out HRQ.out).mono ?_; rintro r w13 ⟨rfl, hb⟩; have HB13 := Lib.hid (HB12.out.trans (hb.mono HB12.out.size)); clear hb)
    rw [← hA2, ← hA3]
    go_roundg (nr - (k + 1))
    case measure => exact Nat.sub_lt_sub_left HKN.out (Nat.lt_succ_self k)
    case rel => exact ⟨k + 1, HKN.out, rfl, congrArg (Value.int .i64) ((IntWalk.wrap64_in _ (by have h1 := HN10.out; have h2 := HKN.out; omega)).trans (Int.natCast_succ k).symm), HB13⟩

end Go.Proofs.YtejicboemkpeoaaGreatDoor

namespace Go.Proofs.YtejicboemkpeoaaGreatDoor
open Go Go.RowKit

/-- What came in as a value: its bytes lie, its numbers are numbers. -/
structure WLay.In (w : World) (y : WLay) : Prop where
  rd : Rd w w.heap.size y.a y.x.b
  u : y.x.u < two64
  s : InI y.x.s
  b : y.x.b.length ≤ 9223372036854775807
theorem WLay.In.up {w w' : World} {y : WLay} (h : y.In w) (hb : Below w.heap.size w w') : y.In w' := ⟨(h.rd.below hb).more hb.size, h.u, h.s, h.b⟩

end Go.Proofs.YtejicboemkpeoaaGreatDoor
