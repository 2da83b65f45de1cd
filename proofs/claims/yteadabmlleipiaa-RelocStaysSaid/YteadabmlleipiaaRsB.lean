/-
  Bytes that no relocation covers stay; relocations that lie apart may be applied in the other order: plain facts.
-/
import Derived.Test.YteadabmlleipiaaLpA
import Derived.Test.YteadabmlleipiaaGpI
namespace Go.Proofs.Yteadabmlleipiaa
open Go Go.RowKit

def sub64 (a b : Nat) : Nat := (a + 18446744073709551616 - b) % 18446744073709551616
theorem sub64_eq {a b : Nat} (hb : b < two64) : IntKind.u64.wrap ((a : Int) - (b : Int)) = (sub64 a b : Int) := by
  unfold two64 at hb
  rw [IntKind.wrap_u64]
  unfold sub64
  omega
def nearB (a b : Nat) : Bool := decide (sub64 a b < 8) || decide (sub64 b a < 8)
theorem near_far {a b : Nat} (h : nearB a b = false) : a + 8 ≤ b ∨ b + 8 ≤ a := by
  unfold nearB at h
  rw [Bool.or_eq_false_iff] at h
  have h1 := of_decide_eq_false h.1
  have h2 := of_decide_eq_false h.2
  unfold sub64 at h1 h2
  omega
set_option maxRecDepth 10000 in
set_option maxHeartbeats 800000 in
theorem near_any {w : World} (a b : Nat) (ha : a < two64) (hb : b < two64) : Calls Try.prog 14 #[.int .u64 (a : Int), .int .u64 (b : Int)] w fun r w' => r = .returned (.bool (nearB a b)) ∧ w' = w := by
  have e1 := sub64_eq (a := a) hb
  have e2 := sub64_eq (a := b) ha
  have e3 : decide ((sub64 a b : Int) < 8) = decide (sub64 a b < 8) := by rw [Bool.eq_iff_iff]; simp; omega
  have e4 : decide ((sub64 b a : Int) < 8) = decide (sub64 b a < 8) := by rw [Bool.eq_iff_iff]; simp; omega
  have HN := Lib.hid (show nearB a b = (decide (sub64 a b < 8) || decide (sub64 b a < 8)) from rfl)
  generalize nearB a b = nb at *
  generalize sub64 a b = s1 at *
  generalize sub64 b a = s2 at *
  clear ha hb
  go_enter Try.func14, Try.ntmps14
  cases h1 : decide (s1 < 8) with
  | true =>
    rw [h1] at e3 HN
    go_wp2_with fail
    go_ret
    exact ⟨by rw [HN.out]; simp, rfl⟩
  | false =>
    rw [h1] at e3 HN
    go_wp2_with fail
    go_ret
    exact ⟨by rw [HN.out]; simp, rfl⟩

theorem cells_bools (M : List Bool) : cellsF boolC M = M.map Value.bool := by
  induction M with
  | nil => rfl
  | cons b M ih => simp only [cellsF, List.flatMap_cons, List.map_cons] at ih ⊢; rw [ih]; rfl
theorem met_new {w : World} {base mb n : Nat} (h : w.ownsRow base 4 1 (.slice (some ⟨mb, 0, none⟩) n n) n ((List.replicate n (.bool false) : List Value))) : Met w base mb n (List.replicate n false) := by
  refine ⟨by simp, ?_⟩
  rw [cells_bools, List.map_replicate]
  exact h
/-- No relocation of these covers a byte that is not marked. -/
def Marks (o : ObjV) (R : List Rel) (C : List Bool) : Prop := ∀ i, C[i]? = some false → ∀ r ∈ R, ¬ (r.off ≤ i ∧ i < r.off + sizR o.machine r.kind)

set_option maxRecDepth 10000 in
set_option maxHeartbeats 3200000 in
theorem covered_any {w : World} (o : ObjV) (ho : o.Ok w w.heap.size) (hqn : ∀ q ∈ o.Q, q.l.length ≤ 100000 ∧ ∀ r ∈ q.l, r.off < two64) (k : Nat) (x : Lay) (hx : o.L[k]? = some x) (hD : x.s.data.length ≤ 100000) :
    Calls Try.prog 13 #[o.val, .int .i64 (k : Int)] w fun r w' => Below w.heap.size w w' ∧ ∃ mb C, r = .returned (.slice (some ⟨mb, 0, none⟩) x.s.data.length x.s.data.length) ∧ Met w' w.heap.size mb x.s.data.length C ∧ Marks o (relsOf o k) C := by
  rw [show ObjV.val o = .agg #[.int .i64 o.kind, .int .i64 o.machine, .slice o.aS o.L.length o.cS, .slice o.aY o.Y.length o.cY, .slice o.aR o.Q.length o.cR] from rfl]
  obtain ⟨i1, hj, hy0, hy1, hy2⟩ := info_parts bool_info
  generalize hw1 : w.alloc (.cells #[.int .i64 o.kind, .int .i64 o.machine, .slice o.aS o.L.length o.cS, .slice o.aY o.Y.length o.cY, .slice o.aR o.Q.length o.cR] 40) = w1 at *
  have hb1 : Below w.heap.size w w1 := hw1 ▸ (Below.refl _ _).alloc (Nat.le_refl _) _
  have hs1 : w1.heap.size = w.heap.size + 1 := by rw [← hw1]; simp
  have hXo := Box.new w 40 #[.int .i64 o.kind, .int .i64 o.machine, .slice o.aS o.L.length o.cS, .slice o.aY o.Y.length o.cY, .slice o.aR o.Q.length o.cR]
  rw [hw1] at hXo
  have HB1 := Lib.hid hb1
  have HS1 := Lib.hid hs1
  have KX := Lib.hid (fun W (hW : Below w1.heap.size w1 W) => five_cells (hXo.below hW (by omega)))
  obtain ⟨b2, o2, hbs, hb2, m0, m1, m2, m3, m4, m5, m6, m7, m8⟩ := ho.secs.at_ hx
  have hkl : k < o.L.length := (List.getElem?_eq_some_iff.1 hx).1
  have hm4 : w1.cell? ⟨b2, o2 + k * 9 + 4, none⟩ = some (.slice x.A x.s.data.length x.c) := by rw [hb1.cell (p := ⟨b2, _, none⟩) hb2]; exact m4
  obtain ⟨n0, n1, n2, n3, n4⟩ := KX.out _ (Below.refl _ _)
  have HL := Lib.hid (ho.lists.below hb1)
  obtain ⟨N, hN⟩ : ∃ N, x.s.data.length = N := ⟨_, rfl⟩
  rw [hN] at hm4 hD ⊢
  obtain ⟨nL, hnL⟩ : ∃ nL, o.L.length = nL := ⟨_, rfl⟩
  obtain ⟨nQ, hnQ⟩ : ∃ nQ, o.Q.length = nQ := ⟨_, rfl⟩
  rw [hbs, hnL] at n2 hw1 KX ⊢
  rw [hnL] at hkl
  rw [hnQ] at n4 hw1 KX ⊢
  have hm1 : i1.bytes * N ≤ 281474976710656 := by rw [hy2]; omega
  have hm2 : N ≤ maxLen := by unfold maxLen; omega
  have HML := Lib.hid (fun (m q : Int) W => size12_any m q W)
  have HQN := Lib.hid hqn
  have HNQ := Lib.hid hnQ
  clear ho hx hbs hb2 m0 m1 m2 m3 m4 m5 m6 m7 m8 hXo hb1 hN hnL hqn hnQ hs1
  go_enter Try.func13, Try.ntmps13
  go_upto_region 1 with fail
  try rw [hw1]
  clear hw1
  go_upto_region 2 with (at_make; refine wpList_make_full _ rfl _ _ 47 rfl w1.heap.size 4 i1 _ 1 Try.underlying47 hj hy0 hy1 .i64 .i64 (N : Int) (N : Int) N rfl rfl rfl rfl hm1 hm2 (Nat.le_refl _) ?_; intro w2 hown2 hg2)
  have hb12 : Below w1.heap.size w1 w2 := below_of_only hg2 (Nat.le_refl _) (by simp)
  have HM2 := Lib.hid (show Met w2 w1.heap.size w1.heap.size N (List.replicate N false) from met_new (by rwa [show (Value.bool false).cells = #[Value.bool false] from rfl, made_one] at hown2))
  have HB2 := Lib.hid hb12
  clear hown2 hg2 hb12 n0 n1 n2 n3 n4 hm4 hm1 hm2 hj hy0 hy1 hy2
  obtain ⟨n0, n1, n2, n3, n4⟩ := KX.out _ HB2.out
  by_cases hk : k < nQ
  · obtain ⟨q, hq⟩ : ∃ q, o.Q[k]? = some q := ⟨_, List.getElem?_eq_getElem (by rw [HNQ.out]; exact hk)⟩
    obtain ⟨b4, o4, ha, hb4, hc4⟩ := HL.out.at_ hq
    have hqm := List.mem_of_getElem? hq
    obtain ⟨hql, hqo⟩ := HQN.out q hqm
    have HRL := Lib.hid (show relsOf o k = q.l by unfold relsOf; rw [hq])
    have HRR := Lib.hid (fun W (hW : Below w1.heap.size w1 W) => Row.below (HL.out.rels q hqm) (hW.mono (by have := HS1.out; omega)))
    have HQO := Lib.hid hqo
    obtain ⟨M, hM⟩ : ∃ M, q.l.length = M := ⟨_, rfl⟩
    have HM := Lib.hid hM
    rw [hM] at hql hc4
    rw [ha] at n4 KX ⊢
    have hc5 : w2.cell? ⟨b4, o4 + k, none⟩ = some (.slice q.a M q.c) := by rw [HB2.out.cell (p := ⟨b4, _, none⟩) (by have := HS1.out; show b4 < _; omega)]; exact hc4
    have d1 : decide ((k : Int) < (nQ : Int)) = true := decide_eq_true (by omega)
    clear hq ha hb4 hc4 hqm hqo hM HL HQN
    generalize q.a = qa at *
    generalize q.c = qc at *
    go_wp2_with fail
    clear hc5 d1 n0 n1 n2 n3 n4
    go_loopg [28] M (fun gk i wr => ∃ (j : Nat) (C : List Bool), j ≤ M ∧ gk = M - j ∧ i = .int .i64 j ∧ Hid (Below w1.heap.size w1 wr) ∧ Hid (Met wr w1.heap.size w1.heap.size N C) ∧ Hid (Marks o (q.l.take j) C))
    case atStart => exact ⟨0, _, Nat.zero_le _, rfl, rfl, HB2, HM2, Lib.hid (fun i _ r hr => by cases hr)⟩
    case round =>
      obtain ⟨j, C, hjM, rfl, rfl, HB, HMT, HMK⟩ := hrel
      clear HM2 HB2
      by_cases hlt : j < M
      · have HLT := Lib.hid hlt
        obtain ⟨r, hr⟩ : ∃ r, q.l[j]? = some r := ⟨_, List.getElem?_eq_getElem (by rw [HM.out]; exact hlt)⟩
        obtain ⟨b, oo, rfl, hb, c0, c1, c2, c3⟩ := rel_at (HRR.out _ HB.out) hr
        have hoff : r.off < two64 := HQO.out r (List.mem_of_getElem? hr)
        have HSZ := Lib.hid (fun W => HML.out o.machine r.kind W)
        have hsz := sizR_le o.machine r.kind
        have HTK := Lib.hid (show q.l.take (j + 1) = q.l.take j ++ [r] by rw [List.take_add_one, hr]; rfl)
        have HSS := Lib.hid (show sizR o.machine r.kind = sizR o.machine r.kind from rfl)
        generalize hw4 : wr.alloc (.cells #[.int .u64 (r.off : Int), .int .i64 r.sym, .int .i64 r.kind, .int .i64 r.add] 51) = w4 at *
        have hb4 : Below wr.heap.size wr w4 := hw4 ▸ (Below.refl _ _).alloc (Nat.le_refl _) _
        have hXq := Box.new wr 51 #[.int .u64 (r.off : Int), .int .i64 r.sym, .int .i64 r.kind, .int .i64 r.add]
        rw [hw4] at hXq
        have HB4 := Lib.hid (HB.out.trans (hb4.mono HB.out.size))
        have HM4 := Lib.hid (HMT.out.below hb4)
        have HX4 := Lib.hid hXq
        have HNE := Lib.hid (show w1.heap.size < wr.heap.size from HMT.out.lt.2)
        obtain ⟨q0, q1, q2, q3⟩ := four_cells hXq
        have n1 := (KX.out _ HB4.out).2.1
        obtain ⟨sz, hsze⟩ : ∃ sz, sizR o.machine r.kind = sz := ⟨_, rfl⟩
        have HSE := Lib.hid hsze
        rw [hsze] at hsz HSZ
        clear hb4 hXq hb hr hsze HB HMT
        go_upto_region 6 with fail
        try rw [hw4]
        clear hw4 c0 c1 c2 c3
        go_wp2_with (go_at_call 43; refine (HSZ.out _).mono ?_; rintro r' w5 ⟨rfl, rfl⟩)
        clear q0 q1 q2 q3 n1
        generalize wr = wj at *
        go_loopg [37] sz (fun gk i wr => ∃ (kk : Nat) (C' : List Bool), kk ≤ sz ∧ gk = sz - kk ∧ i = .int .i64 kk ∧ Hid (Below w1.heap.size w1 wr) ∧ Hid (Met wr w1.heap.size w1.heap.size N C') ∧ Hid (Box wr wj.heap.size 51 #[.int .u64 (r.off : Int), .int .i64 r.sym, .int .i64 r.kind, .int .i64 r.add]) ∧ Hid (∀ i, C'[i]? = some false → (∀ r' ∈ q.l.take j, ¬ (r'.off ≤ i ∧ i < r'.off + sizR o.machine r'.kind)) ∧ ¬ (r.off ≤ i ∧ i < r.off + kk)))
        case atStart => exact ⟨0, C, Nat.zero_le _, rfl, rfl, HB4, HM4, HX4, Lib.hid (fun i hi => ⟨HMK.out i hi, by omega⟩)⟩
        case round =>
          obtain ⟨kk, C', hkk, rfl, rfl, HB5, HM5, HX5, HMM⟩ := hrel
          by_cases hlt2 : kk < sz
          · have HL2 := Lib.hid hlt2
            obtain ⟨q0, q1, q2, q3⟩ := four_cells HX5.out
            have e3 : IntKind.u64.wrap (N : Int) = (N : Int) := by rw [IntKind.wrap_u64]; omega
            by_cases hin : r.off < N
            · have d1 : decide ((r.off : Int) < (N : Int)) = true := decide_eq_true (by omega)
              have w3 : IntKind.i64.wrap (r.off : Int) = (r.off : Int) := by rw [IntWalk.i64_in _ (by omega)]
              by_cases hin2 : r.off + kk < N
              · have d2 : decide ((kk : Int) < (N : Int) - (r.off : Int)) = true := decide_eq_true (by omega)
                obtain ⟨bv, hbv⟩ : ∃ b, C'[r.off + kk]? = some b := ⟨_, List.getElem?_eq_getElem (by rw [HM5.out.1]; exact hin2)⟩
                have hcv := HM5.out.cell hbv
                have hfv := HM5.out.free (r.off + kk)
                have hg6 := only_set (only_refl wr (some w1.heap.size)) (r.off + kk) (.bool true)
                have HB6 := Lib.hid (HB5.out.grown hg6 HB5.out.size (fun x e => by injection e with e; omega))
                have HM6 := Lib.hid (HM5.out.store (r.off + kk) true)
                have HX6 := Lib.hid (HX5.out.grown hg6 (by first | exact fun e => by injection e with e; have := HNE.out; omega | exact fun e => by injection e with e; have := HNE.out; omega))
                clear hg6 hbv hin
                go_wp2_with fail
                go_roundg (sz - (kk + 1))
                case measure => have := HL2.out; omega
                case rel => exact ⟨kk + 1, C'.set (r.off + kk) true, HL2.out, rfl, by go_num, HB6, HM6, HX6, Lib.hid (fun i hi => by
                  rw [List.getElem?_set] at hi
                  split at hi
                  · split at hi <;> cases hi
                  · rename_i hne
                    exact ⟨(HMM.out i hi).1, by have h1 := (HMM.out i hi).2; omega⟩)⟩
              · have d2 : decide ((kk : Int) < (N : Int) - (r.off : Int)) = false := decide_eq_false (by omega)
                have HNO := Lib.hid (show N ≤ r.off + kk by omega)
                go_wp2_with fail
                go_roundg (sz - (kk + 1))
                case measure => have := HL2.out; omega
                case rel => exact ⟨kk + 1, C', HL2.out, rfl, by go_num, HB5, HM5, HX5, Lib.hid (fun i hi => ⟨(HMM.out i hi).1, by
                  have h1 := (HMM.out i hi).2
                  have h2 : i < N := by have := (List.getElem?_eq_some_iff.1 hi).1; rw [HM5.out.1] at this; exact this
                  have := HNO.out
                  omega⟩)⟩
            · have d1 : decide ((r.off : Int) < (N : Int)) = false := decide_eq_false (by omega)
              have HNO := Lib.hid (show N ≤ r.off + kk by omega)
              go_wp2_with fail
              go_roundg (sz - (kk + 1))
              case measure => have := HL2.out; omega
              case rel => exact ⟨kk + 1, C', HL2.out, rfl, by go_num, HB5, HM5, HX5, Lib.hid (fun i hi => ⟨(HMM.out i hi).1, by
                have h1 := (HMM.out i hi).2
                have h2 : i < N := by have := (List.getElem?_eq_some_iff.1 hi).1; rw [HM5.out.1] at this; exact this
                have := HNO.out
                omega⟩)⟩
          · have hke : kk = sz := by omega
            subst hke
            have HMK2 := Lib.hid (show Marks o (q.l.take (j + 1)) C' from fun i hi r' hr' => by
              rw [HTK.out] at hr'
              rcases List.mem_append.1 hr' with h | h
              · exact (HMM.out i hi).1 r' h
              · rw [List.mem_singleton.1 h, HSE.out]
                exact (HMM.out i hi).2)
            clear HMM HMK
            go_wp2_with fail
            go_roundg (M - (j + 1))
            case measure => have := HLT.out; omega
            case rel => exact ⟨j + 1, C', HLT.out, rfl, by go_num, HB5, HM5, HMK2⟩
      · have hjM2 : j = M := by omega
        have HMK2 := Lib.hid (show Marks o (relsOf o k) C by have := HMK.out; rw [hjM2, ← HM.out, List.take_length] at this; rw [HRL.out]; exact this)
        clear HMK hjM2
        go_wp2_with fail
        go_ret
        exact ⟨HB1.out.trans (HB.out.mono (by have := HS1.out; omega)), _, C, rfl, ⟨HMT.out.1, row_base HMT.out.2 (by have := HS1.out; omega)⟩, HMK2.out⟩
  · have d1 : decide ((k : Int) < (nQ : Int)) = false := decide_eq_false (by omega)
    have HR := Lib.hid (show relsOf o k = [] by unfold relsOf; rw [List.getElem?_eq_none (l := o.Q) (i := k) (by have := HNQ.out; omega)])
    go_wp2_with fail
    go_ret
    exact ⟨HB1.out.trans (HB2.out.mono (by have := HS1.out; omega)), _, _, rfl, ⟨HM2.out.1, row_base HM2.out.2 (by have := HS1.out; omega)⟩, fun i hi r hr => by rw [HR.out] at hr; cases hr⟩

end Go.Proofs.Yteadabmlleipiaa

namespace Go.Proofs.Yteadabmlleipiaa
open Go Go.RowKit

theorem putAt_get {l m : List UInt8} {o : Nat} (h : o + m.length ≤ l.length) (i : Nat) : (putAt l o m)[i]? = if o ≤ i ∧ i < o + m.length then m[i - o]? else l[i]? := by
  unfold putAt
  rw [List.getElem?_append, List.getElem?_append]
  simp only [List.length_append, List.length_take]
  have h1 : min o l.length = o := Nat.min_eq_left (by omega)
  rw [h1]
  by_cases c1 : i < o + m.length
  · rw [if_pos c1]
    by_cases c2 : i < o
    · rw [if_pos c2, if_neg (by omega), List.getElem?_take, if_pos c2]
    · rw [if_neg c2, if_pos ⟨by omega, c1⟩]
  · rw [if_neg c1, if_neg (by omega), List.getElem?_drop]
    congr 1
    omega
section
variable {o : ObjV} {obj : Int} {P : List Place} {Y : List Named} {n : Nat}
/-- Does a relocation cover a byte? -/
def Over (o : ObjV) (r : Rel) (i : Nat) : Prop := r.off ≤ i ∧ i < r.off + sizR o.machine r.kind
theorem patch_get {l : List UInt8} {r : Rel} (h : errR o obj P Y l.length r = 0) (i : Nat) :
    (Over o r i → (patchR o obj P Y l r)[i]? = (leBytes (valR o obj P Y r).1 (sizR o.machine r.kind))[i - r.off]?) ∧ (¬ Over o r i → (patchR o obj P Y l r)[i]? = l[i]?) := by
  have h2 := (errR_zero h).2.1
  unfold patchR
  rw [putAt_get (by simpa using h2)]
  simp only [leBytes_length]
  exact ⟨fun c => if_pos c, fun c => if_neg c⟩
/-- No two relocations cover a byte in common. -/
def ApartR (o : ObjV) (R : List Rel) : Prop := R.Pairwise fun r s => ∀ i, ¬ (Over o r i ∧ Over o s i)
theorem app_get {R : List Rel} (hA : ApartR o R) : ∀ (l : List UInt8), errL o obj P Y l.length R = 0 → ∀ i,
    (∀ r ∈ R, Over o r i → (appL o obj P Y l R)[i]? = (leBytes (valR o obj P Y r).1 (sizR o.machine r.kind))[i - r.off]?) ∧ ((∀ r ∈ R, ¬ Over o r i) → (appL o obj P Y l R)[i]? = l[i]?) := by
  induction R with
  | nil => exact fun l _ i => ⟨fun r hr => (by cases hr), fun _ => rfl⟩
  | cons x R ih =>
    intro l hl i
    have hx := errL_all hl x List.mem_cons_self
    have hlen := patchR_length hx
    have hR : errL o obj P Y (patchR o obj P Y l x).length R = 0 := by rw [hlen]; exact errL_of_all fun r hr => errL_all hl r (List.mem_cons_of_mem _ hr)
    obtain ⟨hA1, hA2⟩ := List.pairwise_cons.1 hA
    have ihx := ih hA2 (patchR o obj P Y l x) hR i
    have hp := patch_get hx i
    rw [show appL o obj P Y l (x :: R) = appL o obj P Y (patchR o obj P Y l x) R from rfl]
    constructor
    · intro r hr hc
      rcases List.mem_cons.1 hr with rfl | hr
      · rw [ihx.2 (fun s hs hcs => hA1 s hs i ⟨hc, hcs⟩)]
        exact hp.1 hc
      · exact ihx.1 r hr hc
    · intro hno
      rw [ihx.2 (fun s hs => hno s (List.mem_cons_of_mem _ hs))]
      exact hp.2 (hno x List.mem_cons_self)
/-- Bytes that none covers stay, however the relocations lie. -/
theorem app_stays {R : List Rel} : ∀ (l : List UInt8), errL o obj P Y l.length R = 0 → ∀ i, (∀ r ∈ R, ¬ Over o r i) → (appL o obj P Y l R)[i]? = l[i]? := by
  induction R with
  | nil => exact fun l _ i _ => rfl
  | cons x R ih =>
    intro l hl i hno
    have hx := errL_all hl x List.mem_cons_self
    have hlen := patchR_length hx
    have hR : errL o obj P Y (patchR o obj P Y l x).length R = 0 := by rw [hlen]; exact errL_of_all fun r hr => errL_all hl r (List.mem_cons_of_mem _ hr)
    rw [show appL o obj P Y l (x :: R) = appL o obj P Y (patchR o obj P Y l x) R from rfl, ih _ hR i (fun s hs => hno s (List.mem_cons_of_mem _ hs))]
    exact (patch_get hx i).2 (hno x List.mem_cons_self)
theorem err_turn {R : List Rel} (h : errL o obj P Y n R = 0) : errL o obj P Y n R.reverse = 0 := errL_of_all fun r hr => errL_all h r (List.mem_reverse.1 hr)
theorem app_turn {R : List Rel} (hA : ApartR o R) (l : List UInt8) (h : errL o obj P Y l.length R = 0) : appL o obj P Y l R.reverse = appL o obj P Y l R := by
  have hA' : ApartR o R.reverse := by
    unfold ApartR
    rw [List.pairwise_reverse]
    exact hA.imp fun h i c => h i ⟨c.2, c.1⟩
  refine List.ext_getElem? fun i => ?_
  have h1 := app_get hA l h i
  have h2 := app_get hA' l (err_turn h) i
  by_cases hc : ∃ r ∈ R, Over o r i
  · obtain ⟨r, hr, hc⟩ := hc
    rw [h1.1 r hr hc, h2.1 r (List.mem_reverse.2 hr) hc]
  · rw [h1.2 (fun r hr c => hc ⟨r, hr, c⟩), h2.2 (fun r hr c => hc ⟨r, List.mem_reverse.1 hr, c⟩)]
/-- Offsets that are not near lie apart. -/
theorem apart_near {R : List Rel} (h : ∀ (i k : Nat) (r s : Rel), k < i → R[i]? = some r → R[k]? = some s → nearB r.off s.off = false) : ApartR o R := by
  unfold ApartR
  rw [List.pairwise_iff_getElem]
  intro k i hk hi hki j hj
  have := near_far (h i k _ _ hki (List.getElem?_eq_getElem hi) (List.getElem?_eq_getElem hk))
  have h1 := sizR_le o.machine R[i].kind
  have h2 := sizR_le o.machine R[k].kind
  obtain ⟨⟨a1, a2⟩, b1, b2⟩ := hj
  omega
end

end Go.Proofs.Yteadabmlleipiaa
