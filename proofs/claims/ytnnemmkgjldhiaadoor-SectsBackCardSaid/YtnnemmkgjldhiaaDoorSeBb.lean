/-
  Sections that are put are taken as they were (plain facts): why nothing is refused, what is taken.
-/

import Derived.Test.YtnnemmkgjldhiaaDoorSeW
import Derived.Test.YtnnemmkgjldhiaaDoorSeQ
namespace Go.Proofs.YtnnemmkgjldhiaaDoor
open Go Go.RowKit

def exL : List Sect := [zeroS, ⟨shstrN, 3, 0, 0, [], 0, 0, 0, 0⟩]
theorem ex_len : (putR 1 62 exL).length = 208 := by kernel_rfl
theorem ex_sec : secE (putR 1 62 exL) = 0 := by kernel_rfl
theorem ex_head : secH (putR 1 62 exL) = hdV 1 62 80 2 1 := by kernel_rfl
theorem ex_two : (secL (putR 1 62 exL)).length = 2 := by kernel_rfl
theorem ex_name : (secL (putR 1 62 exL)).map (·.name) = [[], shstrN] := by kernel_rfl
theorem ex_puts : putE 1 62 exL = 0 := by kernel_rfl

/-! ### Sections that were told fit -/
theorem atT_small (l : List UInt8) (o : Nat) : (atT l o).1.length ≤ 200 := by
  unfold atT
  split
  · rcases readT_cases (l.drop o) with ⟨_, e⟩ | ⟨_, _, e⟩ | ⟨_, h, e⟩ <;> rw [e]
    · simp
    · simp
    · exact Nat.le_trans (List.length_take_le _ _) h
  · simp
theorem sectT_fits {l tbl : List UInt8} {o : Nat} (h : entE (entN l o) l.length = 0) : (sectT l tbl (entN l o)).Fits := by
  have hlt := entN_lt l o
  have hdl := dataT_len l _ (entN_length l o) h
  obtain ⟨b0, b1, b2, b3, b4, b5, b6, b7, b8, b9, h10⟩ : ∃ a0 a1 a2 a3 a4 a5 a6 a7 a8 a9 : Nat, entN l o = [a0, a1, a2, a3, a4, a5, a6, a7, a8, a9] := ⟨_, _, _, _, _, _, _, _, _, _, rfl⟩
  rw [h10] at h hlt hdl ⊢
  have hsm := entE_small h
  simp only [smallN, List.all_cons, List.all_nil, Bool.and_true, Bool.and_eq_true, decide_eq_true_eq] at hsm
  obtain ⟨h6, h7, h8, h9, h1⟩ := hsm
  have e : sectT l tbl [b0, b1, b2, b3, b4, b5, b6, b7, b8, b9] = ⟨(atT tbl b0).1, (b1 : Int), b2, b3, dataT l [b0, b1, b2, b3, b4, b5, b6, b7, b8, b9], (b6 : Int), (b7 : Int), (b8 : Int), (b9 : Int)⟩ := rfl
  rw [e]
  exact ⟨by unfold InI; simp only; omega, by unfold InI; simp only; omega, by unfold InI; simp only; omega, by unfold InI; simp only; omega, by unfold InI; simp only; omega, hlt b2 (by simp), hlt b3 (by simp), Nat.le_trans hdl (by decide), Nat.le_trans (atT_small tbl b0) (by decide)⟩
theorem secL_fits (l : List UInt8) : ∀ s ∈ secL l, s.Fits := by
  intro s hs
  by_cases h : secE l = 0
  · unfold secL at hs
    rw [if_pos h] at hs
    obtain ⟨i, hi, rfl⟩ := List.mem_map.1 hs
    have h2 : errUp l (offT l) (cntT l) = 0 := by
      unfold secE at h
      split at h
      · cases h
      · split at h
        · rename_i h1; exact absurd h h1
        · split at h
          · rename_i h1; exact absurd h h1
          · rename_i h1; simpa using h1
    exact sectT_fits (errUp_ok h2 i (by simpa using hi))
  · unfold secL at hs
    rw [if_neg h] at hs
    cases hs

/-- Sections that were told, as sections that lie. -/
theorem told_secs {w : World} {base : Nat} {v : Value} {ss : List Sect} (h : Told w base v ss) (hf : ∀ s ∈ ss, s.Fits) : ∃ (L : List Lay) (A : Option Addr) (c : Nat), secsOf L = ss ∧ v = .slice A L.length c ∧ L.length ≤ c ∧ c ≤ maxLen ∧ Secs w w.heap.size A L ∧ ∀ x ∈ L, Own w base x.dv x.s.data := by
  obtain ⟨L, h1, h2, h3⟩ := h
  obtain ⟨A, c, e, hc, hcm, hS⟩ := ownl_secs h2 (fun x hx => by
    obtain ⟨A', c', e, hle, hcm, hrd⟩ := own_slice (h3 x hx)
    unfold Lay.dv at e
    injection e with e1 e2 e3
    exact ⟨by rw [e1]; exact hrd, by rw [e3]; exact hle, by rw [e3]; exact hcm, hf _ (by rw [← h1]; exact List.mem_map_of_mem hx)⟩)
  exact ⟨L, A, c, h1, e, hc, hcm, hS, h3⟩

def exLay : List Lay := [⟨zeroS, none, 0⟩, ⟨⟨shstrN, 3, 0, 0, [], 0, 0, 0, 0⟩, none, 0⟩]
theorem ex_secs (w : World) : Secs (w.alloc (.cells (cellsL exLay).toArray 36)) (w.heap.size + 1) (some ⟨w.heap.size, 0, none⟩) exLay :=
  ⟨fun _ => ⟨w.heap.size, 0, rfl, by omega, fun i x hx j v hv => by
    rw [(Box.new w 36 (cellsL exLay).toArray).cell, Nat.zero_add]
    simpa using cellsL_at exLay i x j v hx hv⟩, fun x hx => by
    have hz : (zeroS).Fits := ⟨by unfold InI zeroS; simp only; omega, by unfold InI zeroS; simp only; omega, by unfold InI zeroS; simp only; omega, by unfold InI zeroS; simp only; omega, by unfold InI zeroS; simp only; omega, by decide, by decide, by decide, by decide⟩
    simp only [exLay, List.mem_cons, List.not_mem_nil, or_false] at hx
    rcases hx with rfl | rfl
    · exact ⟨Rd.nil_, Nat.le_refl _, Nat.zero_le _, hz⟩
    · exact ⟨Rd.nil_, Nat.le_refl _, Nat.zero_le _, ⟨by unfold InI; simp only; omega, by unfold InI; simp only; omega, by unfold InI; simp only; omega, by unfold InI; simp only; omega, by unfold InI; simp only; omega, by decide, by decide, by decide, by decide⟩⟩⟩

set_option maxRecDepth 10000 in
set_option maxHeartbeats 3200000 in
theorem sworks_any {w : World} (hM : Mg w) : Calls Tryd.prog 6 #[] w fun r w' => r = .returned (.bool true) ∧ Below w.heap.size w w' := by
  have hP := sput_any 1 62 (h := (ex_secs w).more (B' := (w.alloc (.cells (cellsL exLay).toArray 36)).heap.size) (by simp)) (hM.alloc _) 2 (by decide) (by decide)
  rw [show secsOf exLay = exL from rfl, ex_puts] at hP
  have hb0 : Below w.heap.size w (w.alloc (.cells (cellsL exLay).toArray 36)) := (Below.refl _ _).alloc (Nat.le_refl _) _
  have HP := Lib.hid hP
  have HB0 := Lib.hid hb0
  have hlit : (cellsL exLay).toArray = #[.string ⟨#[]⟩, .int .i64 0, .int .u64 0, .int .u64 0, .slice none 0 0, .int .i64 0, .int .i64 0, .int .i64 0, .int .i64 0, .string ⟨#[46, 115, 104, 115, 116, 114, 116, 97, 98]⟩, .int .i64 3, .int .u64 0, .int .u64 0, .slice none 0 0, .int .i64 0, .int .i64 0, .int .i64 0, .int .i64 0] := rfl
  rw [hlit] at HP HB0
  have hMp := hM.pos
  have HM := Lib.hid hM
  clear hP hb0 hlit hM
  go_enter Tryd.func6, Tryd.ntmps6
  go_wp2_with fail
  refine HP.out.mono ?_
  rintro r w1 ⟨v1, rfl, ho1, hb1⟩
  have HB1 := Lib.hid (HB0.out.trans (hb1.mono HB0.out.size))
  obtain ⟨A1, c1, rfl, hc1, _, hrd1⟩ := own_slice ho1
  have HT := Lib.hid (stake_any hrd1 c1 hc1 (by rw [ex_len]; decide) (HM.out.below HB1.out hMp))
  unfold STake at HT
  rw [ex_head, ex_sec, ex_len] at HT
  rw [ex_len]
  have htwo := ex_two
  have hnm := ex_name
  have hfit := secL_fits (putR 1 62 exL)
  clear ho1 hb1 hc1 hrd1 HP HB0
  generalize secL (putR 1 62 exL) = sl at *
  go_wp2_with fail
  refine HT.out.mono ?_
  rintro r w2 ⟨u2, rfl, hT2, hb2⟩
  obtain ⟨L, A, c, hLs, rfl, hLc, _, hS, _⟩ := told_secs hT2 hfit
  have hL2 : L.length = 2 := by rw [← htwo, ← hLs]; simp
  obtain ⟨x0, x1, rfl⟩ : ∃ x0 x1, L = [x0, x1] := by
    match L, hL2 with
    | [a, b], _ => exact ⟨a, b, rfl⟩
  have hnn : x0.s.name = [] ∧ x1.s.name = shstrN := by
    rw [← hLs] at hnm
    simp [secsOf] at hnm
    exact hnm
  have HB2 := Lib.hid (HB1.out.trans (hb2.mono HB1.out.size))
  have hb3 : Below w2.heap.size w2 (w2.alloc (.cells #[.int .i64 1, .int .i64 62, .int .u64 80, .int .i64 2, .int .i64 1] 26)) := (Below.refl _ _).alloc (Nat.le_refl _) _
  have hS3 := (hS.below hb3).more hb3.size
  obtain ⟨bb, oo, rfl, hbb, n0, -⟩ := hS3.at_ (i := 1) (x := x1) rfl
  have HF := Lib.hid (find_any hS3 c (by simp) shstrN)
  have hfd : findS (secsOf [x0, x1]) shstrN = 1 := by
    refine findS_some (k := 1) (s := x1.s) rfl (by decide) hnn.2 (fun j x hj hj0 _ => by omega)
  rw [hfd, show ByteArray.mk shstrN.toArray = ⟨#[46, 115, 104, 115, 116, 114, 116, 97, 98]⟩ from rfl] at HF
  rw [hnn.2, show ByteArray.mk shstrN.toArray = ⟨#[46, 115, 104, 115, 116, 114, 116, 97, 98]⟩ from rfl] at n0
  have HB3 := Lib.hid (HB2.out.trans (hb3.mono HB2.out.size))
  rw [show ([x0, x1] : List Lay).length = 2 from rfl] at *
  clear hS hS3 hb2 hb3 hT2 hfit hnm htwo hLs hL2 hnn hfd HT
  go_wp2_with (go_at_call 15; refine HF.out.mono ?_; rintro r w3 ⟨rfl, hb4⟩; have HB4 := Lib.hid (HB3.out.trans (hb4.mono HB3.out.size)))
  go_ret
  exact ⟨rfl, HB4.out⟩

end Go.Proofs.YtnnemmkgjldhiaaDoor

namespace Go.Proofs.YtnnemmkgjldhiaaDoor
open Go Go.RowKit

/-! ### An entry's bytes, read -/
theorem itsB_split (its : List (Nat × Nat)) (j x s : Nat) (h : its[j]? = some (x, s)) : itsB its = itsB (its.take j) ++ (leBytes x s ++ itsB (its.drop (j + 1))) := by
  have e : its = its.take j ++ ((x, s) :: its.drop (j + 1)) := by
    obtain ⟨hj, e⟩ := List.getElem?_eq_some_iff.1 h
    rw [← e, List.getElem_cons_drop, List.take_append_drop]
  conv => lhs; rw [e]
  simp [itsB]
theorem entB_num (ns : List Nat) (hl : ns.length = 10) (j x f s : Nat) (hx : ns[j]? = some x) (hf : offsN[j]? = some f) (hs : sizesN[j]? = some s) (hb : x < 256 ^ s) : numT (entB ns) f s = x := by
  have hz : (ns.zip sizesN)[j]? = some (x, s) := by rw [List.getElem?_zip_eq_some]; exact ⟨hx, hs⟩
  have h1 := itsB_split _ _ _ _ hz
  have h2 : (itsB ((ns.zip sizesN).take j)).length = f := by
    have hj : j < 10 := (List.getElem?_eq_some_iff.1 hf).1
    match ns, hl with
    | [a0, a1, a2, a3, a4, a5, a6, a7, a8, a9], _ =>
      have h10 : j = 0 ∨ j = 1 ∨ j = 2 ∨ j = 3 ∨ j = 4 ∨ j = 5 ∨ j = 6 ∨ j = 7 ∨ j = 8 ∨ j = 9 := by omega
      rcases h10 with rfl | rfl | rfl | rfl | rfl | rfl | rfl | rfl | rfl | rfl <;> (injection hf)
  unfold numT cutT entB
  rw [h1, ← h2, List.drop_left, List.take_left' (leBytes_length x s), leNat_leBytes, Nat.mod_eq_of_lt hb]

def Enc (ns : List Nat) : Prop := ns.length = 10 ∧ ∀ (j x s : Nat), ns[j]? = some x → sizesN[j]? = some s → x < 256 ^ s
theorem entN_of {l : List UInt8} {o : Nat} {ns : List Nat} (h : (l.drop o).take 64 = entB ns) (hE : Enc ns) : entN l o = ns := by
  apply List.ext_getElem?
  intro j
  by_cases hj : j < 10
  · have hf : offsN[j]? = some (offsN[j]'(by show j < 10; exact hj)) := List.getElem?_eq_getElem _
    have hs : sizesN[j]? = some (sizesN[j]'(by show j < 10; exact hj)) := List.getElem?_eq_getElem _
    have hx : ns[j]? = some (ns[j]'(by rw [hE.1]; exact hj)) := List.getElem?_eq_getElem _
    rw [entN_at l o j _ _ hf hs, hx]
    have h1 := entB_num ns hE.1 j _ _ _ hx hf hs (hE.2 j _ _ hx hs)
    rw [← h, numT_cut _ _ _ _ _ (offs_next hf hs).2.2.1] at h1
    rw [h1]
  · rw [List.getElem?_eq_none (by rw [entN_length]; omega), List.getElem?_eq_none (by rw [hE.1]; omega)]

/-! ### What is laid, and where -/
theorem layK_step (ss : List Sect) (ps : List Nat) (k : Nat) : (layK ss ps k).1 <+: (layK ss ps (k + 1)).1 ∧ (layK ss ps k).2 <+: (layK ss ps (k + 1)).2 := by
  rcases hs : ss[k + 1]? with _ | s
  · rw [layK, hs]; exact ⟨List.prefix_refl _, List.prefix_refl _⟩
  · rcases hp : ps[k + 1]? with _ | p
    · rw [layK, hs, hp]; exact ⟨List.prefix_refl _, List.prefix_refl _⟩
    · rw [layK_next hs hp]
      exact ⟨by unfold padB; rw [List.append_assoc]; exact List.prefix_append _ _, List.prefix_append _ _⟩
theorem layK_prefix (ss : List Sect) (ps : List Nat) (k : Nat) : ∀ n, k ≤ n → (layK ss ps k).1 <+: (layK ss ps n).1 ∧ (layK ss ps k).2 <+: (layK ss ps n).2 := by
  intro n hn
  induction n with
  | zero => rw [show k = 0 by omega]; exact ⟨List.prefix_refl _, List.prefix_refl _⟩
  | succ n ih =>
    rcases Nat.eq_or_lt_of_le hn with rfl | h
    · exact ⟨List.prefix_refl _, List.prefix_refl _⟩
    · have h1 := ih (by omega)
      have h2 := layK_step ss ps n
      exact ⟨h1.1.trans h2.1, h1.2.trans h2.2⟩
theorem layK_first (ss : List Sect) (ps : List Nat) (n : Nat) : (layK ss ps n).2[0]? = some (List.replicate 10 0) := by
  obtain ⟨r, h⟩ := (layK_prefix ss ps 0 n (Nat.zero_le _)).2
  rw [← h]
  rfl
/-- One of the sections: its entry, and its bytes in all of them. -/
theorem layK_at {ss : List Sect} {ps : List Nat} {n i p : Nat} {s : Sect} (hs : ss[i + 1]? = some s) (hp : ps[i + 1]? = some p) (hi : i + 1 ≤ n) (hl : n < ss.length) (hl' : n < ps.length) :
    (layK ss ps n).2[i + 1]? = some (entNs s p (padB (layK ss ps i).1).length) ∧ padB (layK ss ps i).1 ++ (if s.kind = 8 then [] else s.data) <+: (layK ss ps n).1 := by
  have h := layK_prefix ss ps (i + 1) n hi
  have hc := layK_count ss ps i (by omega) (by omega)
  rw [layK_next hs hp] at h
  refine ⟨?_, h.1⟩
  obtain ⟨r, e⟩ := h.2
  rw [← e, List.append_assoc, List.getElem?_append_right (by omega), hc, Nat.sub_self]
  rfl

/-- A cut of what is laid in front. -/
theorem cut_prefix {X d Y : List UInt8} (h : X ++ d <+: Y) (r : List UInt8) : ((Y ++ r).drop X.length).take d.length = d ∧ X.length + d.length ≤ Y.length := by
  obtain ⟨z, rfl⟩ := h
  refine ⟨?_, by simp⟩
  rw [List.append_assoc, List.append_assoc, List.drop_left, List.take_left]

theorem entsB_cut {es : List (List Nat)} (ht : ∀ e ∈ es, e.length = 10) {i : Nat} {e : List Nat} (h : es[i]? = some e) : ((entsB es).drop (64 * i)).take 64 = entB e := by
  have hil := (List.getElem?_eq_some_iff.1 h).1
  have e1 : es = es.take i ++ (e :: es.drop (i + 1)) := by
    obtain ⟨hj, e'⟩ := List.getElem?_eq_some_iff.1 h
    rw [← e', List.getElem_cons_drop, List.take_append_drop]
  have e2 : entsB es = entsB (es.take i) ++ (entB e ++ entsB (es.drop (i + 1))) := by
    conv => lhs; rw [e1]
    simp [entsB]
  have h1 : (entsB (es.take i)).length = 64 * i := by
    rw [entsB_length _ (fun x hx => ht x (List.mem_of_mem_take hx)), List.length_take, Nat.min_eq_left (by omega)]
  rw [e2, ← h1, List.drop_left, List.take_left' (entB_length e (ht e (List.mem_of_getElem? h)))]

/-- Behind the header all is as it was laid. -/
theorem file_drop (H X : List UInt8) (hH : H.length = 64) (q : Nat) (hq : 64 ≤ q) : (H ++ X.drop 64).drop q = X.drop q := by
  rw [List.drop_append, hH, List.drop_eq_nil_of_le (by omega), List.nil_append, List.drop_drop]
  congr 1
  omega

end Go.Proofs.YtnnemmkgjldhiaaDoor

namespace Go.Proofs.YtnnemmkgjldhiaaDoor
open Go Go.RowKit

theorem inM_nat {x : Int} (h : inM x = true) : ∃ k : Nat, x = (k : Int) ∧ k ≤ 2147483647 ∧ wrapN x = k := by
  unfold inM at h
  rw [decide_eq_true_eq] at h
  refine ⟨x.toNat, by omega, by omega, ?_⟩
  unfold wrapN
  rw [IntKind.wrap_u64]
  omega
theorem okS_parts {s : Sect} (h : okS s = true) : 1 ≤ s.kind ∧ inM s.kind = true ∧ inM s.link = true ∧ inM s.inf = true ∧ inM s.algn = true ∧ inM s.ent = true ∧ rightT s.name = true ∧ s.data.length ≤ 65536 ∧ (s.kind = 8 → s.data = List.replicate s.data.length 0) := by
  unfold okS at h
  simp only [Bool.and_eq_true, decide_eq_true_eq, Bool.or_eq_true, smallI, List.all_cons, List.all_nil, Bool.and_true] at h
  obtain ⟨h1, ⟨h2, h3, h4, h5, h6⟩, h7, h8, h9⟩ := h
  refine ⟨h1, h2, h3, h4, h5, h6, h7, h8, fun hk => ?_⟩
  rcases h9 with h9 | h9
  · exact absurd hk h9
  · have := List.count_eq_length.1 h9
    exact List.eq_replicate_of_mem fun b hb => (this b hb).symm

/-- What is true of the entry of a section that may be. -/
theorem ent_facts {s : Sect} (hok : okS s = true) (hfl : s.flags < two64) (had : s.addr < two64) {p q : Nat} (hp : p < 4294967296) (hq : q < two64) {B : List UInt8}
    (hin : s.kind ≠ 8 → q + s.data.length ≤ B.length ∧ (B.drop q).take s.data.length = s.data) :
    Enc (entNs s p q) ∧ entE (entNs s p q) B.length = 0 ∧ dataT B (entNs s p q) = s.data ∧ kindN (entNs s p q) = wrapN s.kind ∧
      ∀ tbl, atT tbl p = (s.name, 0) → sectT B tbl (entNs s p q) = s := by
  obtain ⟨h1, h2, h3, h4, h5, h6, h7, h8, h9⟩ := okS_parts hok
  obtain ⟨k1, e1, b1, w1⟩ := inM_nat h2
  obtain ⟨k2, e2, b2, w2⟩ := inM_nat h3
  obtain ⟨k3, e3, b3, w3⟩ := inM_nat h4
  obtain ⟨k4, e4, b4, w4⟩ := inM_nat h5
  obtain ⟨k5, e5, b5, w5⟩ := inM_nat h6
  have hns : entNs s p q = [p, k1, s.flags, s.addr, q, s.data.length, k2, k3, k4, k5] := by unfold entNs; rw [w1, w2, w3, w4, w5]
  have hk8 : s.kind = 8 ↔ k1 = 8 := by omega
  have hk0 : k1 ≠ 0 := by omega
  have hD : dataT B [p, k1, s.flags, s.addr, q, s.data.length, k2, k3, k4, k5] = s.data := by
    show (if k1 = 0 then [] else if k1 = 8 then List.replicate s.data.length 0 else (B.drop q).take s.data.length) = s.data
    rw [if_neg hk0]
    by_cases hk : k1 = 8
    · rw [if_pos hk]; exact (h9 (hk8.2 hk)).symm
    · rw [if_neg hk]; exact (hin (fun h => hk (hk8.1 h))).2
  unfold two64 at *
  rw [hns]
  refine ⟨⟨rfl, fun j x z hx hz => ?_⟩, ?_, hD, by rw [w1]; rfl, fun tbl ht => ?_⟩
  · have hj : j < 10 := (List.getElem?_eq_some_iff.1 hx).1
    have h10 : j = 0 ∨ j = 1 ∨ j = 2 ∨ j = 3 ∨ j = 4 ∨ j = 5 ∨ j = 6 ∨ j = 7 ∨ j = 8 ∨ j = 9 := by omega
    have p4 : (256 : Nat) ^ 4 = 4294967296 := rfl
    have p8 : (256 : Nat) ^ 8 = 18446744073709551616 := rfl
    rcases h10 with rfl | rfl | rfl | rfl | rfl | rfl | rfl | rfl | rfl | rfl <;> (injection hx with hx; injection hz with hz; subst hx hz; first | (rw [p4]; omega) | (rw [p8]; omega))
  · show (if smallN [k2, k3, k4, k5, k1] = true then (if k1 = 0 then (0 : Int) else if k1 ≠ 8 ∧ B.length < q + s.data.length then 22 else if 65536 < s.data.length then 3 else 0) else 22) = 0
    rw [if_pos (by simp [smallN]; omega), if_neg hk0, if_neg (fun h => by have := (hin (fun h' => h.1 (hk8.1 h'))).1; omega), if_neg (by omega)]
  · have e : sectT B tbl [p, k1, s.flags, s.addr, q, s.data.length, k2, k3, k4, k5] = ⟨(atT tbl p).1, (k1 : Int), s.flags, s.addr, dataT B [p, k1, s.flags, s.addr, q, s.data.length, k2, k3, k4, k5], (k2 : Int), (k3 : Int), (k4 : Int), (k5 : Int)⟩ := rfl
    rw [e, ht, hD, ← e1, ← e2, ← e3, ← e4, ← e5]

/-! ### The names -/
theorem gat_knows (ns : List (List UInt8)) (hr : ∀ t ∈ ns, rightT t = true) (hn : ns.length ≤ 64) : Knows (gat ns).1 (gat ns).2 ns ∧ spanT (gat ns).1 ≤ 201 * ns.length := by
  have key : ∀ k, k ≤ ns.length → Knows (gat (ns.take k)).1 (gat (ns.take k)).2 (ns.take k) ∧ spanT (gat (ns.take k)).1 ≤ 201 * k := by
    intro k
    induction k with
    | zero => intro _; exact ⟨knows_nil, by simp [gat, spanT]⟩
    | succ k ih =>
      intro hk
      obtain ⟨h1, h2⟩ := ih (by omega)
      have h : ns[k]? = some (ns[k]'(by omega)) := List.getElem?_eq_getElem _
      have hrt := hr _ (List.mem_of_getElem? h)
      rw [gat_take h, show ns.take (k + 1) = ns.take k ++ [ns[k]'(by omega)] by rw [List.take_add_one, h]; rfl]
      exact ⟨knows_next h1 hrt (by omega), by have := (addT_ok hrt (l := (gat (ns.take k)).1) (by omega)).2.2; simp only; omega⟩
  have := key ns.length (Nat.le_refl _)
  rwa [List.take_length] at this
theorem gat_names (ns : List (List UInt8)) (hr : ∀ t ∈ ns, rightT t = true) (hn : ns.length ≤ 64) {i : Nat} {t : List UInt8} (h : ns[i]? = some t) : ∃ p, (gat ns).2[i]? = some p ∧ atT (putsT (gat ns).1) p = (t, 0) ∧ p < 65536 := by
  obtain ⟨h1, h2⟩ := gat_knows ns hr hn
  obtain ⟨h3, p, h4, h5⟩ := h1.2 i t h
  refine ⟨p, h4, atT_find (gat_good ns).1 h5, ?_⟩
  have := findT_lt h5
  omega
theorem gat_zero {ns : List (List UInt8)} (h : ns[0]? = some []) (hr : ∀ t ∈ ns, rightT t = true) (hn : ns.length ≤ 64) : (gat ns).2[0]? = some 0 ∧ atT (putsT (gat ns).1) 0 = ([], 0) := by
  have h1 : (gat ns).2[0]? = some 0 := by
    have key : ∀ k, 1 ≤ k → k ≤ ns.length → (gat (ns.take k)).2[0]? = some 0 := by
      intro k
      induction k with
      | zero => intro h; omega
      | succ k ih =>
        intro _ hk
        have hk' : ns[k]? = some (ns[k]'(by omega)) := List.getElem?_eq_getElem _
        rw [gat_take hk']
        rcases Nat.eq_zero_or_pos k with rfl | hp
        · rw [h] at hk'
          injection hk' with hk'
          rw [← hk']
          rfl
        · have := ih hp (by omega)
          rw [List.getElem?_append_left (by rw [gat_length ns k (by omega)]; omega)]
          exact this
    have hl : 0 < ns.length := (List.getElem?_eq_some_iff.1 h).1
    have := key ns.length hl (Nat.le_refl _)
    rwa [List.take_length] at this
  obtain ⟨p, h2, h3, _⟩ := gat_names ns hr hn h
  rw [h1] at h2
  injection h2 with h2
  subst h2
  exact ⟨h1, h3⟩

end Go.Proofs.YtnnemmkgjldhiaaDoor
