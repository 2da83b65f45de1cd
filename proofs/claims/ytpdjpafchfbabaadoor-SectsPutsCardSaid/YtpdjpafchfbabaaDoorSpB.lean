/-
  The document's Put of sections: plain facts; what goes along in its rounds.
-/

import Derived.Test.YtpdjpafchfbabaaDoorSeQ
import Derived.Test.YtpdjpafchfbabaaDoorSpA
namespace Go.Proofs.YtpdjpafchfbabaaDoor
open Go Go.RowKit

def exL : List Sect := [zeroS, ⟨shstrN, 3, 0, 0, [], 0, 0, 0, 0⟩]
theorem ex_len : (putR 1 62 exL).length = 208 := by kernel_rfl
theorem ex_sec : secE (putR 1 62 exL) = 0 := by kernel_rfl
theorem ex_head : secH (putR 1 62 exL) = hdV 1 62 80 2 1 := by kernel_rfl
theorem ex_two : (secL (putR 1 62 exL)).length = 2 := by kernel_rfl
theorem ex_name : (secL (putR 1 62 exL)).map (·.name) = [[], shstrN] := by kernel_rfl
theorem ex_puts : putE 1 62 exL = 0 := by kernel_rfl

/-! ### Sections that were told fit -/
theorem atT_small (l : List UInt8) (o : Nat) : (atT l o).1.length ≤ 200 := by
  unfold atT
  split
  · rcases readT_cases (l.drop o) with ⟨_, e⟩ | ⟨_, _, e⟩ | ⟨_, h, e⟩ <;> rw [e]
    · simp
    · simp
    · exact Nat.le_trans (List.length_take_le _ _) h
  · simp
theorem sectT_fits {l tbl : List UInt8} {o : Nat} (h : entE (entN l o) l.length = 0) : (sectT l tbl (entN l o)).Fits := by
  have hlt := entN_lt l o
  have hdl := dataT_len l _ (entN_length l o) h
  obtain ⟨b0, b1, b2, b3, b4, b5, b6, b7, b8, b9, h10⟩ : ∃ a0 a1 a2 a3 a4 a5 a6 a7 a8 a9 : Nat, entN l o = [a0, a1, a2, a3, a4, a5, a6, a7, a8, a9] := ⟨_, _, _, _, _, _, _, _, _, _, rfl⟩
  rw [h10] at h hlt hdl ⊢
  have hsm := entE_small h
  simp only [smallN, List.all_cons, List.all_nil, Bool.and_true, Bool.and_eq_true, decide_eq_true_eq] at hsm
  obtain ⟨h6, h7, h8, h9, h1⟩ := hsm
  have e : sectT l tbl [b0, b1, b2, b3, b4, b5, b6, b7, b8, b9] = ⟨(atT tbl b0).1, (b1 : Int), b2, b3, dataT l [b0, b1, b2, b3, b4, b5, b6, b7, b8, b9], (b6 : Int), (b7 : Int), (b8 : Int), (b9 : Int)⟩ := rfl
  rw [e]
  exact ⟨by unfold InI; simp only; omega, by unfold InI; simp only; omega, by unfold InI; simp only; omega, by unfold InI; simp only; omega, by unfold InI; simp only; omega, hlt b2 (by simp), hlt b3 (by simp), Nat.le_trans hdl (by decide), Nat.le_trans (atT_small tbl b0) (by decide)⟩
theorem secL_fits (l : List UInt8) : ∀ s ∈ secL l, s.Fits := by
  intro s hs
  by_cases h : secE l = 0
  · unfold secL at hs
    rw [if_pos h] at hs
    obtain ⟨i, hi, rfl⟩ := List.mem_map.1 hs
    have h2 : errUp l (offT l) (cntT l) = 0 := by
      unfold secE at h
      split at h
      · cases h
      · split at h
        · rename_i h1; exact absurd h h1
        · split at h
          · rename_i h1; exact absurd h h1
          · rename_i h1; simpa using h1
    exact sectT_fits (errUp_ok h2 i (by simpa using hi))
  · unfold secL at hs
    rw [if_neg h] at hs
    cases hs

/-- Sections that were told, as sections that lie. -/
theorem told_secs {w : World} {base : Nat} {v : Value} {ss : List Sect} (h : Told w base v ss) (hf : ∀ s ∈ ss, s.Fits) : ∃ (L : List Lay) (A : Option Addr) (c : Nat), secsOf L = ss ∧ v = .slice A L.length c ∧ L.length ≤ c ∧ c ≤ maxLen ∧ Secs w w.heap.size A L ∧ ∀ x ∈ L, Own w base x.dv x.s.data := by
  obtain ⟨L, h1, h2, h3⟩ := h
  obtain ⟨A, c, e, hc, hcm, hS⟩ := ownl_secs h2 (fun x hx => by
    obtain ⟨A', c', e, hle, hcm, hrd⟩ := own_slice (h3 x hx)
    unfold Lay.dv at e
    injection e with e1 e2 e3
    exact ⟨by rw [e1]; exact hrd, by rw [e3]; exact hle, by rw [e3]; exact hcm, hf _ (by rw [← h1]; exact List.mem_map_of_mem hx)⟩)
  exact ⟨L, A, c, h1, e, hc, hcm, hS, h3⟩

def exLay : List Lay := [⟨zeroS, none, 0⟩, ⟨⟨shstrN, 3, 0, 0, [], 0, 0, 0, 0⟩, none, 0⟩]
theorem ex_secs (w : World) : Secs (w.alloc (.cells (cellsL exLay).toArray 36)) (w.heap.size + 1) (some ⟨w.heap.size, 0, none⟩) exLay :=
  ⟨fun _ => ⟨w.heap.size, 0, rfl, by omega, fun i x hx j v hv => by
    rw [(Box.new w 36 (cellsL exLay).toArray).cell, Nat.zero_add]
    simpa using cellsL_at exLay i x j v hx hv⟩, fun x hx => by
    have hz : (zeroS).Fits := ⟨by unfold InI zeroS; simp only; omega, by unfold InI zeroS; simp only; omega, by unfold InI zeroS; simp only; omega, by unfold InI zeroS; simp only; omega, by unfold InI zeroS; simp only; omega, by decide, by decide, by decide, by decide⟩
    simp only [exLay, List.mem_cons, List.not_mem_nil, or_false] at hx
    rcases hx with rfl | rfl
    · exact ⟨Rd.nil_, Nat.le_refl _, Nat.zero_le _, hz⟩
    · exact ⟨Rd.nil_, Nat.le_refl _, Nat.zero_le _, ⟨by unfold InI; simp only; omega, by unfold InI; simp only; omega, by unfold InI; simp only; omega, by unfold InI; simp only; omega, by unfold InI; simp only; omega, by decide, by decide, by decide, by decide⟩⟩⟩

set_option maxRecDepth 10000 in
set_option maxHeartbeats 3200000 in
theorem sworks_any {w : World} (hM : Mg w) : Calls Tryd.prog 6 #[] w fun r w' => r = .returned (.bool true) ∧ Below w.heap.size w w' := by
  have hP := sput_any 1 62 (h := (ex_secs w).more (B' := (w.alloc (.cells (cellsL exLay).toArray 36)).heap.size) (by simp)) (hM.alloc _) 2 (by decide) (by decide)
  rw [show secsOf exLay = exL from rfl, ex_puts] at hP
  have hb0 : Below w.heap.size w (w.alloc (.cells (cellsL exLay).toArray 36)) := (Below.refl _ _).alloc (Nat.le_refl _) _
  have HP := Lib.hid hP
  have HB0 := Lib.hid hb0
  have hlit : (cellsL exLay).toArray = #[.string ⟨#[]⟩, .int .i64 0, .int .u64 0, .int .u64 0, .slice none 0 0, .int .i64 0, .int .i64 0, .int .i64 0, .int .i64 0, .string ⟨#[46, 115, 104, 115, 116, 114, 116, 97, 98]⟩, .int .i64 3, .int .u64 0, .int .u64 0, .slice none 0 0, .int .i64 0, .int .i64 0, .int .i64 0, .int .i64 0] := rfl
  rw [hlit] at HP HB0
  have hMp := hM.pos
  have HM := Lib.hid hM
  clear hP hb0 hlit hM
  go_enter Tryd.func6, Tryd.ntmps6
  go_wp2_with fail
  refine HP.out.mono ?_
  rintro r w1 ⟨v1, rfl, ho1, hb1⟩
  have HB1 := Lib.hid (HB0.out.trans (hb1.mono HB0.out.size))
  obtain ⟨A1, c1, rfl, hc1, _, hrd1⟩ := own_slice ho1
  have HT := Lib.hid (stake_any hrd1 c1 hc1 (by rw [ex_len]; decide) (HM.out.below HB1.out hMp))
  unfold STake at HT
  rw [ex_head, ex_sec, ex_len] at HT
  rw [ex_len]
  have htwo := ex_two
  have hnm := ex_name
  have hfit := secL_fits (putR 1 62 exL)
  clear ho1 hb1 hc1 hrd1 HP HB0
  generalize secL (putR 1 62 exL) = sl at *
  go_wp2_with fail
  refine HT.out.mono ?_
  rintro r w2 ⟨u2, rfl, hT2, hb2⟩
  obtain ⟨L, A, c, hLs, rfl, hLc, _, hS, _⟩ := told_secs hT2 hfit
  have hL2 : L.length = 2 := by rw [← htwo, ← hLs]; simp
  obtain ⟨x0, x1, rfl⟩ : ∃ x0 x1, L = [x0, x1] := by
    match L, hL2 with
    | [a, b], _ => exact ⟨a, b, rfl⟩
  have hnn : x0.s.name = [] ∧ x1.s.name = shstrN := by
    rw [← hLs] at hnm
    simp [secsOf] at hnm
    exact hnm
  have HB2 := Lib.hid (HB1.out.trans (hb2.mono HB1.out.size))
  have hb3 : Below w2.heap.size w2 (w2.alloc (.cells #[.int .i64 1, .int .i64 62, .int .u64 80, .int .i64 2, .int .i64 1] 26)) := (Below.refl _ _).alloc (Nat.le_refl _) _
  have hS3 := (hS.below hb3).more hb3.size
  obtain ⟨bb, oo, rfl, hbb, n0, -⟩ := hS3.at_ (i := 1) (x := x1) rfl
  have HF := Lib.hid (find_any hS3 c (by simp) shstrN)
  have hfd : findS (secsOf [x0, x1]) shstrN = 1 := by
    refine findS_some (k := 1) (s := x1.s) rfl (by decide) hnn.2 (fun j x hj hj0 _ => by omega)
  rw [hfd, show ByteArray.mk shstrN.toArray = ⟨#[46, 115, 104, 115, 116, 114, 116, 97, 98]⟩ from rfl] at HF
  rw [hnn.2, show ByteArray.mk shstrN.toArray = ⟨#[46, 115, 104, 115, 116, 114, 116, 97, 98]⟩ from rfl] at n0
  have HB3 := Lib.hid (HB2.out.trans (hb3.mono HB2.out.size))
  rw [show ([x0, x1] : List Lay).length = 2 from rfl] at *
  clear hS hS3 hb2 hb3 hT2 hfit hnm htwo hLs hL2 hnn hfd HT
  go_wp2_with (go_at_call 15; refine HF.out.mono ?_; rintro r w3 ⟨rfl, hb4⟩; have HB4 := Lib.hid (HB3.out.trans (hb4.mono HB3.out.size)))
  go_ret
  exact ⟨rfl, HB4.out⟩

end Go.Proofs.YtpdjpafchfbabaaDoor

namespace Go.Proofs.YtpdjpafchfbabaaDoor
open Go Go.RowKit

theorem okS_parts {s : Sect} (h : okS s = true) : 1 ≤ s.kind ∧ inM s.kind = true ∧ inM s.link = true ∧ inM s.inf = true ∧ inM s.algn = true ∧ inM s.ent = true ∧ rightT s.name = true ∧ s.data.length ≤ 65536 ∧ (s.kind = 8 → s.data = List.replicate s.data.length 0) := by
  unfold okS at h
  simp only [Bool.and_eq_true, decide_eq_true_eq, Bool.or_eq_true, smallI, List.all_cons, List.all_nil, Bool.and_true] at h
  obtain ⟨h1, ⟨h2, h3, h4, h5, h6⟩, h7, h8, h9⟩ := h
  refine ⟨h1, h2, h3, h4, h5, h6, h7, h8, fun hk => ?_⟩
  rcases h9 with h9 | h9
  · exact absurd hk h9
  · have := List.count_eq_length.1 h9
    exact List.eq_replicate_of_mem fun b hb => (this b hb).symm

/-! ### The names -/
theorem gat_knows (ns : List (List UInt8)) (hr : ∀ t ∈ ns, rightT t = true) (hn : ns.length ≤ 64) : Knows (gat ns).1 (gat ns).2 ns ∧ spanT (gat ns).1 ≤ 201 * ns.length := by
  have key : ∀ k, k ≤ ns.length → Knows (gat (ns.take k)).1 (gat (ns.take k)).2 (ns.take k) ∧ spanT (gat (ns.take k)).1 ≤ 201 * k := by
    intro k
    induction k with
    | zero => intro _; exact ⟨knows_nil, by simp [gat, spanT]⟩
    | succ k ih =>
      intro hk
      obtain ⟨h1, h2⟩ := ih (by omega)
      have h : ns[k]? = some (ns[k]'(by omega)) := List.getElem?_eq_getElem _
      have hrt := hr _ (List.mem_of_getElem? h)
      rw [gat_take h, show ns.take (k + 1) = ns.take k ++ [ns[k]'(by omega)] by rw [List.take_add_one, h]; rfl]
      exact ⟨knows_next h1 hrt (by omega), by have := (addT_ok hrt (l := (gat (ns.take k)).1) (by omega)).2.2; simp only; omega⟩
  have := key ns.length (Nat.le_refl _)
  rwa [List.take_length] at this
theorem gat_names (ns : List (List UInt8)) (hr : ∀ t ∈ ns, rightT t = true) (hn : ns.length ≤ 64) {i : Nat} {t : List UInt8} (h : ns[i]? = some t) : ∃ p, (gat ns).2[i]? = some p ∧ atT (putsT (gat ns).1) p = (t, 0) ∧ p < 65536 := by
  obtain ⟨h1, h2⟩ := gat_knows ns hr hn
  obtain ⟨h3, p, h4, h5⟩ := h1.2 i t h
  refine ⟨p, h4, atT_find (gat_good ns).1 h5, ?_⟩
  have := findT_lt h5
  omega
theorem gat_zero {ns : List (List UInt8)} (h : ns[0]? = some []) (hr : ∀ t ∈ ns, rightT t = true) (hn : ns.length ≤ 64) : (gat ns).2[0]? = some 0 ∧ atT (putsT (gat ns).1) 0 = ([], 0) := by
  have h1 : (gat ns).2[0]? = some 0 := by
    have key : ∀ k, 1 ≤ k → k ≤ ns.length → (gat (ns.take k)).2[0]? = some 0 := by
      intro k
      induction k with
      | zero => intro h; omega
      | succ k ih =>
        intro _ hk
        have hk' : ns[k]? = some (ns[k]'(by omega)) := List.getElem?_eq_getElem _
        rw [gat_take hk']
        rcases Nat.eq_zero_or_pos k with rfl | hp
        · rw [h] at hk'
          injection hk' with hk'
          rw [← hk']
          rfl
        · have := ih hp (by omega)
          rw [List.getElem?_append_left (by rw [gat_length ns k (by omega)]; omega)]
          exact this
    have hl : 0 < ns.length := (List.getElem?_eq_some_iff.1 h).1
    have := key ns.length hl (Nat.le_refl _)
    rwa [List.take_length] at this
  obtain ⟨p, h2, h3, _⟩ := gat_names ns hr hn h
  rw [h1] at h2
  injection h2 with h2
  subst h2
  exact ⟨h1, h3⟩

end Go.Proofs.YtpdjpafchfbabaaDoor

namespace Go.Proofs.YtpdjpafchfbabaaDoor
open Go Go.RowKit

theorem tabled_get {l : List Sect} {t : List UInt8} {m : Nat} (hm : l.length = m + 1) {z : Sect} (hz : l[m]? = some z) (i : Nat) : (tabled l t)[i]? = if i = m then some { z with data := t } else l[i]? := by
  unfold tabled
  rw [show l.length - 1 = m by omega, hz]
  simp only
  by_cases h : i = m
  · subst h
    rw [if_pos rfl, List.getElem?_set_self (by omega)]
  · rw [if_neg h, List.getElem?_set_ne (fun e => h e.symm)]
/-- What sections that may be are. -/
structure RightIs7 (l : List Sect) (m : Nat) (z : Sect) : Prop where
  len : l.length = m + 1
  one : 1 ≤ m
  most : m ≤ 63
  first : l[0]? = some zeroS
  last : l[m]? = some z
  kind : z.kind = 3
  find : findS l shstrN = (m : Int)
  ok : ∀ (i : Nat) (s : Sect), 1 ≤ i → l[i]? = some s → okS s = true
theorem right_is {l : List Sect} (h : rightS l = true) : ∃ m z, RightIs7 l m z := by
  obtain ⟨h2, h64⟩ := right_len h
  unfold rightS at h
  simp only [Bool.and_eq_true, decide_eq_true_eq] at h
  obtain ⟨_, h1, h3, h4, h5⟩ := h
  obtain ⟨m, hm⟩ : ∃ m, l.length = m + 1 := ⟨l.length - 1, by omega⟩
  rw [show l.length - 1 = m by omega] at h3 h4
  have hx : l[0]? = some (l[0]'(by omega)) := List.getElem?_eq_getElem _
  have hz : l[m]? = some (l[m]'(by omega)) := List.getElem?_eq_getElem _
  rw [hx, Option.any_some] at h1
  rw [hz, Option.any_some, decide_eq_true_eq] at h3
  refine ⟨m, _, hm, by omega, by omega, by rw [hx, sameS_eq h1], hz, h3, h4, fun i s hi hs => ?_⟩
  have hmem : s ∈ l.drop 1 := by
    have : (l.drop 1)[i - 1]? = some s := by rw [List.getElem?_drop, show 1 + (i - 1) = i by omega]; exact hs
    exact List.mem_of_getElem? this
  exact (List.all_eq_true.1 h5) s hmem
theorem right_names {l : List Sect} {m : Nat} {z : Sect} (h : RightIs7 l m z) : ∀ t ∈ l.map (·.name), rightT t = true := by
  intro t ht
  obtain ⟨s, hs, rfl⟩ := List.mem_map.1 ht
  obtain ⟨i, hi, e⟩ := List.getElem_of_mem hs
  have hs' : l[i]? = some s := by rw [← e]; exact List.getElem?_eq_getElem hi
  rcases Nat.eq_zero_or_pos i with rfl | hp
  · rw [h.first] at hs'
    injection hs' with hs'
    subst hs'
    rfl
  · exact (okS_parts (h.ok i s hp hs')).2.2.2.2.2.2.1

end Go.Proofs.YtpdjpafchfbabaaDoor

namespace Go.Proofs.YtpdjpafchfbabaaDoor
open Go Go.RowKit

/-! ### The bytes and the entries, round by round -/
/-- The bytes behind k rounds, the entries' bytes, where a round's bytes stand. -/
def docB (ss : List Sect) (ps : List Nat) (k : Nat) : List UInt8 := (layK ss ps (k - 1)).1
def docE (ss : List Sect) (ps : List Nat) (k : Nat) : List UInt8 := if k = 0 then [] else entsB (layK ss ps (k - 1)).2
def docO (ss : List Sect) (ps : List Nat) (k : Nat) : Nat := if k = 0 then 0 else (padB (docB ss ps k)).length
section
variable {ss : List Sect} {ps : List Nat} {k p : Nat} {s : Sect}
theorem docO_next (hk : 1 ≤ k) : docO ss ps k = (padB (docB ss ps k)).length := by unfold docO; rw [if_neg (by omega)]
theorem docB_next (hk : 1 ≤ k) (hs : ss[k]? = some s) (hp : ps[k]? = some p) : docB ss ps (k + 1) = padB (docB ss ps k) ++ (if s.kind = 8 then [] else s.data) := by
  obtain ⟨j, rfl⟩ : ∃ j, k = j + 1 := ⟨k - 1, by omega⟩
  unfold docB
  rw [Nat.add_sub_cancel, Nat.add_sub_cancel, layK_next hs hp]
theorem docE_step (hs : ss[k]? = some s) (hp : ps[k]? = some p) (h0 : k = 0 → entNs s p 0 = List.replicate 10 0) : docE ss ps (k + 1) = docE ss ps k ++ entB (entNs s p (docO ss ps k)) := by
  rcases k with _ | j
  · have e0 := h0 rfl
    show entsB (layK ss ps 0).2 = [] ++ entB (entNs s p 0)
    rw [e0]
    rfl
  · unfold docE docO docB
    rw [if_neg (by omega), if_neg (by omega), if_neg (by omega), Nat.add_sub_cancel, Nat.add_sub_cancel, layK_next hs hp]
    simp [entsB]
theorem docB_size (hd : ∀ s ∈ ss, s.data.length ≤ 100000) (hk : k ≤ 64) : (docB ss ps k).length ≤ 10000000 := by
  have := layK_size ss ps hd (k - 1)
  have h2 : (k - 1) * 100007 ≤ 64 * 100007 := Nat.mul_le_mul_right _ (by omega)
  unfold docB
  omega
theorem docE_size (hk : k ≤ 64) : (docE ss ps k).length ≤ 4096 := by
  have hc : ∀ n, (layK ss ps n).2.length ≤ n + 1 := by
    intro n
    induction n with
    | zero => simp [layK]
    | succ n ih =>
      rcases hs : ss[n + 1]? with _ | s
      · rw [layK, hs]; exact Nat.le_trans ih (by omega)
      · rcases hp : ps[n + 1]? with _ | p
        · rw [layK, hs, hp]; exact Nat.le_trans ih (by omega)
        · rw [layK_next hs hp, List.length_append]; simp; omega
  unfold docE
  split
  · simp
  · rw [entsB_length _ (layK_tens _ _ _)]
    have := hc (k - 1)
    omega
end
theorem padN_next {n j : Nat} (hj : j ≤ padN n) : (0 < (n + j) % 8 ↔ j < padN n) := by unfold padN at *; omega

/-- 'append' of bytes at a step of a region that draws, by the operation's having no guard (not by reading all slots). -/
theorem step_append_free {P : Program} {w : World} {ops : Array Oper} {o : Oper} {a : Act} {K : Act → World → Prop} {Q : Exit → Act → World → Prop} {E : Prop} (hgd : o.guard = none) (s x : Operand) (t : TypeId)
    (ho : o.op = .call { callee := .builtin .append, args := #[s, x], argTypes := #[t, t] })
    (base : Nat) (i : TypeInfo) (ht : P.underlying t = some (.slice 5)) (hi : P.info? 5 = some i) (hz : i.zero = some (.int .u8 0)) (hs : i.size = 1) (hy : i.bytes = 1)
    (v : Value) (l : List UInt8) (hv : a.eval s = v) (hown : Own w base v l) (B : Nat) (A : Option Addr) (n c : Nat) (m : List UInt8) (hn : m.length = n) (hx : a.eval x = .slice A n c) (hr : Rd w B A m)
    (hl : l.length + m.length ≤ 140737488355328) (hbase : base ≤ w.heap.size)
    (h : ∀ v' w', Own w' base v' (l ++ m) → w.grownBy w' v.ownBlock → (v'.ownBlock = v.ownBlock ∨ v'.ownBlock = some w.heap.size) → K (a.put o.dst v') w') :
    if Region.wanted o (yielded ops a.tmps) = true then Oper.wp P o a w K Q else E :=
  step_append_bytes (by simp [Region.wanted, hgd]) s x t ho base i ht hi hz hs hy v l hv hown B A n c m hn hx hr hl hbase h

/-! ### What goes along in the rounds -/
/-- The bytes, the entries, the pool of names; nothing that was there has turned. -/
structure PutSt (w wr : World) (g : Nat) (T : List (List UInt8)) (u v : Value) (B E : List UInt8) : Prop where
  b : Own wr w.heap.size u B
  e : Own wr w.heap.size v E
  ap : ∀ x, u.ownBlock = some x → v.ownBlock ≠ some x
  p : ∃ t, RefAt wr w.heap.size g t T
  below : Below w.heap.size w wr
section
variable {w wr w' : World} {g : Nat} {T : List (List UInt8)} {u v : Value} {B E : List UInt8}
theorem PutSt.size (h : PutSt w wr g T u v B E) : w.heap.size ≤ wr.heap.size := h.below.size
theorem PutSt.later (h : PutSt w wr g T u v B E) (hb : Below wr.heap.size wr w') : PutSt w w' g T u v B E :=
  ⟨own_below h.b hb, own_below h.e hb, h.ap, by obtain ⟨t, ht⟩ := h.p; exact ⟨t, ht.below hb⟩, h.below.trans (hb.mono h.size)⟩
theorem PutSt.drewN (h : PutSt w wr g T u v B E) (n : Nat) : PutSt w (wr.drewN n) g T u v B E := h.later (below_drewN (Below.refl _ _) n)
theorem PutSt.alloc (h : PutSt w wr g T u v B E) (o : Obj) : PutSt w (wr.alloc o) g T u v B E := h.later ((Below.refl _ _).alloc (Nat.le_refl _) o)
/-- The pool behind a step over bytes. -/
theorem ref_bytes {base b g : Nat} {t : Value} (h : RefAt wr base g t T) (hb : Only b (CellsOf 5) wr w') : RefAt w' base g t T :=
  h.kept hb (fun cs f hh => absurd (show 80 = 5 from hh) (by decide)) (fun cs f hh => absurd (show 9 = 5 from hh) (by decide))
theorem PutSt.turns (h : PutSt w wr g T u v B E) (hg : wr.grownBy w' u.ownBlock) : Only w.heap.size (CellsOf 5) wr w' := row_turns h.b hg h.size
theorem PutSt.turnsE (h : PutSt w wr g T u v B E) (hg : wr.grownBy w' v.ownBlock) : Only w.heap.size (CellsOf 5) wr w' := row_turns h.e hg h.size
theorem only_entries {w0 w w' wr : World} {g : Nat} {T : List (List UInt8)} {u v : Value} {B E : List UInt8} (h : PutSt w wr g T u v B E) (ho : Only w.heap.size (CellsOf 5) w0 wr) (hg : wr.grownBy w' v.ownBlock) : Only w.heap.size (CellsOf 5) w0 w' := ho.trans (h.turnsE hg)
/-- More bytes. -/
theorem PutSt.body (h : PutSt w wr g T u v B E) {u' : Value} {B' : List UInt8} (hown : Own w' w.heap.size u' B') (hg : wr.grownBy w' u.ownBlock) (ha : u'.ownBlock = u.ownBlock ∨ u'.ownBlock = some wr.heap.size) : PutSt w w' g T u' v B' E := by
  have ho := h.turns hg
  refine ⟨hown, World.ownsRow.kept (w := wr) h.e hg ?_, ?_, ?_, h.below.trans ho.1⟩
  · rcases hv : v.ownBlock with _ | x
    · exact .inl rfl
    · refine .inr fun e => ?_
      exact h.ap x e.symm hv
  · intro x hx hv
    rcases ha with ha | ha
    · exact h.ap x (ha ▸ hx) hv
    · rw [ha] at hx
      injection hx with hx
      have := (own_ge h.e x hv).2
      omega
  · obtain ⟨t, ht⟩ := h.p
    exact ⟨t, ref_bytes ht ho⟩
/-- More entries. -/
theorem PutSt.more (h : PutSt w wr g T u v B E) {v' : Value} {E' : List UInt8} (hown : Own w' w.heap.size v' E') (hg : wr.grownBy w' v.ownBlock) (ha : v'.ownBlock = v.ownBlock ∨ v'.ownBlock = some wr.heap.size) : PutSt w w' g T u v' B E' := by
  have ho := h.turnsE hg
  refine ⟨World.ownsRow.kept (w := wr) h.b hg ?_, hown, ?_, ?_, h.below.trans ho.1⟩
  · rcases hv : u.ownBlock with _ | x
    · exact .inl rfl
    · exact .inr fun e => h.ap x hv e.symm
  · intro x hx hv
    rcases ha with ha | ha
    · exact h.ap x hx (ha ▸ hv)
    · rw [ha] at hv
      injection hv with hv
      have := (own_ge h.b x hx).2
      omega
  · obtain ⟨t, ht⟩ := h.p
    exact ⟨t, ref_bytes ht ho⟩

theorem own_apart {b c : Nat} {u v : Value} {l m : List UInt8} (h : Own wr b u l) (h' : Own w' c v m) (hc : wr.heap.size ≤ c) : u.ownBlock = none ∨ u.ownBlock ≠ v.ownBlock := by
  rcases hu : u.ownBlock with _ | x
  · exact .inl rfl
  · refine .inr fun e => ?_
    have h1 := (own_ge h x hu).2
    have h2 := (own_ge h' x e.symm).1
    omega
theorem box_bytes {base k : Nat} {t : TypeId} {cs : Array Value} (h : Box wr k t cs) (ht : t ≠ 5) (hb : Only base (CellsOf 5) wr w') : Box w' k t cs := hb.2 _ _ h (fun hh => ht hh)
theorem box_old {k : Nat} {t : TypeId} {cs : Array Value} (h : Box wr k t cs) (o : Obj) : Box (wr.alloc o) k t cs := h.below ((Below.refl wr.heap.size wr).alloc (Nat.le_refl _) o) h.lt
theorem padB_eq (l : List UInt8) (z : Nat) (h : padN l.length = z) : padB l = l ++ List.replicate z 0 := by rw [← h]; rfl
theorem zeros_more (l : List UInt8) (j : Nat) : l ++ List.replicate j 0 ++ [0] = l ++ List.replicate (j + 1) 0 := by rw [List.replicate_succ', List.append_assoc]
theorem docO_size {ss : List Sect} {ps : List Nat} {k : Nat} (hd : ∀ s ∈ ss, s.data.length ≤ 100000) (hk : k ≤ 64) : docO ss ps k ≤ 10000008 := by
  unfold docO
  split
  · omega
  · rw [padB_length]
    have := docB_size (ss := ss) (ps := ps) hd hk
    have := padN_lt (docB ss ps k).length
    omega

/-- Bytes that lie apart from a row of the call's own. -/
structure RdOff (w : World) (u : Value) (A : Option Addr) (l : List UInt8) : Prop where
  rd : Rd w w.heap.size A l
  off : 0 < l.length → ∀ b o, A = some ⟨b, o, none⟩ → u.ownBlock ≠ some b
theorem RdOff.later {A : Option Addr} {l : List UInt8} (h : RdOff wr u A l) (hb : Below wr.heap.size wr w') : RdOff w' u A l := ⟨(h.rd.below hb).more hb.size, h.off⟩
theorem RdOff.body {A : Option Addr} {l : List UInt8} (h : RdOff wr u A l) {u' : Value} (hg : wr.grownBy w' u.ownBlock) (ha : u'.ownBlock = u.ownBlock ∨ u'.ownBlock = some wr.heap.size) : RdOff w' u' A l := by
  refine ⟨fun hl => ?_, fun hl b o e hb => ?_⟩
  · obtain ⟨b, o, e, hlt, hc⟩ := h.rd hl
    refine ⟨b, o, e, Nat.lt_of_lt_of_le hlt hg.size, fun j x hx => ?_⟩
    rw [← hc j x hx]
    exact World.cell?_of_block (a := ⟨b, o + j, none⟩) (hg.block b hlt (fun e2 => h.off hl b o e e2.symm))
  · rcases ha with ha | ha
    · exact h.off hl b o e (ha ▸ hb)
    · rw [ha] at hb
      injection hb with hb
      obtain ⟨b', o', e', hlt, _⟩ := h.rd hl
      rw [e] at e'
      injection e' with e'
      injection e' with e1 _ _
      omega
theorem RdOff.of_old {w wr : World} {g : Nat} {T : List (List UInt8)} {u v : Value} {B E : List UInt8} {A : Option Addr} {l : List UInt8} (h : PutSt w wr g T u v B E) (hr : Rd w w.heap.size A l) : RdOff wr u A l :=
  ⟨(hr.below h.below).more h.size, fun hl b o e hb => by
    obtain ⟨b', o', e', hlt, _⟩ := hr hl
    rw [e] at e'
    injection e' with e'
    injection e' with e1 _ _
    have := (own_ge h.b b hb).1
    omega⟩
theorem RdOff.of_new {w wr : World} {g : Nat} {T : List (List UInt8)} {u v : Value} {B E : List UInt8} {d : Value} {l : List UInt8} (h : PutSt w wr g T u v B E) (ho : Own w' wr.heap.size d l) : ∃ A c, d = .slice A l.length c ∧ RdOff w' u A l := by
  obtain ⟨A, c, rfl, _, _, hr⟩ := own_slice ho
  refine ⟨A, c, rfl, hr, fun hl b o e hb => ?_⟩
  have h1 := (own_ge h.b b hb).2
  have h2 := (own_ge ho b (by rw [e]; rfl)).1
  omega
end

end Go.Proofs.YtpdjpafchfbabaaDoor
