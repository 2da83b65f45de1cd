/-
  The document's Take of sections: what goes along in its rounds.
-/

import Derived.Test.YtpdjpafchfbabaaDoorSeQ
import Derived.Test.YtpdjpafchfbabaaDoorStB
import Derived.Test.YtpdjpafchfbabaaDoorCsS
namespace Go.Proofs.YtpdjpafchfbabaaDoor
open Go Go.RowKit

def exL : List Sect := [zeroS, ⟨shstrN, 3, 0, 0, [], 0, 0, 0, 0⟩]
theorem ex_len : (putR 1 62 exL).length = 208 := by kernel_rfl
theorem ex_sec : secE (putR 1 62 exL) = 0 := by kernel_rfl
theorem ex_head : secH (putR 1 62 exL) = hdV 1 62 80 2 1 := by kernel_rfl
theorem ex_two : (secL (putR 1 62 exL)).length = 2 := by kernel_rfl
theorem ex_name : (secL (putR 1 62 exL)).map (·.name) = [[], shstrN] := by kernel_rfl
theorem ex_puts : putE 1 62 exL = 0 := by kernel_rfl

/-! ### Sections that were told fit -/
theorem atT_small (l : List UInt8) (o : Nat) : (atT l o).1.length ≤ 200 := by
  unfold atT
  split
  · rcases readT_cases (l.drop o) with ⟨_, e⟩ | ⟨_, _, e⟩ | ⟨_, h, e⟩ <;> rw [e]
    · simp
    · simp
    · exact Nat.le_trans (List.length_take_le _ _) h
  · simp
theorem sectT_fits {l tbl : List UInt8} {o : Nat} (h : entE (entN l o) l.length = 0) : (sectT l tbl (entN l o)).Fits := by
  have hlt := entN_lt l o
  have hdl := dataT_len l _ (entN_length l o) h
  obtain ⟨b0, b1, b2, b3, b4, b5, b6, b7, b8, b9, h10⟩ : ∃ a0 a1 a2 a3 a4 a5 a6 a7 a8 a9 : Nat, entN l o = [a0, a1, a2, a3, a4, a5, a6, a7, a8, a9] := ⟨_, _, _, _, _, _, _, _, _, _, rfl⟩
  rw [h10] at h hlt hdl ⊢
  have hsm := entE_small h
  simp only [smallN, List.all_cons, List.all_nil, Bool.and_true, Bool.and_eq_true, decide_eq_true_eq] at hsm
  obtain ⟨h6, h7, h8, h9, h1⟩ := hsm
  have e : sectT l tbl [b0, b1, b2, b3, b4, b5, b6, b7, b8, b9] = ⟨(atT tbl b0).1, (b1 : Int), b2, b3, dataT l [b0, b1, b2, b3, b4, b5, b6, b7, b8, b9], (b6 : Int), (b7 : Int), (b8 : Int), (b9 : Int)⟩ := rfl
  rw [e]
  exact ⟨by unfold InI; simp only; omega, by unfold InI; simp only; omega, by unfold InI; simp only; omega, by unfold InI; simp only; omega, by unfold InI; simp only; omega, hlt b2 (by simp), hlt b3 (by simp), Nat.le_trans hdl (by decide), Nat.le_trans (atT_small tbl b0) (by decide)⟩
theorem secL_fits (l : List UInt8) : ∀ s ∈ secL l, s.Fits := by
  intro s hs
  by_cases h : secE l = 0
  · unfold secL at hs
    rw [if_pos h] at hs
    obtain ⟨i, hi, rfl⟩ := List.mem_map.1 hs
    have h2 : errUp l (offT l) (cntT l) = 0 := by
      unfold secE at h
      split at h
      · cases h
      · split at h
        · rename_i h1; exact absurd h h1
        · split at h
          · rename_i h1; exact absurd h h1
          · rename_i h1; simpa using h1
    exact sectT_fits (errUp_ok h2 i (by simpa using hi))
  · unfold secL at hs
    rw [if_neg h] at hs
    cases hs

/-- Sections that were told, as sections that lie. -/
theorem told_secs {w : World} {base : Nat} {v : Value} {ss : List Sect} (h : Told w base v ss) (hf : ∀ s ∈ ss, s.Fits) : ∃ (L : List Lay) (A : Option Addr) (c : Nat), secsOf L = ss ∧ v = .slice A L.length c ∧ L.length ≤ c ∧ c ≤ maxLen ∧ Secs w w.heap.size A L ∧ ∀ x ∈ L, Own w base x.dv x.s.data := by
  obtain ⟨L, h1, h2, h3⟩ := h
  obtain ⟨A, c, e, hc, hcm, hS⟩ := ownl_secs h2 (fun x hx => by
    obtain ⟨A', c', e, hle, hcm, hrd⟩ := own_slice (h3 x hx)
    unfold Lay.dv at e
    injection e with e1 e2 e3
    exact ⟨by rw [e1]; exact hrd, by rw [e3]; exact hle, by rw [e3]; exact hcm, hf _ (by rw [← h1]; exact List.mem_map_of_mem hx)⟩)
  exact ⟨L, A, c, h1, e, hc, hcm, hS, h3⟩

def exLay : List Lay := [⟨zeroS, none, 0⟩, ⟨⟨shstrN, 3, 0, 0, [], 0, 0, 0, 0⟩, none, 0⟩]
theorem ex_secs (w : World) : Secs (w.alloc (.cells (cellsL exLay).toArray 36)) (w.heap.size + 1) (some ⟨w.heap.size, 0, none⟩) exLay :=
  ⟨fun _ => ⟨w.heap.size, 0, rfl, by omega, fun i x hx j v hv => by
    rw [(Box.new w 36 (cellsL exLay).toArray).cell, Nat.zero_add]
    simpa using cellsL_at exLay i x j v hx hv⟩, fun x hx => by
    have hz : (zeroS).Fits := ⟨by unfold InI zeroS; simp only; omega, by unfold InI zeroS; simp only; omega, by unfold InI zeroS; simp only; omega, by unfold InI zeroS; simp only; omega, by unfold InI zeroS; simp only; omega, by decide, by decide, by decide, by decide⟩
    simp only [exLay, List.mem_cons, List.not_mem_nil, or_false] at hx
    rcases hx with rfl | rfl
    · exact ⟨Rd.nil_, Nat.le_refl _, Nat.zero_le _, hz⟩
    · exact ⟨Rd.nil_, Nat.le_refl _, Nat.zero_le _, ⟨by unfold InI; simp only; omega, by unfold InI; simp only; omega, by unfold InI; simp only; omega, by unfold InI; simp only; omega, by unfold InI; simp only; omega, by decide, by decide, by decide, by decide⟩⟩⟩

set_option maxRecDepth 10000 in
set_option maxHeartbeats 3200000 in
theorem sworks_any {w : World} (hM : Mg w) : Calls Tryd.prog 6 #[] w fun r w' => r = .returned (.bool true) ∧ Below w.heap.size w w' := by
  have hP := sput_any 1 62 (h := (ex_secs w).more (B' := (w.alloc (.cells (cellsL exLay).toArray 36)).heap.size) (by simp)) (hM.alloc _) 2 (by decide) (by decide)
  rw [show secsOf exLay = exL from rfl, ex_puts] at hP
  have hb0 : Below w.heap.size w (w.alloc (.cells (cellsL exLay).toArray 36)) := (Below.refl _ _).alloc (Nat.le_refl _) _
  have HP := Lib.hid hP
  have HB0 := Lib.hid hb0
  have hlit : (cellsL exLay).toArray = #[.string ⟨#[]⟩, .int .i64 0, .int .u64 0, .int .u64 0, .slice none 0 0, .int .i64 0, .int .i64 0, .int .i64 0, .int .i64 0, .string ⟨#[46, 115, 104, 115, 116, 114, 116, 97, 98]⟩, .int .i64 3, .int .u64 0, .int .u64 0, .slice none 0 0, .int .i64 0, .int .i64 0, .int .i64 0, .int .i64 0] := rfl
  rw [hlit] at HP HB0
  have hMp := hM.pos
  have HM := Lib.hid hM
  clear hP hb0 hlit hM
  go_enter Tryd.func6, Tryd.ntmps6
  go_wp2_with fail
  refine HP.out.mono ?_
  rintro r w1 ⟨v1, rfl, ho1, hb1⟩
  have HB1 := Lib.hid (HB0.out.trans (hb1.mono HB0.out.size))
  obtain ⟨A1, c1, rfl, hc1, _, hrd1⟩ := own_slice ho1
  have HT := Lib.hid (stake_any hrd1 c1 hc1 (by rw [ex_len]; decide) (HM.out.below HB1.out hMp))
  unfold STake at HT
  rw [ex_head, ex_sec, ex_len] at HT
  rw [ex_len]
  have htwo := ex_two
  have hnm := ex_name
  have hfit := secL_fits (putR 1 62 exL)
  clear ho1 hb1 hc1 hrd1 HP HB0
  generalize secL (putR 1 62 exL) = sl at *
  go_wp2_with fail
  refine HT.out.mono ?_
  rintro r w2 ⟨u2, rfl, hT2, hb2⟩
  obtain ⟨L, A, c, hLs, rfl, hLc, _, hS, _⟩ := told_secs hT2 hfit
  have hL2 : L.length = 2 := by rw [← htwo, ← hLs]; simp
  obtain ⟨x0, x1, rfl⟩ : ∃ x0 x1, L = [x0, x1] := by
    match L, hL2 with
    | [a, b], _ => exact ⟨a, b, rfl⟩
  have hnn : x0.s.name = [] ∧ x1.s.name = shstrN := by
    rw [← hLs] at hnm
    simp [secsOf] at hnm
    exact hnm
  have HB2 := Lib.hid (HB1.out.trans (hb2.mono HB1.out.size))
  have hb3 : Below w2.heap.size w2 (w2.alloc (.cells #[.int .i64 1, .int .i64 62, .int .u64 80, .int .i64 2, .int .i64 1] 26)) := (Below.refl _ _).alloc (Nat.le_refl _) _
  have hS3 := (hS.below hb3).more hb3.size
  obtain ⟨bb, oo, rfl, hbb, n0, -⟩ := hS3.at_ (i := 1) (x := x1) rfl
  have HF := Lib.hid (find_any hS3 c (by simp) shstrN)
  have hfd : findS (secsOf [x0, x1]) shstrN = 1 := by
    refine findS_some (k := 1) (s := x1.s) rfl (by decide) hnn.2 (fun j x hj hj0 _ => by omega)
  rw [hfd, show ByteArray.mk shstrN.toArray = ⟨#[46, 115, 104, 115, 116, 114, 116, 97, 98]⟩ from rfl] at HF
  rw [hnn.2, show ByteArray.mk shstrN.toArray = ⟨#[46, 115, 104, 115, 116, 114, 116, 97, 98]⟩ from rfl] at n0
  have HB3 := Lib.hid (HB2.out.trans (hb3.mono HB2.out.size))
  rw [show ([x0, x1] : List Lay).length = 2 from rfl] at *
  clear hS hS3 hb2 hb3 hT2 hfit hnm htwo hLs hL2 hnn hfd HT
  go_wp2_with (go_at_call 15; refine HF.out.mono ?_; rintro r w3 ⟨rfl, hb4⟩; have HB4 := Lib.hid (HB3.out.trans (hb4.mono HB3.out.size)))
  go_ret
  exact ⟨rfl, HB4.out⟩

end Go.Proofs.YtpdjpafchfbabaaDoor

namespace Go.Proofs.YtpdjpafchfbabaaDoor
open Go Go.RowKit

/-- What the rounds of the document's Take may turn. -/
def TakeObj : Obj → Prop
  | .cells _ t _ => t = 58 ∨ t = 36 ∨ t = 24
  | _ => False
theorem Only.wide {base : Nat} {bad bad' : Obj → Prop} {a b : World} (h : Only base bad a b) (hs : ∀ o, bad o → bad' o) : Only base bad' a b := ⟨h.1, fun k o hk hn => h.2 k o hk (fun hb => hn (hs o hb))⟩
theorem take_sect {base : Nat} {a b : World} (h : Only base (CellsOf 36) a b) : Only base TakeObj a b := h.wide fun o ho => by
  cases o <;> first | exact Or.inr (Or.inl ho) | exact absurd ho id
theorem take_nums {base : Nat} {a b : World} (h : Only base (CellsOf 24) a b) : Only base TakeObj a b := h.wide fun o ho => by
  cases o <;> first | exact Or.inr (Or.inr ho) | exact absurd ho id
theorem RR.only {B : Nat} {w w' : World} {g : Nat} {v : Value} {l : List UInt8} {a : Nat} {e : Int} {bad : Obj → Prop} (h : RR B w g v l a e) (hb : Only B bad w w') (hC : ∀ cs f, ¬ bad (.cells cs 58 f)) : RR B w' g v l a e :=
  ⟨hb.2 _ _ h.1 (hC _ _), h.2.1.imp fun _ => Exists.imp fun _ k => ⟨k.1, k.2.1, k.2.2.1, k.2.2.2.below hb.1⟩, h.2.2.1, h.2.2.2⟩

/-- Sections' bytes: below a place, or rows of the call's own. -/
def KeepL (w : World) (B : Nat) (L : List Lay) : Prop := ∀ x ∈ L, (Rd w B x.A x.s.data ∨ Own w B x.dv x.s.data) ∧ x.s.data.length ≤ x.c ∧ x.c ≤ maxLen
theorem KeepL.only {w w' : World} {B : Nat} {L : List Lay} {bad : Obj → Prop} (h : KeepL w B L) (hb : Only B bad w w') (hn : ∀ cs f, ¬ bad (.cells cs 5 f)) : KeepL w' B L := fun x hx => by
  obtain ⟨h1, h2⟩ := h x hx
  exact ⟨h1.imp (fun h => h.below hb.1) (fun h => row_only h hb hn), h2⟩
theorem KeepL.rd {w : World} {B : Nat} {L : List Lay} (h : KeepL w B L) (hB : B ≤ w.heap.size) {x : Lay} (hx : x ∈ L) : Rd w w.heap.size x.A x.s.data ∧ x.s.data.length ≤ x.c ∧ x.c ≤ maxLen := by
  obtain ⟨h1, h2⟩ := h x hx
  refine ⟨?_, h2⟩
  rcases h1 with h1 | h1
  · exact h1.more hB
  · obtain ⟨A, c, e, _, _, hr⟩ := own_slice h1
    unfold Lay.dv at e
    injection e with e1 _ _
    rw [e1]
    exact hr

/-- Sections without their names, and where those stand, entry by entry. -/
def secsZ (l : List UInt8) (off k : Nat) : List Sect := (List.range k).map fun i => sectZ l (entN l (off + 64 * i))
def atsZ (l : List UInt8) (off k : Nat) : List Nat := (List.range k).map fun i => nameN (entN l (off + 64 * i))
theorem secsZ_next (l : List UInt8) (off k : Nat) : secsZ l off (k + 1) = secsZ l off k ++ [sectZ l (entN l (off + 64 * k))] := by simp [secsZ, List.range_succ]
theorem atsZ_next (l : List UInt8) (off k : Nat) : atsZ l off (k + 1) = atsZ l off k ++ [nameN (entN l (off + 64 * k))] := by simp [atsZ, List.range_succ]
theorem secsZ_length (l : List UInt8) (off k : Nat) : (secsZ l off k).length = k := by simp [secsZ]
theorem atsZ_length (l : List UInt8) (off k : Nat) : (atsZ l off k).length = k := by simp [atsZ]
theorem secsZ_get (l : List UInt8) (off k i : Nat) (h : i < k) : (secsZ l off k)[i]? = some (sectZ l (entN l (off + 64 * i))) := by simp [secsZ, h]
theorem atsZ_get (l : List UInt8) (off k i : Nat) (h : i < k) : (atsZ l off k)[i]? = some (nameN (entN l (off + 64 * i))) := by simp [atsZ, h]
/-- Whether the first entry is all zero, as far as it was looked at. -/
def firstZ (l : List UInt8) (off k : Nat) : Bool := if k = 0 then true else decide (entN l off = List.replicate 10 0)
theorem all_zero (ns : List Nat) (h : ns.length = 10) : (ns.all fun x => decide (x = 0)) = decide (ns = List.replicate 10 0) := by
  rw [Bool.eq_iff_iff, decide_eq_true_eq, List.all_eq_true]
  simp only [decide_eq_true_eq]
  rw [List.eq_replicate_iff]
  exact ⟨fun hh => ⟨h, hh⟩, fun hh => hh.2⟩

/-- What goes along in the rounds over the entries. -/
structure TkSt (w wr : World) (gc : Nat) (v u ua : Value) (L : List Lay) (l : List UInt8) (off k : Nat) : Prop where
  cur : RR w.heap.size wr gc v l (off + 64 * k) 0
  out : OwnL wr w.heap.size u L
  secs : secsOf L = secsZ l off k
  keep : KeepL wr w.heap.size L
  ats : OwnU wr w.heap.size ua (atsZ l off k)
theorem TkSt.len {w wr : World} {gc : Nat} {v u ua : Value} {L : List Lay} {l : List UInt8} {off k : Nat} (h : TkSt w wr gc v u ua L l off k) : L.length = k := by
  have := congrArg List.length h.secs
  rw [secsZ_length] at this
  simpa using this

/-- The first k of the sections with their names. -/
def nameL (tbl l : List UInt8) (off : Nat) (L : List Lay) (k : Nat) : List Lay := L.mapIdx fun i x => if i < k then ⟨{ x.s with name := (atT tbl (nameN (entN l (off + 64 * i)))).1 }, x.A, x.c⟩ else x
theorem nameL_zero (tbl l : List UInt8) (off : Nat) (L : List Lay) : nameL tbl l off L 0 = L := by
  apply List.ext_getElem?
  intro i
  simp [nameL, List.getElem?_mapIdx]
theorem nameL_length (tbl l : List UInt8) (off : Nat) (L : List Lay) (k : Nat) : (nameL tbl l off L k).length = L.length := by simp [nameL]
theorem nameL_get (tbl l : List UInt8) (off : Nat) (L : List Lay) (k i : Nat) (x : Lay) (h : L[i]? = some x) : (nameL tbl l off L k)[i]? = some (if i < k then ⟨{ x.s with name := (atT tbl (nameN (entN l (off + 64 * i)))).1 }, x.A, x.c⟩ else x) := by
  simp [nameL, List.getElem?_mapIdx, h]
theorem nameL_next (tbl l : List UInt8) (off : Nat) (L : List Lay) (k : Nat) (x : Lay) (h : L[k]? = some x) : nameL tbl l off L (k + 1) = (nameL tbl l off L k).set k ⟨{ x.s with name := (atT tbl (nameN (entN l (off + 64 * k)))).1 }, x.A, x.c⟩ := by
  apply List.ext_getElem?
  intro i
  by_cases hi : i = k
  · subst hi
    have hk := (List.getElem?_eq_some_iff.1 h).1
    rw [nameL_get _ _ _ _ _ _ _ h, if_pos (by omega), List.getElem?_set_self (by rw [nameL_length]; exact hk)]
  · rw [List.getElem?_set_ne (fun e => hi e.symm)]
    rcases hx : L[i]? with _ | y
    · simp [nameL, List.getElem?_mapIdx, hx]
    · rw [nameL_get _ _ _ _ _ _ _ hx, nameL_get _ _ _ _ _ _ _ hx]
      by_cases h1 : i < k
      · rw [if_pos h1, if_pos (by omega)]
      · rw [if_neg h1, if_neg (by omega)]
theorem nameL_keep {w : World} {B : Nat} {L : List Lay} (h : KeepL w B L) (tbl l : List UInt8) (off k : Nat) : KeepL w B (nameL tbl l off L k) := by
  intro x hx
  obtain ⟨i, hi, e⟩ := List.getElem_of_mem hx
  rw [nameL_length] at hi
  have hy : L[i]? = some (L[i]'hi) := List.getElem?_eq_getElem _
  have h1 := nameL_get tbl l off L k i _ hy
  have h2 : (nameL tbl l off L k)[i]? = some x := by rw [← e]; exact List.getElem?_eq_getElem _
  rw [h1] at h2
  injection h2 with h2
  have h3 := h _ (List.getElem_mem hi)
  rw [← h2]
  split <;> exact h3
theorem nameL_all {tbl l : List UInt8} {off n sh : Nat} {L : List Lay} (h : secsOf L = secsZ l off n) (ht : tbl = tblT l off sh) : secsOf (nameL tbl l off L n) = secsT l off n sh := by
  have hl : L.length = n := by
    have := congrArg List.length h
    rw [secsZ_length] at this
    simpa using this
  apply List.ext_getElem?
  intro i
  by_cases hi : i < n
  · have hy : L[i]? = some (L[i]'(by omega)) := List.getElem?_eq_getElem _
    have h1 := get_secsOf hy
    rw [h, secsZ_get _ _ _ _ hi] at h1
    injection h1 with h1
    rw [get_secsOf (nameL_get tbl l off L n i _ hy), if_pos hi, ← h1, ht]
    simp [secsT, hi, sectZ, sectT]
  · rw [List.getElem?_eq_none (by simp [nameL_length, hl]; omega), List.getElem?_eq_none (by simp [secsT]; omega)]

/-- A section's name stored into the row. -/
theorem ownl_name {w : World} {base g c : Nat} {L : List Lay} {i : Nat} {z : Lay} (h : OwnL w base (.slice (some ⟨g, 0, none⟩) L.length c) L) (hz : L[i]? = some z) (t : List UInt8) :
    OwnL (w.setCell ⟨g, i * 9, none⟩ (.string ⟨t.toArray⟩)) base (.slice (some ⟨g, 0, none⟩) L.length c) (L.set i ⟨{ z.s with name := t }, z.A, z.c⟩) ∧ w.grownBy (w.setCell ⟨g, i * 9, none⟩ (.string ⟨t.toArray⟩)) (some g) := by
  obtain ⟨h1, h2⟩ := World.ownsRow.stored h (i * 9) (.string ⟨t.toArray⟩)
  refine ⟨?_, h2⟩
  have hml := (List.getElem?_eq_some_iff.1 hz).1
  have e : cellsL (L.set i ⟨{ z.s with name := t }, z.A, z.c⟩) = (cellsL L).set (i * 9) (.string ⟨t.toArray⟩) := by
    apply List.ext_getElem?
    intro j
    by_cases hj : j < L.length * 9
    · have hq : L[j / 9]? = some (L[j / 9]'(by omega)) := List.getElem?_eq_getElem _
      have hr : (L[j / 9]'(by omega)).cells[j % 9]? = some ((L[j / 9]'(by omega)).cells[j % 9]'(by show j % 9 < 9; omega)) := List.getElem?_eq_getElem _
      have h0 := cellsL_at L _ _ _ _ hq hr
      rw [show j / 9 * 9 + j % 9 = j by omega] at h0
      by_cases hjm : j / 9 = i
      · subst hjm
        have hzz : L[j / 9]'(by omega) = z := by rw [hq] at hz; injection hz
        have hs : (L.set (j / 9) (⟨{ z.s with name := t }, z.A, z.c⟩ : Lay))[j / 9]? = some ⟨{ z.s with name := t }, z.A, z.c⟩ := List.getElem?_set_self (by omega)
        have hyc : (⟨{ z.s with name := t }, z.A, z.c⟩ : Lay).cells[j % 9]? = some ((⟨{ z.s with name := t }, z.A, z.c⟩ : Lay).cells[j % 9]'(by show j % 9 < 9; omega)) := List.getElem?_eq_getElem _
        have h3 := cellsL_at _ _ _ _ _ hs hyc
        rw [show j / 9 * 9 + j % 9 = j by omega] at h3
        have hy : (⟨{ z.s with name := t }, z.A, z.c⟩ : Lay).cells = z.cells.set 0 (.string ⟨t.toArray⟩) := rfl
        rw [h3, ← hyc, hy]
        by_cases h4 : j % 9 = 0
        · rw [h4, List.getElem?_set_self (by show 0 < 9; omega), show j = j / 9 * 9 by omega, show (j / 9 * 9) / 9 = j / 9 by omega, List.getElem?_set_self (by rw [cellsL_length]; omega)]
        · rw [List.getElem?_set_ne (by omega), List.getElem?_set_ne (by omega), h0, ← hr, hzz]
      · have hs : (L.set i (⟨{ z.s with name := t }, z.A, z.c⟩ : Lay))[j / 9]? = some (L[j / 9]'(by omega)) := by rw [List.getElem?_set_ne (by omega)]; exact hq
        have h3 := cellsL_at _ _ _ _ _ hs hr
        rw [show j / 9 * 9 + j % 9 = j by omega] at h3
        rw [h3, List.getElem?_set_ne (by omega), h0]
    · rw [List.getElem?_eq_none (by rw [cellsL_length, List.length_set]; omega), List.getElem?_eq_none (by rw [List.length_set, cellsL_length]; omega)]
  unfold OwnL
  rw [List.length_set, e]
  exact h1

/-- What the document's Take tells. -/
def RSTake (l : List UInt8) (w : World) (r : Ending) (w' : World) : Prop :=
  ∃ (A : Option Addr) (c : Nat) (L : List Lay), r = .returned (.tuple #[secH l, .slice A L.length c, .int .i64 (secE l)]) ∧ secsOf L = secL l ∧ Secs w' w'.heap.size A L ∧ L.length ≤ c ∧ Below w.heap.size w w'
theorem secs_nil (w : World) (B : Nat) : Secs w B none [] := ⟨fun h => absurd h (by simp), fun x hx => by cases hx⟩

end Go.Proofs.YtpdjpafchfbabaaDoor
