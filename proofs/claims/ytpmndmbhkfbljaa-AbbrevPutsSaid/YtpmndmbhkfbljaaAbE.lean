/-
  Package abbrev: Right, whole; Find.
-/
import Derived.Test.YtpmndmbhkfbljaaAbA
import Derived.Test.YtpmndmbhkfbljaaPoO
import Derived.Test.YtpmndmbhkfbljaaLnF
import Derived.Test.YtpmndmbhkfbljaaLmA
import Derived.Test.YtpmndmbhkfbljaaCsM
import Derived.Test.YtpmndmbhkfbljaaPut
import Derived.Lib.BytesEntry
import Derived.Lib.AppendStr
import Derived.Laws.Externs
import Derived.Deep.Slices
import Derived.Test.YtpmndmbhkfbljaaPutR
import Derived.Test.YtpmndmbhkfbljaaSyA
namespace Go.Proofs.Ytpmndmbhkfbljaa
open Go Go.RowKit Go.Maps

/-- The set of keys. -/
def setK (ks : List Lit) : DataW Unit := setOf (.agg []) ks
theorem setK_snoc (ks : List Lit) (k : Lit) : setK (ks ++ [k]) = (setK ks).put k (.agg []) := by
  unfold setK; rw [setOf_snoc]
theorem setK_has (ks : List Lit) (h : ∀ x ∈ ks, WideAt.IsKeyLit x) (k : Lit) (hk : WideAt.IsKeyLit k) : Maps.has (setK ks) k = true ↔ k ∈ ks := by
  unfold setK
  rw [has_setOf _ _ _ h, List.any_eq_true]
  constructor
  · rintro ⟨x, hx, e⟩
    exact WideAt.sameKey_eq e ▸ hx
  · exact fun h => ⟨k, h, WideAt.sameKey_self hk⟩
theorem setK_size (ks : List Lit) (hl : ∀ x ∈ ks, WideAt.IsKeyLit x) : Maps.size (setK ks) ≤ ks.length ∧ (Maps.size (setK ks) = ks.length ↔ ks.Nodup) := by
  induction hn : ks.length generalizing ks with
  | zero =>
    have : ks = [] := List.eq_nil_of_length_eq_zero hn
    subst this
    exact ⟨by simp [setK, setOf, Maps.size], by simp [setK, setOf, Maps.size]⟩
  | succ n ih =>
    have hne : ks ≠ [] := by rintro rfl; simp at hn
    obtain ⟨m, t, rfl⟩ : ∃ m t, ks = m ++ [t] := ⟨ks.dropLast, ks.getLast hne, (List.dropLast_concat_getLast hne).symm⟩
    have hm : m.length = n := by simp at hn; omega
    have hml : ∀ x ∈ m, WideAt.IsKeyLit x := fun x hx => hl x (by simp [hx])
    obtain ⟨h1, h2⟩ := ih m hml hm
    have ht : Tidy (setK m) := tidy_setOf _ _ hml
    have hhas := setK_has m hml t (hl t (by simp))
    rw [setK_snoc, size_put ht]
    have hnd : (m ++ [t]).Nodup ↔ m.Nodup ∧ t ∉ m := by
      rw [List.nodup_append]
      constructor
      · rintro ⟨a, _, c⟩
        exact ⟨a, fun h => c t h t (by simp) rfl⟩
      · rintro ⟨a, b⟩
        exact ⟨a, by simp, fun x hx y hy e => by rw [List.mem_singleton.1 hy] at e; exact b (e ▸ hx)⟩
    rw [hnd, ← h2]
    by_cases h : t ∈ m
    · rw [if_pos (hhas.2 h)]
      simp only [h, not_true_eq_false, and_false, iff_false]
      omega
    · rw [if_neg (fun e => h (hhas.1 e))]
      simp only [h, not_false_eq_true, and_true]
      omega
theorem nodup_map_inj {α β : Type} (f : α → β) (hf : ∀ a b, f a = f b → a = b) (l : List α) : (l.map f).Nodup ↔ l.Nodup := by
  unfold List.Nodup
  rw [List.pairwise_map]
  exact ⟨fun h => h.imp fun hn e => hn (by rw [e]), fun h => h.imp fun hn e => hn (hf _ _ e)⟩
/-- Fewer than there are, if one stands twice. -/
theorem setK_less (ks : List Lit) (hl : ∀ x ∈ ks, WideAt.IsKeyLit x) {n : Nat} (hn : ks.length = n) {b : Bool} (hb : b = true ↔ ks.Nodup) : decide (Maps.size (setK ks) < n) = !b := by
  obtain ⟨h1, h2⟩ := setK_size ks hl
  rw [← hn]
  cases b with
  | true => rw [h2.2 (hb.1 rfl)]; simp
  | false =>
    have : Maps.size (setK ks) ≠ ks.length := fun e => absurd (hb.2 (h2.1 e)) (by simp)
    exact decide_eq_true (by omega)

end Go.Proofs.Ytpmndmbhkfbljaa

namespace Go.Proofs.Ytpmndmbhkfbljaa
open Go Go.RowKit Go.Maps

abbrev Spcs (w : World) (B : Nat) (a : Option Addr) (L : List Spc) : Prop := Row 3 Spc.cells w B a L
/-- A pair's numbers are numbers of 64 bits. -/
def Spc.In (x : Spc) : Prop := InI x.at_ ∧ InI x.form ∧ InI x.imp
theorem spc_at {w : World} {B : Nat} {a : Option Addr} {L : List Spc} (h : Spcs w B a L) {i : Nat} {x : Spc} (hx : L[i]? = some x) : ∃ b o, a = some ⟨b, o, none⟩ ∧ b < B ∧
    w.cell? ⟨b, o + i * 3, none⟩ = some (.int .i64 x.at_) ∧ w.cell? ⟨b, o + i * 3 + 1, none⟩ = some (.int .i64 x.form) ∧ w.cell? ⟨b, o + i * 3 + 2, none⟩ = some (.int .i64 x.imp) := by
  have hl : 0 < L.length := by have := (List.getElem?_eq_some_iff.1 hx).1; omega
  obtain ⟨b, o, e, hlt, hc⟩ := h hl
  have h' := hc i x hx
  exact ⟨b, o, e, hlt, h' 0 _ rfl, h' 1 _ rfl, h' 2 _ rfl⟩

theorem numbered_any (w : World) (n : Int) : Calls Try.prog 51 #[.int .i64 n] w fun r w' => r = .returned (.bool (numbK n)) ∧ w = w' := by
  have HE := Lib.hid (show numbK n = (decide (1 ≤ n) && decide (n ≤ 65535)) from rfl)
  generalize numbK n = b at *
  by_cases h0 : 1 ≤ n
  · have d0 : decide (1 ≤ n) = true := decide_eq_true h0
    rw [d0, Bool.true_and] at HE
    clear h0
    go_enter Try.func51, Try.ntmps51
    go_wp2_with fail
    go_ret
    exact ⟨by rw [HE.out]; rfl, rfl⟩
  · have d0 : decide (1 ≤ n) = false := decide_eq_false h0
    rw [d0, Bool.false_and] at HE
    clear h0
    go_enter Try.func51, Try.ntmps51
    go_wp2_with fail
    go_ret
    exact ⟨by rw [HE.out]; rfl, rfl⟩

set_option maxRecDepth 10000 in
set_option maxHeartbeats 1600000 in
theorem wrongSpec_any {w : World} (x : Spc) :
    Calls Try.prog 53 #[.agg #[.int .i64 x.at_, .int .i64 x.form, .int .i64 x.imp]] w fun r w' => r = .returned (.bool (!(okP x))) ∧ Below w.heap.size w w' := by
  have HO := Lib.hid (show okP x = (numbK x.at_ && (numbK x.form && (decide (x.form = 33) || decide (x.imp = 0)))) from rfl)
  generalize okP x = ok at *
  generalize x.at_ = i1 at *
  generalize x.form = i2 at *
  generalize x.imp = i3 at *
  have HN1 := Lib.hid (fun W => numbered_any W i1)
  have HN2 := Lib.hid (fun W => numbered_any W i2)
  have HB0 := Lib.hid (show Below w.heap.size w (w.alloc (.cells #[.int .i64 i1, .int .i64 i2, .int .i64 i3] 56)) from (Below.refl _ _).alloc (Nat.le_refl _) _)
  generalize numbK i1 = b1 at *
  generalize numbK i2 = b2 at *
  obtain ⟨b3, hb3⟩ : ∃ b, decide (i2 = 33) = b := ⟨_, rfl⟩
  obtain ⟨b4, hb4⟩ : ∃ b, decide (i3 = 0) = b := ⟨_, rfl⟩
  rw [hb3, hb4] at HO
  have n3 : (i2 != 33) = !b3 := by rw [← hb3]; by_cases h : i2 = 33 <;> simp [h]
  have n4 : (i3 != 0) = !b4 := by rw [← hb4]; by_cases h : i3 = 0 <;> simp [h]
  clear hb3 hb4
  go_enter Try.func53, Try.ntmps53
  cases b1 <;> cases b2 <;> cases b3 <;> cases b4
  all_goals
    try simp only [Bool.not_true, Bool.not_false] at n3 n4
    go_wp2_with (first
    | (go_at_call 51; refine (HN1.out _).mono ?_; rintro r w1 ⟨rfl, rfl⟩; clear HN1)
    | (go_at_call 51; refine (HN2.out _).mono ?_; rintro r w1 ⟨rfl, rfl⟩; clear HN2))
    go_ret
    exact ⟨by rw [HO.out]; rfl, HB0.out⟩

set_option maxRecDepth 10000 in
set_option maxHeartbeats 1600000 in
theorem pindex_wrong {w : World} {a : Option Addr} {L : List Spc} (h : Spcs w w.heap.size a L) (c : Nat) (hl : L.length ≤ 100000) :
    Calls Try.prog 63 #[.slice a L.length c, .func (.func 53) #[] #[]] w fun r w' => ∃ k : Int, r = .returned (.int .i64 k) ∧ (decide (0 ≤ k) = !(L.all okP)) ∧ Below w.heap.size w w' := by
  obtain ⟨N, hN⟩ : ∃ N, L.length = N := ⟨_, rfl⟩
  have HH := Lib.hid h
  have HN := Lib.hid hN
  rw [hN] at hl ⊢
  clear h hN
  go_enter Try.func63, Try.ntmps63
  go_wp2_with fail
  go_loopw [8] (fun i wr => ∃ k : Nat, k ≤ N ∧ i = .int .i64 k ∧ Below w.heap.size w wr ∧ Hid ((L.take k).all okP = true)) (fun i _ => N - (intOf i).toNat)
  case atStart => exact ⟨0, Nat.zero_le _, rfl, Below.refl _ _, Lib.hid rfl⟩
  case round =>
    obtain ⟨k, hk, rfl, hB, HY⟩ := hrel
    have HB := Lib.hid hB
    by_cases hlt : k < N
    · obtain ⟨x, hx⟩ : ∃ x, L[k]? = some x := ⟨L[k]'(by rw [HN.out]; exact hlt), List.getElem?_eq_getElem _⟩
      obtain ⟨b, o, rfl, hb, c0, c1, c2⟩ := spc_at (Row.below HH.out hB) hx
      have HW := Lib.hid (wrongSpec_any (w := wr) x)
      by_cases hst : okP x = true
      · have HF := Lib.hid (all_take okP L k x hx HY.out hst)
        rw [hst] at HW
        clear hx hst hB
        go_wp2_with (go_at_call 53; refine HW.out.mono ?_; rintro r w1 ⟨rfl, hb1⟩)
        have HB1 := Lib.hid (HB.out.trans (hb1.mono HB.out.size))
        go_roundw
        case rel => exact ⟨k + 1, by omega, by go_num, HB1.out, HF⟩
        case measure => simp [intOf]; omega
      · have hst' : okP x = false := by simpa using hst
        have HF := Lib.hid (all_not okP L k x hx hst')
        rw [hst'] at HW
        clear hx hst hB hst'
        go_wp2_with (go_at_call 53; refine HW.out.mono ?_; rintro r w1 ⟨rfl, hb1⟩)
        have HB1 := Lib.hid (HB.out.trans (hb1.mono HB.out.size))
        go_ret
        exact ⟨k, rfl, by rw [HF.out]; exact decide_eq_true (by omega), HB1.out⟩
    · have HF := Lib.hid (show L.all okP = true by
        have := HY.out
        rwa [List.take_of_length_le (by rw [HN.out]; omega)] at this)
      clear hB
      go_wp2_with fail
      go_ret
      exact ⟨-1, rfl, by rw [HF.out]; rfl, HB.out⟩

set_option maxRecDepth 10000 in
theorem pcontains_wrong {w : World} {a : Option Addr} {L : List Spc} (h : Spcs w w.heap.size a L) (c : Nat) (hl : L.length ≤ 100000) :
    Calls Try.prog 52 #[.slice a L.length c, .func (.func 53) #[] #[]] w fun r w' => r = .returned (.bool (!(L.all okP))) ∧ Below w.heap.size w w' := by
  have HI := Lib.hid (pindex_wrong h c hl)
  clear h hl
  generalize L.all okP = ok at *
  generalize L.length = n at *
  go_enter Try.func52, Try.ntmps52
  go_wp2_with (go_at_call 63; refine HI.out.mono ?_; rintro r w1 ⟨k, rfl, hk, hb1⟩)
  go_ret
  exact ⟨by rw [← hk]; rfl, hb1⟩

/-! ### An attribute that stands twice -/
def litI (n : Int) : Lit := .int .i64 n
def litU (n : Nat) : Lit := .int .u64 (n : Int)
theorem lits_i (l : List Int) : ∀ x ∈ l.map litI, WideAt.IsKeyLit x := fun x hx => by
  obtain ⟨n, -, rfl⟩ := List.mem_map.1 hx
  trivial
theorem lits_u (l : List Nat) : ∀ x ∈ l.map litU, WideAt.IsKeyLit x := fun x hx => by
  obtain ⟨n, -, rfl⟩ := List.mem_map.1 hx
  trivial
theorem once_i (l : List Int) : onceB l = true ↔ (l.map litI).Nodup := by
  unfold onceB
  rw [decide_eq_true_eq, nodup_map_inj litI (fun a b h => by unfold litI at h; injection h) l]
theorem once_u (l : List Nat) : onceB l = true ↔ (l.map litU).Nodup := by
  unfold onceB
  rw [decide_eq_true_eq, nodup_map_inj litU (fun a b h => by unfold litU at h; injection h with _ h; exact Int.ofNat.inj h) l]

theorem map_same {w w' : World} {k : TypeId} {R : Value → Option (DataW Unit × List MemPlace)} {b n : Nat} {D : DataW Unit} (h : w.ownsMap Try.prog k R b n D) (hb : Below w.heap.size w w') : w'.ownsMap Try.prog k R b n D := by
  obtain ⟨es, c, hm, r⟩ := h
  exact ⟨es, c, (hb.block b (Array.getElem?_eq_some_iff.1 hm).1).trans hm, r⟩
theorem attr_any {w : World} (x : Spc) :
    Calls Try.prog 55 #[.agg #[.int .i64 x.at_, .int .i64 x.form, .int .i64 x.imp]] w fun r w' => r = .returned (.int .i64 x.at_) ∧ Below w.heap.size w w' := by
  generalize x.at_ = i1 at *
  generalize x.form = i2 at *
  generalize x.imp = i3 at *
  have HB0 := Lib.hid (show Below w.heap.size w (w.alloc (.cells #[.int .i64 i1, .int .i64 i2, .int .i64 i3] 56)) from (Below.refl _ _).alloc (Nat.le_refl _) _)
  go_enter Try.func55, Try.ntmps55
  go_wp2_with fail
  go_ret
  exact ⟨rfl, HB0.out⟩

set_option maxRecDepth 10000 in
set_option maxHeartbeats 1600000 in
theorem ptwice_any {w : World} {a : Option Addr} {L : List Spc} (h : Spcs w w.heap.size a L) (c : Nat) (hl : L.length ≤ 100000) (hin : ∀ x ∈ L, x.In) :
    Calls Try.prog 54 #[.slice a L.length c, .func (.func 55) #[] #[]] w fun r w' => r = .returned (.bool (!(onceB (L.map Spc.at_)))) ∧ Below w.heap.size w w' := by
  obtain ⟨N, hN⟩ : ∃ N, L.length = N := ⟨_, rfl⟩
  have HH := Lib.hid h
  have HN := Lib.hid hN
  have HIN := Lib.hid hin
  rw [hN] at hl ⊢
  clear h hN hin
  have hmm := @run_makeMap Try.prog
  have HB0 := Lib.hid (show Below w.heap.size w (w.alloc (.map #[] 0)) from (Below.refl _ _).alloc (Nat.le_refl _) _)
  have HM0 := Lib.hid (show (w.alloc (.map #[] 0)).ownsMap Try.prog 3 (unitElem (H := Unit)) w.heap.size 0 (setK ((L.take 0).map (litI ∘ Spc.at_))) from World.ownsMap_made w _ _ _)
  go_enter Try.func54, Try.ntmps54
  go_wp2_with fail
  go_loopw [11] (fun i wr => ∃ k : Nat, k ≤ N ∧ i = .int .i64 k ∧ Hid (wr.ownsMap Try.prog 3 (unitElem (H := Unit)) w.heap.size k (setK ((L.take k).map (litI ∘ Spc.at_)))) ∧ Hid (Below w.heap.size w wr)) (fun i _ => N - (intOf i).toNat)
  case atStart => exact ⟨0, Nat.zero_le _, rfl, HM0, HB0⟩
  case round =>
    obtain ⟨k, hk, rfl, HM, HB⟩ := hrel
    by_cases hlt : k < N
    · obtain ⟨x, hx⟩ : ∃ x, L[k]? = some x := ⟨L[k]'(by rw [HN.out]; exact hlt), List.getElem?_eq_getElem _⟩
      obtain ⟨b, o, rfl, hb, c0, c1, c2⟩ := spc_at (Row.below HH.out HB.out) hx
      have hxi := HIN.out x (List.mem_of_getElem? hx)
      have hkey := keyOf_int_mk Try.underlying3 (wf_i64 hxi.1)
      have HT := Lib.hid (show setK ((L.take (k + 1)).map (litI ∘ Spc.at_)) = (setK ((L.take k).map (litI ∘ Spc.at_))).put (litI x.at_) (.agg []) by
        obtain ⟨hk', e⟩ := List.getElem?_eq_some_iff.1 hx
        rw [List.take_succ_eq_append_getElem hk', List.map_append, List.map_singleton, setK_snoc, e]; rfl)
      have hA := (Below.refl wr.heap.size wr).alloc (Nat.le_refl _) (.cells #[.int .i64 x.at_, .int .i64 x.form, .int .i64 x.imp] 56)
      have HW := Lib.hid (attr_any (w := wr.alloc (.cells #[.int .i64 x.at_, .int .i64 x.form, .int .i64 x.imp] 56)) x)
      have HA := Lib.hid hA
      clear hx hxi hA
      go_wp2_with (first
        | (go_at_call 55; refine HW.out.mono ?_; rintro r w1 ⟨rfl, hb1⟩; have hba := HA.out.trans (hb1.mono HA.out.size); have HB1 := Lib.hid (HB.out.trans (hba.mono HB.out.size)); have HM1 := Lib.hid (map_same HM.out hba); clear hb1 hba)
        | (at_mapUpdate; refine wpList_mapUpdate_own _ (by rfl) _ _ _ 106 (by rfl) 3 95 (int_keyed Try.underlying3) Try.underlying106 (unitElem (H := Unit)) w.heap.size k _ (by rfl) HM1.out (by unfold maxLen; omega) _ _ _ (by rfl) (by rfl) hkey _ [] unitElem_mk ?_; intro w2 hown2 hg2))
      have HM2 := Lib.hid (show w2.ownsMap Try.prog 3 (unitElem (H := Unit)) w.heap.size (k + 1) (setK ((L.take (k + 1)).map (litI ∘ Spc.at_))) by rw [HT.out]; exact hown2)
      have HB2 := Lib.hid (show Below w.heap.size w w2 from HB1.out.grown hg2 HB1.out.size (fun x hx => by cases hx; exact Nat.le_refl _))
      clear hown2 hg2
      go_roundw
      case rel => exact ⟨k + 1, by omega, by go_num, HM2, HB2⟩
      case measure => simp [intOf]; omega
    · have hkn : k = N := by omega
      subst hkn
      have HM1 := Lib.hid (show wr.ownsMap Try.prog 3 (unitElem (H := Unit)) w.heap.size k (setK ((L.map Spc.at_).map litI)) by
        have := HM.out
        rwa [← HN.out, List.take_length, ← List.map_map, HN.out] at this)
      have HD := Lib.hid (setK_less ((L.map Spc.at_).map litI) (lits_i _) (n := k) (by simp; exact HN.out) (once_i (L.map Spc.at_)))
      clear hlt
      generalize setK ((L.map Spc.at_).map litI) = D at *
      go_wp2_with (at_len; refine wpList_len_own _ (by rfl) _ 106 (by rfl) 3 95 Try.underlying106 _ w.heap.size k D (by rfl) HM1.out ?_)
      go_ret
      exact ⟨by rw [← HD.out]; rfl, HB.out⟩

end Go.Proofs.Ytpmndmbhkfbljaa

namespace Go.Proofs.Ytpmndmbhkfbljaa
open Go Go.RowKit Go.Maps

/-- Abbreviations that lie side by side, and their pairs. -/
structure Abbs (w : World) (B : Nat) (a : Option Addr) (L : List ALay) : Prop where
  row : Row 4 ALay.cells w B a L
  spcs : ∀ y ∈ L, Spcs w B y.a y.x.l
theorem Abbs.below {w w' : World} {B : Nat} {a : Option Addr} {L : List ALay} (h : Abbs w B a L) (hb : Below B w w') : Abbs w' B a L := ⟨Row.below h.row hb, fun y hy => Row.below (h.spcs y hy) hb⟩
theorem Abbs.more {w : World} {B B' : Nat} {a : Option Addr} {L : List ALay} (h : Abbs w B a L) (hB : B ≤ B') : Abbs w B' a L := ⟨Row.more h.row hB, fun y hy => Row.more (h.spcs y hy) hB⟩
theorem Abbs.up {w w' : World} {a : Option Addr} {L : List ALay} (h : Abbs w w.heap.size a L) (hb : Below w.heap.size w w') : Abbs w' w'.heap.size a L := (h.below hb).more hb.size
/-- Their numbers are numbers of 64 bits, and they are not too many. -/
structure ALay.In (y : ALay) : Prop where
  code : y.x.code < two64
  tag : InI y.x.tag
  len : y.x.l.length ≤ 100000
  spcs : ∀ x ∈ y.x.l, x.In
theorem abb_at {w : World} {B : Nat} {a : Option Addr} {L : List ALay} (h : Abbs w B a L) {i : Nat} {y : ALay} (hy : L[i]? = some y) : ∃ b o, a = some ⟨b, o, none⟩ ∧ b < B ∧
    w.cell? ⟨b, o + i * 4, none⟩ = some (.int .u64 (y.x.code : Int)) ∧ w.cell? ⟨b, o + i * 4 + 1, none⟩ = some (.int .i64 y.x.tag) ∧ w.cell? ⟨b, o + i * 4 + 2, none⟩ = some (.bool y.x.kids) ∧ w.cell? ⟨b, o + i * 4 + 3, none⟩ = some (.slice y.a y.x.l.length y.c) := by
  have hl : 0 < L.length := by have := (List.getElem?_eq_some_iff.1 hy).1; omega
  obtain ⟨b, o, e, hlt, hc⟩ := h.row hl
  have h' := hc i y hy
  exact ⟨b, o, e, hlt, h' 0 _ rfl, h' 1 _ rfl, h' 2 _ rfl, h' 3 _ rfl⟩

set_option maxRecDepth 10000 in
set_option maxHeartbeats 3200000 in
theorem wrongA_any {w : World} (y : ALay) (hy : Spcs w w.heap.size y.a y.x.l) (hin : y.In) :
    Calls Try.prog 35 #[.agg #[.int .u64 (y.x.code : Int), .int .i64 y.x.tag, .bool y.x.kids, .slice y.a y.x.l.length y.c]] w fun r w' => r = .returned (.bool (!(okA y.x))) ∧ Below w.heap.size w w' := by
  have HO := Lib.hid (show okA y.x = (!decide (y.x.code = 0) && (numbK y.x.tag && (decide (y.x.l.length ≤ 40) && (y.x.l.all okP && onceB (y.x.l.map Spc.at_))))) from rfl)
  have HC := Lib.hid (fun W (hW : Below w.heap.size w W) => pcontains_wrong (Row.more (Row.below hy hW) hW.size) y.c hin.len)
  have HT := Lib.hid (fun W (hW : Below w.heap.size w W) => ptwice_any (Row.more (Row.below hy hW) hW.size) y.c hin.len hin.spcs)
  have HN1 := Lib.hid (fun W => numbered_any W y.x.tag)
  clear hy hin
  generalize okA y.x = ok at *
  generalize y.x.l.all okP = b3 at *
  generalize onceB (y.x.l.map Spc.at_) = b4 at *
  generalize y.x.l.length = n at *
  generalize y.x.code = cd at *
  generalize y.x.tag = tg at *
  generalize y.x.kids = kd at *
  generalize y.a = a at *
  generalize y.c = c at *
  have HB0 := Lib.hid (show Below w.heap.size w (w.alloc (.cells #[.int .u64 (cd : Int), .int .i64 tg, .bool kd, .slice a n c] 50)) from (Below.refl _ _).alloc (Nat.le_refl _) _)
  generalize numbK tg = b1 at *
  obtain ⟨b0, hb0⟩ : ∃ b, decide (cd = 0) = b := ⟨_, rfl⟩
  obtain ⟨b2, hb2⟩ : ∃ b, decide (n ≤ 40) = b := ⟨_, rfl⟩
  rw [hb0, hb2] at HO
  have n0 : ((cd : Int) == 0) = b0 := by rw [← hb0, Bool.eq_iff_iff]; simp
  have n2 : decide ((40 : Int) < (n : Int)) = !b2 := by rw [← hb2, Bool.eq_iff_iff]; simp; omega
  clear hb0 hb2
  go_enter Try.func35, Try.ntmps35
  cases b0 <;> cases b1 <;> cases b2 <;> cases b3
  all_goals
    try simp only [Bool.not_true, Bool.not_false] at n2
    go_wp2_with (first
    | (go_at_call 51; refine (HN1.out _).mono ?_; rintro r w1 ⟨rfl, rfl⟩)
    | (go_at_call 52; refine (HC.out _ HB0.out).mono ?_; rintro r w2 ⟨rfl, hb2⟩; have HB2 := Lib.hid (HB0.out.trans (hb2.mono HB0.out.size)); have hx2 : w2.cell? ⟨w.heap.size, 3, none⟩ = some (.slice a n c) := (by rw [hb2.cell (p := ⟨w.heap.size, 3, none⟩) (by simp)]; exact (Box.new w 50 #[.int .u64 (cd : Int), .int .i64 tg, .bool kd, .slice a n c]).cell 3); clear hb2)
    | (go_at_call 54; refine (HT.out _ HB2.out).mono ?_; rintro r w3 ⟨rfl, hb3⟩; have HB3 := Lib.hid (HB2.out.trans (hb3.mono HB2.out.size)); clear hb3))
    go_ret
    exact ⟨by rw [HO.out]; rfl, by first | exact HB3.out | exact HB2.out | exact HB0.out⟩

end Go.Proofs.Ytpmndmbhkfbljaa

namespace Go.Proofs.Ytpmndmbhkfbljaa
open Go Go.RowKit Go.Maps

set_option maxRecDepth 10000 in
set_option maxHeartbeats 1600000 in
theorem aindex_wrong {w : World} {a : Option Addr} {L : List ALay} (h : Abbs w w.heap.size a L) (c : Nat) (hl : L.length ≤ 100000) (hin : ∀ y ∈ L, y.In) :
    Calls Try.prog 38 #[.slice a L.length c, .func (.func 35) #[] #[]] w fun r w' => ∃ k : Int, r = .returned (.int .i64 k) ∧ (decide (0 ≤ k) = !(L.all fun y => okA y.x)) ∧ Below w.heap.size w w' := by
  obtain ⟨N, hN⟩ : ∃ N, L.length = N := ⟨_, rfl⟩
  have HH := Lib.hid h
  have HN := Lib.hid hN
  have HIN := Lib.hid hin
  rw [hN] at hl ⊢
  clear h hN hin
  go_enter Try.func38, Try.ntmps38
  go_wp2_with fail
  go_loopw [8] (fun i wr => ∃ k : Nat, k ≤ N ∧ i = .int .i64 k ∧ Hid (Below w.heap.size w wr) ∧ Hid ((L.take k).all (fun y => okA y.x) = true)) (fun i _ => N - (intOf i).toNat)
  case atStart => exact ⟨0, Nat.zero_le _, rfl, Lib.hid (Below.refl _ _), Lib.hid rfl⟩
  case round =>
    obtain ⟨k, hk, rfl, HB, HY⟩ := hrel
    by_cases hlt : k < N
    · obtain ⟨y, hy⟩ : ∃ y, L[k]? = some y := ⟨L[k]'(by rw [HN.out]; exact hlt), List.getElem?_eq_getElem _⟩
      obtain ⟨b, o, rfl, hb, c0, c1, c2, c3⟩ := abb_at (HH.out.below HB.out) hy
      have HW := Lib.hid (wrongA_any (w := wr) y (Row.more ((HH.out.below HB.out).spcs y (List.mem_of_getElem? hy)) HB.out.size) (HIN.out y (List.mem_of_getElem? hy)))
      have hyl := (HIN.out y (List.mem_of_getElem? hy)).len
      cases hst : okA y.x with
      | true =>
        have HF := Lib.hid (all_take (fun y : ALay => okA y.x) L k y hy HY.out hst)
        rw [hst] at HW
        clear hy hst
        generalize y.x.l.length = ln at *
        generalize y.x.code = cd at *
        generalize y.x.tag = tg at *
        generalize y.x.kids = kd at *
        generalize y.a = ya at *
        generalize y.c = yc at *
        go_wp2_with (go_at_call 35; refine HW.out.mono ?_; rintro r w1 ⟨rfl, hb1⟩)
        have HB1 := Lib.hid (HB.out.trans (hb1.mono HB.out.size))
        go_roundw
        case rel => exact ⟨k + 1, by omega, by go_num, HB1, HF⟩
        case measure => simp [intOf]; omega
      | false =>
        have HF := Lib.hid (all_not (fun y : ALay => okA y.x) L k y hy hst)
        rw [hst] at HW
        clear hy hst
        generalize y.x.l.length = ln at *
        generalize y.x.code = cd at *
        generalize y.x.tag = tg at *
        generalize y.x.kids = kd at *
        generalize y.a = ya at *
        generalize y.c = yc at *
        go_wp2_with (go_at_call 35; refine HW.out.mono ?_; rintro r w1 ⟨rfl, hb1⟩)
        have HB1 := Lib.hid (HB.out.trans (hb1.mono HB.out.size))
        go_ret
        exact ⟨k, rfl, by rw [HF.out]; exact decide_eq_true (by omega), HB1.out⟩
    · have HF := Lib.hid (show L.all (fun y => okA y.x) = true by
        have := HY.out
        rwa [List.take_of_length_le (by rw [HN.out]; omega)] at this)
      go_wp2_with fail
      go_ret
      exact ⟨-1, rfl, by rw [HF.out]; rfl, HB.out⟩

set_option maxRecDepth 10000 in
theorem acontains_wrong {w : World} {a : Option Addr} {L : List ALay} (h : Abbs w w.heap.size a L) (c : Nat) (hl : L.length ≤ 100000) (hin : ∀ y ∈ L, y.In) :
    Calls Try.prog 34 #[.slice a L.length c, .func (.func 35) #[] #[]] w fun r w' => r = .returned (.bool (!(L.all fun y => okA y.x))) ∧ Below w.heap.size w w' := by
  have HI := Lib.hid (aindex_wrong h c hl hin)
  clear h hl hin
  generalize (L.all fun y => okA y.x) = ok at *
  generalize L.length = n at *
  go_enter Try.func34, Try.ntmps34
  go_wp2_with (go_at_call 38; refine HI.out.mono ?_; rintro r w1 ⟨k, rfl, hk, hb1⟩)
  go_ret
  exact ⟨by rw [← hk]; rfl, hb1⟩

theorem code_any {w : World} (y : ALay) :
    Calls Try.prog 37 #[.agg #[.int .u64 (y.x.code : Int), .int .i64 y.x.tag, .bool y.x.kids, .slice y.a y.x.l.length y.c]] w fun r w' => r = .returned (.int .u64 (y.x.code : Int)) ∧ Below w.heap.size w w' := by
  generalize y.x.l.length = ln at *
  generalize y.x.code = cd at *
  generalize y.x.tag = tg at *
  generalize y.x.kids = kd at *
  generalize y.a = ya at *
  generalize y.c = yc at *
  have HB0 := Lib.hid (show Below w.heap.size w (w.alloc (.cells #[.int .u64 (cd : Int), .int .i64 tg, .bool kd, .slice ya ln yc] 50)) from (Below.refl _ _).alloc (Nat.le_refl _) _)
  go_enter Try.func37, Try.ntmps37
  go_wp2_with fail
  go_ret
  exact ⟨rfl, HB0.out⟩

def codeL (y : ALay) : Nat := y.x.code
set_option maxRecDepth 10000 in
set_option maxHeartbeats 1600000 in
theorem atwice_any {w : World} {a : Option Addr} {L : List ALay} (h : Abbs w w.heap.size a L) (c : Nat) (hl : L.length ≤ 100000) (hin : ∀ y ∈ L, y.In) :
    Calls Try.prog 36 #[.slice a L.length c, .func (.func 37) #[] #[]] w fun r w' => r = .returned (.bool (!(onceB (L.map codeL)))) ∧ Below w.heap.size w w' := by
  obtain ⟨N, hN⟩ : ∃ N, L.length = N := ⟨_, rfl⟩
  have HH := Lib.hid h
  have HN := Lib.hid hN
  have HIN := Lib.hid hin
  rw [hN] at hl ⊢
  clear h hN hin
  have hmm := @run_makeMap Try.prog
  have HB0 := Lib.hid (show Below w.heap.size w (w.alloc (.map #[] 0)) from (Below.refl _ _).alloc (Nat.le_refl _) _)
  have HM0 := Lib.hid (show (w.alloc (.map #[] 0)).ownsMap Try.prog 23 (unitElem (H := Unit)) w.heap.size 0 (setK ((L.take 0).map (litU ∘ codeL))) from World.ownsMap_made w _ _ _)
  go_enter Try.func36, Try.ntmps36
  go_wp2_with fail
  go_loopw [11] (fun i wr => ∃ k : Nat, k ≤ N ∧ i = .int .i64 k ∧ Hid (wr.ownsMap Try.prog 23 (unitElem (H := Unit)) w.heap.size k (setK ((L.take k).map (litU ∘ codeL)))) ∧ Hid (Below w.heap.size w wr)) (fun i _ => N - (intOf i).toNat)
  case atStart => exact ⟨0, Nat.zero_le _, rfl, HM0, HB0⟩
  case round =>
    obtain ⟨k, hk, rfl, HM, HB⟩ := hrel
    by_cases hlt : k < N
    · obtain ⟨x, hx⟩ : ∃ x, L[k]? = some x := ⟨L[k]'(by rw [HN.out]; exact hlt), List.getElem?_eq_getElem _⟩
      obtain ⟨b, o, rfl, hb, c0, c1, c2, c3⟩ := abb_at (HH.out.below HB.out) hx
      have hxi := HIN.out x (List.mem_of_getElem? hx)
      have hyl := hxi.len
      have hkey := keyOf_int_mk Try.underlying23 (wf_u64 hxi.code)
      have HT := Lib.hid (show setK ((L.take (k + 1)).map (litU ∘ codeL)) = (setK ((L.take k).map (litU ∘ codeL))).put (.int .u64 (x.x.code : Int)) (.agg []) by
        obtain ⟨hk', e⟩ := List.getElem?_eq_some_iff.1 hx
        rw [List.take_succ_eq_append_getElem hk', List.map_append, List.map_singleton, setK_snoc, e]; rfl)
      have hA := (Below.refl wr.heap.size wr).alloc (Nat.le_refl _) (.cells #[.int .u64 (x.x.code : Int), .int .i64 x.x.tag, .bool x.x.kids, .slice x.a x.x.l.length x.c] 50)
      have HW := Lib.hid (code_any (w := wr.alloc (.cells #[.int .u64 (x.x.code : Int), .int .i64 x.x.tag, .bool x.x.kids, .slice x.a x.x.l.length x.c] 50)) x)
      have HA := Lib.hid hA
      clear hx hxi hA
      generalize x.x.l.length = ln at *
      generalize x.x.code = cd at *
      generalize x.x.tag = tg at *
      generalize x.x.kids = kd at *
      generalize x.a = ya at *
      generalize x.c = yc at *
      go_wp2_with (first
        | (go_at_call 37; refine HW.out.mono ?_; rintro r w1 ⟨rfl, hb1⟩; have hba := HA.out.trans (hb1.mono HA.out.size); have HB1 := Lib.hid (HB.out.trans (hba.mono HB.out.size)); have HM1 := Lib.hid (map_same HM.out hba); clear hb1 hba)
        | (at_mapUpdate; refine wpList_mapUpdate_own _ (by rfl) _ _ _ 94 (by rfl) 23 95 (int_keyed Try.underlying23) Try.underlying94 (unitElem (H := Unit)) w.heap.size k _ (by rfl) HM1.out (by unfold maxLen; omega) _ _ _ (by rfl) (by rfl) hkey _ [] unitElem_mk ?_; intro w2 hown2 hg2))
      have HM2 := Lib.hid (show w2.ownsMap Try.prog 23 (unitElem (H := Unit)) w.heap.size (k + 1) (setK ((L.take (k + 1)).map (litU ∘ codeL))) by rw [HT.out]; exact hown2)
      have HB2 := Lib.hid (show Below w.heap.size w w2 from HB1.out.grown hg2 HB1.out.size (fun x hx => by cases hx; exact Nat.le_refl _))
      clear hown2 hg2
      go_roundw
      case rel => exact ⟨k + 1, by omega, by go_num, HM2, HB2⟩
      case measure => simp [intOf]; omega
    · have hkn : k = N := by omega
      subst hkn
      have HM1 := Lib.hid (show wr.ownsMap Try.prog 23 (unitElem (H := Unit)) w.heap.size k (setK ((L.map codeL).map litU)) by
        have := HM.out
        rwa [← HN.out, List.take_length, ← List.map_map, HN.out] at this)
      have HD := Lib.hid (setK_less ((L.map codeL).map litU) (lits_u _) (n := k) (by simp; exact HN.out) (once_u (L.map codeL)))
      clear hlt
      generalize setK ((L.map codeL).map litU) = D at *
      go_wp2_with (at_len; refine wpList_len_own _ (by rfl) _ 94 (by rfl) 23 95 Try.underlying94 _ w.heap.size k D (by rfl) HM1.out ?_)
      go_ret
      exact ⟨by rw [← HD.out]; rfl, HB.out⟩

theorem rightA_lays (L : List ALay) : rightA (absOf L) = (decide (L.length ≤ 300) && ((L.all fun y => okA y.x) && onceB (L.map codeL))) := by
  unfold rightA absOf
  rw [List.length_map, List.all_map, List.map_map]
  rfl
set_option maxRecDepth 10000 in
set_option maxHeartbeats 1600000 in
theorem rightA_any {w : World} {a : Option Addr} {L : List ALay} (h : Abbs w w.heap.size a L) (c : Nat) (hl : L.length ≤ 100000) (hin : ∀ y ∈ L, y.In) :
    Calls Try.prog 17 #[.slice a L.length c] w fun r w' => r = .returned (.bool (rightA (absOf L))) ∧ Below w.heap.size w w' := by
  have HC := Lib.hid (acontains_wrong h c hl hin)
  have HT := Lib.hid (fun W (hW : Below w.heap.size w W) => atwice_any (h.up hW) c hl hin)
  have HE := Lib.hid (rightA_lays L)
  clear h hl hin
  generalize (L.all fun y => okA y.x) = b1 at *
  generalize onceB (L.map codeL) = b2 at *
  generalize rightA (absOf L) = ok at *
  generalize L.length = n at *
  obtain ⟨b0, hb0⟩ : ∃ b, decide (n ≤ 300) = b := ⟨_, rfl⟩
  rw [hb0] at HE
  have n0 : decide ((n : Int) ≤ 300) = b0 := by rw [← hb0, Bool.eq_iff_iff]; simp; omega
  clear hb0
  go_enter Try.func17, Try.ntmps17
  cases b0 <;> cases b1
  all_goals
    go_wp2_with (first
    | (go_at_call 34; refine HC.out.mono ?_; rintro r w2 ⟨rfl, hb2⟩; have HB2 := Lib.hid hb2; clear hb2)
    | (go_at_call 36; refine (HT.out _ HB2.out).mono ?_; rintro r w3 ⟨rfl, hb3⟩; have HB3 := Lib.hid (HB2.out.trans (hb3.mono HB2.out.size)); clear hb3))
    go_ret
    exact ⟨by rw [HE.out]; simp, by first | exact HB3.out | exact HB2.out | exact Below.refl _ _⟩

end Go.Proofs.Ytpmndmbhkfbljaa
