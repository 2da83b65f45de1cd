/-
  Sections that are put are taken as they were (plain facts): the theorem.
-/
import Derived.Test.YtldmjnbmjfnfeaaGreatDoorSyU
import Derived.Laws.Concat
import Derived.Test.YtldmjnbmjfnfeaaGreatDoorSeR
import Derived.Test.YtldmjnbmjfnfeaaGreatDoorRefR
import Derived.Test.YtldmjnbmjfnfeaaGreatDoorCsA
import Derived.Test.YtldmjnbmjfnfeaaGreatDoorCsP
import Derived.Test.YtldmjnbmjfnfeaaGreatDoorCsL
import Derived.Test.YtldmjnbmjfnfeaaGreatDoorSeV
import Derived.Test.YtldmjnbmjfnfeaaGreatDoorPoX
import Derived.Test.YtldmjnbmjfnfeaaGreatDoorObB
import Derived.Deep.RegionHeldLaw
namespace Go.Proofs.YtldmjnbmjfnfeaaGreatDoor
open Go Go.RowKit

def relaN : List UInt8 := [46, 114, 101, 108, 97]
theorem cat_bytes (l m : List UInt8) : (ByteArray.mk l.toArray) ++ (ByteArray.mk m.toArray) = ⟨(l ++ m).toArray⟩ := by
  apply ByteArray.ext
  simp [ByteArray.data_append]
theorem cat_rela (nm : List UInt8) (h : nm.length ≤ 100000) (W : World) : (Op.stringOp .add (ByteArray.mk #[46, 114, 101, 108, 97]) (ByteArray.mk nm.toArray)).run Tryz.prog W = .ok (.string ⟨(relaN ++ nm).toArray⟩) W := by
  rw [← cat_bytes]
  exact run_string_add_sum (P := Tryz.prog) W (ByteArray.mk #[46, 114, 101, 108, 97]) (ByteArray.mk nm.toArray) (by
    show 5 + nm.length ≤ _
    omega)

def symtabS (n : Nat) (d : List UInt8) : Sect := ⟨symtabN, 2, 0, 0, d, (n : Int) + 1, 0, 0, 24⟩
def strtabS (d : List UInt8) : Sect := ⟨strtabN, 3, 0, 0, d, 0, 0, 0, 0⟩
def relaS (n i : Nat) (nm : List UInt8) (l : List Rel) : Sect := ⟨relaN ++ nm, 4, 0, 0, relB l l.length, (n : Int), (i : Int), 0, 24⟩
/-- The sections, and those that have the symbols. -/
def headF (S : List Sect) (Y : List Sym) : List Sect := S ++ (if Y.length = 0 then [] else [symtabS S.length (tabY Y), strtabS (txtY Y)])
/-- The relocations of the first k sections. -/
def relF (S : List Sect) (R : List (List Rel)) : Nat → List Sect
  | 0 => []
  | k + 1 => relF S R k ++ (match S[k]?, R[k]? with
    | some s, some l => if l.length = 0 then [] else [relaS S.length k s.name l]
    | _, _ => [])
def fileO (S : List Sect) (Y : List Sym) (R : List (List Rel)) : List Sect := headF S Y ++ (relF S R R.length ++ [tabS])
variable {S : List Sect} {Y : List Sym} {R : List (List Rel)} {k : Nat} {s : Sect} {l : List Rel}
theorem relF_none (hs : S[k]? = some s) (hl : R[k]? = some l) (h : l.length = 0) : relF S R (k + 1) = relF S R k := by simp [relF, hs, hl, h]
theorem relF_some (hs : S[k]? = some s) (hl : R[k]? = some l) (h : l.length ≠ 0) : relF S R (k + 1) = relF S R k ++ [relaS S.length k s.name l] := by simp [relF, hs, hl, h]
theorem relF_length (S : List Sect) (R : List (List Rel)) : ∀ k, (relF S R k).length ≤ k
  | 0 => Nat.le_refl _
  | k + 1 => by
    have ih := relF_length S R k
    rw [relF, List.length_append]
    split
    · split <;> simp <;> omega
    · simp; omega

/-- What is put, or why not. -/
def oputE (kind machine : Int) (S : List Sect) (Y : List Sym) (R : List (List Rel)) : Int := match rightO S Y R with | true => putE kind machine (fileO S Y R) | false => 2
def oputR (kind machine : Int) (S : List Sect) (Y : List Sym) (R : List (List Rel)) : List UInt8 := match rightO S Y R with | true => putR kind machine (fileO S Y R) | false => []

/-- What is true of an object that may be put. -/
structure RightOb (S : List Sect) (Y : List Sym) (R : List (List Rel)) : Prop where
  first : ∃ s, S[0]? = some s ∧ sameS s zeroS = true
  made : anyMade S = false
  syms : rightY Y = true
  placed : placedY Y S.length = true
  len : R.length = 0 ∨ R.length = S.length
  none_ : R.length ≠ 0 → (R.headD []).length = 0
  lists : ∀ l ∈ R, badL Y.length l = false
theorem right_iso (h : rightO S Y R = true) : RightOb S Y R := by
  unfold rightO at h
  simp only [Bool.and_eq_true, decide_eq_true_eq, Bool.not_eq_true'] at h
  obtain ⟨h1, h2, h3, h4, h5, h6⟩ := h
  have hs : S[0]? = some (S[0]'h1) := List.getElem?_eq_getElem _
  rw [hs, Option.any_some] at h2
  unfold rightRest at h6
  simp only [Bool.or_eq_true, Bool.and_eq_true, decide_eq_true_eq, Bool.not_eq_true'] at h6
  refine ⟨⟨_, hs, h2⟩, h3, h4, h5, ?_, ?_, ?_⟩
  · rcases h6 with h | ⟨h, _⟩
    · exact .inl h
    · exact .inr h
  · rcases h6 with h | ⟨_, h, _⟩
    · exact fun h0 => absurd h h0
    · exact fun _ => h
  · intro l hl
    rcases h6 with h | ⟨_, _, h⟩
    · have : R = [] := by simpa using h
      rw [this] at hl; cases hl
    · rw [List.any_eq_false] at h
      simpa using h l hl
theorem RightOb.fit (h : RightOb S Y R) (hl : l ∈ R) : l.length ≤ 400 ∧ fitR l Y.length = true := by
  have := h.lists l hl
  unfold badL at this
  simp only [Bool.or_eq_false_iff, decide_eq_false_iff_not, Bool.not_eq_false'] at this
  exact ⟨by omega, this.2⟩
theorem RightOb.pos (h : RightOb S Y R) : 0 < S.length := by
  obtain ⟨s, hs, _⟩ := h.first
  exact (List.getElem?_eq_some_iff.1 hs).1

theorem tabY_size (h : rightY Y = true) : (tabY Y).length ≤ 9600 := by
  have h1 := tabK_length Y Y.length
  have h2 := (rightY_all h).1
  unfold tabY
  rw [h]
  show (tabK Y Y.length).length ≤ _
  omega
theorem txtY_size (h : rightY Y = true) (hs : sumN Y ≤ 50000) : (txtY Y).length ≤ 50500 := by
  have h1 := texK_span Y Y.length (Nat.le_refl _)
  have h2 := (rightY_all h).1
  have h3 := sumN_take Y Y.length
  unfold txtY
  rw [h]
  show (putsT (texK Y Y.length)).length ≤ _
  rw [(show (putsT (texK Y Y.length)).length = spanT (texK Y Y.length) from spanT_puts (texK_good Y Y.length).1)]
  omega
theorem symtab_fits (n : Nat) (hn : n ≤ 100000) (d : List UInt8) (hd : d.length ≤ 100000) : (symtabS n d).Fits :=
  ⟨by unfold InI symtabS; simp only; omega, by unfold InI symtabS; simp only; omega, by unfold InI symtabS; simp only; omega, by unfold InI symtabS; simp only; omega, by unfold InI symtabS; simp only; omega, by show (0 : Nat) < two64; decide, by show (0 : Nat) < two64; decide, hd, by show (7 : Nat) ≤ 100000; decide⟩
theorem strtab_fits (d : List UInt8) (hd : d.length ≤ 100000) : (strtabS d).Fits :=
  ⟨by unfold InI strtabS; simp only; omega, by unfold InI strtabS; simp only; omega, by unfold InI strtabS; simp only; omega, by unfold InI strtabS; simp only; omega, by unfold InI strtabS; simp only; omega, by show (0 : Nat) < two64; decide, by show (0 : Nat) < two64; decide, hd, by show (7 : Nat) ≤ 100000; decide⟩
theorem rela_fits (n i : Nat) (hn : n ≤ 100000) (hi : i ≤ 100000) (nm : List UInt8) (hnm : nm.length ≤ 8000) (l : List Rel) (hl : l.length ≤ 400) : (relaS n i nm l).Fits :=
  ⟨by unfold InI relaS; simp only; omega, by unfold InI relaS; simp only; omega, by unfold InI relaS; simp only; omega, by unfold InI relaS; simp only; omega, by unfold InI relaS; simp only; omega, by show (0 : Nat) < two64; decide, by show (0 : Nat) < two64; decide, by have := relB_length l l.length; show (relB l l.length).length ≤ _; omega, by show (relaN ++ nm).length ≤ _; rw [List.length_append]; show 5 + nm.length ≤ _; omega⟩

/-! ### The row that grows -/
/-- Sections laid one behind the other in a row of the call's own. -/
structure FileSt (w wr : World) (v : Value) (L : List Lay) : Prop where
  row : OwnL wr w.heap.size v L
  keep : KeepL wr w.heap.size L
  fits : ∀ x ∈ L, x.s.Fits
  below : Below w.heap.size w wr
theorem FileSt.later {w wr w' : World} {v : Value} {L : List Lay} (h : FileSt w wr v L) (hb : Below wr.heap.size wr w') : FileSt w w' v L :=
  ⟨row_below h.row hb, h.keep.only (Only.below (bad := fun _ => False) hb h.below.size) (fun _ _ x => x), h.fits, h.below.trans (hb.mono h.below.size)⟩
theorem FileSt.alloc {w wr : World} {v : Value} {L : List Lay} (h : FileSt w wr v L) (o : Obj) : FileSt w (wr.alloc o) v L := h.later ((Below.refl _ _).alloc (Nat.le_refl _) o)
theorem FileSt.more {w wr w' : World} {v : Value} {L M : List Lay} {g c : Nat} (h : FileSt w wr v L) (hM : ∀ x ∈ M, Own wr w.heap.size x.dv x.s.data ∧ x.s.Fits) (hr : w'.ownsRow w.heap.size 39 9 (.slice (some ⟨g, 0, none⟩) (L.length + M.length) c) (L.length + M.length) (cellsL L ++ cellsL M)) (hg : wr.grownBy w' v.ownBlock) :
    FileSt w w' (.slice (some ⟨g, 0, none⟩) (L ++ M).length c) (L ++ M) := by
  have ho := row_turns h.row hg h.below.size
  refine ⟨by rw [OwnL, List.length_append, cellsL_append]; exact hr, fun x hx => ?_, fun x hx => ?_, h.below.trans ho.1⟩
  · rcases List.mem_append.1 hx with hx | hx
    · exact (h.keep.only ho (fun cs f hh => absurd (show 5 = 39 from hh) (by decide))) x hx
    · have h1 : Own w' w.heap.size x.dv x.s.data := row_only (hM x hx).1 ho (fun cs f hh => absurd (show 5 = 39 from hh) (by decide))
      obtain ⟨A, c', e, hle, hcm, _⟩ := own_slice h1
      unfold Lay.dv at e
      injection e with e1 e2 e3
      exact ⟨.inr h1, by rw [e3]; exact hle, by rw [e3]; exact hcm⟩
  · rcases List.mem_append.1 hx with hx | hx
    · exact h.fits x hx
    · exact (hM x hx).2
/-- The row, as sections that lie. -/
theorem FileSt.secs {w wr : World} {v : Value} {L : List Lay} (h : FileSt w wr v L) : ∃ A c, v = .slice A L.length c ∧ L.length ≤ c ∧ c ≤ maxLen ∧ Secs wr wr.heap.size A L :=
  ownl_secs h.row (fun x hx => by
    obtain ⟨h1, h2, h3⟩ := h.keep.rd h.below.size hx
    exact ⟨h1, h2, h3, h.fits x hx⟩)

end Go.Proofs.YtldmjnbmjfnfeaaGreatDoor

namespace Go.Proofs.YtldmjnbmjfnfeaaGreatDoor
open Go Go.RowKit

/-- The document's cursor, a struct in memory beside it, and what has not turned since w0. -/
def StQ (T : TypeId) (B : Nat) (w0 w : World) (g : Nat) (v : Value) (l : List UInt8) (a : Nat) (H : Nat) (cs : Array Value) : Prop :=
  RR B w g v l a 0 ∧ Box w H T cs ∧ w0.grownBy w (some g)
theorem clamp_small (s : Nat) (h : s ≤ 8) : clampOf (s : Int) = s := by unfold clampOf; omega
theorem q_num {B : Nat} {w : World} {g : Nat} {v : Value} {l : List UInt8} {a : Nat} (h : RR B w g v l a 0) (s : Nat) (hs : s ≤ 8) (hlen : l.length ≤ 140737488355328) (hin : a + s ≤ l.length) :
    Calls Tryz.prog 56 #[.pointer (some ⟨g, 0, none⟩), .int .i64 (s : Int)] w fun r w' => r = .returned (.int .u64 (numT l a s : Int)) ∧ RR B w' g v l (a + s) 0 ∧ w.grownBy w' (some g) := by
  have hc := clamp_small s hs
  have := quint_ok h (s : Int) (by omega) hlen (by rw [hc]; omega)
  rw [hc] at this
  exact this
section
variable {T : TypeId} {B : Nat} {w0 w w' : World} {g : Nat} {v : Value} {l : List UInt8} {a b H : Nat} {cs : Array Value}
theorem StQ.call (h : StQ T B w0 w g v l a H cs) (hne : g ≠ H) (hC : RR B w' g v l b 0) (hG : w.grownBy w' (some g)) : StQ T B w0 w' g v l b H cs :=
  ⟨hC, h.2.1.grown hG (by simpa using fun e => hne e.symm), h.2.2.trans hG⟩
theorem StQ.set (h : StQ T B w0 w g v l a H cs) (hne : g ≠ H) (hB : B ≤ H) (hH : w0.heap.size ≤ H) (i : Nat) (u : Value) : StQ T B w0 (w.setCell ⟨H, i, none⟩ u) g v l a H (cs.setIfInBounds i u) :=
  have G : w.grownBy (w.setCell ⟨H, i, none⟩ u) (some H) := only_set (only_refl w (some H)) i u
  ⟨h.1.grown G (by simpa using hne) (fun x hx => by injection hx with hx; omega), h.2.1.set i u, only_trans h.2.2 G (.inr fun x hx => by injection hx with hx; omega)⟩
theorem StQ.num (h : StQ T B w0 w g v l a H cs) (hne : g ≠ H) (s : Nat) (hs : s ≤ 8) (hlen : l.length ≤ 140737488355328) (hin : a + s ≤ l.length) :
    Calls Tryz.prog 56 #[.pointer (some ⟨g, 0, none⟩), .int .i64 (s : Int)] w fun r w' => r = .returned (.int .u64 (numT l a s : Int)) ∧ StQ T B w0 w' g v l (a + s) H cs :=
  (q_num h.1 s hs hlen hin).mono fun _ _ ⟨h1, h2, h3⟩ => ⟨h1, h.call hne h2 h3⟩
end

/-- An item that was just laid. -/
theorem cells_new (w : World) (cs : List Value) (t : TypeId) : ∀ j u, cs[j]? = some u → (w.alloc (.cells cs.toArray t)).cell? ((⟨w.heap.size, 0, none⟩ : Addr).add j) = some u := by
  intro j u hj
  rw [addr_add, Nat.zero_add, (Box.new w t cs.toArray).cell]
  simpa using hj
end Go.Proofs.YtldmjnbmjfnfeaaGreatDoor

namespace Go.Proofs.YtldmjnbmjfnfeaaGreatDoor
open Go Go.RowKit

/-- A symbol's, a relocation's numbers are what their types may be. -/
structure Sym.Nums (s : Sym) : Prop where
  bind : InI s.bind
  kind : InI s.kind
  sect : InI s.sect
  value : s.value < two64
  size : s.size < two64
structure Rel.Nums (s : Rel) : Prop where
  off : s.off < two64
  sym : InI s.sym
  kind : InI s.kind
  add : InI s.add
end Go.Proofs.YtldmjnbmjfnfeaaGreatDoor

namespace Go.Proofs.YtldmjnbmjfnfeaaGreatDoor
open Go Go.RowKit

theorem num_at {A C : List UInt8} {x w f : Nat} (hf : A.length = f) : numT (A ++ (leBytes x w ++ C)) f w = x % 256 ^ w := by
  unfold numT cutT
  subst hf
  rw [List.drop_left]
  have : (leBytes x w ++ C).take w = leBytes x w := by
    conv => lhs; rw [show w = (leBytes x w).length from (leBytes_length x w).symm]
    rw [leBytes_length]
    exact List.take_left' (leBytes_length x w)
  rw [this, leNat_leBytes]

/-! ### The table -/
section
variable {L : List Sym} {k : Nat} {x : Sym}
theorem tabK_len : ∀ (k : Nat), k ≤ L.length → (tabK L k).length = 24 * k
  | 0, _ => rfl
  | k + 1, hk => by
    have hx : L[k]? = some (L[k]'(by omega)) := List.getElem?_eq_getElem _
    rw [tabK_next hx, List.length_append, tabK_len k (by omega)]
    simp [itsY, itsB]
    omega
theorem tabK_split (hx : L[k]? = some x) : ∀ (n : Nat), k < n → ∃ R, tabK L n = tabK L k ++ (itsB (itsY (addT (texK L k) x.name).2.1 x) ++ R)
  | 0, h => by omega
  | n + 1, h => by
    rcases Nat.lt_or_ge k n with h1 | h1
    · obtain ⟨R, hR⟩ := tabK_split hx n h1
      obtain ⟨Z, hZ⟩ : ∃ Z, tabK L (n + 1) = tabK L n ++ Z := ⟨_, rfl⟩
      rw [hZ, hR]
      exact ⟨R ++ Z, by simp only [List.append_assoc]⟩
    · obtain rfl : k = n := by omega
      rw [tabK_next hx]
      exact ⟨[], by rw [List.append_nil]⟩
theorem texK_find (hx : L[k]? = some x) (hr : rightT x.name = true) (hs : spanT (texK L k) ≤ 60000) : ∀ (n : Nat), k < n → n ≤ L.length → findT (texK L n) x.name = some (addT (texK L k) x.name).2.1
  | 0, h, _ => by omega
  | n + 1, h, hn => by
    rcases Nat.lt_or_ge k n with h1 | h1
    · have ih := texK_find hx hr hs n h1 (by omega)
      have hy : L[n]? = some (L[n]'(by omega)) := List.getElem?_eq_getElem _
      rw [texK_next hy]
      exact findT_keep ih _
    · obtain rfl : k = n := by omega
      rw [texK_next hx]
      exact (addT_ok hr hs).2.1
end
theorem atT_more {ps : List (List UInt8)} {t tail : List UInt8} {p : Nat} (hg : ∀ s ∈ ps, rightT s = true) (hf : findT ps t = some p) : atT (putsT ps ++ tail) p = (t, 0) := by
  have key : ∀ (l : List (List UInt8)) (q : Nat), (∀ s ∈ l, rightT s = true) → findT l t = some q → q < (putsT l ++ tail).length ∧ readT ((putsT l ++ tail).drop q) = (t, t.length + 1, 0) := by
    intro l
    induction l with
    | nil => intro q _ h; simp [findT] at h
    | cons s l ih =>
      intro q hr h
      have hs := hr s (by simp)
      have hps := (rightT_spec hs).2.2
      have hl : (putT s).length = s.length + 1 := by rw [hps]; simp
      have e0 : putsT (s :: l) ++ tail = putT s ++ (putsT l ++ tail) := by simp [putsT]
      rw [e0]
      unfold findT at h
      split at h
      · rename_i e
        injection h with h
        subst h e
        refine ⟨by rw [List.length_append, hl]; omega, ?_⟩
        rw [List.drop_zero]
        exact readT_put hs _
      · obtain ⟨q', hq, rfl⟩ := Option.map_eq_some_iff.1 h
        obtain ⟨h1, h2⟩ := ih q' (fun x hx => hr x (by simp [hx])) hq
        refine ⟨by rw [List.length_append, hl]; omega, ?_⟩
        have e : (putT s ++ (putsT l ++ tail)).drop (q' + (s.length + 1)) = (putsT l ++ tail).drop q' := by
          rw [← hl, Nat.add_comm, ← List.drop_drop, List.drop_left]
        rw [e]
        exact h2
  obtain ⟨h1, h2⟩ := key ps p hg hf
  unfold atT
  rw [if_pos h1, h2]

theorem wrapN_nat {t : Int} {n : Nat} (h : t = (n : Int)) (hn : n < two64) : wrapN t = n := by
  subst h
  unfold wrapN
  unfold two64 at hn
  rw [IntKind.wrap_u64]
  omega

theorem sym_back {L : List Sym} {tail : List UInt8} (hr : rightY L = true) (hs : sumN L ≤ 50000) (hn : ∀ x ∈ L, x.Nums) {k : Nat} {x : Sym} (hx : L[k]? = some x) :
    symK (tabK L L.length) (putsT (texK L L.length) ++ tail) k = x ∧ okK (tabK L L.length) (putsT (texK L L.length) ++ tail) k = true := by
  obtain ⟨hl4, hok⟩ := rightY_all hr
  have hk : k < L.length := (List.getElem?_eq_some_iff.1 hx).1
  have hm := List.mem_of_getElem? hx
  obtain ⟨hrt, ⟨hb0, hb1⟩, ⟨hk0, hk1⟩, hs0, hs1⟩ := okY_facts (hok x hm)
  obtain ⟨R, hR⟩ := tabK_split hx L.length hk
  have hspan : spanT (texK L k) ≤ 60000 := by
    have h1 := texK_span L k (by omega)
    have h2 := sumN_take L k
    omega
  have hfind := texK_find hx hrt hspan L.length hk (Nat.le_refl _)
  have hat := atT_more (tail := tail) (gat_good ((namesY L).take (L.length + 1))).1 hfind
  have hat' : atT (putsT (texK L L.length) ++ tail) (addT (texK L k) x.name).2.1 = (x.name, 0) := hat
  have hp := addT_at (gat_good ((namesY L).take (k + 1))) x.name
  have hp' : (addT (texK L k) x.name).2.1 < 65536 := hp
  have hA := tabK_len (L := L) k (by omega)
  have hNm := hn x hm
  have hval := hNm.value
  have hsiz := hNm.size
  unfold two64 at hval hsiz
  clear hat hp hfind hspan hNm
  generalize (addT (texK L k) x.name).2.1 = p at *
  obtain ⟨bi, hbi⟩ : ∃ n : Nat, x.bind = (n : Int) := ⟨x.bind.toNat, by omega⟩
  obtain ⟨ki, hki⟩ : ∃ n : Nat, x.kind = (n : Int) := ⟨x.kind.toNat, by omega⟩
  obtain ⟨se, hse⟩ : ∃ n : Nat, x.sect = (n : Int) := ⟨x.sect.toNat, by omega⟩
  have e1 : wrapN (x.bind * 16 + x.kind) = bi * 16 + ki := wrapN_nat (by omega) (by unfold two64; omega)
  have e2 : wrapN x.sect = se := wrapN_nat hse (by unfold two64; omega)
  have hI : itsB (itsY p x) ++ R = leBytes p 4 ++ (leBytes (bi * 16 + ki) 1 ++ (leBytes 0 1 ++ (leBytes se 2 ++ (leBytes x.value 8 ++ (leBytes x.size 8 ++ R))))) := by
    unfold itsY
    rw [e1, e2]
    simp only [itsB, List.flatMap_cons, List.flatMap_nil, List.append_nil, List.append_assoc]
  rw [hI] at hR
  have n0 : numT (tabK L L.length) (24 * k) 4 = p := by
    rw [hR, num_at hA]
    omega
  have n1 : numT (tabK L L.length) (24 * k + 4) 1 = bi * 16 + ki := by
    rw [hR, ← List.append_assoc, num_at (by rw [List.length_append, hA, leBytes_length])]
    omega
  have n3 : numT (tabK L L.length) (24 * k + 6) 2 = se := by
    rw [hR, ← List.append_assoc, ← List.append_assoc, ← List.append_assoc, num_at (by simp only [List.length_append, hA, leBytes_length])]
    omega
  have n4 : numT (tabK L L.length) (24 * k + 8) 8 = x.value := by
    rw [hR, ← List.append_assoc, ← List.append_assoc, ← List.append_assoc, ← List.append_assoc, num_at (by simp only [List.length_append, hA, leBytes_length])]
    omega
  have n5 : numT (tabK L L.length) (24 * k + 16) 8 = x.size := by
    rw [hR, ← List.append_assoc, ← List.append_assoc, ← List.append_assoc, ← List.append_assoc, ← List.append_assoc, num_at (by simp only [List.length_append, hA, leBytes_length])]
    omega
  constructor
  · unfold symK nameAt
    rw [n0, n1, n3, n4, n5, hat']
    rcases x with ⟨nm, b, kd, sc, va, sz⟩
    simp only at *
    subst hbi hki hse
    congr 1
    · omega
    · omega
  · unfold okK nameAt
    rw [n0, n3, hat']
    simp
    omega

theorem okTo_all {ok : Nat → Bool} {n : Nat} (h : ∀ k, k < n → ok k = true) : okTo ok n = true := by
  rw [okTo, List.all_eq_true]
  intro k hk
  exact h k (by simpa using hk)
theorem listTo_eq {α : Type} {f : Nat → α} {L : List α} (h : ∀ k x, L[k]? = some x → f k = x) : listTo f L.length = L := by
  apply List.ext_getElem?
  intro k
  unfold listTo
  rcases Nat.lt_or_ge k L.length with hk | hk
  · have hx : L[k]? = some (L[k]'hk) := List.getElem?_eq_getElem hk
    rw [hx, List.getElem?_map, List.getElem?_range hk]
    simp [h k _ hx]
  · rw [List.getElem?_eq_none hk, List.getElem?_eq_none (by simpa using hk)]

/-- Symbols that may be, put and taken. -/
theorem syms_back {L : List Sym} {tail : List UInt8} (hr : rightY L = true) (hs : sumN L ≤ 50000) (hn : ∀ x ∈ L, x.Nums) :
    takeEY (tabY L).length (okK (tabY L) (txtY L ++ tail)) 23 = 0 ∧ takeLY (tabY L).length (okK (tabY L) (txtY L ++ tail)) (symK (tabY L) (txtY L ++ tail)) = L := by
  obtain ⟨hl4, _⟩ := rightY_all hr
  unfold tabY txtY
  rw [hr]
  simp only
  have hlen := tabK_len (L := L) L.length (Nat.le_refl _)
  have hok : okTo (okK (tabK L L.length) (putsT (texK L L.length) ++ tail)) L.length = true := okTo_all fun k hk => (sym_back hr hs hn (List.getElem?_eq_getElem hk)).2
  exact ⟨takeEY_ok hlen hl4 hok, by rw [takeLY_ok hlen hl4 hok]; exact listTo_eq fun k x hx => (sym_back hr hs hn hx).1⟩

/-! ### Relocations -/
def goodR (x : Rel) : Bool := inTo x.sym 2147483647 && inTo x.kind 2147483647
section
variable {M : List Rel} {k : Nat} {x : Rel}
theorem relB_len : ∀ (k : Nat), k ≤ M.length → (relB M k).length = 24 * k
  | 0, _ => by simp [relB]
  | k + 1, hk => by
    have hx : M[k]? = some (M[k]'(by omega)) := List.getElem?_eq_getElem _
    rw [relB_next hx]
    simp only [List.length_append, leBytes_length, relB_len k (by omega)]
    omega
theorem relB_split (hx : M[k]? = some x) : ∀ (n : Nat), k < n → n ≤ M.length → ∃ R, relB M n = relB M k ++ (leBytes x.off 8 ++ (leBytes (wrapN x.kind) 4 ++ (leBytes (wrapN x.sym) 4 ++ (leBytes (wrapN x.add) 8 ++ R))))
  | 0, h, _ => by omega
  | n + 1, h, hn => by
    rcases Nat.lt_or_ge k n with h1 | h1
    · obtain ⟨R, hR⟩ := relB_split hx n h1 (by omega)
      have hy : M[n]? = some (M[n]'(by omega)) := List.getElem?_eq_getElem _
      rw [relB_next hy, hR]
      exact ⟨R ++ (leBytes (M[n]'(by omega)).off 8 ++ (leBytes (wrapN (M[n]'(by omega)).kind) 4 ++ (leBytes (wrapN (M[n]'(by omega)).sym) 4 ++ leBytes (wrapN (M[n]'(by omega)).add) 8))), by simp only [List.append_assoc]⟩
    · obtain rfl : k = n := by omega
      rw [relB_next hx]
      exact ⟨[], by simp only [List.append_assoc, List.append_nil]⟩
end
theorem rel_back {M : List Rel} (hg : ∀ x ∈ M, goodR x = true) (hn : ∀ x ∈ M, x.Nums) {k : Nat} {x : Rel} (hx : M[k]? = some x) : relK (relB M M.length) k = x ∧ okR (relB M M.length) k = true := by
  have hk : k < M.length := (List.getElem?_eq_some_iff.1 hx).1
  have hm := List.mem_of_getElem? hx
  have hgx := hg x hm
  unfold goodR inTo at hgx
  simp only [Bool.and_eq_true, decide_eq_true_eq] at hgx
  obtain ⟨⟨hs0, hs1⟩, hk0, hk1⟩ := hgx
  obtain ⟨R, hR⟩ := relB_split hx M.length hk (Nat.le_refl _)
  have hA := relB_len (M := M) k (by omega)
  have hNm := hn x hm
  have hof := hNm.off
  obtain ⟨ha0, ha1⟩ := hNm.add
  unfold two64 at hof
  obtain ⟨sy, hsy⟩ : ∃ n : Nat, x.sym = (n : Int) := ⟨x.sym.toNat, by omega⟩
  obtain ⟨ki, hki⟩ : ∃ n : Nat, x.kind = (n : Int) := ⟨x.kind.toNat, by omega⟩
  have e1 : wrapN x.kind = ki := wrapN_nat hki (by unfold two64; omega)
  have e2 : wrapN x.sym = sy := wrapN_nat hsy (by unfold two64; omega)
  rw [e1, e2] at hR
  have n0 : numT (relB M M.length) (24 * k) 8 = x.off := by
    rw [hR, num_at hA]
    omega
  have n1 : numT (relB M M.length) (24 * k + 8) 4 = ki := by
    rw [hR, ← List.append_assoc, num_at (by rw [List.length_append, hA, leBytes_length])]
    omega
  have n2 : numT (relB M M.length) (24 * k + 12) 4 = sy := by
    rw [hR, ← List.append_assoc, ← List.append_assoc, num_at (by simp only [List.length_append, hA, leBytes_length])]
    omega
  have n3 : numT (relB M M.length) (24 * k + 16) 8 = wrapN x.add := by
    rw [hR, ← List.append_assoc, ← List.append_assoc, ← List.append_assoc, num_at (by simp only [List.length_append, hA, leBytes_length])]
    have := wrapN_lt x.add; unfold two64 at this
    omega
  have e3 : IntKind.i64.wrap (wrapN x.add : Int) = x.add := by
    rw [← wrapN_eq, IntKind.wrap_u64, IntKind.wrap_i64]
    omega
  constructor
  · unfold relK
    rw [n0, n1, n2, n3, e3]
    rcases x with ⟨of, sm, kd, ad⟩
    simp only at *
    subst hsy hki
    rfl
  · unfold okR
    rw [n1, n2]
    simp
    omega

/-- Relocations whose numbers may be, put and taken. -/
theorem rels_back {M : List Rel} (hl : M.length ≤ 400) (hg : ∀ x ∈ M, goodR x = true) (hn : ∀ x ∈ M, x.Nums) :
    takeEY (relB M M.length).length (okR (relB M M.length)) 24 = 0 ∧ takeLY (relB M M.length).length (okR (relB M M.length)) (relK (relB M M.length)) = M := by
  have hlen := relB_len (M := M) M.length (Nat.le_refl _)
  have hok : okTo (okR (relB M M.length)) M.length = true := okTo_all fun k hk => (rel_back hg hn (List.getElem?_eq_getElem hk)).2
  exact ⟨takeEY_ok hlen hl hok, by rw [takeLY_ok hlen hl hok]; exact listTo_eq fun k x hx => (rel_back hg hn hx).1⟩

end Go.Proofs.YtldmjnbmjfnfeaaGreatDoor

namespace Go.Proofs.YtldmjnbmjfnfeaaGreatDoor
open Go Go.RowKit

theorem tabled_end (l : List Sect) (z : Sect) (t : List UInt8) : tabled (l ++ [z]) t = l ++ [{ z with data := t }] := by
  unfold tabled
  have h1 : (l ++ [z]).length - 1 = l.length := by simp
  have h2 : (l ++ [z])[l.length]? = some z := by simp
  rw [h1, h2]
  simp only
  apply List.ext_getElem?
  intro i
  by_cases hi : i < l.length
  · rw [List.getElem?_append_left hi, List.getElem?_set_ne (by omega), List.getElem?_append_left hi]
  · by_cases h3 : i = l.length
    · subst h3; simp
    · rw [List.getElem?_set_ne (by omega), List.getElem?_eq_none (by simp; omega), List.getElem?_eq_none (by simp; omega)]

/-! ### Runs of sections that are none of these -/
theorem place_run {S : List Sect} {a : Nat} : ∀ (b : Nat), a ≤ b → (∀ i s, a ≤ i → i < b → S[i]? = some s → s.kind ≠ 2) → placeK S b = placeK S a
  | 0, h, _ => by rw [show a = 0 by omega]
  | b + 1, h, hk => by
    rcases Nat.lt_or_ge b a with h1 | h1
    · rw [show a = b + 1 by omega]
    · have ih := place_run b h1 (fun i s h2 h3 => hk i s h2 (by omega))
      rcases hx : S[b]? with _ | x
      · simp [placeK, hx, ih]
      · rw [placeK_other hx (hk b x h1 (by omega) hx), ih]
theorem rel_run {S : List Sect} {p : Int} {n : Nat} : ∀ (b : Nat), b ≤ S.length → (∀ i s, i < b → S[i]? = some s → s.kind ≠ 9 ∧ s.kind ≠ 4) → relUp S p n b = 0 ∧ hadK S b = List.replicate S.length false ∧ relaK S b = List.replicate S.length []
  | 0, _, _ => ⟨rfl, rfl, rfl⟩
  | b + 1, hb, hk => by
    obtain ⟨h1, h2, h3⟩ := rel_run (S := S) (p := p) (n := n) b (by omega) (fun i s hi => hk i s (by omega))
    have hx : S[b]? = some (S[b]'(by omega)) := List.getElem?_eq_getElem _
    obtain ⟨k9, k4⟩ := hk b _ (by omega) hx
    obtain ⟨g1, g2, g3⟩ := rel_other hx h1 k9 k4
    exact ⟨g1, by rw [g2, h2], by rw [g3, h3]⟩

/-! ### The file's sections -/
section
variable {S : List Sect} {Y : List Sym} {R : List (List Rel)} {z : Sect}
theorem relF_mem {x : Sect} : ∀ k, x ∈ relF S R k → ∃ i s l, i < k ∧ S[i]? = some s ∧ R[i]? = some l ∧ l.length ≠ 0 ∧ x = relaS S.length i s.name l
  | 0, h => by cases h
  | k + 1, h => by
    rw [relF, List.mem_append] at h
    rcases h with h | h
    · obtain ⟨i, s, l, h1, h2⟩ := relF_mem k h
      exact ⟨i, s, l, by omega, h2⟩
    · rcases hs : S[k]? with _ | s
      · rw [hs] at h; cases h
      · rcases hl : R[k]? with _ | l
        · rw [hs, hl] at h; cases h
        · rw [hs, hl] at h
          simp only at h
          by_cases h0 : l.length = 0
          · rw [if_pos h0] at h; cases h
          · rw [if_neg h0] at h
            simp only [List.mem_cons, List.not_mem_nil, or_false] at h
            exact ⟨k, s, l, by omega, hs, hl, h0, h⟩
theorem relF_grows (k : Nat) : ∀ m, k ≤ m → relF S R k <+: relF S R m
  | 0, h => by rw [show k = 0 by omega]; exact List.prefix_refl _
  | m + 1, h => by
    rcases Nat.lt_or_ge m k with h1 | h1
    · rw [show k = m + 1 by omega]; exact List.prefix_refl _
    · exact (relF_grows k m h1).trans (List.prefix_append _ _)
/-- The sections of the file, with the section of names behind. -/
def backF (S : List Sect) (Y : List Sym) (R : List (List Rel)) (z : Sect) : List Sect := headF S Y ++ (relF S R R.length ++ [z])
theorem headF_none (h : Y.length = 0) : headF S Y = S := by unfold headF; rw [if_pos h, List.append_nil]
theorem headF_some (h : Y.length ≠ 0) : headF S Y = S ++ [symtabS S.length (tabY Y), strtabS (txtY Y)] := by unfold headF; rw [if_neg h]
theorem made_kinds (h : anyMade S = false) {i : Nat} {s : Sect} (hs : S[i]? = some s) : s.kind ≠ 2 ∧ s.kind ≠ 4 ∧ s.kind ≠ 9 := by
  unfold anyMade at h
  rw [List.any_eq_false] at h
  have := h s (List.mem_of_getElem? hs)
  unfold madeS at this
  simp only [Bool.or_eq_true, decide_eq_true_eq, not_or] at this
  exact ⟨this.1, this.2.1, this.2.2.1⟩
theorem back_low {i : Nat} (hi : i < S.length) : (backF S Y R z)[i]? = S[i]? := by
  unfold backF headF
  rw [List.getElem?_append_left (by rw [List.length_append]; omega), List.getElem?_append_left hi]
theorem back_high {i : Nat} : (backF S Y R z)[(headF S Y).length + i]? = (relF S R R.length ++ [z])[i]? := by
  unfold backF
  rw [List.getElem?_append_right (by omega), Nat.add_sub_cancel_left]
theorem back_sym (h : Y.length ≠ 0) : (backF S Y R z)[S.length]? = some (symtabS S.length (tabY Y)) ∧ (backF S Y R z)[S.length + 1]? = some (strtabS (txtY Y)) := by
  unfold backF
  rw [headF_some h]
  constructor
  · simp
  · simp
theorem back_length : (backF S Y R z).length = (headF S Y).length + (relF S R R.length).length + 1 := by
  unfold backF; simp; omega
/-- What stands behind the sections that were there. -/
theorem back_kind (hz : z.kind = 3) {i : Nat} {s : Sect} (hi : (headF S Y).length ≤ i) (hs : (backF S Y R z)[i]? = some s) : s.kind = 4 ∨ s.kind = 3 := by
  obtain ⟨j, rfl⟩ : ∃ j, i = (headF S Y).length + j := ⟨i - (headF S Y).length, by omega⟩
  rw [back_high] at hs
  have hm := List.mem_of_getElem? hs
  rw [List.mem_append] at hm
  rcases hm with hm | hm
  · obtain ⟨i, s', l, _, _, _, _, rfl⟩ := relF_mem _ hm
    exact .inl rfl
  · simp only [List.mem_cons, List.not_mem_nil, or_false] at hm
    subst hm
    exact .inr hz
/-- Where the symbols are. -/
theorem back_place (hI : anyMade S = false) (hz : z.kind = 3) : placeS (backF S Y R z) = if Y.length = 0 then -1 else (S.length : Int) := by
  have hlen := back_length (S := S) (Y := Y) (R := R) (z := z)
  have hlow : placeK (backF S Y R z) S.length = -1 := by
    rw [place_run (a := 0) S.length (by omega) (fun i s _ hi hs => by rw [back_low hi] at hs; exact (made_kinds hI hs).1)]
    rfl
  unfold placeS
  by_cases h : Y.length = 0
  · rw [if_pos h]
    have hh : (headF S Y).length = S.length := by rw [headF_none h]
    rw [place_run (a := S.length) _ (by omega) (fun i s h1 _ hs => by have := back_kind hz (by omega) hs; omega)]
    exact hlow
  · rw [if_neg h]
    obtain ⟨g1, g2⟩ := back_sym (S := S) (R := R) (z := z) h
    have hh : (headF S Y).length = S.length + 2 := by rw [headF_some h]; simp
    rw [place_run (a := S.length + 1) _ (by omega) (fun i s h1 _ hs => by
      by_cases h2 : i = S.length + 1
      · subst h2
        rw [g2] at hs
        injection hs with hs
        subst hs
        exact (by decide : (3 : Int) ≠ 2)
      · have := back_kind hz (by omega) hs; omega)]
    exact placeK_first g1 rfl hlow
theorem placedY_more {n m : Nat} (h : placedY Y n = true) (hm : n ≤ m) : placedY Y m = true := by
  unfold placedY at h ⊢
  simp only [Bool.not_eq_true'] at h ⊢
  rw [List.any_eq_false] at h ⊢
  intro x hx
  have := h x hx
  unfold farY at this ⊢
  simp only [Bool.and_eq_true, decide_eq_true_eq] at this ⊢
  omega
/-- The symbols. -/
theorem back_syms (hI : RightOb S Y R) (hz : z.kind = 3) (hs : sumN Y ≤ 50000) (hn : ∀ x ∈ Y, x.Nums) : symX (backF S Y R z) = 0 ∧ symY (backF S Y R z) = Y := by
  have hp := back_place (S := S) (Y := Y) (R := R) hI.made hz
  unfold symX symY
  rw [hp]
  by_cases h : Y.length = 0
  · rw [if_pos h, if_pos (by decide), if_pos (by decide)]
    exact ⟨rfl, (List.length_eq_zero_iff.1 h).symm⟩
  · rw [if_neg h, if_neg (by omega), if_neg (by omega), Int.toNat_natCast]
    obtain ⟨g1, g2⟩ := back_sym (S := S) (R := R) (z := z) h
    have g3 : (backF S Y R z)[(symtabS S.length (tabY Y)).link.toNat]? = some (strtabS (txtY Y)) := by
      rw [show (symtabS S.length (tabY Y)).link = ((S.length + 1 : Nat) : Int) from rfl, Int.toNat_natCast]
      exact g2
    obtain ⟨e1, e2⟩ := syms_there g1 g3 rfl
    obtain ⟨b1, b2⟩ := syms_back (tail := []) hI.syms hs hn
    rw [List.append_nil] at b1 b2
    have hpl : placedY Y (backF S Y R z).length = true := placedY_more hI.placed (by
      have := back_length (S := S) (Y := Y) (R := R) (z := z)
      rw [headF_some h] at this
      simp at this
      omega)
    obtain ⟨c1, c2⟩ := sym_in (n := (backF S Y R z).length) (d := tabY Y) (t := txtY Y) b1 (by rw [b2]; exact hpl)
    rw [e1, e2]
    exact ⟨c1, by rw [show (symtabS S.length (tabY Y)).data = tabY Y from rfl, show (strtabS (txtY Y)).data = txtY Y from rfl, c2, b2]⟩

/-! ### The relocations -/
def metL (R : List (List Rel)) (M k : Nat) : List Bool := (List.range M).map fun i => decide (i < k) && decide ((R[i]?.getD []).length ≠ 0)
def gotL (R : List (List Rel)) (M k : Nat) : List (List Rel) := (List.range M).map fun i => if i < k then R[i]?.getD [] else []
theorem metL_zero (M : Nat) : metL R M 0 = List.replicate M false := by
  apply List.ext_getElem
  · simp [metL]
  · intro i h1 h2
    simp [metL]
theorem gotL_zero (M : Nat) : gotL R M 0 = List.replicate M [] := by
  apply List.ext_getElem
  · simp [gotL]
  · intro i h1 h2
    simp [gotL]
theorem metL_none {M k : Nat} (h : (R[k]?.getD []).length = 0) : metL R M (k + 1) = metL R M k := by
  unfold metL
  apply List.map_congr_left
  intro i _
  by_cases hi : i = k
  · subst hi; simp [h]
  · rw [decide_eq_decide.2 (show i < k + 1 ↔ i < k by omega)]
theorem gotL_none {M k : Nat} (h : (R[k]?.getD []).length = 0) : gotL R M (k + 1) = gotL R M k := by
  unfold gotL
  apply List.map_congr_left
  intro i _
  by_cases hi : i = k
  · subst hi
    rw [if_pos (by omega), if_neg (by omega)]
    exact List.length_eq_zero_iff.1 h
  · by_cases h2 : i < k
    · rw [if_pos h2, if_pos (by omega)]
    · rw [if_neg h2, if_neg (by omega)]
theorem metL_get {M k i : Nat} (h : i < M) : (metL R M k)[i]? = some (decide (i < k) && decide ((R[i]?.getD []).length ≠ 0)) := by
  unfold metL
  rw [List.getElem?_map, List.getElem?_range h]
  rfl
theorem gotL_get {M k i : Nat} (h : i < M) : (gotL R M k)[i]? = some (if i < k then R[i]?.getD [] else []) := by
  unfold gotL
  rw [List.getElem?_map, List.getElem?_range h]
  rfl
theorem metL_length {M k : Nat} : (metL R M k).length = M := by simp [metL]
theorem gotL_length {M k : Nat} : (gotL R M k).length = M := by simp [gotL]
theorem metL_some {M k : Nat} (hk : k < M) (h : (R[k]?.getD []).length ≠ 0) : (metL R M k).set k true = metL R M (k + 1) := by
  apply List.ext_getElem?
  intro i
  rcases Nat.lt_or_ge i M with hi | hi
  · by_cases e : k = i
    · subst e
      rw [List.getElem?_set_self (by rw [metL_length]; exact hk), metL_get hi, decide_eq_true (show k < k + 1 by omega), decide_eq_true h]
      rfl
    · rw [List.getElem?_set_ne e, metL_get hi, metL_get hi, decide_eq_decide.2 (show i < k + 1 ↔ i < k by omega)]
  · rw [List.getElem?_eq_none (by rw [List.length_set, metL_length]; exact hi), List.getElem?_eq_none (by rw [metL_length]; exact hi)]
theorem gotL_some {M k : Nat} (hk : k < M) : (gotL R M k).set k (R[k]?.getD []) = gotL R M (k + 1) := by
  apply List.ext_getElem?
  intro i
  rcases Nat.lt_or_ge i M with hi | hi
  · by_cases e : k = i
    · subst e
      rw [List.getElem?_set_self (by rw [gotL_length]; exact hk), gotL_get hi, if_pos (by omega)]
    · rw [List.getElem?_set_ne e, gotL_get hi, gotL_get hi]
      by_cases h2 : i < k
      · rw [if_pos h2, if_pos (by omega)]
      · rw [if_neg h2, if_neg (by omega)]
  · rw [List.getElem?_eq_none (by rw [List.length_set, gotL_length]; exact hi), List.getElem?_eq_none (by rw [gotL_length]; exact hi)]
theorem metL_at {M k : Nat} (hk : k < M) : (metL R M k)[k]? = some false := by
  unfold metL
  rw [List.getElem?_map, List.getElem?_range hk]
  simp
theorem fit_rel {l : List Rel} {n : Nat} (h : fitR l n = true) : ∀ x ∈ l, 0 ≤ x.sym ∧ x.sym < (n : Int) ∧ 0 ≤ x.kind ∧ x.kind ≤ 2147483647 := by
  intro x hx
  unfold fitR at h
  simp only [Bool.not_eq_true'] at h
  rw [List.any_eq_false] at h
  have := h x hx
  unfold badF at this
  simp only [Bool.or_eq_true, decide_eq_true_eq, not_or] at this
  omega
theorem relsE_back {l : List Rel} {n : Nat} (hl : l.length ≤ 400) (hf : fitR l n = true) (hn400 : n ≤ 400) (hn : ∀ x ∈ l, x.Nums) : relsE n (relB l l.length) = 0 ∧ relsL (relB l l.length) = l := by
  obtain ⟨h1, h2⟩ := rels_back hl (fun x hx => by
    obtain ⟨a1, a2, a3, a4⟩ := fit_rel hf x hx
    unfold goodR inTo
    simp only [Bool.and_eq_true, decide_eq_true_eq]
    omega) hn
  exact ⟨by rw [relsE_fit h1, h2, hf]; rfl, h2⟩

theorem back_rels (hI : RightOb S Y R) (hz : z.kind = 3) (hn : ∀ l ∈ R, ∀ x ∈ l, x.Nums) (k : Nat) (hk : k ≤ R.length) :
    relUp (backF S Y R z) (placeS (backF S Y R z)) Y.length ((headF S Y).length + (relF S R k).length) = 0 ∧
    hadK (backF S Y R z) ((headF S Y).length + (relF S R k).length) = metL R (backF S Y R z).length k ∧
    relaK (backF S Y R z) ((headF S Y).length + (relF S R k).length) = gotL R (backF S Y R z).length k := by
  have hlen := back_length (S := S) (Y := Y) (R := R) (z := z)
  have hhl : S.length ≤ (headF S Y).length := by unfold headF; simp
  induction k with
  | zero =>
    rw [metL_zero, gotL_zero]
    refine rel_run _ (by rw [hlen]; simp [relF]; omega) (fun i s hi hs => ?_)
    simp only [relF, List.length_nil, Nat.add_zero] at hi
    by_cases h1 : i < S.length
    · rw [back_low h1] at hs
      have := made_kinds hI.made hs
      exact ⟨this.2.2, this.2.1⟩
    · by_cases h : Y.length = 0
      · rw [headF_none h] at hi; omega
      · have hh : (headF S Y).length = S.length + 2 := by rw [headF_some h]; simp
        obtain ⟨g1, g2⟩ := back_sym (S := S) (R := R) (z := z) h
        rcases Nat.lt_or_ge S.length i with h2 | h2
        · rw [show i = S.length + 1 by omega, g2] at hs
          injection hs with hs
          subst hs
          exact ⟨(by decide : (3 : Int) ≠ 9), (by decide : (3 : Int) ≠ 4)⟩
        · rw [show i = S.length by omega, g1] at hs
          injection hs with hs
          subst hs
          exact ⟨(by decide : (2 : Int) ≠ 9), (by decide : (2 : Int) ≠ 4)⟩
  | succ k ih =>
    obtain ⟨h1, h2, h3⟩ := ih (by omega)
    obtain ⟨l, hl⟩ : ∃ l, R[k]? = some l := ⟨R[k]'(by omega), List.getElem?_eq_getElem _⟩
    have hRn : R.length = S.length := by
      rcases hI.len with h | h
      · omega
      · exact h
    obtain ⟨s, hs⟩ : ∃ s, S[k]? = some s := ⟨S[k]'(by omega), List.getElem?_eq_getElem _⟩
    have hgd : R[k]?.getD [] = l := by rw [hl]; rfl
    by_cases h0 : l.length = 0
    · rw [relF_none hs hl h0, metL_none (by rw [hgd]; exact h0), gotL_none (by rw [hgd]; exact h0)]
      exact ⟨h1, h2, h3⟩
    · rw [relF_some hs hl h0, List.length_append, show ([relaS S.length k s.name l] : List Sect).length = 1 from rfl, ← Nat.add_assoc]
      have hpre : relF S R k ++ [relaS S.length k s.name l] <+: relF S R R.length := by
        rw [← relF_some hs hl h0]; exact relF_grows (k + 1) R.length (by omega)
      have hat : (backF S Y R z)[(headF S Y).length + (relF S R k).length]? = some (relaS S.length k s.name l) := by
        rw [back_high]
        obtain ⟨t, ht⟩ := hpre
        rw [← ht]
        simp
      have hkM : k < (backF S Y R z).length := by omega
      have hk0 : k ≠ 0 := fun e => by
        subst e
        have := hI.none_ (by omega)
        have h5 : R.headD [] = l := by
          cases R with
          | nil => cases hl
          | cons a t => simpa using hl
        rw [h5] at this
        exact h0 this
      obtain ⟨hf1, hf2⟩ := hI.fit (List.mem_of_getElem? hl)
      have hY : Y.length ≠ 0 := fun e => by
        rw [e] at hf2
        obtain ⟨x, hx⟩ : ∃ x, x ∈ l := ⟨l[0]'(by omega), List.getElem_mem _⟩
        have := fit_rel hf2 x hx
        omega
      have hp := back_place (S := S) (Y := Y) (R := R) hI.made hz
      rw [if_neg hY] at hp
      have hY4 := (rightY_all hI.syms).1
      obtain ⟨e1, e2⟩ := relsE_back hf1 hf2 hY4 (hn l (List.mem_of_getElem? hl))
      have hE : relE (backF S Y R z).length (placeS (backF S Y R z)) Y.length (hadK (backF S Y R z) ((headF S Y).length + (relF S R k).length)) (relaS S.length k s.name l) = 0 := by
        rw [relE_in rfl]
        · exact e1
        · rw [hp, h2, show (relaS S.length k s.name l).link = (S.length : Int) from rfl, show (relaS S.length k s.name l).inf = (k : Int) from rfl, Int.toNat_natCast, metL_at hkM]
          rintro (h | h | h | h | h)
          · omega
          · exact h rfl
          · omega
          · omega
          · cases h
      obtain ⟨g1, g2, g3⟩ := rel_four_next hat h1 rfl hE
      refine ⟨g1, ?_, ?_⟩
      · rw [g2, h2, show (relaS S.length k s.name l).inf = (k : Int) from rfl, Int.toNat_natCast, metL_some hkM (by rw [hgd]; exact h0)]
      · rw [g3, h3, show (relaS S.length k s.name l).inf = (k : Int) from rfl, Int.toNat_natCast, show (relaS S.length k s.name l).data = relB l l.length from rfl, e2, ← hgd, gotL_some hkM]

/-- What is taken of it. -/
theorem obj_back (hI : RightOb S Y R) (hz : z.kind = 3) (hs : sumN Y ≤ 50000) (hnY : ∀ x ∈ Y, x.Nums) (hnR : ∀ l ∈ R, ∀ x ∈ l, x.Nums) :
    objS (backF S Y R z) = 0 ∧ symY (backF S Y R z) = Y ∧ relaK (backF S Y R z) (backF S Y R z).length = (List.range (backF S Y R z).length).map fun i => R[i]?.getD [] := by
  obtain ⟨y1, y2⟩ := back_syms hI hz hs hnY
  obtain ⟨r1, r2, r3⟩ := back_rels hI hz hnR R.length (Nat.le_refl _)
  have hlen := back_length (S := S) (Y := Y) (R := R) (z := z)
  have hlast : (backF S Y R z)[(headF S Y).length + (relF S R R.length).length]? = some z := by
    rw [back_high]; simp
  obtain ⟨g1, g2, g3⟩ := rel_other hlast r1 (by omega) (by omega)
  rw [← hlen] at g1 g3
  have hp : placeS (backF S Y R z) ≠ -2 := by
    rw [back_place hI.made hz]
    split <;> omega
  refine ⟨?_, y2, ?_⟩
  · unfold objS
    rw [if_neg hp, y1, if_neg (by simp), y2]
    exact g1
  · rw [g3, r3]
    unfold gotL
    apply List.map_congr_left
    intro i _
    by_cases h : i < R.length
    · rw [if_pos h]
    · rw [if_neg h, List.getElem?_eq_none (by omega)]; rfl
end

end Go.Proofs.YtldmjnbmjfnfeaaGreatDoor

namespace Go.Proofs.YtldmjnbmjfnfeaaGreatDoor
open Go Go.RowKit

/-! ### An entry's bytes, read -/
theorem itsB_split (its : List (Nat × Nat)) (j x s : Nat) (h : its[j]? = some (x, s)) : itsB its = itsB (its.take j) ++ (leBytes x s ++ itsB (its.drop (j + 1))) := by
  have e : its = its.take j ++ ((x, s) :: its.drop (j + 1)) := by
    obtain ⟨hj, e⟩ := List.getElem?_eq_some_iff.1 h
    rw [← e, List.getElem_cons_drop, List.take_append_drop]
  conv => lhs; rw [e]
  simp [itsB]
theorem entB_num (ns : List Nat) (hl : ns.length = 10) (j x f s : Nat) (hx : ns[j]? = some x) (hf : offsN[j]? = some f) (hs : sizesN[j]? = some s) (hb : x < 256 ^ s) : numT (entB ns) f s = x := by
  have hz : (ns.zip sizesN)[j]? = some (x, s) := by rw [List.getElem?_zip_eq_some]; exact ⟨hx, hs⟩
  have h1 := itsB_split _ _ _ _ hz
  have h2 : (itsB ((ns.zip sizesN).take j)).length = f := by
    have hj : j < 10 := (List.getElem?_eq_some_iff.1 hf).1
    match ns, hl with
    | [a0, a1, a2, a3, a4, a5, a6, a7, a8, a9], _ =>
      have h10 : j = 0 ∨ j = 1 ∨ j = 2 ∨ j = 3 ∨ j = 4 ∨ j = 5 ∨ j = 6 ∨ j = 7 ∨ j = 8 ∨ j = 9 := by omega
      rcases h10 with rfl | rfl | rfl | rfl | rfl | rfl | rfl | rfl | rfl | rfl <;> (injection hf)
  unfold numT cutT entB
  rw [h1, ← h2, List.drop_left, List.take_left' (leBytes_length x s), leNat_leBytes, Nat.mod_eq_of_lt hb]

def Enc (ns : List Nat) : Prop := ns.length = 10 ∧ ∀ (j x s : Nat), ns[j]? = some x → sizesN[j]? = some s → x < 256 ^ s
theorem entN_of {l : List UInt8} {o : Nat} {ns : List Nat} (h : (l.drop o).take 64 = entB ns) (hE : Enc ns) : entN l o = ns := by
  apply List.ext_getElem?
  intro j
  by_cases hj : j < 10
  · have hf : offsN[j]? = some (offsN[j]'(by show j < 10; exact hj)) := List.getElem?_eq_getElem _
    have hs : sizesN[j]? = some (sizesN[j]'(by show j < 10; exact hj)) := List.getElem?_eq_getElem _
    have hx : ns[j]? = some (ns[j]'(by rw [hE.1]; exact hj)) := List.getElem?_eq_getElem _
    rw [entN_at l o j _ _ hf hs, hx]
    have h1 := entB_num ns hE.1 j _ _ _ hx hf hs (hE.2 j _ _ hx hs)
    rw [← h, numT_cut _ _ _ _ _ (offs_next hf hs).2.2.1] at h1
    rw [h1]
  · rw [List.getElem?_eq_none (by rw [entN_length]; omega), List.getElem?_eq_none (by rw [hE.1]; omega)]

/-! ### What is laid, and where -/
theorem layK_step (ss : List Sect) (ps : List Nat) (k : Nat) : (layK ss ps k).1 <+: (layK ss ps (k + 1)).1 ∧ (layK ss ps k).2 <+: (layK ss ps (k + 1)).2 := by
  rcases hs : ss[k + 1]? with _ | s
  · rw [layK, hs]; exact ⟨List.prefix_refl _, List.prefix_refl _⟩
  · rcases hp : ps[k + 1]? with _ | p
    · rw [layK, hs, hp]; exact ⟨List.prefix_refl _, List.prefix_refl _⟩
    · rw [layK_next hs hp]
      exact ⟨by unfold padB; rw [List.append_assoc]; exact List.prefix_append _ _, List.prefix_append _ _⟩
theorem layK_prefix (ss : List Sect) (ps : List Nat) (k : Nat) : ∀ n, k ≤ n → (layK ss ps k).1 <+: (layK ss ps n).1 ∧ (layK ss ps k).2 <+: (layK ss ps n).2 := by
  intro n hn
  induction n with
  | zero => rw [show k = 0 by omega]; exact ⟨List.prefix_refl _, List.prefix_refl _⟩
  | succ n ih =>
    rcases Nat.eq_or_lt_of_le hn with rfl | h
    · exact ⟨List.prefix_refl _, List.prefix_refl _⟩
    · have h1 := ih (by omega)
      have h2 := layK_step ss ps n
      exact ⟨h1.1.trans h2.1, h1.2.trans h2.2⟩
theorem layK_first (ss : List Sect) (ps : List Nat) (n : Nat) : (layK ss ps n).2[0]? = some (List.replicate 10 0) := by
  obtain ⟨r, h⟩ := (layK_prefix ss ps 0 n (Nat.zero_le _)).2
  rw [← h]
  rfl
/-- One of the sections: its entry, and its bytes in all of them. -/
theorem layK_at {ss : List Sect} {ps : List Nat} {n i p : Nat} {s : Sect} (hs : ss[i + 1]? = some s) (hp : ps[i + 1]? = some p) (hi : i + 1 ≤ n) (hl : n < ss.length) (hl' : n < ps.length) :
    (layK ss ps n).2[i + 1]? = some (entNs s p (padB (layK ss ps i).1).length) ∧ padB (layK ss ps i).1 ++ (if s.kind = 8 then [] else s.data) <+: (layK ss ps n).1 := by
  have h := layK_prefix ss ps (i + 1) n hi
  have hc := layK_count ss ps i (by omega) (by omega)
  rw [layK_next hs hp] at h
  refine ⟨?_, h.1⟩
  obtain ⟨r, e⟩ := h.2
  rw [← e, List.append_assoc, List.getElem?_append_right (by omega), hc, Nat.sub_self]
  rfl

/-- A cut of what is laid in front. -/
theorem cut_prefix {X d Y : List UInt8} (h : X ++ d <+: Y) (r : List UInt8) : ((Y ++ r).drop X.length).take d.length = d ∧ X.length + d.length ≤ Y.length := by
  obtain ⟨z, rfl⟩ := h
  refine ⟨?_, by simp⟩
  rw [List.append_assoc, List.append_assoc, List.drop_left, List.take_left]

theorem entsB_cut {es : List (List Nat)} (ht : ∀ e ∈ es, e.length = 10) {i : Nat} {e : List Nat} (h : es[i]? = some e) : ((entsB es).drop (64 * i)).take 64 = entB e := by
  have hil := (List.getElem?_eq_some_iff.1 h).1
  have e1 : es = es.take i ++ (e :: es.drop (i + 1)) := by
    obtain ⟨hj, e'⟩ := List.getElem?_eq_some_iff.1 h
    rw [← e', List.getElem_cons_drop, List.take_append_drop]
  have e2 : entsB es = entsB (es.take i) ++ (entB e ++ entsB (es.drop (i + 1))) := by
    conv => lhs; rw [e1]
    simp [entsB]
  have h1 : (entsB (es.take i)).length = 64 * i := by
    rw [entsB_length _ (fun x hx => ht x (List.mem_of_mem_take hx)), List.length_take, Nat.min_eq_left (by omega)]
  rw [e2, ← h1, List.drop_left, List.take_left' (entB_length e (ht e (List.mem_of_getElem? h)))]

/-- Behind the header all is as it was laid. -/
theorem file_drop (H X : List UInt8) (hH : H.length = 64) (q : Nat) (hq : 64 ≤ q) : (H ++ X.drop 64).drop q = X.drop q := by
  rw [List.drop_append, hH, List.drop_eq_nil_of_le (by omega), List.nil_append, List.drop_drop]
  congr 1
  omega

end Go.Proofs.YtldmjnbmjfnfeaaGreatDoor

namespace Go.Proofs.YtldmjnbmjfnfeaaGreatDoor
open Go Go.RowKit

theorem inM_nat {x : Int} (h : inM x = true) : ∃ k : Nat, x = (k : Int) ∧ k ≤ 2147483647 ∧ wrapN x = k := by
  unfold inM at h
  rw [decide_eq_true_eq] at h
  refine ⟨x.toNat, by omega, by omega, ?_⟩
  unfold wrapN
  rw [IntKind.wrap_u64]
  omega
theorem okS_parts {s : Sect} (h : okS s = true) : 1 ≤ s.kind ∧ inM s.kind = true ∧ inM s.link = true ∧ inM s.inf = true ∧ inM s.algn = true ∧ inM s.ent = true ∧ rightT s.name = true ∧ s.data.length ≤ 65536 ∧ (s.kind = 8 → s.data = List.replicate s.data.length 0) := by
  unfold okS at h
  simp only [Bool.and_eq_true, decide_eq_true_eq, Bool.or_eq_true, smallI, List.all_cons, List.all_nil, Bool.and_true] at h
  obtain ⟨h1, ⟨h2, h3, h4, h5, h6⟩, h7, h8, h9⟩ := h
  refine ⟨h1, h2, h3, h4, h5, h6, h7, h8, fun hk => ?_⟩
  rcases h9 with h9 | h9
  · exact absurd hk h9
  · have := List.count_eq_length.1 h9
    exact List.eq_replicate_of_mem fun b hb => (this b hb).symm

/-- What is true of the entry of a section that may be. -/
theorem ent_facts {s : Sect} (hok : okS s = true) (hfl : s.flags < two64) (had : s.addr < two64) {p q : Nat} (hp : p < 4294967296) (hq : q < two64) {B : List UInt8}
    (hin : s.kind ≠ 8 → q + s.data.length ≤ B.length ∧ (B.drop q).take s.data.length = s.data) :
    Enc (entNs s p q) ∧ entE (entNs s p q) B.length = 0 ∧ dataT B (entNs s p q) = s.data ∧ kindN (entNs s p q) = wrapN s.kind ∧
      ∀ tbl, atT tbl p = (s.name, 0) → sectT B tbl (entNs s p q) = s := by
  obtain ⟨h1, h2, h3, h4, h5, h6, h7, h8, h9⟩ := okS_parts hok
  obtain ⟨k1, e1, b1, w1⟩ := inM_nat h2
  obtain ⟨k2, e2, b2, w2⟩ := inM_nat h3
  obtain ⟨k3, e3, b3, w3⟩ := inM_nat h4
  obtain ⟨k4, e4, b4, w4⟩ := inM_nat h5
  obtain ⟨k5, e5, b5, w5⟩ := inM_nat h6
  have hns : entNs s p q = [p, k1, s.flags, s.addr, q, s.data.length, k2, k3, k4, k5] := by unfold entNs; rw [w1, w2, w3, w4, w5]
  have hk8 : s.kind = 8 ↔ k1 = 8 := by omega
  have hk0 : k1 ≠ 0 := by omega
  have hD : dataT B [p, k1, s.flags, s.addr, q, s.data.length, k2, k3, k4, k5] = s.data := by
    show (if k1 = 0 then [] else if k1 = 8 then List.replicate s.data.length 0 else (B.drop q).take s.data.length) = s.data
    rw [if_neg hk0]
    by_cases hk : k1 = 8
    · rw [if_pos hk]; exact (h9 (hk8.2 hk)).symm
    · rw [if_neg hk]; exact (hin (fun h => hk (hk8.1 h))).2
  unfold two64 at *
  rw [hns]
  refine ⟨⟨rfl, fun j x z hx hz => ?_⟩, ?_, hD, by rw [w1]; rfl, fun tbl ht => ?_⟩
  · have hj : j < 10 := (List.getElem?_eq_some_iff.1 hx).1
    have h10 : j = 0 ∨ j = 1 ∨ j = 2 ∨ j = 3 ∨ j = 4 ∨ j = 5 ∨ j = 6 ∨ j = 7 ∨ j = 8 ∨ j = 9 := by omega
    have p4 : (256 : Nat) ^ 4 = 4294967296 := rfl
    have p8 : (256 : Nat) ^ 8 = 18446744073709551616 := rfl
    rcases h10 with rfl | rfl | rfl | rfl | rfl | rfl | rfl | rfl | rfl | rfl <;> (injection hx with hx; injection hz with hz; subst hx hz; first | (rw [p4]; omega) | (rw [p8]; omega))
  · show (if smallN [k2, k3, k4, k5, k1] = true then (if k1 = 0 then (0 : Int) else if k1 ≠ 8 ∧ B.length < q + s.data.length then 22 else if 65536 < s.data.length then 3 else 0) else 22) = 0
    rw [if_pos (by simp [smallN]; omega), if_neg hk0, if_neg (fun h => by have := (hin (fun h' => h.1 (hk8.1 h'))).1; omega), if_neg (by omega)]
  · have e : sectT B tbl [p, k1, s.flags, s.addr, q, s.data.length, k2, k3, k4, k5] = ⟨(atT tbl p).1, (k1 : Int), s.flags, s.addr, dataT B [p, k1, s.flags, s.addr, q, s.data.length, k2, k3, k4, k5], (k2 : Int), (k3 : Int), (k4 : Int), (k5 : Int)⟩ := rfl
    rw [e, ht, hD, ← e1, ← e2, ← e3, ← e4, ← e5]

/-! ### The names -/
theorem gat_knows (ns : List (List UInt8)) (hr : ∀ t ∈ ns, rightT t = true) (hn : ns.length ≤ 64) : Knows (gat ns).1 (gat ns).2 ns ∧ spanT (gat ns).1 ≤ 201 * ns.length := by
  have key : ∀ k, k ≤ ns.length → Knows (gat (ns.take k)).1 (gat (ns.take k)).2 (ns.take k) ∧ spanT (gat (ns.take k)).1 ≤ 201 * k := by
    intro k
    induction k with
    | zero => intro _; exact ⟨knows_nil, by simp [gat, spanT]⟩
    | succ k ih =>
      intro hk
      obtain ⟨h1, h2⟩ := ih (by omega)
      have h : ns[k]? = some (ns[k]'(by omega)) := List.getElem?_eq_getElem _
      have hrt := hr _ (List.mem_of_getElem? h)
      rw [gat_take h, show ns.take (k + 1) = ns.take k ++ [ns[k]'(by omega)] by rw [List.take_add_one, h]; rfl]
      exact ⟨knows_next h1 hrt (by omega), by have := (addT_ok hrt (l := (gat (ns.take k)).1) (by omega)).2.2; simp only; omega⟩
  have := key ns.length (Nat.le_refl _)
  rwa [List.take_length] at this
theorem gat_names (ns : List (List UInt8)) (hr : ∀ t ∈ ns, rightT t = true) (hn : ns.length ≤ 64) {i : Nat} {t : List UInt8} (h : ns[i]? = some t) : ∃ p, (gat ns).2[i]? = some p ∧ atT (putsT (gat ns).1) p = (t, 0) ∧ p < 65536 := by
  obtain ⟨h1, h2⟩ := gat_knows ns hr hn
  obtain ⟨h3, p, h4, h5⟩ := h1.2 i t h
  refine ⟨p, h4, atT_find (gat_good ns).1 h5, ?_⟩
  have := findT_lt h5
  omega
theorem gat_zero {ns : List (List UInt8)} (h : ns[0]? = some []) (hr : ∀ t ∈ ns, rightT t = true) (hn : ns.length ≤ 64) : (gat ns).2[0]? = some 0 ∧ atT (putsT (gat ns).1) 0 = ([], 0) := by
  have h1 : (gat ns).2[0]? = some 0 := by
    have key : ∀ k, 1 ≤ k → k ≤ ns.length → (gat (ns.take k)).2[0]? = some 0 := by
      intro k
      induction k with
      | zero => intro h; omega
      | succ k ih =>
        intro _ hk
        have hk' : ns[k]? = some (ns[k]'(by omega)) := List.getElem?_eq_getElem _
        rw [gat_take hk']
        rcases Nat.eq_zero_or_pos k with rfl | hp
        · rw [h] at hk'
          injection hk' with hk'
          rw [← hk']
          rfl
        · have := ih hp (by omega)
          rw [List.getElem?_append_left (by rw [gat_length ns k (by omega)]; omega)]
          exact this
    have hl : 0 < ns.length := (List.getElem?_eq_some_iff.1 h).1
    have := key ns.length hl (Nat.le_refl _)
    rwa [List.take_length] at this
  obtain ⟨p, h2, h3, _⟩ := gat_names ns hr hn h
  rw [h1] at h2
  injection h2 with h2
  subst h2
  exact ⟨h1, h3⟩

end Go.Proofs.YtldmjnbmjfnfeaaGreatDoor

namespace Go.Proofs.YtldmjnbmjfnfeaaGreatDoor
open Go Go.RowKit

theorem findS_names {l l' : List Sect} (h : l.map (·.name) = l'.map (·.name)) (t : List UInt8) : findS l t = findS l' t := by
  have key : ∀ m : List Sect, (m.drop 1).findIdx? (fun s => decide (s.name = t)) = ((m.map (·.name)).drop 1).findIdx? (fun n => decide (n = t)) := fun m => by
    rw [← List.map_drop, List.findIdx?_map]
    rfl
  unfold findS
  rw [key l, key l', h]
theorem tabled_get {l : List Sect} {t : List UInt8} {m : Nat} (hm : l.length = m + 1) {z : Sect} (hz : l[m]? = some z) (i : Nat) : (tabled l t)[i]? = if i = m then some { z with data := t } else l[i]? := by
  unfold tabled
  rw [show l.length - 1 = m by omega, hz]
  simp only
  by_cases h : i = m
  · subst h
    rw [if_pos rfl, List.getElem?_set_self (by omega)]
  · rw [if_neg h, List.getElem?_set_ne (fun e => h e.symm)]
theorem tabled_names {l : List Sect} (t : List UInt8) {m : Nat} (hm : l.length = m + 1) {z : Sect} (hz : l[m]? = some z) : (tabled l t).map (·.name) = l.map (·.name) := by
  apply List.ext_getElem?
  intro i
  rw [List.getElem?_map, List.getElem?_map, tabled_get hm hz]
  by_cases h : i = m
  · rw [if_pos h, h, hz]; rfl
  · rw [if_neg h]
theorem layK_size2 (ss : List Sect) (ps : List Nat) (D : Nat) (hd : ∀ s ∈ ss, s.data.length ≤ D) : ∀ k, (layK ss ps k).1.length ≤ 64 + k * (D + 7)
  | 0 => by simp [layK]
  | k + 1 => by
    have ih := layK_size2 ss ps D hd k
    have e : (k + 1) * (D + 7) = k * (D + 7) + (D + 7) := Nat.succ_mul _ _
    rcases hs : ss[k + 1]? with _ | s
    · rw [layK, hs]; exact Nat.le_trans ih (by omega)
    · rcases hp : ps[k + 1]? with _ | p
      · rw [layK, hs, hp]; exact Nat.le_trans ih (by omega)
      · rw [layK_next hs hp]
        have h1 := hd s (List.mem_of_getElem? hs)
        have h2 := padN_lt (layK ss ps k).1.length
        simp only [List.length_append, padB_length]
        split
        · simp only [List.length_nil]; omega
        · omega
theorem errUp_zero {l : List UInt8} {off : Nat} : ∀ {n : Nat}, (∀ k, k < n → entE (entN l (off + 64 * k)) l.length = 0) → errUp l off n = 0
  | 0, _ => rfl
  | n + 1, h => by
    rw [errUp, if_neg (by simp [errUp_zero (n := n) fun k hk => h k (by omega)])]
    exact h n (by omega)

/-- What sections that may be are. -/
structure RightIs7 (l : List Sect) (m : Nat) (z : Sect) : Prop where
  len : l.length = m + 1
  one : 1 ≤ m
  most : m ≤ 63
  first : l[0]? = some zeroS
  last : l[m]? = some z
  kind : z.kind = 3
  find : findS l shstrN = (m : Int)
  ok : ∀ (i : Nat) (s : Sect), 1 ≤ i → l[i]? = some s → okS s = true
theorem right_is {l : List Sect} (h : rightS l = true) : ∃ m z, RightIs7 l m z := by
  obtain ⟨h2, h64⟩ := right_len h
  unfold rightS at h
  simp only [Bool.and_eq_true, decide_eq_true_eq] at h
  obtain ⟨_, h1, h3, h4, h5⟩ := h
  obtain ⟨m, hm⟩ : ∃ m, l.length = m + 1 := ⟨l.length - 1, by omega⟩
  rw [show l.length - 1 = m by omega] at h3 h4
  have hx : l[0]? = some (l[0]'(by omega)) := List.getElem?_eq_getElem _
  have hz : l[m]? = some (l[m]'(by omega)) := List.getElem?_eq_getElem _
  rw [hx, Option.any_some] at h1
  rw [hz, Option.any_some, decide_eq_true_eq] at h3
  refine ⟨m, _, hm, by omega, by omega, by rw [hx, sameS_eq h1], hz, h3, h4, fun i s hi hs => ?_⟩
  have hmem : s ∈ l.drop 1 := by
    have : (l.drop 1)[i - 1]? = some s := by rw [List.getElem?_drop, show 1 + (i - 1) = i by omega]; exact hs
    exact List.mem_of_getElem? this
  exact (List.all_eq_true.1 h5) s hmem
theorem tabled_right {l : List Sect} {m : Nat} {z : Sect} (h : RightIs7 l m z) {t : List UInt8} (ht : t.length ≤ 65536) : RightIs7 (tabled l t) m { z with data := t } := by
  have hz := h.ok m z h.one h.last
  refine ⟨by rw [tabled_length]; exact h.len, h.one, h.most, ?_, ?_, h.kind, ?_, fun i s hi hs => ?_⟩
  · rw [tabled_get h.len h.last, if_neg (by have := h.one; omega)]; exact h.first
  · rw [tabled_get h.len h.last, if_pos rfl]
  · rw [findS_names (tabled_names t h.len h.last)]; exact h.find
  · rw [tabled_get h.len h.last] at hs
    by_cases him : i = m
    · rw [if_pos him] at hs
      injection hs with hs
      subst hs
      obtain ⟨g1, g2, g3, g4, g5, g6, g7, _, _⟩ := okS_parts hz
      unfold okS
      simp only [smallI, List.all_cons, List.all_nil, Bool.and_true]
      rw [g2, g3, g4, g5, g6, g7, decide_eq_true g1, decide_eq_true ht, decide_eq_true (show z.kind ≠ 8 by rw [h.kind]; decide)]
      rfl
    · rw [if_neg him] at hs
      exact h.ok i s hi hs
theorem right_names {l : List Sect} {m : Nat} {z : Sect} (h : RightIs7 l m z) : ∀ t ∈ l.map (·.name), rightT t = true := by
  intro t ht
  obtain ⟨s, hs, rfl⟩ := List.mem_map.1 ht
  obtain ⟨i, hi, e⟩ := List.getElem_of_mem hs
  have hs' : l[i]? = some s := by rw [← e]; exact List.getElem?_eq_getElem hi
  rcases Nat.eq_zero_or_pos i with rfl | hp
  · rw [h.first] at hs'
    injection hs' with hs'
    subst hs'
    rfl
  · exact (okS_parts (h.ok i s hp hs')).2.2.2.2.2.2.1

end Go.Proofs.YtldmjnbmjfnfeaaGreatDoor

namespace Go.Proofs.YtldmjnbmjfnfeaaGreatDoor
open Go Go.RowKit

theorem zeros_enc : Enc (List.replicate 10 0) := ⟨rfl, fun j x s hx hs => by
  have h0 : x = 0 := by
    have := List.mem_of_getElem? hx
    simpa using this
  subst h0
  exact Nat.pos_of_ne_zero (by simp)⟩
theorem layK_all {ss : List Sect} {ps : List Nat} {n : Nat} (hl : n < ss.length) (hl' : n < ps.length) : (layK ss ps n).2.length = n + 1 := layK_count ss ps n hl hl'

end Go.Proofs.YtldmjnbmjfnfeaaGreatDoor
