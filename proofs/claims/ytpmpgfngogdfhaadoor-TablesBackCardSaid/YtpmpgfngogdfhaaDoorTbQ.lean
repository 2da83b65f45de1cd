/-
  Package tables: tables as bytes; what is put is taken: plain facts.
-/
import Derived.Test.YtpmpgfngogdfhaaDoorTbA
import Derived.Test.YtpmpgfngogdfhaaDoorUnR
namespace Go.Proofs.YtpmpgfngogdfhaaDoor
open Go Go.RowKit

/-! ### A table as bytes -/
def hdB (ad : Bool) : List UInt8 := match ad with | true => [5, 0, 8, 0] | false => [5, 0, 0, 0]
def putsN (n : Nat) (l : List Nat) : List UInt8 := l.flatMap fun x => leBytes x n
theorem putsN_cons (n x : Nat) (l : List Nat) : putsN n (x :: l) = leBytes x n ++ putsN n l := rfl
theorem putsN_snoc (n x : Nat) (l : List Nat) : putsN n (l ++ [x]) = putsN n l ++ leBytes x n := by simp [putsN]
theorem putsN_len (n : Nat) : ∀ l : List Nat, (putsN n l).length = l.length * n
  | [] => by simp [putsN]
  | x :: l => by rw [putsN_cons, List.length_append, leBytes_length, putsN_len n l, List.length_cons, Nat.add_mul, Nat.one_mul, Nat.add_comm]
def bodyTb (ad wide : Bool) (l : List Nat) : List UInt8 := hdB ad ++ putsN (szT ad wide) l
def fitTb (n : Nat) (l : List Nat) : Bool := l.all fun x => decide (x < 256 ^ n)
def putTbB (ad wide : Bool) (l : List Nat) : List UInt8 := if fitTb (szT ad wide) l = true then lenB (bodyTb ad wide l).length wide ++ bodyTb ad wide l else []
def putTbE (ad wide : Bool) (l : List Nat) : Int := if fitTb (szT ad wide) l = true then 0 else 2
theorem hdB_len (ad : Bool) : (hdB ad).length = 4 := by cases ad <;> rfl
theorem bodyTb_len (ad wide : Bool) (l : List Nat) : (bodyTb ad wide l).length = 4 + l.length * szT ad wide := by rw [bodyTb, List.length_append, hdB_len, putsN_len]
theorem bodyTb_le (ad wide : Bool) {l : List Nat} (h : l.length ≤ 100000) : (bodyTb ad wide l).length ≤ 800004 := by
  have h1 := bodyTb_len ad wide l
  have h2 := (szT_pos ad wide).2
  have h3 : l.length * szT ad wide ≤ 100000 * 8 := Nat.mul_le_mul h h2
  omega
theorem fit_wide (l : List Nat) (h : ∀ x ∈ l, x < two64) : fitTb 8 l = true := by
  unfold fitTb
  rw [List.all_eq_true]
  exact fun x hx => decide_eq_true (h x hx)

/-! ### What is put is taken -/
theorem itemsTb_cons (l : List UInt8) (n k : Nat) : itemsTb l n (k + 1) = leNat (l.take n) :: itemsTb (l.drop n) n k := by
  unfold itemsTb
  rw [List.range_succ_eq_map, List.map_cons, List.map_map]
  congr 1
  · simp
  · refine List.map_congr_left fun i _ => ?_
    simp only [Function.comp]
    rw [List.drop_drop, Nat.succ_eq_add_one, Nat.add_mul, Nat.one_mul, Nat.add_comm]
theorem items_puts (n : Nat) (R : List UInt8) : ∀ l : List Nat, (∀ x ∈ l, x < 256 ^ n) → itemsTb (putsN n l ++ R) n l.length = l
  | [], _ => rfl
  | x :: l, h => by
    have ih := items_puts n R l (fun y hy => h y (List.mem_cons_of_mem _ hy))
    rw [List.length_cons, itemsTb_cons, putsN_cons, List.append_assoc, List.take_left' (leBytes_length x n), List.drop_left' (leBytes_length x n), leNat_leBytes, Nat.mod_eq_of_lt (h x (List.mem_cons_self ..)), ih]
theorem itemsTb_get (l : List UInt8) (n k i : Nat) (h : i < k) : (itemsTb l n k)[i]? = some (leNat ((l.drop (i * n)).take n)) := by
  unfold itemsTb
  rw [List.getElem?_map, List.getElem?_range h]
  rfl
theorem fit_all {n : Nat} {l : List Nat} (h : fitTb n l = true) : ∀ x ∈ l, x < 256 ^ n := fun x hx => of_decide_eq_true (List.all_eq_true.1 h x hx)
/-- An item where it was put. -/
theorem item_at {n : Nat} {l : List Nat} {sec R : List UInt8} {b k x : Nat} (hf : fitTb n l = true) (hs : sec.drop b = putsN n l ++ R) (hb : b ≤ sec.length) (hk : l[k]? = some x) : nU sec (b + k * n, 0) n = (b + (k + 1) * n, 0) ∧ vU sec (b + k * n, 0) n = x := by
  have hl : k < l.length := (List.getElem?_eq_some_iff.1 hk).1
  have h1 : (k + 1) * n ≤ l.length * n := Nat.mul_le_mul_right n hl
  have h2 : (k + 1) * n = k * n + n := by rw [Nat.add_mul, Nat.one_mul]
  have hlen : sec.length - b = l.length * n + R.length := by
    rw [← List.length_drop, hs, List.length_append, putsN_len]
  obtain ⟨e1, e2⟩ := nU_fits (G := sec) (a := b + k * n) (n := n) (by omega)
  refine ⟨by rw [e1, h2]; simp only [Prod.mk.injEq, and_true]; omega, ?_⟩
  have h3 := itemsTb_get (putsN n l ++ R) n l.length k hl
  rw [items_puts n R l (fit_all hf), hk] at h3
  injection h3 with h3
  rw [e2, ← List.drop_drop, hs]
  exact h3.symm
theorem take_tb {ad wide : Bool} {l : List Nat} (hf : fitTb (szT ad wide) l = true) (hl : l.length ≤ 100000) (P r : List UInt8) :
    xTb (P ++ (putTbB ad wide l ++ r)) P.length ad = 0 ∧ tTb (P ++ (putTbB ad wide l ++ r)) P.length ad = ⟨wide, P.length + (lenB (bodyTb ad wide l).length wide).length + 4, l⟩ ∧ bdA (P ++ (putTbB ad wide l ++ r)) P.length 0 = P.length + (putTbB ad wide l).length := by
  have h1 := bodyTb_le ad wide hl
  have h2 := bodyTb_len ad wide l
  have hp := (szT_pos ad wide).1
  have e : putTbB ad wide l = lenB (bodyTb ad wide l).length wide ++ bodyTb ad wide l := by unfold putTbB; rw [if_pos hf]
  obtain ⟨g1, g2, g3, g4⟩ := bd_mid15 P (bodyTb ad wide l) r wide (by omega)
  rw [← List.append_assoc (lenB (bodyTb ad wide l).length wide), ← e] at g1 g2 g3 g4
  have hx : xTb (P ++ (putTbB ad wide l ++ r)) P.length ad = 0 := by
    unfold xTb
    rw [g1, g2, g4]
    unfold xT
    have hr : rgTb (bodyTb ad wide l) ad = true := by cases ad <;> rfl
    rw [if_pos rfl, if_pos (by omega), if_pos hr, h2, if_pos (by rw [Nat.add_sub_cancel_left, Nat.mul_mod_left])]
  have hlT : lTb (P ++ (putTbB ad wide l ++ r)) P.length ad = l.length * szT ad wide := by
    have hx' := hx
    unfold xTb at hx'
    unfold lTb lT
    rw [if_pos hx', g1, h2, Nat.add_sub_cancel_left]
  have hd : (bodyTb ad wide l).drop 4 = putsN (szT ad wide) l := by
    unfold bodyTb
    exact List.drop_left' (hdB_len ad)
  refine ⟨hx, ?_, ?_⟩
  · unfold tTb
    rw [hlT, g1, g3, g4, hd, Nat.mul_div_cancel _ hp]
    have := items_puts (szT ad wide) [] l (fit_all hf)
    rw [List.append_nil] at this
    rw [this]
    simp only [Tbl.mk.injEq, true_and, and_true]
    omega
  · rw [g3, e, List.length_append]; omega

/-- Tables one behind the other; what is told of them. -/
def secTb (ad : Bool) (L : List (Bool × List Nat)) : List UInt8 := L.flatMap fun y => putTbB ad y.1 y.2
def tbsAt (ad : Bool) : Nat → List (Bool × List Nat) → List Tbl
  | _, [] => []
  | a, y :: L => ⟨y.1, a + (lenB (bodyTb ad y.1 y.2).length y.1).length + 4, y.2⟩ :: tbsAt ad (a + (putTbB ad y.1 y.2).length) L
structure TFit (ad : Bool) (y : Bool × List Nat) : Prop where
  f : fitTb (szT ad y.1) y.2 = true
  l : y.2.length ≤ 200
theorem tbsAt_len (ad : Bool) : ∀ (a : Nat) (L : List (Bool × List Nat)), (tbsAt ad a L).length = L.length
  | _, [] => rfl
  | a, y :: L => by rw [tbsAt, List.length_cons, tbsAt_len, List.length_cons]
theorem putTb_len {ad : Bool} {y : Bool × List Nat} (h : TFit ad y) : (putTbB ad y.1 y.2).length = (lenB (bodyTb ad y.1 y.2).length y.1).length + 4 + y.2.length * szT ad y.1 := by
  unfold putTbB
  rw [if_pos h.f, List.length_append, bodyTb_len]
  omega
theorem putTb_le {ad : Bool} {y : Bool × List Nat} (h : TFit ad y) : (putTbB ad y.1 y.2).length ≤ 1616 := by
  have h1 := putTb_len h
  have h2 := lenB_le (bodyTb ad y.1 y.2).length y.1
  have h3 := h.l
  have h4 := (szT_pos ad y.1).2
  have h5 : y.2.length * szT ad y.1 ≤ 200 * 8 := Nat.mul_le_mul h3 h4
  omega
theorem secTb_le {ad : Bool} : ∀ (L : List (Bool × List Nat)), (∀ y ∈ L, TFit ad y) → (secTb ad L).length ≤ L.length * 1616
  | [], _ => by simp [secTb]
  | y :: L, h => by
    have h1 := putTb_le (h y (List.mem_cons_self ..))
    have ih := secTb_le L (fun z hz => h z (List.mem_cons_of_mem _ hz))
    have e : (secTb ad (y :: L)).length = (putTbB ad y.1 y.2).length + (secTb ad L).length := by simp [secTb]
    rw [e, List.length_cons]
    omega
theorem secTb_snoc (ad : Bool) (L : List (Bool × List Nat)) (y : Bool × List Nat) : secTb ad (L ++ [y]) = secTb ad L ++ putTbB ad y.1 y.2 := by simp [secTb]
theorem run_tbs (ad : Bool) (sec : List UInt8) : ∀ (L : List (Bool × List Nat)) (n : Nat) (P : List UInt8) (M : List Tbl), (∀ y ∈ L, TFit ad y) → L.length ≤ n → M.length + L.length ≤ 60 → sec = P ++ secTb ad L →
    runTb sec ad n ⟨P.length, 0, M⟩ = ⟨sec.length, 0, M ++ tbsAt ad P.length L⟩
  | [], n, P, M, _, _, _, hs => by
    have e : sec.length = P.length := by rw [hs]; simp [secTb]
    rw [runTb_end (by simp [leftOf, e]), e, tbsAt, List.append_nil]
  | y :: L, 0, P, M, _, hn, _, _ => by simp at hn
  | y :: L, n + 1, P, M, hf, hn, hm, hs => by
    have hy := hf y (List.mem_cons_self ..)
    have e : secTb ad (y :: L) = putTbB ad y.1 y.2 ++ secTb ad L := rfl
    rw [e] at hs
    obtain ⟨t1, t2, t3⟩ := take_tb hy.f (by have := hy.l; omega) P (secTb ad L)
    rw [← hs] at t1 t2 t3
    have hl := putTb_len hy
    have hlen : sec.length = P.length + (putTbB ad y.1 y.2).length + (secTb ad L).length := by rw [hs, List.length_append, List.length_append]; omega
    simp only [List.length_cons] at hn hm
    rw [runTb, if_pos (by simp only [leftOf, if_pos]; omega)]
    have hst : stepTb sec ad ⟨P.length, 0, M⟩ = ⟨(P ++ putTbB ad y.1 y.2).length, 0, M ++ [⟨y.1, P.length + (lenB (bodyTb ad y.1 y.2).length y.1).length + 4, y.2⟩]⟩ := by
      rw [stepTb, if_neg (by simp only; omega), t1, t2, t3, List.length_append]
    rw [hst, run_tbs ad sec L n (P ++ putTbB ad y.1 y.2) (M ++ [(⟨y.1, P.length + (lenB (bodyTb ad y.1 y.2).length y.1).length + 4, y.2⟩ : Tbl)]) (fun z hz => hf z (List.mem_cons_of_mem _ hz)) (by omega) (by rw [List.length_append, List.length_singleton]; omega) (by rw [List.append_assoc]; exact hs)]
    rw [tbsAt, List.length_append, List.append_assoc]
    rfl
/-- Tables that are put one behind the other are all that there is. -/
theorem all_tbs {ad : Bool} {L : List (Bool × List Nat)} (hf : ∀ y ∈ L, TFit ad y) (hl : L.length ≤ 60) : allTbE (secTb ad L) ad = 0 ∧ allTbL (secTb ad L) ad = tbsAt ad 0 L := by
  have h := run_tbs ad (secTb ad L) L 61 [] [] hf (by omega) (by simpa using hl) rfl
  simp only [List.length_nil, List.nil_append] at h
  have he : allTbE (secTb ad L) ad = 0 := by rw [allTbE, finTb, h]
  exact ⟨he, by rw [allTbL, if_pos he, finTb, h]⟩

/-! ### Items by their bases -/
def atTb (L : List Tbl) (b i : Nat) : Nat × Bool := match L.find? (fun t => t.base == b) with
  | some t => (match t.items[i]? with | some n => (n, true) | none => (0, false))
  | none => (0, false)
theorem tbs_above (ad : Bool) : ∀ (a : Nat) (L : List (Bool × List Nat)), ∀ t ∈ tbsAt ad a L, a < t.base
  | _, [] => fun t ht => by cases ht
  | a, y :: L => fun t ht => by
    rw [tbsAt] at ht
    rcases List.mem_cons.1 ht with rfl | ht
    · simp only; omega
    · have := tbs_above ad _ L t ht
      omega
theorem tbs_find (ad : Bool) : ∀ (a : Nat) (L : List (Bool × List Nat)) (i : Nat) (t : Tbl), (∀ y ∈ L, TFit ad y) → (tbsAt ad a L)[i]? = some t → (tbsAt ad a L).find? (fun u => u.base == t.base) = some t
  | _, [], i, t, _, h => by simp [tbsAt] at h
  | a, y :: L, 0, t, _, h => by
    rw [tbsAt] at h ⊢
    simp only [List.getElem?_cons_zero, Option.some.injEq] at h
    subst h
    simp
  | a, y :: L, i + 1, t, hf, h => by
    rw [tbsAt] at h ⊢
    rw [List.getElem?_cons_succ] at h
    have h1 := tbs_above ad _ L t (List.mem_of_getElem? h)
    have h2 := putTb_len (hf y (List.mem_cons_self ..))
    rw [List.find?_cons_of_neg (by simp only [beq_iff_eq]; omega)]
    exact tbs_find ad _ L i t (fun z hz => hf z (List.mem_cons_of_mem _ hz)) h
theorem tbs_stand (ad : Bool) (sec : List UInt8) : ∀ (L : List (Bool × List Nat)) (P : List UInt8) (i : Nat) (t : Tbl), (∀ y ∈ L, TFit ad y) → sec = P ++ secTb ad L → (tbsAt ad P.length L)[i]? = some t →
    ∃ y R, L[i]? = some y ∧ t.wide = y.1 ∧ t.items = y.2 ∧ t.base ≤ sec.length ∧ sec.drop t.base = putsN (szT ad y.1) y.2 ++ R
  | [], _, i, t, _, _, h => by simp [tbsAt] at h
  | y :: L, P, 0, t, hf, hs, h => by
    rw [tbsAt] at h
    simp only [List.getElem?_cons_zero, Option.some.injEq] at h
    subst h
    have hy := hf y (List.mem_cons_self ..)
    have e : secTb ad (y :: L) = putTbB ad y.1 y.2 ++ secTb ad L := rfl
    have e2 : putTbB ad y.1 y.2 = lenB (bodyTb ad y.1 y.2).length y.1 ++ bodyTb ad y.1 y.2 := by unfold putTbB; rw [if_pos hy.f]
    have e3 : sec = (P ++ lenB (bodyTb ad y.1 y.2).length y.1 ++ hdB ad) ++ (putsN (szT ad y.1) y.2 ++ secTb ad L) := by
      rw [hs, e, e2]
      simp only [bodyTb, List.append_assoc]
    refine ⟨y, secTb ad L, by simp, rfl, rfl, ?_, ?_⟩
    · rw [e3, List.length_append, List.length_append, List.length_append, hdB_len]
      simp only
      omega
    · rw [e3]
      exact List.drop_left' (by rw [List.length_append, List.length_append, hdB_len])
  | y :: L, P, i + 1, t, hf, hs, h => by
    rw [tbsAt, List.getElem?_cons_succ] at h
    have e : secTb ad (y :: L) = putTbB ad y.1 y.2 ++ secTb ad L := rfl
    rw [show P.length + (putTbB ad y.1 y.2).length = (P ++ putTbB ad y.1 y.2).length by rw [List.length_append]] at h
    obtain ⟨z, R, h1, h2⟩ := tbs_stand ad sec L (P ++ putTbB ad y.1 y.2) i t (fun z hz => hf z (List.mem_cons_of_mem _ hz)) (by rw [hs, e, List.append_assoc]) h
    exact ⟨z, R, by rw [List.getElem?_cons_succ]; exact h1, h2⟩
/-- What TablesBack asks of one table and of one of its items. -/
theorem tbs_asks {ad : Bool} {L : List (Bool × List Nat)} (hf : ∀ y ∈ L, TFit ad y) {i : Nat} {t : Tbl} {y : Bool × List Nat} (ht : (tbsAt ad 0 L)[i]? = some t) (hy : L[i]? = some y) :
    t.wide = y.1 ∧ t.items = y.2 ∧ t.base ≤ (secTb ad L).length ∧ ∀ (k x : Nat), y.2[k]? = some x → atTb (tbsAt ad 0 L) t.base k = (x, true) ∧ nU (secTb ad L) (t.base + k * szT ad y.1, 0) (szT ad y.1) = (t.base + (k + 1) * szT ad y.1, 0) ∧ vU (secTb ad L) (t.base + k * szT ad y.1, 0) (szT ad y.1) = x := by
  obtain ⟨z, R, h1, h2, h3, h4, h5⟩ := tbs_stand ad (secTb ad L) L [] i t hf rfl ht
  rw [hy] at h1
  injection h1 with h1
  subst h1
  refine ⟨h2, h3, h4, fun k x hk => ⟨?_, item_at (hf y (List.mem_of_getElem? hy)).f h5 h4 hk⟩⟩
  unfold atTb
  rw [tbs_find ad 0 L i t hf ht]
  simp only [h3, hk]

end Go.Proofs.YtpmpgfngogdfhaaDoor
