/-
  Package tables: tables as values and in memory; what is read of a table's bytes, as functions; no call is walked here.
-/
import Derived.Test.YtpmpgfngogdfhaaDoorUnE
import Derived.Test.YtpmpgfngogdfhaaDoorPoX
import Derived.Test.YtpmpgfngogdfhaaDoorParts
namespace Go.Proofs.YtpmpgfngogdfhaaDoor
open Go Go.RowKit

/-- A table. -/
structure Tbl where
  wide : Bool
  base : Nat
  items : List Nat
/-- One in memory: where its items are. -/
structure TLay where
  x : Tbl
  a : Option Addr
  c : Nat
def TLay.cells (y : TLay) : List Value := [.bool y.x.wide, .int .u64 (y.x.base : Int), .slice y.a y.x.items.length y.c]
theorem tbl_three (y : TLay) : y.cells.length = 3 := rfl
theorem tbl_one (y : TLay) : ∀ u ∈ y.cells, u.oneCell' = true := by
  intro u hu
  simp only [TLay.cells, List.mem_cons, List.not_mem_nil, or_false] at hu
  rcases hu with rfl | rfl | rfl <;> rfl
def numC (n : Nat) : List Value := [.int .u64 (n : Int)]
theorem num_oneT (n : Nat) : (numC n).length = 1 := rfl
theorem cellsF_num : ∀ l : List Nat, cellsF numC l = placeV l
  | [] => rfl
  | x :: l => by
    have ih := cellsF_num l
    show numC x ++ cellsF numC l = placeV (x :: l)
    rw [ih]
    rfl
theorem num_atT {w : World} {B : Nat} {a : Option Addr} {l : List Nat} (h : Row 1 numC w B a l) {i n : Nat} (hn : l[i]? = some n) : ∃ b o, a = some ⟨b, o, none⟩ ∧ b < B ∧ w.cell? ⟨b, o + i, none⟩ = some (.int .u64 (n : Int)) := by
  have hl : 0 < l.length := by have := (List.getElem?_eq_some_iff.1 hn).1; omega
  obtain ⟨b, o, e, hlt, hc⟩ := h hl
  have := hc i n hn 0 _ rfl
  exact ⟨b, o, e, hlt, by simpa using this⟩

/-- Tables that lie side by side, and their items. -/
structure Tabs (w : World) (B : Nat) (a : Option Addr) (L : List TLay) : Prop where
  row : Row 3 TLay.cells w B a L
  its : ∀ y ∈ L, Row 1 numC w B y.a y.x.items
theorem Tabs.below {w w' : World} {B : Nat} {a : Option Addr} {L : List TLay} (h : Tabs w B a L) (hb : Below B w w') : Tabs w' B a L := ⟨Row.below h.row hb, fun y hy => Row.below (h.its y hy) hb⟩
theorem Tabs.more {w : World} {B B' : Nat} {a : Option Addr} {L : List TLay} (h : Tabs w B a L) (hB : B ≤ B') : Tabs w B' a L := ⟨Row.more h.row hB, fun y hy => Row.more (h.its y hy) hB⟩
theorem tbl_at {w : World} {B : Nat} {a : Option Addr} {L : List TLay} (h : Tabs w B a L) {i : Nat} {y : TLay} (hy : L[i]? = some y) : ∃ b o, a = some ⟨b, o, none⟩ ∧ b < B ∧
    w.cell? ⟨b, o + i * 3, none⟩ = some (.bool y.x.wide) ∧ w.cell? ⟨b, o + i * 3 + 1, none⟩ = some (.int .u64 (y.x.base : Int)) ∧ w.cell? ⟨b, o + i * 3 + 2, none⟩ = some (.slice y.a y.x.items.length y.c) := by
  have hl : 0 < L.length := by have := (List.getElem?_eq_some_iff.1 hy).1; omega
  obtain ⟨b, o, e, hlt, hc⟩ := h.row hl
  have h' := hc i y hy
  exact ⟨b, o, e, hlt, h' 0 _ rfl, h' 1 _ rfl, h' 2 _ rfl⟩

/-- Tables of the call's own. -/
structure OwnTb (T : TypeId) (w : World) (base : Nat) (v : Value) (L : List TLay) : Prop where
  row : w.ownsRow base T 3 v L.length (cellsF TLay.cells L)
  its : ∀ y ∈ L, OwnU w base (.slice y.a y.x.items.length y.c) y.x.items
theorem OwnTb.nil (T : TypeId) (w : World) (base : Nat) : OwnTb T w base (.slice none 0 0) [] := ⟨World.ownsRow_nil _ _ _ _, fun y hy => by cases hy⟩
theorem OwnTb.below {T : TypeId} {w w' : World} {base : Nat} {v : Value} {L : List TLay} (h : OwnTb T w base v L) (hb : Below w.heap.size w w') : OwnTb T w' base v L := ⟨row_below h.row hb, fun y hy => row_below (h.its y hy) hb⟩
theorem OwnTb.far {T T' : TypeId} {w w' : World} {base g : Nat} {v : Value} {L : List TLay} {cs : Array Value} (h : OwnTb T w base v L) (hg : w.grownBy w' (some g)) (hX : Box w g T' cs) (h1 : T' ≠ T) (h2 : T' ≠ 41) : OwnTb T w' base v L :=
  ⟨un_far h.row hg hX h1, fun y hy => un_far (h.its y hy) hg hX h2⟩
theorem OwnTb.lies {T : TypeId} {w : World} {base : Nat} {v : Value} {L : List TLay} (h : OwnTb T w base v L) : ∃ A c, v = .slice A L.length c ∧ L.length ≤ c ∧ c ≤ maxLen ∧ Tabs w w.heap.size A L := by
  obtain ⟨A, c, e, h1, h2, hr⟩ := own_row tbl_three h.row
  refine ⟨A, c, e, h1, h2, hr, fun y hy => ?_⟩
  have h0 := h.its y hy
  rw [OwnU, ← cellsF_num] at h0
  obtain ⟨A', c', e', -, -, hr'⟩ := own_row num_oneT h0
  injection e' with e1 _ _
  rw [e1]
  exact hr'

/-! ### What is read -/
/-- How many bytes an item has. -/
def szT (ad wide : Bool) : Nat := match ad with | true => 8 | false => offN wide
theorem szT_pos (ad wide : Bool) : 0 < szT ad wide ∧ szT ad wide ≤ 8 := by cases ad <;> cases wide <;> decide
def itemsTb (l : List UInt8) (n k : Nat) : List Nat := (List.range k).map fun i => leNat ((l.drop (i * n)).take n)
theorem itemsTb_succ (l : List UInt8) (n k : Nat) : itemsTb l n (k + 1) = itemsTb l n k ++ [leNat ((l.drop (k * n)).take n)] := by simp [itemsTb, List.range_succ]
@[simp] theorem itemsTb_len (l : List UInt8) (n k : Nat) : (itemsTb l n k).length = k := by simp [itemsTb]
/-- Whether the numbers ahead of the items are right. -/
def rgTb (G : List UInt8) (ad : Bool) : Bool := leNat (G.take 2) == 5 && leNat ((G.drop 2).take 2) == (match ad with | true => 8 | false => 0)
/-- Why a table is refused; how many bytes its items have. -/
def xT (G : List UInt8) (be : Int) (n : Nat) (ad : Bool) : Int := if be = 0 then (if 4 ≤ G.length then (if rgTb G ad = true then (if (G.length - 4) % n = 0 then 0 else 10) else 42) else 10) else be
def lT (G : List UInt8) (be : Int) (n : Nat) (ad : Bool) : Nat := if xT G be n ad = 0 then G.length - 4 else 0
def xTb (sec : List UInt8) (a : Nat) (ad : Bool) : Int := xT (bdG sec a 0) (bdE sec a 0) (szT ad (bdW sec a 0)) ad
def lTb (sec : List UInt8) (a : Nat) (ad : Bool) : Nat := lT (bdG sec a 0) (bdE sec a 0) (szT ad (bdW sec a 0)) ad
def tTb (sec : List UInt8) (a : Nat) (ad : Bool) : Tbl := ⟨bdW sec a 0, bdA sec a 0 - lTb sec a ad, itemsTb ((bdG sec a 0).drop 4) (szT ad (bdW sec a 0)) (lTb sec a ad / szT ad (bdW sec a 0))⟩
/-- What the program's readers of a table's numbers make of the body: where it stands, whether they are right. -/
def hsTb (G : List UInt8) (be : Int) (ad : Bool) : UCt := match ad with
  | false => nU G (nU G (0, be) 2) 2
  | true => nU G (nU G (nU G (0, be) 2) 1) 1
def hrTb (G : List UInt8) (be : Int) (ad : Bool) : Bool := match ad with
  | false => vU G (0, be) 2 == 5 && vU G (nU G (0, be) 2) 2 == 0
  | true => vU G (0, be) 2 == 5 && (vU G (nU G (0, be) 2) 1 == 8 && vU G (nU G (nU G (0, be) 2) 1) 1 == 0)
theorem nU_fits {G : List UInt8} {a n : Nat} (h : n ≤ G.length - a) : nU G (a, 0) n = (a + n, 0) ∧ vU G (a, 0) n = leNat ((G.drop a).take n) := by
  obtain ⟨h1, h2, h3⟩ := next_fits G a n h
  exact ⟨by unfold nU; rw [h2, h3], by unfold vU; rw [h1]⟩
theorem nU_short {G : List UInt8} {a n : Nat} (h : G.length - a < n) : nU G (a, 0) n = (a, 10) := by
  unfold nU nextAt nextErr
  have h1 : ¬ n ≤ G.length - a := by omega
  simp [h1]
theorem nU_bad {G : List UInt8} {a n : Nat} {e : Int} (h : e ≠ 0) : nU G (a, e) n = (a, e) := by
  unfold nU nextAt nextErr
  simp only
  rw [if_neg (by simp [h]), if_neg h]
theorem head_tb (G : List UInt8) (be : Int) (ad : Bool) :
    (be = 0 → 4 ≤ G.length → hsTb G be ad = (4, 0) ∧ hrTb G be ad = rgTb G ad) ∧ (¬ (be = 0 ∧ 4 ≤ G.length) → (hsTb G be ad).2 = (if be = 0 then 10 else be) ∧ (hsTb G be ad).2 ≠ 0) := by
  constructor
  · rintro rfl h4
    obtain ⟨b0, b1, b2, b3, r, rfl⟩ : ∃ b0 b1 b2 b3 r, G = b0 :: b1 :: b2 :: b3 :: r := by
      match G, h4 with
      | b0 :: b1 :: b2 :: b3 :: r, _ => exact ⟨_, _, _, _, _, rfl⟩
    obtain ⟨n1, v1⟩ := nU_fits (G := b0 :: b1 :: b2 :: b3 :: r) (a := 0) (n := 2) (by simp)
    obtain ⟨n2, v2⟩ := nU_fits (G := b0 :: b1 :: b2 :: b3 :: r) (a := 2) (n := 2) (by simp)
    obtain ⟨n3, v3⟩ := nU_fits (G := b0 :: b1 :: b2 :: b3 :: r) (a := 2) (n := 1) (by simp)
    obtain ⟨n4, v4⟩ := nU_fits (G := b0 :: b1 :: b2 :: b3 :: r) (a := 3) (n := 1) (by simp)
    cases ad with
    | false => exact ⟨by simp only [hsTb]; rw [n1, n2], by simp only [hrTb, rgTb]; rw [n1, v1, v2]; rfl⟩
    | true =>
      refine ⟨by simp only [hsTb]; rw [n1, n3, n4], ?_⟩
      simp only [hrTb, rgTb]
      rw [n1, v1, n3, v3, v4]
      have l2 := b2.toNat_lt
      have l3 := b3.toNat_lt
      simp only [List.drop_zero, List.drop_succ_cons, List.take_succ_cons, List.take_zero, leNat, Nat.mul_zero, Nat.add_zero]
      congr 1
      rw [Bool.eq_iff_iff]
      simp only [Bool.and_eq_true, beq_iff_eq]
      omega
  · intro h
    by_cases hb : be = 0
    · subst hb
      have h4 : G.length < 4 := by
        rcases Nat.lt_or_ge G.length 4 with h1 | h1
        · exact h1
        · exact absurd ⟨rfl, h1⟩ h
      rw [if_pos rfl]
      have key : (hsTb G 0 ad).2 = 10 := by
        by_cases h2 : 2 ≤ G.length
        · obtain ⟨n1, -⟩ := nU_fits (G := G) (a := 0) (n := 2) (by omega)
          cases ad with
          | false =>
            simp only [hsTb]
            rw [n1, nU_short (by omega)]
          | true =>
            simp only [hsTb]
            rw [n1]
            by_cases h3 : 3 ≤ G.length
            · obtain ⟨n2, -⟩ := nU_fits (G := G) (a := 0 + 2) (n := 1) (by omega)
              rw [n2, nU_short (by omega)]
            · rw [nU_short (n := 1) (by omega), nU_bad (e := 10) (by decide)]
        · have n1 : nU G (0, 0) 2 = (0, 10) := nU_short (by omega)
          cases ad with
          | false => simp only [hsTb]; rw [n1, nU_bad (e := 10) (by decide)]
          | true => simp only [hsTb]; rw [n1, nU_bad (e := 10) (by decide), nU_bad (e := 10) (by decide)]
      exact ⟨key, by rw [key]; decide⟩
    · rw [if_neg hb]
      have key : (hsTb G be ad).2 = be := by
        cases ad with
        | false => simp only [hsTb]; rw [nU_bad hb, nU_bad hb]
        | true => simp only [hsTb]; rw [nU_bad hb, nU_bad hb, nU_bad hb]
      exact ⟨key, by rw [key]; exact hb⟩
/-- Behind the refusals of the numbers, and of a rest that is no whole number of items. -/
def s1Tb (G : List UInt8) (be : Int) (ad : Bool) : UCt := fU (!hrTb G be ad) (hsTb G be ad)
def s2Tb (G : List UInt8) (be : Int) (n : Nat) (ad : Bool) : UCt := if leftOf G (s1Tb G be ad).1 (s1Tb G be ad).2 % n = 0 then s1Tb G be ad else ((s1Tb G be ad).1, failOf (s1Tb G be ad).2 10)
theorem s2_tb (G : List UInt8) (be : Int) (n : Nat) (ad : Bool) :
    (s2Tb G be n ad).2 = xT G be n ad ∧ leftOf G (s2Tb G be n ad).1 (s2Tb G be n ad).2 = lT G be n ad ∧ (xT G be n ad = 0 → s2Tb G be n ad = (4, 0) ∧ 4 ≤ G.length ∧ (G.length - 4) % n = 0) := by
  have hE : (s2Tb G be n ad).2 = xT G be n ad ∧ (xT G be n ad = 0 → s2Tb G be n ad = (4, 0) ∧ 4 ≤ G.length ∧ (G.length - 4) % n = 0) := by
    obtain ⟨hA, hB⟩ := head_tb G be ad
    by_cases h0 : be = 0 ∧ 4 ≤ G.length
    · obtain ⟨rfl, h4⟩ := h0
      obtain ⟨e1, e2⟩ := hA rfl h4
      have e3 : s1Tb G 0 ad = if rgTb G ad = true then (4, 0) else (4, 42) := by
        unfold s1Tb
        rw [e1, e2]
        cases rgTb G ad <;> rfl
      unfold s2Tb xT
      rw [e3, if_pos rfl, if_pos h4]
      by_cases hr : rgTb G ad = true
      · rw [if_pos hr, if_pos hr]
        have hl : leftOf G 4 0 = G.length - 4 := by simp [leftOf]
        simp only
        rw [hl]
        by_cases hm : (G.length - 4) % n = 0
        · rw [if_pos hm, if_pos hm]
          exact ⟨rfl, fun _ => ⟨rfl, h4, hm⟩⟩
        · rw [if_neg hm, if_neg hm]
          exact ⟨rfl, fun h => by cases h⟩
      · rw [if_neg hr, if_neg hr]
        have hl : leftOf G 4 42 = 0 := by simp [leftOf]
        simp only
        rw [hl, if_pos (Nat.zero_mod n)]
        exact ⟨rfl, fun h => by cases h⟩
    · obtain ⟨e1, e2⟩ := hB h0
      have e3 : s1Tb G be ad = hsTb G be ad := by
        unfold s1Tb
        cases hrTb G be ad
        · show (_, failOf _ 42) = _
          unfold failOf
          rw [if_neg e2]
        · rfl
      have hl : leftOf G (s1Tb G be ad).1 (s1Tb G be ad).2 = 0 := by rw [e3]; unfold leftOf; rw [if_neg e2]
      have e4 : s2Tb G be n ad = hsTb G be ad := by
        unfold s2Tb
        rw [hl, if_pos (Nat.zero_mod n), e3]
      have e5 : xT G be n ad = if be = 0 then 10 else be := by
        unfold xT
        by_cases hb : be = 0
        · rw [if_pos hb, if_pos hb, if_neg (fun h4 => h0 ⟨hb, h4⟩)]
        · rw [if_neg hb, if_neg hb]
      rw [e4, e1, e5]
      refine ⟨rfl, fun h => absurd (h ▸ e1) e2⟩
  refine ⟨hE.1, ?_, hE.2⟩
  unfold lT leftOf
  by_cases hx : xT G be n ad = 0
  · rw [if_pos hx, if_pos (by rw [hE.1]; exact hx), (hE.2 hx).1]
  · rw [if_neg hx, if_neg (by rw [hE.1]; exact hx)]
theorem xT_fail (G : List UInt8) (be : Int) (n : Nat) (ad : Bool) : failOf be (xT G be n ad) = xT G be n ad := by
  unfold failOf xT
  by_cases hb : be = 0
  · rw [if_pos hb]
  · rw [if_neg hb, if_neg hb]
theorem lT_mod (G : List UInt8) (be : Int) (n : Nat) (ad : Bool) : lT G be n ad / n * n = lT G be n ad ∧ lT G be n ad ≤ G.length := by
  unfold lT
  by_cases hx : xT G be n ad = 0
  · rw [if_pos hx]
    obtain ⟨-, -, h⟩ := s2_tb G be n ad
    obtain ⟨-, -, hm⟩ := h hx
    exact ⟨Nat.div_mul_cancel (Nat.dvd_of_mod_eq_zero hm), by omega⟩
  · rw [if_neg hx]
    simp
/-- An item of the body, read. -/
theorem item_tb {G : List UInt8} {n i k : Nat} (hik : i < k) (hk : k * n ≤ G.length - 4) : nU G (4 + i * n, 0) n = (4 + (i + 1) * n, 0) ∧ vU G (4 + i * n, 0) n = leNat (((G.drop 4).drop (i * n)).take n) := by
  have h1 : (i + 1) * n ≤ k * n := Nat.mul_le_mul_right n hik
  have h2 : (i + 1) * n = i * n + n := by rw [Nat.add_mul, Nat.one_mul]
  obtain ⟨e1, e2⟩ := nU_fits (G := G) (a := 4 + i * n) (n := n) (by omega)
  rw [List.drop_drop]
  exact ⟨by rw [e1, h2]; simp only [Prod.mk.injEq, and_true]; omega, e2⟩

/-! ### The tables so far -/
structure TAt where
  a : Nat
  e : Int
  L : List Tbl
/-- One table more. -/
def stepTb (sec : List UInt8) (ad : Bool) (s : TAt) : TAt :=
  ⟨bdA sec s.a 0, if 60 < s.L.length + 1 then failOf (xTb sec s.a ad) 3 else xTb sec s.a ad, s.L ++ [tTb sec s.a ad]⟩
def runTb (sec : List UInt8) (ad : Bool) : Nat → TAt → TAt
  | 0, s => s
  | n + 1, s => if 0 < leftOf sec s.a s.e then runTb sec ad n (stepTb sec ad s) else s
/-- Behind the last one; what is told. -/
def finTb (sec : List UInt8) (ad : Bool) : TAt := runTb sec ad 61 ⟨0, 0, []⟩
def allTbE (sec : List UInt8) (ad : Bool) : Int := (finTb sec ad).e
def allTbL (sec : List UInt8) (ad : Bool) : List Tbl := if allTbE sec ad = 0 then (finTb sec ad).L else []
theorem runTb_end {sec : List UInt8} {ad : Bool} {s : TAt} (h : leftOf sec s.a s.e = 0) : ∀ n, runTb sec ad n s = s
  | 0 => rfl
  | n + 1 => by rw [runTb, if_neg (by omega)]
theorem stepTb_full {sec : List UInt8} {ad : Bool} {s : TAt} (h : 60 < s.L.length + 1) : (stepTb sec ad s).e ≠ 0 := by
  unfold stepTb
  simp only
  rw [if_pos h]
  unfold failOf
  split
  · decide
  · assumption
end Go.Proofs.YtpmpgfngogdfhaaDoor
