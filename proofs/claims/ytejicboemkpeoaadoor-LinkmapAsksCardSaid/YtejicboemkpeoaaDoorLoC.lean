/-
  append of any row, be it empty, to a row of the call's own, in a region that draws its order; rows cut.
-/
import Derived.Test.YtejicboemkpeoaaDoorLoA
import Derived.Deep.AppendLies
namespace Go.Proofs.YtejicboemkpeoaaDoor
open Go Go.RowKit

section
variable {P : Program}
theorem run_append_rows (w : World) (base : Nat) (t ty e : TypeId) (i : TypeInfo) (z : Value) (size bytes : Nat) (ht : P.underlying t = some (.slice e)) (hi : P.info? e = some i) (hz : i.zero = some z)
    (hsize : i.size = size) (hby : i.bytes = bytes) (hzs : z.cells.size = size) (hsz : 0 < size)
    (v : Value) (n : Nat) (xs : List Value) (hown : w.ownsRow base e size v n xs) (A : Option Addr) (m c : Nat) (news : List Value) (hl : news.length = m * size) (hA : A = none → m = 0) (hnews : ∀ ad, A = some ad → ∀ j u, news[j]? = some u → w.cell? (ad.add j) = some u) (h1 : ∀ u ∈ news, u.oneCell' = true)
    (h63 : n + m ≤ maxLen) (hbytes : (n + m) * bytes ≤ 140737488355328) (hbase : base ≤ w.heap.size) :
    ∃ v' w', (Builtin.append_ #[t, t] ty #[v, .slice A m c]).run P w = .ok v' w' ∧ w'.ownsRow base e size v' (n + m) (xs ++ news) ∧ w.grownBy w' v.ownBlock := by
  rcases A with _ | ad
  · obtain rfl := hA rfl
    obtain rfl : news = [] := List.eq_nil_of_length_eq_zero (by rw [hl]; simp)
    refine ⟨v, w, ?_, by simpa using hown, ⟨rfl, rfl, rfl, Nat.le_refl _, fun _ _ _ => rfl⟩⟩
    rcases hown.2 with ⟨rfl, _⟩ | ⟨g, cap, cur, rfl, _, _, hnc, _⟩
    · simp [Builtin.append_, run_underlying ht, sizeOf, typeInfo, hi, Builtin.lenOf, Builtin.firstCells]
    · simp [Builtin.append_, run_underlying ht, sizeOf, typeInfo, hi, Builtin.lenOf, Builtin.firstCells, hnc, storeCells]
  · obtain ⟨v', w', h2, h3, h4, _, _⟩ := run_append_own_at (P := P) w base t ty e i z size bytes ht hi hz hsize hby hzs hsz v n xs hown ad m c news hl (hnews ad rfl) h1 h63 hbytes hbase
    exact ⟨v', w', h2, h3, h4⟩

theorem step_rows {w : World} {ops : Array Oper} {o : Oper} {a : Act} {K : Act → World → Prop} {Q : Exit → Act → World → Prop} {E : Prop} (hgd : o.guard = none) (s x : Operand) (t : TypeId)
    (ho : o.op = .call { callee := .builtin .append, args := #[s, x], argTypes := #[t, t] })
    (base : Nat) (e : TypeId) (i : TypeInfo) (z : Value) (size bytes : Nat) (ht : P.underlying t = some (.slice e)) (hi : P.info? e = some i) (hz : i.zero = some z)
    (hsize : i.size = size) (hby : i.bytes = bytes) (hzs : z.cells.size = size) (hsz : 0 < size)
    (v : Value) (n : Nat) (xs : List Value) (hs : a.eval s = v) (hown : w.ownsRow base e size v n xs)
    (A : Option Addr) (m c : Nat) (news : List Value) (hx : a.eval x = .slice A m c) (hl : news.length = m * size) (hA : A = none → m = 0) (hnews : ∀ ad, A = some ad → ∀ j u, news[j]? = some u → w.cell? (ad.add j) = some u) (h1 : ∀ u ∈ news, u.oneCell' = true)
    (h63 : n + m ≤ maxLen) (hbytes : (n + m) * bytes ≤ 140737488355328) (hbase : base ≤ w.heap.size)
    (h : ∀ v' w', w'.ownsRow base e size v' (n + m) (xs ++ news) → w.grownBy w' v.ownBlock → K (a.put o.dst v') w') :
    if Region.wanted o (yielded ops a.tmps) = true then Oper.wp P o a w K Q else E := by
  have hw : Region.wanted o (yielded ops a.tmps) = true := by simp [Region.wanted, hgd]
  rw [if_pos hw]
  obtain ⟨v', w', hr, h2, h3⟩ := run_append_rows (P := P) w base t o.type e i z size bytes ht hi hz hsize hby hzs hsz v n xs hown A m c news hl hA hnews h1 h63 hbytes hbase
  unfold Oper.wp execOp
  simp only [ho, resolve, invoke, builtin, Sem.run_bind, Sem.run_pure, Result.andThen_ok, List.map_toArray, List.map_cons, List.map_nil, hs, hx, hr]
  exact h v' w' h2 h3
end

/-! ### A row cut in two -/
section
variable {α : Type} {f : α → List Value} {n : Nat} {w : World} {B : Nat} {a : Option Addr} {L : List α}
theorem row_take (h : Row n f w B a L) (k : Nat) : Row n f w B a (L.take k) := fun hl => by
  obtain ⟨b, o, e, hlt, hc⟩ := h (by rw [List.length_take] at hl; omega)
  exact ⟨b, o, e, hlt, fun i x hx j v hv => hc i x (by rw [List.getElem?_take] at hx; split at hx; exact hx; cases hx) j v hv⟩
theorem row_drop (h : Row n f w B a L) (k : Nat) : Row n f w B (a.map fun p => p.add (k * n)) (L.drop k) := fun hl => by
  obtain ⟨b, o, rfl, hlt, hc⟩ := h (by rw [List.length_drop] at hl; omega)
  refine ⟨b, o + k * n, by simp [Addr.add], hlt, fun i x hx j v hv => ?_⟩
  rw [List.getElem?_drop] at hx
  have := hc (k + i) x hx j v hv
  rw [show o + k * n + i * n + j = o + (k + i) * n + j by rw [Nat.add_mul]; omega]
  exact this
/-- The cells of a row, as an append asks for them. -/
theorem row_news (hn : ∀ x, (f x).length = n) (h : Row n f w B a L) : (a = none → L.length = 0) ∧ ∀ ad, a = some ad → ∀ j u, (cellsF f L)[j]? = some u → w.cell? (ad.add j) = some u := by
  constructor
  · intro e
    rcases Nat.eq_zero_or_pos L.length with h0 | h0
    · exact h0
    · obtain ⟨b, o, e', _⟩ := h h0
      rw [e] at e'; cases e'
  · intro ad e j u hu
    have hl : 0 < L.length := by
      rcases Nat.eq_zero_or_pos L.length with h0 | h0
      · rw [List.eq_nil_of_length_eq_zero h0] at hu
        simp [cellsF] at hu
      · exact h0
    obtain ⟨b, o, e', hlt, hc⟩ := h hl
    rw [e] at e'
    injection e' with e'
    subst e'
    have hj : j < (cellsF f L).length := (List.getElem?_eq_some_iff.1 hu).1
    rw [cellsF_length hn] at hj
    have hn0 : 0 < n := by rcases Nat.eq_zero_or_pos n with h0 | h0; (subst h0; simp at hj); exact h0
    have hq : j / n < L.length := (Nat.div_lt_iff_lt_mul hn0).2 hj
    have hm := Nat.mod_lt j hn0
    obtain ⟨x, hx⟩ : ∃ x, L[j / n]? = some x := ⟨_, List.getElem?_eq_getElem hq⟩
    obtain ⟨v, hv⟩ : ∃ v, (f x)[j % n]? = some v := ⟨_, List.getElem?_eq_getElem (by rw [hn]; exact hm)⟩
    have h1 := cellsF_at hn L (j / n) x (j % n) v hx hv
    rw [show j / n * n + j % n = j by rw [Nat.mul_comm]; exact Nat.div_add_mod j n] at h1
    rw [hu] at h1
    injection h1 with h1
    subst h1
    have h2 := hc (j / n) x hx (j % n) u hv
    rw [show o + j / n * n + j % n = o + j by have := Nat.div_add_mod j n; rw [Nat.mul_comm] at this; omega] at h2
    rw [addr_add]
    exact h2
end
end Go.Proofs.YtejicboemkpeoaaDoor
