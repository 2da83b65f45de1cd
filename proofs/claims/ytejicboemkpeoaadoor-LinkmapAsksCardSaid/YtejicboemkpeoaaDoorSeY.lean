/-
  The document's Bulk: how many bytes sections have, as far as a bound; sections that came in.
-/
import Derived.Test.YtejicboemkpeoaaDoorSeA
namespace Go.Proofs.YtejicboemkpeoaaDoor
open Go Go.RowKit

/-- A section's numbers are what their types may be. -/
structure Sect.Nums (s : Sect) : Prop where
  kind : InI s.kind
  link : InI s.link
  inf : InI s.inf
  algn : InI s.algn
  ent : InI s.ent
  flags : s.flags < two64
  addr : s.addr < two64
theorem Sect.Nums.fits {s : Sect} (h : s.Nums) (hd : s.data.length ≤ 8000) (hn : s.name.length ≤ 8000) : s.Fits :=
  ⟨h.kind, h.link, h.inf, h.algn, h.ent, h.flags, h.addr, Nat.le_trans hd (by decide), Nat.le_trans hn (by decide)⟩

/-- Sections that came in: nothing is said of how many bytes they have. -/
structure SecsIn (w : World) (B : Nat) (a : Option Addr) (L : List Lay) : Prop where
  row : 0 < L.length → ∃ b o, a = some ⟨b, o, none⟩ ∧ b < B ∧ ∀ (i : Nat) (x : Lay), L[i]? = some x → ∀ (j : Nat) (v : Value), x.cells[j]? = some v → w.cell? ⟨b, o + i * 9 + j, none⟩ = some v
  rd : ∀ x ∈ L, Rd w B x.A x.s.data ∧ x.s.data.length ≤ x.c ∧ x.c ≤ maxLen ∧ x.s.Nums
theorem SecsIn.secs {w : World} {B : Nat} {a : Option Addr} {L : List Lay} (h : SecsIn w B a L) (hb : ∀ x ∈ L, x.s.data.length ≤ 8000 ∧ x.s.name.length ≤ 8000) : Secs w B a L :=
  ⟨h.row, fun x hx => ⟨(h.rd x hx).1, (h.rd x hx).2.1, (h.rd x hx).2.2.1, (h.rd x hx).2.2.2.fits (hb x hx).1 (hb x hx).2⟩⟩

def Bulky (L : List Lay) (k : Nat) : Prop := ∀ (j : Nat) (x : Lay), j < k → L[j]? = some x → x.s.data.length ≤ 8000 ∧ x.s.name.length ≤ 8000
theorem Bulky.next {L : List Lay} {k : Nat} {x : Lay} (h : Bulky L k) (hx : L[k]? = some x) (h1 : x.s.data.length ≤ 8000) (h2 : x.s.name.length ≤ 8000) : Bulky L (k + 1) := fun j y hj hy => by
  rcases Nat.lt_or_ge j k with h3 | h3
  · exact h j y h3 hy
  · rw [show j = k by omega, hx] at hy
    injection hy with hy
    exact hy ▸ ⟨h1, h2⟩
theorem Bulky.all {L : List Lay} (h : Bulky L L.length) : ∀ x ∈ L, x.s.data.length ≤ 8000 ∧ x.s.name.length ≤ 8000 := fun x hx => by
  obtain ⟨i, hi, e⟩ := List.getElem_of_mem hx
  exact h i x hi (by rw [← e]; exact List.getElem?_eq_getElem hi)

end Go.Proofs.YtejicboemkpeoaaDoor
