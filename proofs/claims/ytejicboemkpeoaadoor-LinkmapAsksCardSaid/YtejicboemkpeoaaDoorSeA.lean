/-
  Package sects: sections as they lie in memory; where a section of a name stands (Find, and the document's).
-/
import Derived.Test.YtejicboemkpeoaaDoorPoO
import Derived.Test.YtejicboemkpeoaaDoorCsQ
import Derived.Test.YtejicboemkpeoaaDoorRefR
import Derived.Test.YtejicboemkpeoaaDoorCsL
import Derived.Lib.SlBytesConst
namespace Go.Proofs.YtejicboemkpeoaaDoor
open Go Go.RowKit

/-- A section. -/
structure Sect where
  name : List UInt8
  kind : Int
  flags : Nat
  addr : Nat
  data : List UInt8
  link : Int
  inf : Int
  algn : Int
  ent : Int

/-- The first section, as it may be. -/
def zeroS : Sect := ⟨[], 0, 0, 0, [], 0, 0, 0, 0⟩

def InI (x : Int) : Prop := -9223372036854775808 ≤ x ∧ x ≤ 9223372036854775807
/-- Within what a section's numbers may be at all. -/
structure Sect.Fits (s : Sect) : Prop where
  kind : InI s.kind
  link : InI s.link
  inf : InI s.inf
  algn : InI s.algn
  ent : InI s.ent
  flags : s.flags < two64
  addr : s.addr < two64
  data : s.data.length ≤ 100000
  name : s.name.length ≤ 100000

/-- A section as it lies: with where its bytes are. -/
structure Lay where
  s : Sect
  A : Option Addr
  c : Nat

def Lay.dv (x : Lay) : Value := .slice x.A x.s.data.length x.c
def Lay.cells (x : Lay) : List Value := [.string ⟨x.s.name.toArray⟩, .int .i64 x.s.kind, .int .u64 (x.s.flags : Int), .int .u64 (x.s.addr : Int), x.dv, .int .i64 x.s.link, .int .i64 x.s.inf, .int .i64 x.s.algn, .int .i64 x.s.ent]
def Lay.val (x : Lay) : Value := .agg x.cells.toArray

/-- Its bytes lie ahead of a place of the memory. -/
structure Lay.Ok (w : World) (B : Nat) (x : Lay) : Prop where
  rd : Rd w B x.A x.s.data
  le : x.s.data.length ≤ x.c
  cap : x.c ≤ maxLen
  fits : x.s.Fits

/-- Sections that lie side by side. -/
structure Secs (w : World) (B : Nat) (a : Option Addr) (L : List Lay) : Prop where
  row : 0 < L.length → ∃ b o, a = some ⟨b, o, none⟩ ∧ b < B ∧ ∀ (i : Nat) (x : Lay), L[i]? = some x → ∀ (j : Nat) (v : Value), x.cells[j]? = some v → w.cell? ⟨b, o + i * 9 + j, none⟩ = some v
  ok : ∀ x ∈ L, x.Ok w B

section
variable {w w' : World} {B B' : Nat} {a : Option Addr} {L : List Lay} {x : Lay}
theorem Lay.Ok.below (h : x.Ok w B) (hb : Below B w w') : x.Ok w' B := ⟨h.rd.below hb, h.le, h.cap, h.fits⟩
theorem Lay.Ok.more (h : x.Ok w B) (hB : B ≤ B') : x.Ok w B' := ⟨h.rd.more hB, h.le, h.cap, h.fits⟩
theorem Secs.below (h : Secs w B a L) (hb : Below B w w') : Secs w' B a L :=
  ⟨fun hl => by
    obtain ⟨b, o, e, hlt, hc⟩ := h.row hl
    exact ⟨b, o, e, hlt, fun i x hx j v hv => by rw [hb.cell (p := ⟨b, o + i * 9 + j, none⟩) hlt]; exact hc i x hx j v hv⟩, fun x hx => (h.ok x hx).below hb⟩
theorem Secs.more (h : Secs w B a L) (hB : B ≤ B') : Secs w B' a L :=
  ⟨fun hl => by
    obtain ⟨b, o, e, hlt, hc⟩ := h.row hl
    exact ⟨b, o, e, by omega, hc⟩, fun x hx => (h.ok x hx).more hB⟩
theorem Secs.drewN (h : Secs w B a L) (n : Nat) : Secs (w.drewN n) B a L := h.below (below_drewN (Below.refl _ _) n)
theorem Secs.alloc (h : Secs w B a L) (hB : B ≤ w.heap.size) (o : Obj) : Secs (w.alloc o) B a L := h.below ((Below.refl _ _).alloc hB o)
/-- The cells of one of them. -/
theorem Secs.at_ (h : Secs w B a L) {i : Nat} (hx : L[i]? = some x) : ∃ b o, a = some ⟨b, o, none⟩ ∧ b < B ∧
    w.cell? ⟨b, o + i * 9, none⟩ = some (.string ⟨x.s.name.toArray⟩) ∧ w.cell? ⟨b, o + i * 9 + 1, none⟩ = some (.int .i64 x.s.kind) ∧ w.cell? ⟨b, o + i * 9 + 2, none⟩ = some (.int .u64 (x.s.flags : Int)) ∧ w.cell? ⟨b, o + i * 9 + 3, none⟩ = some (.int .u64 (x.s.addr : Int)) ∧
    w.cell? ⟨b, o + i * 9 + 4, none⟩ = some (.slice x.A x.s.data.length x.c) ∧ w.cell? ⟨b, o + i * 9 + 5, none⟩ = some (.int .i64 x.s.link) ∧ w.cell? ⟨b, o + i * 9 + 6, none⟩ = some (.int .i64 x.s.inf) ∧ w.cell? ⟨b, o + i * 9 + 7, none⟩ = some (.int .i64 x.s.algn) ∧ w.cell? ⟨b, o + i * 9 + 8, none⟩ = some (.int .i64 x.s.ent) := by
  have hl : 0 < L.length := by have := (List.getElem?_eq_some_iff.1 hx).1; omega
  obtain ⟨b, o, e, hlt, hc⟩ := h.row hl
  have h' := hc i x hx
  exact ⟨b, o, e, hlt, h' 0 _ rfl, h' 1 _ rfl, h' 2 _ rfl, h' 3 _ rfl, h' 4 _ rfl, h' 5 _ rfl, h' 6 _ rfl, h' 7 _ rfl, h' 8 _ rfl⟩
theorem Secs.get (h : Secs w B a L) {i : Nat} (hx : L[i]? = some x) : x.Ok w B := h.ok x (List.mem_of_getElem? hx)
/-- All of them from one on. -/
theorem Secs.drop (h : Secs w B a L) (n : Nat) : Secs w B (a.map fun p => p.add (n * 9)) (L.drop n) :=
  ⟨fun hl => by
    obtain ⟨b, o, e, hlt, hc⟩ := h.row (by simp at hl; omega)
    refine ⟨b, o + n * 9, by rw [e]; simp [addr_add], hlt, fun i x hx j v hv => ?_⟩
    rw [List.getElem?_drop] at hx
    have := hc (n + i) x hx j v hv
    rwa [show o + (n + i) * 9 + j = o + n * 9 + i * 9 + j by omega] at this, fun x hx => h.ok x (List.mem_of_mem_drop hx)⟩
theorem Secs.take (h : Secs w B a L) (n : Nat) : Secs w B a (L.take n) := by
  refine ⟨fun hl => ?_, fun x hx => h.ok x (List.mem_of_mem_take hx)⟩
  obtain ⟨b, o, e, hlt, hc⟩ := h.row (by simp at hl; omega)
  refine ⟨b, o, e, hlt, fun i x hx j v hv => hc i x ?_ j v hv⟩
  rw [List.getElem?_take] at hx
  by_cases hin : i < n
  · rwa [if_pos hin] at hx
  · rw [if_neg hin] at hx
    cases hx
end

/-- Where a section of some name stands, from 1 on. -/
def findS (l : List Sect) (t : List UInt8) : Int := match (l.drop 1).findIdx? (fun s => decide (s.name = t)) with
  | some k => ((k + 1 : Nat) : Int)
  | none => -1

theorem findS_none {l : List Sect} {t : List UInt8} (hb : ∀ (j : Nat) (x : Sect), 0 < j → l[j]? = some x → x.name ≠ t) : findS l t = -1 := by
  have : (l.drop 1).findIdx? (fun s => decide (s.name = t)) = none := by
    rw [List.findIdx?_eq_none_iff]
    intro x hx
    obtain ⟨j, hj, e⟩ := List.getElem_of_mem hx
    have hx' : (l.drop 1)[j]? = some x := by rw [← e]; exact List.getElem?_eq_getElem hj
    have := hb (j + 1) x (by omega) (by rw [List.getElem?_drop, Nat.add_comm] at hx'; exact hx')
    simpa using this
  unfold findS
  rw [this]

/-- The sections of what lies. -/
abbrev secsOf (L : List Lay) : List Sect := L.map (·.s)
theorem secsOf_get {L : List Lay} {i : Nat} {s : Sect} (h : (secsOf L)[i]? = some s) : ∃ x, L[i]? = some x ∧ x.s = s := by
  simp only [secsOf, List.getElem?_map] at h
  rcases hx : L[i]? with _ | x
  · rw [hx] at h; cases h
  · rw [hx] at h; exact ⟨x, rfl, by simpa using h⟩
/-- No section from 1 on and ahead of a place has the name. -/
def NoneYet (L : List Lay) (t : List UInt8) (k : Nat) : Prop := ∀ (j : Nat) (x : Lay), j < k → 0 < j → L[j]? = some x → x.s.name ≠ t
theorem NoneYet.next {L : List Lay} {t : List UInt8} {k : Nat} {x : Lay} (h : NoneYet L t k) (hk : L[k]? = some x) (hx : 0 < k → x.s.name ≠ t) : NoneYet L t (k + 1) := fun j y hj h0 hy => by
  rcases Nat.lt_or_ge j k with h1 | h1
  · exact h j y h1 h0 hy
  · have : j = k := by omega
    subst this
    rw [hk] at hy
    injection hy with hy
    exact hy ▸ hx h0
theorem NoneYet.none_ {L : List Lay} {t : List UInt8} (h : NoneYet L t L.length) : findS (secsOf L) t = -1 :=
  findS_none (fun j s hj0 hs => by
    obtain ⟨y, hy, rfl⟩ := secsOf_get hs
    exact h j y (List.getElem?_eq_some_iff.1 hy).1 hj0 hy)

end Go.Proofs.YtejicboemkpeoaaDoor
