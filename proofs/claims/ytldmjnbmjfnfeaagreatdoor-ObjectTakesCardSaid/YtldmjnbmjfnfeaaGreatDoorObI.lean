/-
  The document's object: what goes along in its Take.
-/
import Derived.Test.YtldmjnbmjfnfeaaGreatDoorObX
import Derived.Test.YtldmjnbmjfnfeaaGreatDoorSyP
import Derived.Test.YtldmjnbmjfnfeaaGreatDoorSeBd
namespace Go.Proofs.YtldmjnbmjfnfeaaGreatDoor
open Go Go.RowKit

/-! ### Sections that lie apart from a struct without texts and bytes -/
def Plain5 (cs : List Value) : Prop := ∀ v ∈ cs, (∀ s, v ≠ .string s) ∧ ∀ z, v ≠ .int .u8 z
theorem cell_not {w : World} {H o : Nat} {T : TypeId} {cs : Array Value} (hX : Box w H T cs) (hp : Plain5 cs.toList) {v : Value} (h : w.cell? ⟨H, o, none⟩ = some v) : (∀ s, v ≠ .string s) ∧ ∀ z, v ≠ .int .u8 z := by
  rw [hX.cell] at h
  refine hp v ?_
  obtain ⟨hi, e⟩ := Array.getElem?_eq_some_iff.1 h
  rw [← e]
  exact Array.mem_toList_iff.2 (Array.getElem_mem hi)
theorem secs_off {w w' : World} {B H : Nat} {T : TypeId} {cs : Array Value} {a : Option Addr} {L : List Lay} (h : Secs w B a L) (hX : Box w H T cs) (hp : Plain5 cs.toList) (hg : w.grownBy w' (some H)) : Secs w' B a L := by
  refine ⟨fun hl => ?_, fun x hx => ?_⟩
  · obtain ⟨b, o, e, hlt, hc⟩ := h.row hl
    have hne : b ≠ H := fun e => by
      have h0 := hc 0 _ (List.getElem?_eq_getElem hl) 0 _ rfl
      subst e
      exact (cell_not hX hp h0).1 _ rfl
    exact ⟨b, o, e, hlt, fun i x hx j v hv => hg.cell (hc i x hx j v hv) (fun e => hne (Option.some.inj e))⟩
  · have h1 := h.ok x hx
    refine ⟨fun hl => ?_, h1.le, h1.cap, h1.fits⟩
    obtain ⟨b, o, e, hlt, hc⟩ := h1.rd hl
    have hne : b ≠ H := fun e => by
      have h0 := hc 0 _ (List.getElem?_eq_getElem hl)
      subst e
      exact (cell_not hX hp h0).2 _ rfl
    exact ⟨b, o, e, hlt, fun j u hu => hg.cell (hc j u hu) (fun e => hne (Option.some.inj e))⟩

theorem fit_any_sym {d : List UInt8} {n : Nat} (h : takeEY d.length (okR d) 24 = 0) : fitR (relsL d) n = !((relsL d).any fun r => decide ((n : Int) ≤ r.sym)) := by
  unfold fitR
  congr 1
  rw [Bool.eq_iff_iff, List.any_eq_true, List.any_eq_true]
  constructor
  · rintro ⟨x, hx, hb⟩
    have := okR_bounds d x hx h
    refine ⟨x, hx, ?_⟩
    unfold badF at hb
    simp only [Bool.or_eq_true, decide_eq_true_eq] at hb ⊢
    omega
  · rintro ⟨x, hx, hb⟩
    refine ⟨x, hx, ?_⟩
    unfold badF
    simp only [Bool.or_eq_true, decide_eq_true_eq] at hb ⊢
    exact .inr (.inl hb)

/-- The document's object on its way: its block, its rows. -/
structure DocO (w1 wx : World) (G gr N : Nat) (kt mt : Int) (A : Option Addr) (c : Nat) (y : Value) (Q : List RLay) : Prop where
  box : Box wx G 32 #[.int .i64 kt, .int .i64 mt, .slice A N c, y, .slice (some ⟨gr, 0, none⟩) N N]
  rel : RowQ wx w1.heap.size gr N Q
  own : ∀ q ∈ Q, OwnR wx w1.heap.size q.val q.l
  below : Below w1.heap.size w1 wx
  ge : w1.heap.size ≤ G
theorem DocO.later {w1 wx w' : World} {G gr N : Nat} {kt mt : Int} {A : Option Addr} {c : Nat} {y : Value} {Q : List RLay} (h : DocO w1 wx G gr N kt mt A c y Q) (hb : Below wx.heap.size wx w') : DocO w1 w' G gr N kt mt A c y Q :=
  ⟨h.box.below hb h.box.lt, row_below h.rel hb, fun q hq => row_below (h.own q hq) hb, h.below.trans (hb.mono h.below.size), h.ge⟩

/-- What putting relocations at a place turns. -/
def RelObj : Obj → Prop
  | .cells _ t _ => t = 4 ∨ t = 49
  | _ => False
theorem RelAt.turns {w wr : World} {gm gr N : Nat} {h : List Bool} {Q : List RLay} (H : RelAt w wr gm gr N h Q) (v : Value) (i : Nat) : Only w.heap.size RelObj wr ((wr.setCell ⟨gm, i, none⟩ (.bool true)).setCell ⟨gr, i, none⟩ v) := by
  have hB := H.below.size
  obtain ⟨s1, s2⟩ := World.ownsRow.stored H.met i (.bool true)
  have o1 : Only w.heap.size (CellsOf 4) wr _ := row_turns H.met s2 hB
  have r1 := row_only H.rel o1 (fun cs f hh => absurd (show 49 = 4 from hh) (by decide))
  obtain ⟨t1, t2⟩ := World.ownsRow.stored r1 i v
  have hB1 := Nat.le_trans hB o1.1.size
  have o2 : Only w.heap.size (CellsOf 49) _ _ := row_turns r1 t2 hB1
  exact (Only.wide o1 (fun o ho => by cases o <;> first | exact .inl ho | exact ho)).trans (Only.wide o2 (fun o ho => by cases o <;> first | exact .inr ho | exact ho))
/-- The document's object, its symbols and its relocations, section by section. -/
structure DocR (w2 wx : World) (G gm gr N : Nat) (kt mt : Int) (A : Option Addr) (c : Nat) (yA : Option Addr) (yc : Nat) (Y : List Sym) (h : List Bool) (Q : List RLay) : Prop where
  rel : RelAt w2 wx gm gr N h Q
  box : Box wx G 32 #[.int .i64 kt, .int .i64 mt, .slice A N c, .slice yA Y.length yc, .slice (some ⟨gr, 0, none⟩) N N]
  syms : OwnY wx w2.heap.size (.slice yA Y.length yc) Y
section
variable {w2 wx w' : World} {G gm gr N : Nat} {kt mt : Int} {A : Option Addr} {c : Nat} {yA : Option Addr} {yc : Nat} {Y : List Sym} {h : List Bool} {Q : List RLay}
theorem DocR.later (H : DocR w2 wx G gm gr N kt mt A c yA yc Y h Q) (hb : Below wx.heap.size wx w') : DocR w2 w' G gm gr N kt mt A c yA yc Y h Q :=
  ⟨H.rel.later hb, H.box.below hb H.box.lt, row_below H.syms hb⟩
theorem DocR.put (H : DocR w2 wx G gm gr N kt mt A c yA yc Y h Q) {q : RLay} (hq : OwnR wx w2.heap.size q.val q.l) (i : Nat) : DocR w2 ((wx.setCell ⟨gm, i, none⟩ (.bool true)).setCell ⟨gr, i, none⟩ q.val) G gm gr N kt mt A c yA yc Y (h.set i true) (Q.set i q) :=
  ⟨H.rel.put hq i, (H.rel.turns q.val i).2 _ _ H.box (fun hh => by revert hh; show ¬ (_ ∨ _); decide), row_only H.syms (H.rel.turns q.val i) (fun cs f hh => by revert hh; show ¬ (_ ∨ _); decide)⟩
theorem DocR.apart (H : DocR w2 wx G gm gr N kt mt A c yA yc Y h Q) : G ≠ gm ∧ G ≠ gr := by
  obtain ⟨_, _, cs, h1⟩ := row_block H.rel.met
  obtain ⟨_, _, cs', h2⟩ := row_block H.rel.rel
  exact ⟨Box.other H.box h1 (by decide), Box.other H.box h2 (by decide)⟩
end

end Go.Proofs.YtldmjnbmjfnfeaaGreatDoor
