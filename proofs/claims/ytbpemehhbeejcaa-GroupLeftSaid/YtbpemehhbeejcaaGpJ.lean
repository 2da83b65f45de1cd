/-
  The document's groups of an object: how things stand while a group's members are read.
-/
import Derived.Test.YtbpemehhbeejcaaGpI
import Derived.Test.YtbpemehhbeejcaaRefR
namespace Go.Proofs.Ytbpemehhbeejcaa
open Go Go.RowKit

/-- How things stand behind k members: since ws nothing turned but the block mb, and new ones. -/
structure RReadSt (B : Nat) (ws w : World) (g gc base mb n i : Nat) (sb : ByteArray) (one : Bool) (vc v : Value) (d : List UInt8) (M b : List Bool) (k : Nat) : Prop where
  met : metG n i d M k = some b
  box : Box w g 29 #[.int .i64 (i : Int), .bool one, .string sb, v]
  mem : OwnM w ws.heap.size v (memsG d k)
  row : Met w base mb n b
  cur : RR B w gc vc d (4 * (k + 1)) 0
  but : But (fun k => k = mb) ws w
section
variable {B : Nat} {ws w w' : World} {g gc base mb n i : Nat} {sb : ByteArray} {one : Bool} {vc v : Value} {d : List UInt8} {M b : List Bool} {k : Nat}
theorem RReadSt.drewN (h : RReadSt B ws w g gc base mb n i sb one vc v d M b k) (q : Nat) : RReadSt B ws (w.drewN q) g gc base mb n i sb one vc v d M b k :=
  ⟨h.met, h.box, h.mem, h.row, h.cur, h.but.grown (only_drewN (only_refl w none) q) (by simp)⟩
/-- A number more is read. -/
theorem RReadSt.read (h : RReadSt B ws w g gc base mb n i sb one vc v d M b k) (hgc : ws.heap.size ≤ gc) (hG : w.grownBy w' (some gc)) :
    metG n i d M k = some b ∧ Box w' g 29 #[.int .i64 (i : Int), .bool one, .string sb, v] ∧ OwnM w' ws.heap.size v (memsG d k) ∧ Met w' base mb n b ∧ But (fun k => k = mb) ws w' := by
  obtain ⟨cs, f, hb⟩ := h.row.box
  exact ⟨h.met, h.box.grown hG (fun e => by injection e with e; exact absurd e (Box.other h.box h.cur.1 (by decide))), World.ownsRow.kept (w := w) h.mem hG (.inr (fun e => row_other h.mem h.cur.1 (by decide) _ e rfl)), h.row.grown hG (fun e => by
    injection e with e
    have := h.cur.1
    unfold Box at this
    rw [← e, hb] at this
    injection this with this
    injection this with _ ht
    exact absurd ht (by decide)), h.but.grown hG (fun x hx => by injection hx with hx; right; omega)⟩
/-- A member is marked as met. -/
theorem rread_mark (hX : Box w g 29 #[.int .i64 (i : Int), .bool one, .string sb, v]) (hM : OwnM w ws.heap.size v (memsG d k)) (hR : Met w base mb n b) (hB : But (fun k => k = mb) ws w) {a : Nat} (hC : RR B w gc vc d a 0) (m : Nat) (hgm : g ≠ mb) (hcm : gc ≠ mb) (hBm : B ≤ mb) :
    Box (w.setCell ⟨mb, m, none⟩ (.bool true)) g 29 #[.int .i64 (i : Int), .bool one, .string sb, v] ∧ OwnM (w.setCell ⟨mb, m, none⟩ (.bool true)) ws.heap.size v (memsG d k) ∧ Met (w.setCell ⟨mb, m, none⟩ (.bool true)) base mb n (b.set m true) ∧ RR B (w.setCell ⟨mb, m, none⟩ (.bool true)) gc vc d a 0 ∧ But (fun k => k = mb) ws (w.setCell ⟨mb, m, none⟩ (.bool true)) := by
  have G : w.grownBy (w.setCell ⟨mb, m, none⟩ (.bool true)) (some mb) := only_set (only_refl w (some mb)) m (.bool true)
  obtain ⟨cs, f, hb⟩ := hR.box
  exact ⟨hX.grown G (by simpa using hgm), World.ownsRow.kept (w := w) hM G (.inr (fun e => row_other hM hb (by decide) _ e rfl)), hR.store m true, hC.grown G (by simpa using hcm) (fun x hx => by injection hx with hx; omega), hB.grown G (fun x hx => by injection hx with hx; left; exact hx.symm)⟩
/-- A member more. -/
theorem rread_more {m : Nat} {w4 w5 : World} {Av : Option Addr} {cv g5 cap5 : Nat} (hmt : metG n i d M (k + 1) = some (b.set m true)) (hms : memsG d (k + 1) = memsG d k ++ [m])
    (hX : Box w4 g 29 #[.int .i64 (i : Int), .bool one, .string sb, .slice Av k cv]) (hM : OwnM w4 ws.heap.size (.slice Av k cv) (memsG d k)) (hR : Met w4 base mb n (b.set m true)) (hB : But (fun k => k = mb) ws w4) (hC : RR B w4 gc vc d (4 * (k + 1 + 1)) 0)
    (hg : ws.heap.size ≤ g) (hgm : g ≠ mb) (hBs : B ≤ ws.heap.size)
    (hown5 : w5.ownsRow ws.heap.size 3 1 (.slice (some ⟨g5, 0, none⟩) (k + 1) cap5) (k + 1) (cellsF memC (memsG d k) ++ memC m)) (hg5 : (w4.alloc (.cells #[.int .i64 (m : Int)] 3)).grownBy w5 (Value.slice Av k cv).ownBlock) :
    w5.cell? ⟨g, 3, none⟩ = some (.slice Av k cv) ∧ w5.frozen? ⟨g, 3, none⟩ = false ∧ RReadSt B ws (w5.setCell ⟨g, 3, none⟩ (.slice (some ⟨g5, 0, none⟩) (k + 1) cap5)) g gc base mb n i sb one vc (.slice (some ⟨g5, 0, none⟩) (k + 1) cap5) d M (b.set m true) (k + 1) := by
  have G4 : Below w4.heap.size w4 (w4.alloc (.cells #[.int .i64 (m : Int)] 3)) := (Below.refl _ _).alloc (Nat.le_refl _) _
  have hne : ∀ x, (Value.slice Av k cv).ownBlock = some x → x ≠ g ∧ x ≠ mb ∧ x ≠ gc ∧ ws.heap.size ≤ x := fun x hx => by
    obtain ⟨cs, f, hb⟩ := hR.box
    exact ⟨row_other hM hX (by decide) x hx, row_other hM hb (by decide) x hx, row_other hM hC.1 (by decide) x hx, (World.ownsRow.lt hM x hx).1⟩
  have hX5 : Box w5 g 29 #[.int .i64 (i : Int), .bool one, .string sb, .slice Av k cv] := (hX.below G4 hX.lt).grown hg5 (fun e => (hne g e.symm).1 rfl)
  have hM5 : Met w5 base mb n (b.set m true) := (hR.below G4).grown hg5 (fun e => (hne mb e.symm).2.1 rfl)
  have hC5 : RR B w5 gc vc d (4 * (k + 1 + 1)) 0 := (hC.below G4).grown hg5 (fun e => (hne gc e.symm).2.2.1 rfl) (fun x hx => Nat.le_trans hBs (hne x hx).2.2.2)
  have hB5 : But (fun k => k = mb) ws w5 := (hB.then_ G4).grown hg5 (fun x hx => .inr (hne x hx).2.2.2)
  have hs : w5.grownBy (w5.setCell ⟨g, 3, none⟩ (.slice (some ⟨g5, 0, none⟩) (k + 1) cap5)) (some g) := only_set (only_refl w5 (some g)) 3 _
  refine ⟨hX5.cell 3, hX5.free 3, hmt, by simpa using hX5.set 3 (.slice (some ⟨g5, 0, none⟩) (k + 1) cap5), ?_, hM5.grown hs (by simpa using fun e : mb = g => hgm e.symm), hC5.grown hs (fun e => by injection e with e; exact absurd e (Box.other hC5.1 hX5 (by decide))) (fun x hx => by injection hx with hx; omega), hB5.grown hs (fun x hx => by injection hx with hx; right; omega)⟩
  rw [OwnM, hms, cellsF_append, cellsF_one, List.length_append, memsG_length]
  exact World.ownsRow.kept (w := w5) hown5 hs (.inr (fun e => row_other hown5 hX5 (by decide) _ e rfl))
end
theorem rgroup_info : (Try.prog.info? 29).map (fun i => (i.zero, i.size, i.bytes)) = some (some (.agg #[.int .i64 0, .bool false, .string ⟨#[]⟩, .slice none 0 0]), 4, 56) := by kernel_rfl
/-- A group's bytes were read, since ws. -/
theorem TakeG.rread {T : TypeId} {w1 w w' : World} {base mb N : Nat} {v : Value} {L : List GLay} {l : List Grp} {met met' : List Bool} (h : TakeG T w1 w base mb N v L l met) (hB : base ≤ w.heap.size) (hT : T ≠ 4) (hM : Met w' base mb N met') (hb : But (fun k => k = mb) w w') : TakeG T w1 w' base mb N v L l met' := by
  obtain ⟨cs, f, hh⟩ := h.met_.box
  have hlt := h.met_.lt
  refine ⟨h.list, h.rows.but hb (fun k hk => ?_) (fun x hx k hk => ?_), hM, h.below.trans (hb.below hB (fun k hk => by omega))⟩
  · exact row_other h.rows.row hh hT k hk
  · exact row_other (h.rows.mem x hx) hh (by decide) k hk

end Go.Proofs.Ytbpemehhbeejcaa
