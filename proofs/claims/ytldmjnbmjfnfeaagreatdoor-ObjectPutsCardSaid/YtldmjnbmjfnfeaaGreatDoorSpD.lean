/-
  SectsPuts.
-/
import Derived.Test.YtldmjnbmjfnfeaaGreatDoorSeBd
import Derived.Test.YtldmjnbmjfnfeaaGreatDoorSeY
import Derived.Test.YtldmjnbmjfnfeaaGreatDoorSpA
import Derived.Test.YtldmjnbmjfnfeaaGreatDoorSpC
namespace Go.Proofs.YtldmjnbmjfnfeaaGreatDoor
open Go Go.RowKit

theorem SecsIn.below {w w' : World} {B : Nat} {a : Option Addr} {L : List Lay} (h : SecsIn w B a L) (hb : Below B w w') : SecsIn w' B a L :=
  ⟨fun hl => by
    obtain ⟨b, o, e, hlt, hc⟩ := h.row hl
    exact ⟨b, o, e, hlt, fun i x hx j v hv => by rw [hb.cell (p := ⟨b, o + i * 9 + j, none⟩) hlt]; exact hc i x hx j v hv⟩, fun x hx => by
    obtain ⟨h1, h2⟩ := h.rd x hx
    exact ⟨h1.below hb, h2⟩⟩
end Go.Proofs.YtldmjnbmjfnfeaaGreatDoor

namespace Go.Proofs.YtldmjnbmjfnfeaaGreatDoor
open Go Go.RowKit

theorem rsput_any (kind machine : Int) {w : World} {a : Option Addr} {L : List Lay} (h : Secs w w.heap.size a L) (c : Nat) (hlc : L.length ≤ c) (hl : L.length ≤ 100000) :
    Calls Tryz.prog 36 #[.int .i64 kind, .int .i64 machine, .slice a L.length c] w fun r w' => ∃ v, r = .returned (.tuple #[v, .int .i64 (putE kind machine (secsOf L))]) ∧ Own w' w.heap.size v (putR kind machine (secsOf L)) ∧ Below w.heap.size w w' := by
  cases hmay : mayPut kind machine (secsOf L) with
  | false =>
    refine (rsput_no kind machine h c hlc hl hmay).mono fun r w' hh => ⟨.slice none 0 0, ?_, ?_, hh.2⟩
    · rw [hh.1]; simp [putE, hmay]
    · have : putR kind machine (secsOf L) = [] := by simp [putR, hmay]
      rw [this]
      exact World.ownsRow_nil _ _ _ _
  | true =>
    refine (rsput_yes kind machine h c hlc hl hmay).mono fun r w' hh => ?_
    obtain ⟨v, h1, h2, h3⟩ := hh
    refine ⟨v, ?_, ?_, h3⟩
    · rw [h1]; simp [putE, hmay]
    · have : putR kind machine (secsOf L) = fileB kind machine (secsOf L) := by simp [putR, hmay]
      rw [this]
      exact h2

end Go.Proofs.YtldmjnbmjfnfeaaGreatDoor
