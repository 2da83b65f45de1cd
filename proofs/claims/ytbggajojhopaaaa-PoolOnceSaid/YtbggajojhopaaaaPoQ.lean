/-
  The walk of PoolOnce: whether no text stands twice in a table, or why that is not told, is as the document has it.
-/
import Derived.Test.YtbggajojhopaaaaPoP
import Derived.Test.YtbggajojhopaaaaPoW
import Derived.Test.YtbggajojhopaaaaLawC
namespace Go.Proofs.Ytbggajojhopaaaa
open Go Go.RowKit

set_option maxRecDepth 10000 in
set_option maxHeartbeats 4000000 in
theorem ponce_walk (a0 : Option Addr) (len0 cap0 : Nat) (z0 : List Int) (w : World) (w0 : IsRow .u8 w a0 len0 cap0 z0) :
    Calls Try.prog 13 #[.slice a0 len0 cap0] w fun e w' => e = .returned (.bool true) ∧ Below w.heap.size w w' := by
  obtain ⟨l, hlen, hrd, hlc, hcm⟩ := row_bytes w0
  clear w0
  have hW := fun W => works4_any W
  by_cases hbig : 2000 < len0
  · have hd : decide ((2000 : Int) < (len0 : Int)) = true := by simp; omega
    go_enter Try.func13, Try.ntmps13
    go_wp2_with (go_at_call 53; refine (hW _).mono ?_; rintro r w1 ⟨rfl, hb1⟩)
    go_ret
    exact ⟨rfl, hb1⟩
  · have hd : decide ((2000 : Int) < (len0 : Int)) = false := by simp; omega
    subst hlen
    have hO := once_any hrd (Nat.le_refl _) cap0 (by omega)
    have hR := Lib.hid (fun (W : World) (hb : Below w.heap.size w W) => ronce_any ((hrd.below hb).more hb.size) cap0 hlc hcm (by omega))
    clear hrd hlc hcm hbig
    have hq : ∀ b : Bool, (b == b) = true := fun b => by cases b <;> rfl
    generalize onceT l = b at *
    generalize (allT l).2 = e at *
    generalize l.length = n at *
    go_enter Try.func13, Try.ntmps13
    go_wp2_with (first
      | (go_at_call 61; refine hO.mono ?_; rintro r w1 ⟨rfl, hb1⟩; have hR1 := hR.out _ hb1; have HB1 := Lib.hid hb1; clear hb1 hO hR)
      | (go_at_call 62; refine hR1.mono ?_; rintro r w2 ⟨rfl, hb2⟩; have HB2 := Lib.hid (HB1.out.trans (hb2.mono HB1.out.size)); clear hb2 hR1)
      | (go_at_call 53; refine (hW _).mono ?_; rintro r w3 ⟨rfl, hb3⟩; have HB3 := Lib.hid (HB2.out.trans (hb3.mono HB2.out.size)); clear hb3))
    go_ret
    exact ⟨rfl, HB3.out⟩

end Go.Proofs.Ytbggajojhopaaaa
