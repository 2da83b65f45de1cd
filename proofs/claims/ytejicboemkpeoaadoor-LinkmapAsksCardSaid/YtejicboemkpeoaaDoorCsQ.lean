/-
  The document's own Right and Put of layer 3.
-/
import Derived.Test.YtejicboemkpeoaaDoorPoM
import Derived.Test.YtejicboemkpeoaaDoorPoC
import Derived.Test.YtejicboemkpeoaaDoorCsL
import Derived.Test.YtejicboemkpeoaaDoorPut
import Derived.WalkMore
namespace Go.Proofs.YtejicboemkpeoaaDoor
open Go Go.RowKit Go.Maps

/-- Nothing below 'base' has turned, and no block but of the kinds told. -/
def Only (base : Nat) (bad : Obj → Prop) (w w' : World) : Prop := Below base w w' ∧ ∀ (k : Nat) (o : Obj), w.heap[k]? = some o → ¬ bad o → w'.heap[k]? = some o

theorem Only.refl (base : Nat) (bad : Obj → Prop) (w : World) : Only base bad w w := ⟨Below.refl _ _, fun _ _ h _ => h⟩
theorem Only.trans {base : Nat} {bad : Obj → Prop} {a b c : World} (h : Only base bad a b) (k : Only base bad b c) : Only base bad a c := ⟨h.1.trans k.1, fun j o hj hb => k.2 j o (h.2 j o hj hb) hb⟩
theorem Only.below {base : Nat} {bad : Obj → Prop} {a b : World} (h : Below a.heap.size a b) (hb : base ≤ a.heap.size) : Only base bad a b :=
  ⟨h.mono hb, fun j _ hj _ => (h.block j (Array.getElem?_eq_some_iff.1 hj).1).trans hj⟩
theorem Only.then_ {base : Nat} {bad : Obj → Prop} {a b c : World} (h : Only base bad a b) (k : Below b.heap.size b c) (hb : base ≤ a.heap.size) : Only base bad a c := h.trans (Only.below k (Nat.le_trans hb h.1.size))
theorem Only.row {base g : Nat} {bad : Obj → Prop} {a b : World} {o : Obj} (h : a.grownBy b (some g)) (hg : a.heap[g]? = some o) (ho : bad o) (hb : base ≤ g) : Only base bad a b := by
  refine ⟨below_of_only h (by have := (Array.getElem?_eq_some_iff.1 hg).1; omega) (fun k hk => by injection hk with hk; omega), fun j p hj hp => ?_⟩
  by_cases e : j = g
  · subst e
    rw [hg] at hj
    injection hj with hj
    subst hj
    exact absurd ho hp
  · exact (h.block j (Array.getElem?_eq_some_iff.1 hj).1 (by simpa using e)).trans hj
theorem Only.drewN {base : Nat} {bad : Obj → Prop} {a b : World} (h : Only base bad a b) (n : Nat) : Only base bad a (b.drewN n) := ⟨below_drewN h.1 n, h.2⟩

section
variable {w w' : World} {base g mb : Nat} {v : Value} {ls : List (List UInt8)}

end

theorem string_law : Keyed Tryd.prog 9 := string_keyed Tryd.underlying9
theorem zero_u64 (w : World) : (zeroValue 41).run Tryd.prog w = .ok (.int .u64 0) w := by kernel_rfl
theorem map_nil (w : World) (m : Option Nat) : (binOp .neq 75 (.map m) (.map none)).run Tryd.prog w = .ok (.bool (!m.isNone)) w := run_neq_map_nil w _ _ _ m Tryd.underlying75
theorem key_text (t : List UInt8) (h : t.length ≤ maxLen) : keyOf Tryd.prog 9 (.string ⟨t.toArray⟩) = some (keyT t) := Go.WideMaps.keyOf_string_mk Tryd.underlying9 h

end Go.Proofs.YtejicboemkpeoaaDoor

namespace Go.Proofs.YtejicboemkpeoaaDoor
open Go Go.RowKit

/-- What At tells. -/
def atT (l : List UInt8) (off : Nat) : List UInt8 × Int := if off < l.length then ((readT (l.drop off)).1, (readT (l.drop off)).2.2) else ([], 10)

end Go.Proofs.YtejicboemkpeoaaDoor

namespace Go.Proofs.YtejicboemkpeoaaDoor
open Go Go.RowKit

theorem right_any (s : List UInt8) (w : World) (hs : s.length ≤ 140737488355328) :
    Calls Tryd.prog 51 #[.string ⟨s.toArray⟩] w fun r w' => r = .returned (.bool (rightT s)) ∧ w = w' := by
  have hI := fun W => index_str s W
  have hsz : (ByteArray.mk s.toArray).size = s.length := rfl
  by_cases h1 : s.length ≤ 200
  · have hd : decide ((s.length : Int) ≤ 200) = true := by simp; omega
    by_cases h2 : tlen s = s.length
    · have hz : zeroAt s = -1 := if_neg (by omega)
      have HR := Lib.hid (show rightT s = true by unfold rightT; simp [h1, h2])
      rw [hz] at hI
      clear hz h1 h2 hs
      generalize ByteArray.mk s.toArray = b at *
      generalize s.length = n at *
      subst hsz
      go_enter Tryd.func51, Tryd.ntmps51
      go_wp2_with (go_at_call 62; refine (hI _).mono ?_; rintro r w' ⟨rfl, rfl⟩)
      go_ret
      exact ⟨by rw [HR.out]; rfl, rfl⟩
    · have hle := tlen_le s
      have hz : zeroAt s = (tlen s : Int) := if_pos (by omega)
      have HR := Lib.hid (show rightT s = false by unfold rightT; simp [h1, h2])
      have hn : decide ((tlen s : Int) < 0) = false := by simp
      rw [hz] at hI
      clear hz h1 h2 hs hle
      generalize tlen s = k at *
      generalize ByteArray.mk s.toArray = b at *
      generalize s.length = n at *
      subst hsz
      go_enter Tryd.func51, Tryd.ntmps51
      go_wp2_with (go_at_call 62; refine (hI _).mono ?_; rintro r w' ⟨rfl, rfl⟩)
      go_ret
      exact ⟨by rw [HR.out]; rfl, rfl⟩
  · have hd : decide ((s.length : Int) ≤ 200) = false := by simp; omega
    have HR := Lib.hid (show rightT s = false by unfold rightT; simp [h1])
    clear h1 hI hs
    generalize ByteArray.mk s.toArray = b at *
    generalize s.length = n at *
    subst hsz
    go_enter Tryd.func51, Tryd.ntmps51
    go_wp2_with fail
    go_ret
    exact ⟨by rw [HR.out]; rfl, rfl⟩

end Go.Proofs.YtejicboemkpeoaaDoor

namespace Go.Proofs.YtejicboemkpeoaaDoor
open Go Go.RowKit

theorem byte_zero (b : UInt8) : ((b.toNat : Int) == 0) = decide (b = 0) := by
  by_cases h : b = 0
  · subst h; rfl
  · have : b.toNat ≠ 0 := fun e => h (UInt8.toNat_inj.1 (by simpa using e))
    simp [h, this]

theorem up_next {s : List UInt8} {k : Nat} (hup : ∀ j (hj : j < s.length), j < k → s[j] ≠ 0) (h : k < s.length) (hb : s[k] ≠ 0) : ∀ j (hj : j < s.length), j < k + 1 → s[j] ≠ 0 := fun j hj hjk => by
  rcases Nat.lt_or_ge j k with h1 | h1
  · exact hup j hj h1
  · have e : j = k := by omega
    subst e
    exact hb

set_option maxHeartbeats 800000 in
theorem rright_any (s : List UInt8) (w : World) (hs : s.length ≤ 140737488355328) :
    Calls Tryd.prog 31 #[.string ⟨s.toArray⟩] w fun r w' => r = .returned (.bool (rightT s)) ∧ w = w' := by
  have hsz : (ByteArray.mk s.toArray).size = s.length := rfl
  go_enter Tryd.func31, Tryd.ntmps31
  go_wp2_with fail
  go_loop [3] (fun i => ∃ k : Nat, i = .int .i64 k ∧ k ≤ s.length ∧ (∀ j (hj : j < s.length), j < k → s[j] ≠ 0)) (fun i => s.length - (intOf i).toNat)
  case atStart => exact ⟨0, rfl, Nat.zero_le _, fun j hj h0 => by omega⟩
  case round =>
    obtain ⟨k, rfl, hk, hup⟩ := hrel
    by_cases hlt : k < s.length
    · have hg := byte_zero ((ByteArray.mk s.toArray)[k]'hlt)
      by_cases hb : s[k] = 0
      · have hb2 : (ByteArray.mk s.toArray)[k]'hlt = 0 := hb
        rw [hb2] at hg
        have hb0 : ((((ByteArray.mk s.toArray)[k]'hlt).toNat : Int) == 0) = true := by rw [hb2]; rfl
        have ht : tlen s = k := tlen_eq s k hlt hup hb
        have HR := Lib.hid (show rightT s = false by unfold rightT; rw [ht]; simp; omega)
        clear hup ht hg hb hb2
        go_wp2_with fail
        go_ret
        exact ⟨by rw [HR.out]; rfl, rfl⟩
      · have hb0 : ((((ByteArray.mk s.toArray)[k]'hlt).toNat : Int) == 0) = false := by rw [hg]; exact decide_eq_false hb
        have HUP := Lib.hid (up_next hup hlt hb)
        clear hup hg hb
        go_wp2_with fail
        exact ⟨⟨k + 1, by go_num, by omega, HUP.out⟩, by simp [intOf]; omega⟩
    · have ht : tlen s = s.length := tlen_all s fun j hj => hup j hj (by omega)
      have HR := Lib.hid (show rightT s = decide ((s.length : Int) ≤ 200) by
        unfold rightT; rw [ht]; by_cases h : s.length ≤ 200
        · simp [h]; omega
        · simp [h]; omega)
      clear hup ht
      go_wp2_with fail
      go_ret
      exact ⟨by rw [HR.out]; rfl, rfl⟩

end Go.Proofs.YtejicboemkpeoaaDoor
