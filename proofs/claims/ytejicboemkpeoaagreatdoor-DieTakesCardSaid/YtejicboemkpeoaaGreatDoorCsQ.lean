/-
  The document's own Right and Put of layer 3.
-/
import Derived.Test.YtejicboemkpeoaaGreatDoorPoM
import Derived.Test.YtejicboemkpeoaaGreatDoorCsJ
import Derived.Lib.BufferWrite
import Derived.Lib.UnsafeStr
import Derived.Laws.MakeOwn
import Derived.Test.YtejicboemkpeoaaGreatDoorCsL
namespace Go.Proofs.YtejicboemkpeoaaGreatDoor
open Go Go.RowKit Go.Maps

/-- Nothing below 'base' has turned, and no block but of the kinds told. -/
def Only (base : Nat) (bad : Obj → Prop) (w w' : World) : Prop := Below base w w' ∧ ∀ (k : Nat) (o : Obj), w.heap[k]? = some o → ¬ bad o → w'.heap[k]? = some o

theorem Only.refl (base : Nat) (bad : Obj → Prop) (w : World) : Only base bad w w := ⟨Below.refl _ _, fun _ _ h _ => h⟩
theorem Only.trans {base : Nat} {bad : Obj → Prop} {a b c : World} (h : Only base bad a b) (k : Only base bad b c) : Only base bad a c := ⟨h.1.trans k.1, fun j o hj hb => k.2 j o (h.2 j o hj hb) hb⟩
theorem Only.below {base : Nat} {bad : Obj → Prop} {a b : World} (h : Below a.heap.size a b) (hb : base ≤ a.heap.size) : Only base bad a b :=
  ⟨h.mono hb, fun j _ hj _ => (h.block j (Array.getElem?_eq_some_iff.1 hj).1).trans hj⟩
theorem Only.then_ {base : Nat} {bad : Obj → Prop} {a b c : World} (h : Only base bad a b) (k : Below b.heap.size b c) (hb : base ≤ a.heap.size) : Only base bad a c := h.trans (Only.below k (Nat.le_trans hb h.1.size))
theorem Only.row {base g : Nat} {bad : Obj → Prop} {a b : World} {o : Obj} (h : a.grownBy b (some g)) (hg : a.heap[g]? = some o) (ho : bad o) (hb : base ≤ g) : Only base bad a b := by
  refine ⟨below_of_only h (by have := (Array.getElem?_eq_some_iff.1 hg).1; omega) (fun k hk => by injection hk with hk; omega), fun j p hj hp => ?_⟩
  by_cases e : j = g
  · subst e
    rw [hg] at hj
    injection hj with hj
    subst hj
    exact absurd ho hp
  · exact (h.block j (Array.getElem?_eq_some_iff.1 hj).1 (by simpa using e)).trans hj
theorem Only.drewN {base : Nat} {bad : Obj → Prop} {a b : World} (h : Only base bad a b) (n : Nat) : Only base bad a (b.drewN n) := ⟨below_drewN h.1 n, h.2⟩

section
variable {w w' : World} {base g mb : Nat} {v : Value} {ls : List (List UInt8)}

end

theorem string_law : Keyed Tryz.prog 9 := string_keyed Tryz.underlying9
theorem zero_u64 (w : World) : (zeroValue 38).run Tryz.prog w = .ok (.int .u64 0) w := by kernel_rfl
theorem map_nil (w : World) (m : Option Nat) : (binOp .neq 94 (.map m) (.map none)).run Tryz.prog w = .ok (.bool (!m.isNone)) w := run_neq_map_nil w _ _ _ m Tryz.underlying94
theorem key_text (t : List UInt8) (h : t.length ≤ maxLen) : keyOf Tryz.prog 9 (.string ⟨t.toArray⟩) = some (keyT t) := Go.WideMaps.keyOf_string_mk Tryz.underlying9 h

end Go.Proofs.YtejicboemkpeoaaGreatDoor

namespace Go.Proofs.YtejicboemkpeoaaGreatDoor
open Go Go.RowKit

theorem rd_cut {w : World} {B : Nat} {A : Option Addr} {l : List UInt8} (h : Rd w B A l) (f n : Nat) : Rd w B (Option.map (fun x => x.add f) A) ((l.drop f).take n) := by
  intro hl
  have hll : 0 < l.length := by simp at hl; omega
  obtain ⟨b, o, rfl, hb, hc⟩ := h hll
  refine ⟨b, o + f, by simp [addr_add], hb, fun j x hx => ?_⟩
  have hx' : l[f + j]? = some x := by
    rw [List.getElem?_take] at hx
    split at hx
    · rwa [List.getElem?_drop] at hx
    · cases hx
  rw [Nat.add_assoc]
  exact hc _ _ hx'

theorem size_u8 (W : World) : (sizeOf (Tryz.prog.elem 26)).run Tryz.prog W = .ok 1 W := by kernel_rfl

/-- What At tells. -/
def atT (l : List UInt8) (off : Nat) : List UInt8 × Int := if off < l.length then ((readT (l.drop off)).1, (readT (l.drop off)).2.2) else ([], 10)

end Go.Proofs.YtejicboemkpeoaaGreatDoor

namespace Go.Proofs.YtejicboemkpeoaaGreatDoor
open Go Go.RowKit

theorem right_any (s : List UInt8) (w : World) (hs : s.length ≤ 140737488355328) :
    Calls Tryz.prog 14 #[.string ⟨s.toArray⟩] w fun r w' => r = .returned (.bool (rightT s)) ∧ w = w' := by
  have hI := fun W => index_str s W
  have hsz : (ByteArray.mk s.toArray).size = s.length := rfl
  by_cases h1 : s.length ≤ 200
  · have hd : decide ((s.length : Int) ≤ 200) = true := by simp; omega
    by_cases h2 : tlen s = s.length
    · have hz : zeroAt s = -1 := if_neg (by omega)
      have HR := Lib.hid (show rightT s = true by unfold rightT; simp [h1, h2])
      rw [hz] at hI
      clear hz h1 h2 hs
      generalize ByteArray.mk s.toArray = b at *
      generalize s.length = n at *
      subst hsz
      go_enter Tryz.func14, Tryz.ntmps14
      go_wp2_with (go_at_call 49; refine (hI _).mono ?_; rintro r w' ⟨rfl, rfl⟩)
      go_ret
      exact ⟨by rw [HR.out]; rfl, rfl⟩
    · have hle := tlen_le s
      have hz : zeroAt s = (tlen s : Int) := if_pos (by omega)
      have HR := Lib.hid (show rightT s = false by unfold rightT; simp [h1, h2])
      have hn : decide ((tlen s : Int) < 0) = false := by simp
      rw [hz] at hI
      clear hz h1 h2 hs hle
      generalize tlen s = k at *
      generalize ByteArray.mk s.toArray = b at *
      generalize s.length = n at *
      subst hsz
      go_enter Tryz.func14, Tryz.ntmps14
      go_wp2_with (go_at_call 49; refine (hI _).mono ?_; rintro r w' ⟨rfl, rfl⟩)
      go_ret
      exact ⟨by rw [HR.out]; rfl, rfl⟩
  · have hd : decide ((s.length : Int) ≤ 200) = false := by simp; omega
    have HR := Lib.hid (show rightT s = false by unfold rightT; simp [h1])
    clear h1 hI hs
    generalize ByteArray.mk s.toArray = b at *
    generalize s.length = n at *
    subst hsz
    go_enter Tryz.func14, Tryz.ntmps14
    go_wp2_with fail
    go_ret
    exact ⟨by rw [HR.out]; rfl, rfl⟩

set_option maxHeartbeats 800000 in
theorem putt_any {w : World} {base : Nat} {v : Value} {l : List UInt8} (hown : Own w base v l) (hbase : base ≤ w.heap.size) (s : List UInt8) (hlen : l.length + s.length ≤ 140737488355000) :
    Calls Tryz.prog 181 #[v, .string ⟨s.toArray⟩] w fun r w' => ∃ v', r = .returned v' ∧ Laid w w' base v v' (l ++ putT s) := by
  obtain ⟨i0, hi, hz0, hz1, hz2⟩ := info_parts u8_info
  have hC := fun W => cut_zero s (by omega) W
  have hle := tlen_le s
  have hputs : l ++ putT s = (l ++ s.take (tlen s)) ++ [0] := by unfold putT; rw [List.append_assoc]
  have hsum : l.length + (s.take (tlen s)).length ≤ 140737488355328 := by simp; omega
  have hsum2 : (l ++ s.take (tlen s)).length + [(0 : UInt8)].length ≤ 140737488355328 := by simp; omega
  have HP := Lib.hid hputs
  unfold headT at hC
  have HO := Lib.hid hown
  have HR := Lib.hid (fun W => rd_one W 0 0 rfl)
  clear hputs hlen hle hown
  generalize s.take (tlen s) = t at *
  generalize ByteArray.mk s.toArray = b at *
  go_enter Tryz.func181, Tryz.ntmps181
  go_wp2_with (first
    | (go_at_call 205; refine (hC _).mono ?_; rintro r w1 ⟨⟨u, f, rfl⟩, n, rfl⟩)
    | (at_builtin; refine wpList_append_str (by rfl) (.tmp 14) (.tmp 15) _ _ (by rfl) base i0 Tryz.underlying26 Tryz.underlying9 hi hz0 hz1 hz2 v l (by rfl) (World.ownsRow.kept (w := w) HO.out (only_drewN (only_refl w none) n) (by rcases v.ownBlock with _ | k <;> simp)) t (by rfl) hsum (by exact hbase) ?_; intro v1 w1 hown1 hg1 hat1; have HL1 := Lib.hid (show Laid w w1 base v v1 (l ++ t) from ⟨hown1, only_drewN_left hg1, hat1⟩); clear hown1 hg1 hat1)
    | (at_builtin; refine wpList_append_bytes (by rfl) (.tmp 17) (.tmp 18) _ (by rfl) base i0 Tryz.underlying26 hi hz0 hz1 hz2 v1 (l ++ t) (by rfl) (HL1.out.1.alloc _) (w1.heap.size + 1) (some ⟨w1.heap.size, 0, none⟩) 1 1 [0] rfl (by rfl) (HR.out _) hsum2 (by have := HL1.out.2.1.size; simp; omega) ?_; intro v2 w2 hown2 hg2 hat2))
  go_ret
  exact ⟨_, rfl, by rw [HP.out]; exact HL1.out.trans (Laid.of_append ((Below.refl w1.heap.size w1).alloc (Nat.le_refl _) _) hown2 hg2 hat2)⟩

end Go.Proofs.YtejicboemkpeoaaGreatDoor

namespace Go.Proofs.YtejicboemkpeoaaGreatDoor
open Go Go.RowKit

theorem byte_zero (b : UInt8) : ((b.toNat : Int) == 0) = decide (b = 0) := by
  by_cases h : b = 0
  · subst h; rfl
  · have : b.toNat ≠ 0 := fun e => h (UInt8.toNat_inj.1 (by simpa using e))
    simp [h, this]

theorem up_next {s : List UInt8} {k : Nat} (hup : ∀ j (hj : j < s.length), j < k → s[j] ≠ 0) (h : k < s.length) (hb : s[k] ≠ 0) : ∀ j (hj : j < s.length), j < k + 1 → s[j] ≠ 0 := fun j hj hjk => by
  rcases Nat.lt_or_ge j k with h1 | h1
  · exact hup j hj h1
  · have e : j = k := by omega
    subst e
    exact hb

end Go.Proofs.YtejicboemkpeoaaGreatDoor
