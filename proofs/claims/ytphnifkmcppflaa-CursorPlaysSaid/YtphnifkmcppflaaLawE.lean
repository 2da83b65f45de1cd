/-
  The walk of CursorParts: bytes that are read one by one, at once, or by a cursor of their own are the same.
-/
import Derived.Test.YtphnifkmcppflaaParts
namespace Go.Proofs.Ytphnifkmcppflaa
open Go Go.RowKit

/-- A part of bytes, wherever they lie. -/
theorem rd_part {w : World} {B : Nat} {A : Option Addr} {l : List UInt8} (h : Rd w B A l) (f n : Nat) : Rd w B (Option.map (fun x => x.add f) A) ((l.drop f).take n) := by
  intro hl
  have hll : 0 < l.length := by simp at hl; omega
  obtain ⟨b, o, rfl, hb, hc⟩ := h hll
  refine ⟨b, o + f, by simp [addr_add], hb, fun j x hx => ?_⟩
  have hx' : l[f + j]? = some x := by
    rw [List.getElem?_take] at hx
    split at hx
    · rwa [List.getElem?_drop] at hx
    · cases hx
  rw [Nat.add_assoc]
  exact hc _ _ hx'

theorem own_base {w : World} {b b' : Nat} {v : Value} {l : List UInt8} (h : Own w b v l) (hb : b' ≤ b) : Own w b' v l :=
  ⟨h.1, h.2.imp id fun ⟨g, cap, cur, p, q, r⟩ => ⟨g, cap, cur, p, Nat.le_trans hb q, r⟩⟩

set_option maxHeartbeats 1000000 in
theorem parts_walk (a0 : Option Addr) (len0 cap0 : Nat) (z0 : List Int) (a1 a2 : Int) (w : World) (w0 : IsRow .u8 w a0 len0 cap0 z0) (w1 : (Lit.int .i64 a1).wf = true) (w2 : (Lit.int .i64 a2).wf = true) :
    Calls Try.prog 8 #[.slice a0 len0 cap0, .int .i64 a1, .int .i64 a2] w fun e w' => e = .returned (.bool true) ∧ Below w.heap.size w w' := by
  obtain ⟨l, hlen, hrd, hlc, hcm⟩ := row_bytes w0
  have hs1 := i64_of w1
  have hs2 := i64_of w2
  clear w0 w1 w2
  have hW := works_any w
  by_cases hbig : 2000 < len0
  · have hd : decide ((2000 : Int) < (len0 : Int)) = true := by simp; omega
    go_enter Try.func8, Try.ntmps8
    go_wp2_with (go_at_call 9; refine hW.mono ?_; rintro r w1 ⟨rfl, hb1⟩)
    go_ret
    exact ⟨rfl, hb1⟩
  · have hd : decide ((2000 : Int) < (len0 : Int)) = false := by simp; omega
    have hl0 : (len0 : Int) ≤ 2000 := by omega
    obtain ⟨i0, hi, hz0, hz1, hz2⟩ := info_parts u8_info
    obtain ⟨F, hF, hFl⟩ : ∃ F : Nat, (IntKind.u64.wrap a1).tmod ((len0 : Int) + 1) = (F : Int) ∧ (F : Int) ≤ (len0 : Int) := by
      have h0 : 0 ≤ IntKind.u64.wrap a1 := by rw [IntKind.wrap_u64]; omega
      rw [Int.tmod_eq_emod_of_nonneg h0]
      have h1 := Int.emod_nonneg (IntKind.u64.wrap a1) (b := (len0 : Int) + 1) (by omega)
      have h2 := Int.emod_lt_of_pos (IntKind.u64.wrap a1) (b := (len0 : Int) + 1) (by omega)
      exact ⟨(IntKind.u64.wrap a1 % ((len0 : Int) + 1)).toNat, by omega, by omega⟩
    obtain ⟨M, hM, hMl⟩ : ∃ M : Nat, (IntKind.u64.wrap a2).tmod ((len0 : Int) - (F : Int) + 1) = (M : Int) ∧ (M : Int) ≤ (len0 : Int) - (F : Int) := by
      have h0 : 0 ≤ IntKind.u64.wrap a2 := by rw [IntKind.wrap_u64]; omega
      rw [Int.tmod_eq_emod_of_nonneg h0]
      have h1 := Int.emod_nonneg (IntKind.u64.wrap a2) (b := (len0 : Int) - (F : Int) + 1) (by omega)
      have h2 := Int.emod_lt_of_pos (IntKind.u64.wrap a2) (b := (len0 : Int) - (F : Int) + 1) (by omega)
      exact ⟨(IntKind.u64.wrap a2 % ((len0 : Int) - (F : Int) + 1)).toNat, by omega, by omega⟩
    have hl47 : l.length ≤ 140737488355328 := by omega
    have hFn : F ≤ l.length := by omega
    have hMn : M ≤ l.length - F := by omega
    have HN := Lib.hid (fun (W : World) (hW : Below w.heap.size w W) => (show Calls Try.prog 10 #[.slice a0 len0 cap0] W fun r w' => ∃ g v, r = .returned (.pointer (some ⟨g, 0, none⟩)) ∧ Made W.heap.size w' g v l 0 ∧ Below W.heap.size W w' from by
      have := new_any (w := W) cap0 (hrd.below hW) hW.size hl47
      rwa [hlen] at this))
    have HS := Lib.hid (fun W g v (h : Cur W g v l 0 0) => seek_ok (n := F) h hFn hl47)
    have HB := Lib.hid (fun W g v (h : Cur W g v l F 0) => bytes_ok (n := M) h hMn hl47)
    have HU := Lib.hid (fun W g v (h : Cur W g v l F 0) => sub_ok (n := M) h hMn hl47)
    obtain ⟨part, hpart⟩ : ∃ p, p = (l.drop F).take M := ⟨_, rfl⟩
    have hpl : part.length = M := by rw [hpart]; simp; omega
    rw [← hpart] at HB HU
    have hpg : ∀ k (hk : k < M), ∃ b : UInt8, ∃ (h1 : F + k < l.length) (h2 : k < part.length), l[F + k] = b ∧ part[k] = b := by
      intro k hk
      refine ⟨l[F + k]'(by omega), by omega, by omega, rfl, ?_⟩
      subst hpart
      simp
    have HG := Lib.hid hpg
    have HPL := Lib.hid hpl
    have HLL := Lib.hid hl47
    have HR := Lib.hid (fun (W : World) (hW : Below w.heap.size w W) => hrd.below hW)
    have HPT := Lib.hid hpart
    clear hpg hpl hl47 hrd hpart hlen hs1 hs2 hFn hMn
    go_enter Try.func8, Try.ntmps8
    go_wp2_with (go_at_call 9; refine hW.mono ?_; rintro r w1 ⟨rfl, hb1⟩)
    refine (HN.out _ hb1).mono ?_
    rintro r w2 ⟨gx, vx, rfl, hMx, hb2⟩
    have hB2 := hb1.trans (hb2.mono hb1.size)
    go_wp2_with fail
    refine (HN.out _ hB2).mono ?_
    rintro r w3 ⟨gy, vy, rfl, hMy, hb3⟩
    have hB3 := hB2.trans (hb3.mono hB2.size)
    go_wp2_with fail
    refine (HN.out _ hB3).mono ?_
    rintro r w4 ⟨gz, vz, rfl, hMz, hb4⟩
    have hP4 : Hid (P3 w w4 gx gy gz vx vy vz l 0 0 0) := Lib.hid (by
      have x1 := hMx.1.1.lt
      have y1 := hMy.1.1.lt
      have x0 := hMx.2.1
      have y0 := hMy.2.1
      have z0 := hMz.2.1
      have s1 := hb1.size
      have s2 := hb2.size
      have s3 := hb3.size
      exact ⟨hB3.trans (hb4.mono hB3.size), (hMx.1.below hb3).below hb4, hMy.1.below hb4, hMz.1, by omega, by omega, by omega, by omega, by omega, by omega⟩)
    clear hMx hMy hMz hb1 hb2 hb3 hb4 hB2 hB3
    go_wp2_with fail
    refine (HS.out _ _ _ hP4.out.cx).mono ?_
    rintro r w5 ⟨rfl, hC, hG⟩
    have hP5 := Lib.hid (hP4.out.x hC hG)
    clear hP4 hC hG
    go_wp2_with fail
    refine (HS.out _ _ _ hP5.out.cy).mono ?_
    rintro r w6 ⟨rfl, hC, hG⟩
    have hP6 := Lib.hid (hP5.out.y hC hG)
    clear hP5 hC hG
    go_wp2_with fail
    refine (HS.out _ _ _ hP6.out.cz).mono ?_
    rintro r w7 ⟨rfl, hC, hG⟩
    have hP7 := Lib.hid (hP6.out.z hC hG)
    clear hP6 hC hG
    go_wp2_with fail
    refine (HB.out _ _ _ hP7.out.cx).mono ?_
    rintro r w8 ⟨vA, rfl, hoA, hC, hG⟩
    have hP8 := Lib.hid (hP7.out.x hC hG)
    have hA8 : Hid (Own w8 w.heap.size vA part) := Lib.hid (own_base hoA hP7.out.bel.size)
    clear hP7 hC hG hoA
    go_wp2_with fail
    refine (HU.out _ _ _ hP8.out.cy).mono ?_
    rintro r w9 ⟨go, vo, rfl, hMo, hC, hG⟩
    have hP9 : Hid (P7 w w9 w9.heap.size gx gy gz go vx vy vz vo vA (.slice none 0 0) (.slice none 0 0) l part [] [] (F + M) (F + M) F 0) := Lib.hid (by
      have h9 := hP8.out.y hC hG
      have x1 := hP8.out.cx.1.lt
      have y1 := hP8.out.cy.1.lt
      have z1 := hP8.out.cz.1.lt
      have o0 := hMo.2.1
      have s8 := hP8.out.bel.size
      refine { h9 with co := hMo.1, xo := ?_, yo := ?_, zo := ?_, lo := ?_, oA := own_only hA8.out hP8.out.cy.1 hG, o1 := World.ownsRow_nil _ _ _ _, o2 := World.ownsRow_nil _ _ _ _, d12 := .inl rfl, hB := Nat.le_refl _, h0B := h9.bel.size, bx := fun q hq => (own_ge h9.cx.2.1 q hq).2, bY := fun q hq => (own_ge h9.cy.2.1 q hq).2, bz := fun q hq => (own_ge h9.cz.2.1 q hq).2, bo := fun q hq => (own_ge hMo.1.2.1 q hq).2, bA := fun q hq => (own_ge (own_only hA8.out hP8.out.cy.1 hG) q hq).2 } <;> omega)
    clear hP8 hC hG hMo hA8
    have hM2 : (M : Int) ≤ 2000 := by omega
    clear hM hF
    go_wp2_with fail
    go_loopw [14, 15, 60] (fun v1 v2 i wr => ∃ k : Nat, k ≤ M ∧ i = .int .u64 k ∧ P7 w wr w9.heap.size gx gy gz go vx vy vz vo vA v1 v2 l part (part.take k) (part.take k) (F + M) (F + M) (F + k) k) (fun _ _ i _ => M - (intOf i).toNat)
    case atStart => exact ⟨0, Nat.zero_le _, rfl, hP9.out⟩
    case round =>
      obtain ⟨k, hk, rfl, hP⟩ := hrel
      have hP0 := Lib.hid hP
      clear hP hP9
      by_cases hlt : k < M
      · obtain ⟨b, h1, h2, hb1, hb2⟩ := HG.out k hlt
        have HZ := Lib.hid (fun W (h : Cur W gz vz l (F + k) 0) => (show Calls Try.prog 26 #[.pointer (some ⟨gz, 0, none⟩)] W fun r w' => r = .returned (.int .u64 (b.toNat : Int)) ∧ Cur w' gz vz l (F + k + 1) 0 ∧ W.grownBy w' (some gz) from by
          have := u8_at h h1 HLL.out
          rwa [hb1] at this))
        have HO := Lib.hid (fun W (h : Cur W go vo part k 0) => (show Calls Try.prog 26 #[.pointer (some ⟨go, 0, none⟩)] W fun r w' => r = .returned (.int .u64 (b.toNat : Int)) ∧ Cur w' go vo part (k + 1) 0 ∧ W.grownBy w' (some go) from by
          have := u8_at h h2 (by rw [HPL.out]; omega)
          rwa [hb2] at this))
        have HT := Lib.hid (show part.take k ++ [b] = part.take (k + 1) by rw [List.take_succ_eq_append_getElem h2, hb2])
        have hb256 : (b.toNat : Int) < 256 := by have := b.toNat_lt; omega
        have hsum : (part.take k).length + [b].length ≤ 140737488355328 := by simp; omega
        clear h1 h2 hb1 hb2
        go_wp2_with fail
        refine (HZ.out _ hP0.out.cz).mono ?_
        rintro r wa ⟨rfl, hC, hG⟩
        have hPa := Lib.hid (hP0.out.z' hC hG)
        clear hP0 hC hG
        have hba : w9.heap.size ≤ (wa.alloc (.cells #[.int .u8 (b.toNat : Int)] 5)).heap.size := by have := hPa.out.hB; simp; omega
        go_wp2_with (at_builtin; refine wpList_append_bytes (by rfl) (.tmp 62) (.tmp 66) _ (by rfl) w9.heap.size i0 Try.underlying22 hi hz0 hz1 hz2 u14 (part.take k) (by rfl) (hPa.out.o1.alloc _) (wa.heap.size + 1) (some ⟨wa.heap.size, 0, none⟩) 1 1 [b] rfl (by rfl) (rd_one wa _ b rfl) hsum hba ?_; intro v1 wb hown1 hg1 hat1)
        have hPb := Lib.hid (hPa.out.one (Laid.of_append ((Below.refl wa.heap.size wa).alloc (Nat.le_refl _) _) hown1 hg1 hat1))
        clear hPa hown1 hg1 hat1 hba
        refine (HO.out _ hPb.out.co).mono ?_
        rintro r wc ⟨rfl, hC, hG⟩
        have hPc := Lib.hid (hPb.out.o' hC hG)
        clear hPb hC hG
        have hbc : w9.heap.size ≤ (wc.alloc (.cells #[.int .u8 (b.toNat : Int)] 5)).heap.size := by have := hPc.out.hB; simp; omega
        go_wp2_with (at_builtin; refine wpList_append_bytes (by rfl) (.tmp 68) (.tmp 72) _ (by rfl) w9.heap.size i0 Try.underlying22 hi hz0 hz1 hz2 u15 (part.take k) (by rfl) (hPc.out.o2.alloc _) (wc.heap.size + 1) (some ⟨wc.heap.size, 0, none⟩) 1 1 [b] rfl (by rfl) (rd_one wc _ b rfl) hsum hbc ?_; intro v2 wd hown2 hg2 hat2)
        have hPd := Lib.hid (hPc.out.two (Laid.of_append ((Below.refl wc.heap.size wc).alloc (Nat.le_refl _) _) hown2 hg2 hat2))
        clear hPc hown2 hg2 hat2 hbc
        go_roundw
        case rel => exact ⟨k + 1, by omega, by go_num, by rw [← HT.out]; exact hPd.out⟩
        case measure => simp [intOf]; omega
      · have hkM : k = M := by omega
        subst hkM
        have HK := Lib.hid (show part.take k = part by rw [List.take_of_length_le (by rw [HPL.out]; exact Nat.le_refl _)])
        have hP1 : Hid (P7 w wr w9.heap.size gx gy gz go vx vy vz vo vA u14 u15 l part part part (F + k) (F + k) (F + k) k) := Lib.hid (by have := hP0.out; rwa [HK.out] at this)
        clear hP0
        obtain ⟨sW, hsW⟩ : ∃ t : ByteArray, t = ⟨part.toArray⟩ := ⟨_, rfl⟩
        have hcA := conv_as hsW (conv_own hP1.out.oA)
        have hc1 := conv_as hsW (conv_own hP1.out.o1)
        have hc2 := conv_as hsW (conv_own hP1.out.o2)
        have hrW := HR.out wr hP1.out.bel
        have hcb : ∀ c, (convert 22 9 (.slice (Option.map (fun x => x.add F) a0) k c)).run Try.prog wr = .ok (.string sW) wr := by
          intro c
          have h := conv_rd (rd_part hrW F k) c
          rw [← HPT.out, HPL.out] at h
          exact conv_as hsW h
        have hcd : k = 0 → ∀ c, (convert 22 9 (.slice a0 0 c)).run Try.prog wr = .ok (.string sW) wr := by
          intro hk0 c
          have hp0 : part = [] := List.eq_nil_of_length_eq_zero (by rw [HPL.out, hk0])
          have h := conv_rd (Rd.nil_ : Rd wr w.heap.size a0 []) c
          rw [hp0] at hsW
          exact conv_as hsW h
        have hEnd : endOf part k 0 = 0 := by
          have hp := HPL.out
          unfold endOf leftOf
          rw [if_pos rfl, hp]; simp
        have HE := Lib.hid (fun W (h : Cur W go vo part k 0) => (show Calls Try.prog 16 #[.pointer (some ⟨go, 0, none⟩)] W fun r w' => r = .returned (.int .i64 0) ∧ ∃ n, w' = W.drewN n from by
          have := end_cur h
          rwa [hEnd] at this))
        have HD := Lib.hid hcd
        have hFk : (F : Int) + (k : Int) ≤ (cap0 : Int) := by omega
        clear hsW hrW hEnd hcd
        by_cases hcF : cap0 = F
        · have hce : ∀ c, (convert 22 9 (.slice a0 k c)).run Try.prog wr = .ok (.string sW) wr := by
            have hk0 : k = 0 := by omega
            intro c
            have := HD.out hk0 c
            rwa [← hk0] at this
          clear hcb
          go_wp2_with (first
            | (go_at_call 12; ((with_reducible refine (at_cur hP1.out.cx).mono ?_); rintro r w' ⟨rfl, rfl⟩))
            | (go_at_call 12; ((with_reducible refine (at_cur hP1.out.cy).mono ?_); rintro r w' ⟨rfl, rfl⟩))
            | (go_at_call 12; ((with_reducible refine (at_cur hP1.out.cz).mono ?_); rintro r w' ⟨rfl, rfl⟩))
            | (go_at_call 16; refine (HE.out _ hP1.out.co).mono ?_; rintro r w' ⟨rfl, n, rfl⟩))
          go_ret
          exact ⟨rfl, below_drewN hP1.out.bel n⟩
        · go_wp2_with (first
            | (go_at_call 12; ((with_reducible refine (at_cur hP1.out.cx).mono ?_); rintro r w' ⟨rfl, rfl⟩))
            | (go_at_call 12; ((with_reducible refine (at_cur hP1.out.cy).mono ?_); rintro r w' ⟨rfl, rfl⟩))
            | (go_at_call 12; ((with_reducible refine (at_cur hP1.out.cz).mono ?_); rintro r w' ⟨rfl, rfl⟩))
            | (go_at_call 16; refine (HE.out _ hP1.out.co).mono ?_; rintro r w' ⟨rfl, n, rfl⟩))
          go_ret
          exact ⟨rfl, below_drewN hP1.out.bel n⟩

end Go.Proofs.Ytphnifkmcppflaa
