/-
  The walk of GroupLeft.
-/
import Derived.Test.YtbpemehhbeejcaaGpU
import Derived.Test.YtbpemehhbeejcaaGpT
import Derived.Test.YtbpemehhbeejcaaGpQ
import Derived.Deep.RegionHeldLaw
namespace Go.Proofs.Ytbpemehhbeejcaa
open Go Go.RowKit

/-- What is left out: few rows, none of them long. -/
theorem leftL_bounds (O : List ObjV) (hs : ∀ o ∈ O, o.Small) : (leftL (O.map objO)).length ≤ 6 ∧ ∀ b ∈ leftL (O.map objO), b.length ≤ 6000 := by
  have key : ∀ {k : Nat} {names : List (List UInt8)} {out : List (List Bool)}, leftS (O.map objO) k = some (names, out) → ∀ b ∈ out, b.length ≤ 6000 := by
    intro k
    induction k with
    | zero =>
      intro names out h
      rw [leftS] at h
      cases h
      intro b hb; cases hb
    | succ k ih =>
      intro names out h
      cases hk : leftS (O.map objO) k with
      | none => rw [leftS_none hk (k + 1) (by omega)] at h; cases h
      | some r =>
        obtain ⟨nm, ou⟩ := r
        cases ho : (O.map objO)[k]? with
        | none => rw [leftS, hk] at h; simp [ho] at h; obtain ⟨rfl, rfl⟩ := h; exact ih hk
        | some q =>
          obtain ⟨S, Y⟩ := q
          cases hg : grpT S Y with
          | none => rw [leftS_bad hk ho hg] at h; cases h
          | some G =>
            rw [leftS_next hk ho hg] at h
            simp at h
            obtain ⟨rfl, rfl⟩ := h
            intro b hb
            rcases List.mem_append.1 hb with hb | hb
            · exact ih hk b hb
            · rw [List.mem_singleton.1 hb, leftK_length]
              have h1 := List.mem_of_getElem? ho
              obtain ⟨o, ho', e⟩ := List.mem_map.1 h1
              injection e with e1 e2
              rw [← e1]
              simp [secsOf]
              exact (hs o ho').S
  unfold leftL
  by_cases hb : 6 < (O.map objO).length
  · rw [if_pos hb]; exact ⟨Nat.zero_le _, fun b hb => by cases hb⟩
  · rw [if_neg hb]
    cases h : leftS (O.map objO) (O.map objO).length with
    | none => exact ⟨Nat.zero_le _, fun b hb => by cases hb⟩
    | some q =>
      obtain ⟨nm, out⟩ := q
      have h1 := (leftS_facts (Nat.le_refl _) h).1
      exact ⟨by simp only; omega, key h⟩

set_option maxRecDepth 20000 in
set_option maxHeartbeats 6400000 in
theorem gleft_walk (a : Option Addr) (c : Nat) (O : List ObjV) (w : World) (h : ObjsIn w w.heap.size a O) :
    Calls Try.prog 4 #[.slice a O.length c] w fun e w' => e = .returned (.bool true) ∧ Below w.heap.size w w' := by
  have HW := Lib.hid (fun (W : World) => gworks_any (w := W))
  have HH := Lib.hid h
  have HGR := Lib.hid (great_any h c)
  generalize hN : O.length = N at *
  have HN := Lib.hid hN
  clear h hN
  go_enter Try.func4, Try.ntmps4
  go_wp2_with fail
  refine HGR.out.mono ?_
  rintro r w2 ⟨b, rfl, hsm, hb2⟩
  have HB2 := Lib.hid hb2
  have HSM := Lib.hid hsm
  clear hb2 hsm HGR
  cases b with
  | true =>
    go_wp2_with (go_at_call 7; refine (HW.out _).mono ?_; rintro r w3 ⟨rfl, hb3⟩; have HB3 := Lib.hid (HB2.out.trans (hb3.mono HB2.out.size)); clear hb3)
    go_ret
    exact ⟨rfl, HB3.out⟩
  | false =>
    obtain ⟨hn10, hs⟩ := HSM.out rfl
    have HS := Lib.hid hs
    have HOB := Lib.hid (fun W (hW : Below w.heap.size w W) => (((HH.out.below hW).more hW.size).objs hs : Objs W W.heap.size a O))
    have HOS := Lib.hid (objects_any (HOB.out _ HB2.out) c (by rw [HN.out]; omega))
    rw [HN.out] at HOS
    have HRL := Lib.hid (fun W (hW : Below w.heap.size w W) => rgleft_any (HOB.out W hW) c hs)
    rw [HN.out] at HRL
    obtain ⟨hLl, hLb⟩ := leftL_bounds O hs
    have HLB := Lib.hid hLb
    clear hs hLb HOB HSM
    go_wp2_with fail
    refine HOS.out.mono ?_
    rintro r w3 ⟨A3, c3, rfl, -, hO3, hb3⟩
    have HB3 := Lib.hid (HB2.out.trans (hb3.mono HB2.out.size))
    have HLF := Lib.hid (gleft_any hO3 c3 HS.out)
    rw [HN.out] at HLF
    clear hO3 hb3 HOS
    generalize leftE (O.map objO) = ee at *
    generalize leftL (O.map objO) = R at *
    go_wp2_with fail
    refine HLF.out.mono ?_
    rintro r w4 ⟨u4, Q4, rfl, hQ4, hm4, hb4⟩
    have HB4 := Lib.hid (HB3.out.trans (hb4.mono HB3.out.size))
    have HQ4 := Lib.hid hQ4
    have HM4 := Lib.hid hm4
    obtain ⟨A4, c4, rfl, hr4⟩ := hQ4.rows
    have HR4 := Lib.hid hr4
    clear hb4 hQ4 hm4 hr4 HLF
    go_wp2_with fail
    refine (HRL.out _ HB4.out).mono ?_
    rintro r w5 ⟨u5, Q5, rfl, hQ5, hm5, hb5⟩
    have HB5 := Lib.hid (HB4.out.trans (hb5.mono HB4.out.size))
    obtain ⟨A5, c5, rfl, hr5⟩ := hQ5.rows
    have hqe : Q4.map (·.l) = Q5.map (·.l) := HM4.out.trans hm5.symm
    have HFL := Lib.hid (rflags_any ((HR4.out.below hb5).more hb5.size) hr5 c4 c5 hqe (by have := congrArg List.length HM4.out; simp at this; omega) (fun q hq => by
      have h1 : q.l ∈ R := by rw [← HM4.out]; exact List.mem_map_of_mem hq
      exact Nat.le_trans (HLB.out _ h1) (by decide)))
    have q1 : (ee == ee) = true := by simp
    clear hQ5 hm5 hb5 hr5 hqe HRL HQ4 HM4 HR4
    generalize Q4.length = n4 at *
    generalize Q5.length = n5 at *
    go_wp2_with fail
    refine HFL.out.mono ?_
    rintro r w6 ⟨rfl, hb6⟩
    have HB6 := Lib.hid (HB5.out.trans (hb6.mono HB5.out.size))
    clear hb6
    go_wp2_with (go_at_call 7; refine (HW.out _).mono ?_; rintro r w7 ⟨rfl, hb7⟩; have HB7 := Lib.hid (HB6.out.trans (hb7.mono HB6.out.size)); clear hb7)
    go_ret
    exact ⟨rfl, HB7.out⟩

end Go.Proofs.Ytbpemehhbeejcaa
