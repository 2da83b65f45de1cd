/-
  The walks of CursorSums and CursorNobody: whatever the numbers are, the Go text of the statement returns true.
-/
import Derived.Test.YtbggajojhopaaaaWorks
import Derived.OpenShut
namespace Go.Proofs.Ytbggajojhopaaaa
open Go Go.RowKit

/-- A slice of bytes that came in: nil, or a row of cells in memory (the first 'len' are its bytes, the rest its spare room). -/
def IsRow (k : IntKind) (w : World) (a : Option Addr) (len cap : Nat) (zs : List Int) : Prop :=
  (a = none ∧ len = 0 ∧ cap = 0 ∧ zs = []) ∨
  ∃ x, a = some x ∧ len ≤ cap ∧ cap ≤ maxLen ∧ zs.length = cap ∧ (∀ i, i < zs.length → w.cell? (x.add i) = some (.int k (zs.getD i 0))) ∧ ∀ n ∈ zs, (Lit.int k n).wf = true

theorem nat_of_u64 {a : Int} (h : (Lit.int .u64 a).wf = true) : ∃ n : Nat, a = (n : Int) ∧ n < two64 := by
  have := Go.bounds_u64 h
  refine ⟨a.toNat, by omega, ?_⟩
  unfold two64; omega
theorem i64_of {a : Int} (h : (Lit.int .i64 a).wf = true) : -9223372036854775808 ≤ a ∧ a ≤ 9223372036854775807 := by
  have := Go.bounds_i64 h
  omega

theorem sums_walk (a0 a1 a2 : Int) (w0 : (Lit.int .u64 a0).wf = true) (w1 : (Lit.int .u64 a1).wf = true) (w2 : (Lit.int .u64 a2).wf = true) (w : World) :
    Calls Try.prog 5 #[.int .u64 a0, .int .u64 a1, .int .u64 a2] w fun e w' => e = .returned (.bool true) ∧ Below w.heap.size w w' := by
  obtain ⟨a, rfl, ha⟩ := nat_of_u64 w0
  obtain ⟨b, rfl, hb⟩ := nat_of_u64 w1
  obtain ⟨c, rfl, hc⟩ := nat_of_u64 w2
  have h1 := sum_any a b w ha hb
  have h2 := rsum_any a b w ha hb
  have h3 := within_any a b c w ha hb
  have h4 := rwithin_any a b c w ha hb
  have h5 := works_any w
  clear w0 w1 w2 ha hb hc
  generalize sumOf a b = s at *
  generalize withinOf a b c = t at *
  generalize sumOk a b = k at *
  cases k <;> cases t
  all_goals
    go_enter Try.func5, Try.ntmps5
    go_wp2_with (first | (go_at_call 27; refine h1.mono ?_; rintro r w' ⟨rfl, rfl⟩) | (go_at_call 28; refine h2.mono ?_; rintro r w' ⟨rfl, rfl⟩) | (go_at_call 29; refine h3.mono ?_; rintro r w' ⟨rfl, rfl⟩) | (go_at_call 30; refine h4.mono ?_; rintro r w' ⟨rfl, rfl⟩) | (go_at_call 16; refine h5.mono ?_; rintro r w' ⟨rfl, hbel⟩))
    go_ret
    exact ⟨rfl, hbel⟩

end Go.Proofs.Ytbggajojhopaaaa
