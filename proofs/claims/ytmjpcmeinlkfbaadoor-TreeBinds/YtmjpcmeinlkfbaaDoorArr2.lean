/-
  Two arrays of two numbers that are not the same: what == answers.
-/
import Derived.Test.YtmjpcmeinlkfbaaDoorChecked
import Derived.Test.YtmjpcmeinlkfbaaDoorOps
import Derived.WalkKit
import Derived.DeepKeys
namespace Go.Proofs.YtmjpcmeinlkfbaaDoor
open Go.RowKit
set_option linter.unusedVariables false

theorem Tryd.arr2c : Tryd.prog.cellsOf 64 = 2 := by kernel_rfl
theorem Tryd.arr2e : Tryd.prog.cellsOf 45 = 1 := by kernel_rfl
theorem u64_wf {a : Int} (h0 : 0 ≤ a) (h1 : a ≤ 18446744073709551615) : (Lit.int .u64 a).wf = true := by
  simp [Lit.wf, IntKind.min, IntKind.max, IntKind.signed, IntKind.bits]
  omega
theorem arr_lits {x y : Int} (wx : (Lit.int .u64 x).wf = true) (wy : (Lit.int .u64 y).wf = true) : Tryd.prog.keyLits 2 64 [.int .u64 x, .int .u64 y] = some [.int .u64 x, .int .u64 y] := by
  have he := Tryd.underlying45
  simp [Program.keyLits, he, Tryd.arr2c, Tryd.arr2e, List.range_succ, wx, wy]
theorem arr_ne {u0 u1 v0 v1 : Int} (h : ¬ (u0 = v0 ∧ u1 = v1)) (a0 : 0 ≤ u0) (a1 : u0 ≤ 18446744073709551615) (b0 : 0 ≤ u1) (b1 : u1 ≤ 18446744073709551615) (c0 : 0 ≤ v0) (c1 : v0 ≤ 18446744073709551615) (d0 : 0 ≤ v1) (d1 : v1 ≤ 18446744073709551615) (W : World) :
    (Op.equalIn 10000 64 (.agg #[.int .u64 u0, .int .u64 u1]) (.agg #[.int .u64 v0, .int .u64 v1])).run Tryd.prog W = .ok false W := by
  obtain ⟨r, hr, hiff⟩ := run_equalIn_deep (P := Tryd.prog) 9998 2 64 (by kernel_rfl) W 2 2 (.agg #[.int .u64 u0, .int .u64 u1]) (.agg #[.int .u64 v0, .int .u64 v1]) [.int .u64 u0, .int .u64 u1] [.int .u64 v0, .int .u64 v1]
    (by simp [Value.formed, Tryd.arr2c]) (by simp [Value.formed, Tryd.arr2c])
    (by simpa [Value.cells] using arr_lits (u64_wf a0 a1) (u64_wf b0 b1)) (by simpa [Value.cells] using arr_lits (u64_wf c0 c1) (u64_wf d0 d1))
  have e : r = false := by
    cases r
    · rfl
    · exfalso
      have := hiff.1 rfl
      simp at this
      exact h this
  rw [e] at hr
  exact hr

end Go.Proofs.YtmjpcmeinlkfbaaDoor
