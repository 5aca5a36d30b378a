/- What a row's condition on the listed tables gives: the table of powers of strconv. -/
import Derived.Test.YtelcpiekomhfbaaDoorLaidQ
import Derived.Test.YtelcpiekomhfbaaDoorTdLawQ
namespace Go.Proofs.YtelcpiekomhfbaaDoor
open Go.RowKit
theorem g10 : Tryd.prog.globalNamed "internal/strconv.uint64pow10" = some 0 := by kernel_rfl
theorem t10 : (Tryd.prog.globals[0]?).map (·.type) = some 103 := by kernel_rfl
theorem cU : Tryd.prog.cellsOf 48 = 1 := by kernel_rfl
theorem c20 : Tryd.prog.cellsOf 103 = 20 := by kernel_rfl
theorem pow10_of {W : World} {x y : String × DataW Unit} {rest : List (String × DataW Unit)} (hx : ((x :: y :: ("internal/strconv.uint64pow10", Rows.laid_internal_strconv_uint64pow10) :: rest).all fun x => x.2.handleName?.isNone) = true)
    (h : laidMetH Tryd.prog (x :: y :: ("internal/strconv.uint64pow10", Rows.laid_internal_strconv_uint64pow10) :: rest) W) : Pow10 W := by
  rw [MakeChecks.laidMetH_plain _ _ _ hx] at h
  have h2 : laidMet Tryd.prog (("internal/strconv.uint64pow10", Lib.tabData .u64 Lib.pow10Tab) :: rest) W := h.tail.tail
  exact Lib.tabIs_of_head g10 t10 Tryd.underlying103 Tryd.underlying48 cU c20 h2
/-- The law, as a row asks for it. -/
theorem tdual_row (n : Int) (v : Value) (zs : List Int) (w : World) (_ : Tabbed w) (h : Ints w v zs) (hw : Pow10 w) :
    Calls Tryd.prog 3 #[.agg #[.int .i64 n, v]] w fun e w' => e = .returned (.bool true) ∧ Below w.heap.size w w' := tdual_law n v zs w h hw
end Go.Proofs.YtelcpiekomhfbaaDoor
