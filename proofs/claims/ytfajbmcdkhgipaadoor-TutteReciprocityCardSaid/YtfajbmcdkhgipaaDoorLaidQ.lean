/- What a row's condition on the listed tables gives the walks: the table of math/bits, cell by cell. -/
import Derived.Test.YtfajbmcdkhgipaaDoorRows
import Derived.Test.YtfajbmcdkhgipaaDoorBitsQ
import Derived.ProofKit
import Derived.LaidMore
import Derived.Lib.LaidTab
import Derived.Stop.LaidErr
import Derived.Stop.Joined
namespace Go.Proofs.YtfajbmcdkhgipaaDoor
open Go.RowKit
theorem own : ownKnob Tryd.prog.godebug = none := by kernel_rfl
theorem g64 : Tryd.prog.globalNamed "math/bits.deBruijn64tab" = some 2 := by kernel_rfl
theorem t64 : (Tryd.prog.globals[2]?).map (·.type) = some 103 := by kernel_rfl
theorem c8 : Tryd.prog.cellsOf 5 = 1 := by kernel_rfl
theorem c64 : Tryd.prog.cellsOf 103 = 64 := by kernel_rfl
theorem tabbed_of {W : World} {x : String × DataW Unit} {rest : List (String × DataW Unit)} (hx : ((x :: ("math/bits.deBruijn64tab", Rows.laid_math_bits_deBruijn64tab) :: rest).all fun x => x.2.handleName?.isNone) = true)
    (h : laidMetH Tryd.prog (x :: ("math/bits.deBruijn64tab", Rows.laid_math_bits_deBruijn64tab) :: rest) W) : Tabbed W := by
  rw [MakeChecks.laidMetH_plain _ _ _ hx] at h
  have h2 : laidMet Tryd.prog (("math/bits.deBruijn64tab", Lib.tabData .u8 tab) :: rest) W := h.tail
  intro i hi
  exact (Lib.tabIs_of_head g64 t64 Tryd.underlying103 Tryd.underlying5 c8 c64 h2).cell g64 i hi
end Go.Proofs.YtfajbmcdkhgipaaDoor
