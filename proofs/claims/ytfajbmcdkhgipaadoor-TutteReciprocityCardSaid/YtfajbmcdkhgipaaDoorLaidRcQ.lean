/- rotakeep.TutteReciprocity, as a row asks for it. -/
import Derived.Test.YtfajbmcdkhgipaaDoorLaidTQ
import Derived.Test.YtfajbmcdkhgipaaDoorRecLawQ
namespace Go.Proofs.YtfajbmcdkhgipaaDoor
open Go.RowKit
/-- The law, as a row asks for it. -/
theorem trecip_row (n : Int) (v : Value) (F : List (Int × Int)) (k : Int) (w : World) (_ : Tabbed w) (h : EdgesI w v F) (hk : -9223372036854775808 ≤ k ∧ k ≤ 9223372036854775807) (hw : Pow10 w) :
    Calls Tryd.prog 3 #[.agg #[.int .i64 n, v], .int .i64 k] w fun e w' => e = .returned (.bool true) ∧ Below w.heap.size w w' := trecip_law n v F k w h hk hw
end Go.Proofs.YtfajbmcdkhgipaaDoor
