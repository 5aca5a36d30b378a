/- rotakeep.TutteGraph, as a row asks for it. -/
import Derived.Test.YtkmpnaohdijpnaaGreatDoorLaidTQ
import Derived.Test.YtkmpnaohdijpnaaGreatDoorFhLawQ
namespace Go.Proofs.YtkmpnaohdijpnaaGreatDoor
open Go.RowKit
/-- The law, as a row asks for it. -/
theorem tgraph_row (n : Int) (v : Value) (F : List (Int × Int)) (k : Int) (w : World) (_ : Tabbed w) (h : EdgesI w v F) (hk : -9223372036854775808 ≤ k ∧ k ≤ 9223372036854775807) (hw : Pow10 w) :
    Calls Tryz.prog 3 #[.agg #[.int .i64 n, v], .int .i64 k] w fun e w' => e = .returned (.bool true) ∧ Below w.heap.size w w' := tgraph_law n v F k w h hk hw
end Go.Proofs.YtkmpnaohdijpnaaGreatDoor
