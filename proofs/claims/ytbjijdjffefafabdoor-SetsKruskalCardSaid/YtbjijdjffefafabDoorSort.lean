/- The contract of slices.Sort at []int laid at this program (out of the library's own, proved over any program). -/
import Derived.Shelf.Sort.Plain
import Derived.Test.YtbjijdjffefafabDoorProg
namespace Go.Proofs.YtbjijdjffefafabDoor
open Go.Shelf Go.Proofs
def Tryd.lays189_ren : Go.Shelf.Ren := ⟨fun | 189 => 9 | 125 => 18 | 257 => 17 | 128 => 32 | 129 => 33 | 294 => 23 | 295 => 24 | 296 => 25 | 297 => 26 | 298 => 27 | 299 => 28 | 216 => 29 | 300 => 30 | 301 => 31 | 328 => 43 | 329 => 44 | 330 => 45 | 331 => 46 | 332 => 47 | 215 => 48 | 343 => 50 | n => n, fun | 28 => 22 | 3 => 3 | 46 => 40 | 0 => 0 | 51 => 52 | 53 => 54 | 4 => 4 | 183 => 44 | 182 => 43 | 131 => 49 | 5 => 5 | 9 => 9 | 218 => 57 | 222 => 61 | 228 => 65 | 229 => 66 | n => n, fun | n => n⟩
theorem Tryd.lays189 : Go.Proofs.Lays.n189 Tryd.prog Tryd.lays189_ren := {
  mixed := by kernel_rfl
  f125 := Tryd.func18.trans (congrArg some (by kernel_rfl))
  f128 := Tryd.func32.trans (congrArg some (by kernel_rfl))
  f129 := Tryd.func33.trans (congrArg some (by kernel_rfl))
  f189 := Tryd.func9.trans (congrArg some (by kernel_rfl))
  f215 := Tryd.func48.trans (congrArg some (by kernel_rfl))
  f216 := Tryd.func29.trans (congrArg some (by kernel_rfl))
  f257 := Tryd.func17.trans (congrArg some (by kernel_rfl))
  f294 := Tryd.func23.trans (congrArg some (by kernel_rfl))
  f295 := Tryd.func24.trans (congrArg some (by kernel_rfl))
  f296 := Tryd.func25.trans (congrArg some (by kernel_rfl))
  f297 := Tryd.func26.trans (congrArg some (by kernel_rfl))
  f298 := Tryd.func27.trans (congrArg some (by kernel_rfl))
  f299 := Tryd.func28.trans (congrArg some (by kernel_rfl))
  f300 := Tryd.func30.trans (congrArg some (by kernel_rfl))
  f301 := Tryd.func31.trans (congrArg some (by kernel_rfl))
  f328 := Tryd.func43.trans (congrArg some (by kernel_rfl))
  f329 := Tryd.func44.trans (congrArg some (by kernel_rfl))
  f330 := Tryd.func45.trans (congrArg some (by kernel_rfl))
  f331 := Tryd.func46.trans (congrArg some (by kernel_rfl))
  f332 := Tryd.func47.trans (congrArg some (by kernel_rfl))
  f343 := Tryd.func50.trans (congrArg some (by kernel_rfl))
  t0 := Tryd.underlying0
  a0 := Tryd.isAgg0
  z0 := Tryd.sizeOf0
  v0 := Tryd.zeroValue0
  t3 := Tryd.underlying3
  a3 := Tryd.isAgg3
  z3 := Tryd.sizeOf3
  v3 := Tryd.zeroValue3
  t4 := Tryd.underlying4
  a4 := Tryd.isAgg4
  z4 := Tryd.sizeOf4
  v4 := Tryd.zeroValue4
  t5 := Tryd.underlying5
  a5 := Tryd.isAgg5
  z5 := Tryd.sizeOf5
  v5 := Tryd.zeroValue5
  t9 := Tryd.underlying9
  a9 := Tryd.isAgg9
  z9 := Tryd.sizeOf9
  v9 := Tryd.zeroValue9
  t28 := Tryd.underlying22
  a28 := Tryd.isAgg22
  z28 := Tryd.sizeOf22
  v28 := Tryd.zeroValue22
  t46 := Tryd.underlying40
  a46 := Tryd.isAgg40
  z46 := Tryd.sizeOf40
  v46 := Tryd.zeroValue40
  t51 := Tryd.underlying52
  a51 := Tryd.isAgg52
  z51 := Tryd.sizeOf52
  v51 := Tryd.zeroValue52
  t53 := Tryd.underlying54
  a53 := Tryd.isAgg54
  z53 := Tryd.sizeOf54
  v53 := Tryd.zeroValue54
  t131 := Tryd.underlying49
  a131 := Tryd.isAgg49
  z131 := Tryd.sizeOf49
  v131 := Tryd.zeroValue49
  t182 := Tryd.underlying43
  a182 := Tryd.isAgg43
  z182 := Tryd.sizeOf43
  v182 := Tryd.zeroValue43
  t183 := Tryd.underlying44
  a183 := Tryd.isAgg44
  z183 := Tryd.sizeOf44
  v183 := Tryd.zeroValue44
  t218 := Tryd.underlying57
  a218 := Tryd.isAgg57
  z218 := Tryd.sizeOf57
  v218 := Tryd.zeroValue57
  t222 := Tryd.underlying61
  a222 := Tryd.isAgg61
  z222 := Tryd.sizeOf61
  v222 := Tryd.zeroValue61
  t228 := Tryd.underlying65
  a228 := Tryd.isAgg65
  z228 := Tryd.sizeOf65
  v228 := Tryd.zeroValue65
  t229 := Tryd.underlying66
  a229 := Tryd.isAgg66
  z229 := Tryd.sizeOf66
  v229 := Tryd.zeroValue66 }
open Go.Sort Go.RowKit in
theorem Tryd.slices_Sort_int (blk off cap : Nat) (zs : List Int) (w : World) (hH : Holds (Value.int .i64) w blk off zs.toArray) (hblk : blk < w.heap.size) (hsz : zs.length < 4611686018427387904) :
    Calls Tryd.prog 9 #[.slice (some ⟨blk, off, none⟩) zs.length cap] w fun e w' =>
      e = .returned (.tuple #[]) ∧ ∃ n os, w' = grow (putRow (Value.int .i64) (Sort.ahead w n) blk off (zs.mergeSort fun x y => decide (x ≤ y)).toArray) os := Any.slices_Sort_int Tryd.lays189 blk off cap zs w hH hblk hsz
end Go.Proofs.YtbjijdjffefafabDoor
