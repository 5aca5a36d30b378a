/- The contract of slices.Sort at []int laid at this program (out of the library's own, proved over any program). -/
import Derived.Shelf.Sort.Plain
import Derived.Test.YthlmnhcnpffjdaaProg
import Derived.Test.YthlmnhcnpffjdaaOwnQ
import Derived.Lib.SlKeysI
import Derived.Shelf.Slices.In.SortNone
namespace Go.Proofs.Ythlmnhcnpffjdaa
open Go.Shelf Go.Proofs
def Try.lays189_ren : Go.Shelf.Ren := ⟨fun | 189 => 53 | 125 => 82 | 257 => 81 | 128 => 107 | 129 => 108 | 294 => 98 | 295 => 99 | 296 => 100 | 297 => 101 | 298 => 102 | 299 => 103 | 216 => 104 | 300 => 105 | 301 => 106 | 328 => 117 | 329 => 118 | 330 => 119 | 331 => 120 | 332 => 121 | 215 => 122 | 343 => 127 | n => n, fun | 28 => 22 | 3 => 3 | 46 => 99 | 0 => 0 | 51 => 117 | 53 => 119 | 4 => 4 | 183 => 111 | 182 => 110 | 131 => 58 | 5 => 5 | 9 => 9 | 218 => 120 | 222 => 124 | 228 => 126 | 229 => 127 | n => n, fun | n => n⟩
theorem Try.lays189 : Go.Proofs.Lays.n189 Try.prog Try.lays189_ren := {
  mixed := by kernel_rfl
  f125 := Try.func82.trans (congrArg some (by kernel_rfl))
  f128 := Try.func107.trans (congrArg some (by kernel_rfl))
  f129 := Try.func108.trans (congrArg some (by kernel_rfl))
  f189 := Try.func53.trans (congrArg some (by kernel_rfl))
  f215 := Try.func122.trans (congrArg some (by kernel_rfl))
  f216 := Try.func104.trans (congrArg some (by kernel_rfl))
  f257 := Try.func81.trans (congrArg some (by kernel_rfl))
  f294 := Try.func98.trans (congrArg some (by kernel_rfl))
  f295 := Try.func99.trans (congrArg some (by kernel_rfl))
  f296 := Try.func100.trans (congrArg some (by kernel_rfl))
  f297 := Try.func101.trans (congrArg some (by kernel_rfl))
  f298 := Try.func102.trans (congrArg some (by kernel_rfl))
  f299 := Try.func103.trans (congrArg some (by kernel_rfl))
  f300 := Try.func105.trans (congrArg some (by kernel_rfl))
  f301 := Try.func106.trans (congrArg some (by kernel_rfl))
  f328 := Try.func117.trans (congrArg some (by kernel_rfl))
  f329 := Try.func118.trans (congrArg some (by kernel_rfl))
  f330 := Try.func119.trans (congrArg some (by kernel_rfl))
  f331 := Try.func120.trans (congrArg some (by kernel_rfl))
  f332 := Try.func121.trans (congrArg some (by kernel_rfl))
  f343 := Try.func127.trans (congrArg some (by kernel_rfl))
  t0 := Try.underlying0
  a0 := Try.isAgg0
  z0 := Try.sizeOf0
  v0 := Try.zeroValue0
  t3 := Try.underlying3
  a3 := Try.isAgg3
  z3 := Try.sizeOf3
  v3 := Try.zeroValue3
  t4 := Try.underlying4
  a4 := Try.isAgg4
  z4 := Try.sizeOf4
  v4 := Try.zeroValue4
  t5 := Try.underlying5
  a5 := Try.isAgg5
  z5 := Try.sizeOf5
  v5 := Try.zeroValue5
  t9 := Try.underlying9
  a9 := Try.isAgg9
  z9 := Try.sizeOf9
  v9 := Try.zeroValue9
  t28 := Try.underlying22
  a28 := Try.isAgg22
  z28 := Try.sizeOf22
  v28 := Try.zeroValue22
  t46 := Try.underlying99
  a46 := Try.isAgg99
  z46 := Try.sizeOf99
  v46 := Try.zeroValue99
  t51 := Try.underlying117
  a51 := Try.isAgg117
  z51 := Try.sizeOf117
  v51 := Try.zeroValue117
  t53 := Try.underlying119
  a53 := Try.isAgg119
  z53 := Try.sizeOf119
  v53 := Try.zeroValue119
  t131 := Try.underlying58
  a131 := Try.isAgg58
  z131 := Try.sizeOf58
  v131 := Try.zeroValue58
  t182 := Try.underlying110
  a182 := Try.isAgg110
  z182 := Try.sizeOf110
  v182 := Try.zeroValue110
  t183 := Try.underlying111
  a183 := Try.isAgg111
  z183 := Try.sizeOf111
  v183 := Try.zeroValue111
  t218 := Try.underlying120
  a218 := Try.isAgg120
  z218 := Try.sizeOf120
  v218 := Try.zeroValue120
  t222 := Try.underlying124
  a222 := Try.isAgg124
  z222 := Try.sizeOf124
  v222 := Try.zeroValue124
  t228 := Try.underlying126
  a228 := Try.isAgg126
  z228 := Try.sizeOf126
  v228 := Try.zeroValue126
  t229 := Try.underlying127
  a229 := Try.isAgg127
  z229 := Try.sizeOf127
  v229 := Try.zeroValue127 }
open Go.Sort Go.RowKit in
theorem Try.slices_Sort_int (blk off cap : Nat) (zs : List Int) (w : World) (hH : Holds (Value.int .i64) w blk off zs.toArray) (hblk : blk < w.heap.size) (hsz : zs.length < 4611686018427387904) :
    Calls Try.prog 53 #[.slice (some ⟨blk, off, none⟩) zs.length cap] w fun e w' =>
      e = .returned (.tuple #[]) ∧ ∃ n os, w' = grow (putRow (Value.int .i64) (Sort.ahead w n) blk off (zs.mergeSort fun x y => decide (x ≤ y)).toArray) os := Any.slices_Sort_int Try.lays189 blk off cap zs w hH hblk hsz
end Go.Proofs.Ythlmnhcnpffjdaa

namespace Go.Proofs.Ythlmnhcnpffjdaa
open Go.RowKit Go.Sort

theorem sortNone (p : Option Addr) (cap : Nat) (w : World) :
    Calls Try.prog 53 #[.slice p 0 cap] w fun e w' => e = .returned (.tuple #[]) ∧ w' = w := Any.slices_Sort_int_none Try.lays189 p cap w

theorem Sort_own {B : Nat} {w : World} {v : Value} {l : List Nat} (h : Own B w v l) (hl : l.length ≤ 17592186044416) :
    Calls Try.prog 53 #[v] w fun e w' => e = .returned (.tuple #[]) ∧ ∃ l' : List Nat, l'.Perm l ∧ l'.Pairwise (· ≤ ·) ∧ Own B w' v l' ∧ (∀ w0, Below B w0 w → B ≤ w.heap.size → Below B w0 w') ∧ w.grownBy w' v.ownBlock := by
  obtain ⟨h0, h1⟩ := id h
  rcases h1 with ⟨rfl, hn⟩ | ⟨g, cap, cur, rfl, hbase, hheap, hc1, hc2, hc3, htake⟩
  · have hl0 : l = [] := List.length_eq_zero_iff.1 hn
    subst hl0
    refine (sortNone none 0 w).mono ?_
    rintro e w' ⟨rfl, rfl⟩
    exact ⟨rfl, [], List.Perm.refl _, List.Pairwise.nil, h, fun _ hb _ => hb, World.grownBy.refl _ _⟩
  · have hV : V l = (N l).map encZ := by simp [V, N]
    have hlen : (N l).length = l.length := N_len l
    rw [Nat.mul_one, hV] at htake
    have hg : g < w.heap.size := (Array.getElem?_eq_some_iff.1 hheap).1
    have H := Try.slices_Sort_int g 0 cap (N l) w (Go.Proofs.holds_of_block_i hheap (by rw [hlen]; exact htake)) hg (by rw [hlen]; omega)
    rw [hlen] at H
    refine H.mono ?_
    rintro e w' ⟨rfl, n, os, rfl⟩
    have hperm : ((N l).mergeSort fun x y => decide (x ≤ y)).Perm (N l) := List.mergeSort_perm _ _
    have hpair : ((N l).mergeSort fun x y => decide (x ≤ y)).Pairwise fun a b => decide (a ≤ b) = true :=
      List.pairwise_mergeSort (fun a b c h1 h2 => by simp at *; omega) (fun a b => by simp; omega) _
    generalize ((N l).mergeSort fun x y => decide (x ≤ y)) = ts at *
    have hnn : ∀ z ∈ ts, 0 ≤ z := fun z hz => by
      have := hperm.mem_iff.1 hz
      simp only [N, List.mem_map] at this
      obtain ⟨a, _, rfl⟩ := this
      omega
    have hts : N (ts.map Int.toNat) = ts := by
      unfold N
      rw [List.map_map]
      conv => rhs; rw [← List.map_id ts]
      exact List.map_congr_left fun z hz => by have := hnn z hz; simp; omega
    have hlt : ts.length = (N l).length := hperm.length_eq
    refine ⟨rfl, ts.map Int.toNat, ?_, ?_, ?_, ?_, Go.Proofs.grownBy_sorted_i _⟩
    · have := hperm.map Int.toNat
      have e : (N l).map Int.toNat = l := by simp [N, Function.comp_def]
      rw [e] at this
      exact this
    · rw [List.pairwise_map]
      exact hpair.imp fun h => by simp at h; omega
    · have := Go.Proofs.ownsRow_sorted_i (n := n) (os := os) hlt hbase hheap (by omega) hc2 hc3
      unfold Own
      have e2 : V (ts.map Int.toNat) = ts.map encZ := by
        conv => rhs; rw [← hts]
        simp [V, N]
      rw [e2]
      simpa [hlen, hlt] using this
    · intro w0 hb hB
      exact hb.grown (Go.Proofs.grownBy_sorted_i _) hB (fun k hk => by cases hk; exact hbase)
end Go.Proofs.Ythlmnhcnpffjdaa
