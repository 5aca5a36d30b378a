/- The contract of slices.Sort at []int laid at this program (out of the library's own, proved over any program). -/
import Derived.Shelf.Sort.Plain
import Derived.Test.YthbldeloocmakabGreatProg
import Derived.Test.YthbldeloocmakabGreatOwnQ
import Derived.Lib.SlKeysI
import Derived.Shelf.Slices.In.SortNone
namespace Go.Proofs.YthbldeloocmakabGreat
open Go.Shelf Go.Proofs
def Tryz.lays189_ren : Go.Shelf.Ren := ⟨fun | 189 => 86 | 125 => 99 | 257 => 98 | 128 => 114 | 129 => 115 | 294 => 106 | 295 => 107 | 296 => 108 | 297 => 109 | 298 => 110 | 299 => 111 | 216 => 81 | 300 => 112 | 301 => 113 | 328 => 117 | 329 => 118 | 330 => 119 | 331 => 120 | 332 => 121 | 215 => 95 | 343 => 122 | n => n, fun | 28 => 22 | 3 => 3 | 46 => 64 | 0 => 0 | 51 => 79 | 53 => 81 | 4 => 4 | 183 => 88 | 182 => 87 | 131 => 54 | 5 => 5 | 9 => 9 | 218 => 93 | 222 => 97 | 228 => 99 | 229 => 100 | n => n, fun | n => n⟩
theorem Tryz.lays189 : Go.Proofs.Lays.n189 Tryz.prog Tryz.lays189_ren := {
  mixed := by kernel_rfl
  f125 := Tryz.func99.trans (congrArg some (by kernel_rfl))
  f128 := Tryz.func114.trans (congrArg some (by kernel_rfl))
  f129 := Tryz.func115.trans (congrArg some (by kernel_rfl))
  f189 := Tryz.func86.trans (congrArg some (by kernel_rfl))
  f215 := Tryz.func95.trans (congrArg some (by kernel_rfl))
  f216 := Tryz.func81.trans (congrArg some (by kernel_rfl))
  f257 := Tryz.func98.trans (congrArg some (by kernel_rfl))
  f294 := Tryz.func106.trans (congrArg some (by kernel_rfl))
  f295 := Tryz.func107.trans (congrArg some (by kernel_rfl))
  f296 := Tryz.func108.trans (congrArg some (by kernel_rfl))
  f297 := Tryz.func109.trans (congrArg some (by kernel_rfl))
  f298 := Tryz.func110.trans (congrArg some (by kernel_rfl))
  f299 := Tryz.func111.trans (congrArg some (by kernel_rfl))
  f300 := Tryz.func112.trans (congrArg some (by kernel_rfl))
  f301 := Tryz.func113.trans (congrArg some (by kernel_rfl))
  f328 := Tryz.func117.trans (congrArg some (by kernel_rfl))
  f329 := Tryz.func118.trans (congrArg some (by kernel_rfl))
  f330 := Tryz.func119.trans (congrArg some (by kernel_rfl))
  f331 := Tryz.func120.trans (congrArg some (by kernel_rfl))
  f332 := Tryz.func121.trans (congrArg some (by kernel_rfl))
  f343 := Tryz.func122.trans (congrArg some (by kernel_rfl))
  t0 := Tryz.underlying0
  a0 := Tryz.isAgg0
  z0 := Tryz.sizeOf0
  v0 := Tryz.zeroValue0
  t3 := Tryz.underlying3
  a3 := Tryz.isAgg3
  z3 := Tryz.sizeOf3
  v3 := Tryz.zeroValue3
  t4 := Tryz.underlying4
  a4 := Tryz.isAgg4
  z4 := Tryz.sizeOf4
  v4 := Tryz.zeroValue4
  t5 := Tryz.underlying5
  a5 := Tryz.isAgg5
  z5 := Tryz.sizeOf5
  v5 := Tryz.zeroValue5
  t9 := Tryz.underlying9
  a9 := Tryz.isAgg9
  z9 := Tryz.sizeOf9
  v9 := Tryz.zeroValue9
  t28 := Tryz.underlying22
  a28 := Tryz.isAgg22
  z28 := Tryz.sizeOf22
  v28 := Tryz.zeroValue22
  t46 := Tryz.underlying64
  a46 := Tryz.isAgg64
  z46 := Tryz.sizeOf64
  v46 := Tryz.zeroValue64
  t51 := Tryz.underlying79
  a51 := Tryz.isAgg79
  z51 := Tryz.sizeOf79
  v51 := Tryz.zeroValue79
  t53 := Tryz.underlying81
  a53 := Tryz.isAgg81
  z53 := Tryz.sizeOf81
  v53 := Tryz.zeroValue81
  t131 := Tryz.underlying54
  a131 := Tryz.isAgg54
  z131 := Tryz.sizeOf54
  v131 := Tryz.zeroValue54
  t182 := Tryz.underlying87
  a182 := Tryz.isAgg87
  z182 := Tryz.sizeOf87
  v182 := Tryz.zeroValue87
  t183 := Tryz.underlying88
  a183 := Tryz.isAgg88
  z183 := Tryz.sizeOf88
  v183 := Tryz.zeroValue88
  t218 := Tryz.underlying93
  a218 := Tryz.isAgg93
  z218 := Tryz.sizeOf93
  v218 := Tryz.zeroValue93
  t222 := Tryz.underlying97
  a222 := Tryz.isAgg97
  z222 := Tryz.sizeOf97
  v222 := Tryz.zeroValue97
  t228 := Tryz.underlying99
  a228 := Tryz.isAgg99
  z228 := Tryz.sizeOf99
  v228 := Tryz.zeroValue99
  t229 := Tryz.underlying100
  a229 := Tryz.isAgg100
  z229 := Tryz.sizeOf100
  v229 := Tryz.zeroValue100 }
open Go.Sort Go.RowKit in
theorem Tryz.slices_Sort_int (blk off cap : Nat) (zs : List Int) (w : World) (hH : Holds (Value.int .i64) w blk off zs.toArray) (hblk : blk < w.heap.size) (hsz : zs.length < 4611686018427387904) :
    Calls Tryz.prog 86 #[.slice (some ⟨blk, off, none⟩) zs.length cap] w fun e w' =>
      e = .returned (.tuple #[]) ∧ ∃ n os, w' = grow (putRow (Value.int .i64) (Sort.ahead w n) blk off (zs.mergeSort fun x y => decide (x ≤ y)).toArray) os := Any.slices_Sort_int Tryz.lays189 blk off cap zs w hH hblk hsz
end Go.Proofs.YthbldeloocmakabGreat

namespace Go.Proofs.YthbldeloocmakabGreat
open Go.RowKit Go.Sort

theorem sortNone (p : Option Addr) (cap : Nat) (w : World) :
    Calls Tryz.prog 86 #[.slice p 0 cap] w fun e w' => e = .returned (.tuple #[]) ∧ w' = w := Any.slices_Sort_int_none Tryz.lays189 p cap w

theorem Sort_own {B : Nat} {w : World} {v : Value} {l : List Nat} (h : Own B w v l) (hl : l.length ≤ 17592186044416) :
    Calls Tryz.prog 86 #[v] w fun e w' => e = .returned (.tuple #[]) ∧ ∃ l' : List Nat, l'.Perm l ∧ l'.Pairwise (· ≤ ·) ∧ Own B w' v l' ∧ (∀ w0, Below B w0 w → B ≤ w.heap.size → Below B w0 w') ∧ w.grownBy w' v.ownBlock := by
  obtain ⟨h0, h1⟩ := id h
  rcases h1 with ⟨rfl, hn⟩ | ⟨g, cap, cur, rfl, hbase, hheap, hc1, hc2, hc3, htake⟩
  · have hl0 : l = [] := List.length_eq_zero_iff.1 hn
    subst hl0
    refine (sortNone none 0 w).mono ?_
    rintro e w' ⟨rfl, rfl⟩
    exact ⟨rfl, [], List.Perm.refl _, List.Pairwise.nil, h, fun _ hb _ => hb, World.grownBy.refl _ _⟩
  · have hV : V l = (N l).map encZ := by simp [V, N]
    have hlen : (N l).length = l.length := N_len l
    rw [Nat.mul_one, hV] at htake
    have hg : g < w.heap.size := (Array.getElem?_eq_some_iff.1 hheap).1
    have H := Tryz.slices_Sort_int g 0 cap (N l) w (Go.Proofs.holds_of_block_i hheap (by rw [hlen]; exact htake)) hg (by rw [hlen]; omega)
    rw [hlen] at H
    refine H.mono ?_
    rintro e w' ⟨rfl, n, os, rfl⟩
    have hperm : ((N l).mergeSort fun x y => decide (x ≤ y)).Perm (N l) := List.mergeSort_perm _ _
    have hpair : ((N l).mergeSort fun x y => decide (x ≤ y)).Pairwise fun a b => decide (a ≤ b) = true :=
      List.pairwise_mergeSort (fun a b c h1 h2 => by simp at *; omega) (fun a b => by simp; omega) _
    generalize ((N l).mergeSort fun x y => decide (x ≤ y)) = ts at *
    have hnn : ∀ z ∈ ts, 0 ≤ z := fun z hz => by
      have := hperm.mem_iff.1 hz
      simp only [N, List.mem_map] at this
      obtain ⟨a, _, rfl⟩ := this
      omega
    have hts : N (ts.map Int.toNat) = ts := by
      unfold N
      rw [List.map_map]
      conv => rhs; rw [← List.map_id ts]
      exact List.map_congr_left fun z hz => by have := hnn z hz; simp; omega
    have hlt : ts.length = (N l).length := hperm.length_eq
    refine ⟨rfl, ts.map Int.toNat, ?_, ?_, ?_, ?_, Go.Proofs.grownBy_sorted_i _⟩
    · have := hperm.map Int.toNat
      have e : (N l).map Int.toNat = l := by simp [N, Function.comp_def]
      rw [e] at this
      exact this
    · rw [List.pairwise_map]
      exact hpair.imp fun h => by simp at h; omega
    · have := Go.Proofs.ownsRow_sorted_i (n := n) (os := os) hlt hbase hheap (by omega) hc2 hc3
      unfold Own
      have e2 : V (ts.map Int.toNat) = ts.map encZ := by
        conv => rhs; rw [← hts]
        simp [V, N]
      rw [e2]
      simpa [hlen, hlt] using this
    · intro w0 hb hB
      exact hb.grown (Go.Proofs.grownBy_sorted_i _) hB (fun k hk => by cases hk; exact hbase)
end Go.Proofs.YthbldeloocmakabGreat
