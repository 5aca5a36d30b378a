/- slices.Sort over a list of the call's own. -/
import Derived.Test.YtomajfpincehnaaSortQ
import Derived.Test.YtomajfpincehnaaOwnQ
import Derived.Lib.SlKeysI
import Derived.Shelf.Slices.In.SortNone
namespace Go.Proofs.Ytomajfpincehnaa
open Go.RowKit Go.Sort

theorem sortNone (p : Option Addr) (cap : Nat) (w : World) :
    Calls Try.prog 7 #[.slice p 0 cap] w fun e w' => e = .returned (.tuple #[]) ∧ w' = w := Any.slices_Sort_int_none Try.lays189 p cap w

theorem Sort_own {B : Nat} {w : World} {v : Value} {l : List Nat} (h : Own B w v l) (hl : l.length ≤ 17592186044416) :
    Calls Try.prog 7 #[v] w fun e w' => e = .returned (.tuple #[]) ∧ ∃ l' : List Nat, l'.Perm l ∧ l'.Pairwise (· ≤ ·) ∧ Own B w' v l' ∧ (∀ w0, Below B w0 w → B ≤ w.heap.size → Below B w0 w') ∧ w.grownBy w' v.ownBlock := by
  obtain ⟨h0, h1⟩ := id h
  rcases h1 with ⟨rfl, hn⟩ | ⟨g, cap, cur, rfl, hbase, hheap, hc1, hc2, hc3, htake⟩
  · have hl0 : l = [] := List.length_eq_zero_iff.1 hn
    subst hl0
    refine (sortNone none 0 w).mono ?_
    rintro e w' ⟨rfl, rfl⟩
    exact ⟨rfl, [], List.Perm.refl _, List.Pairwise.nil, h, fun _ hb _ => hb, World.grownBy.refl _ _⟩
  · have hV : V l = (N l).map encZ := by simp [V, N]
    have hlen : (N l).length = l.length := N_len l
    rw [Nat.mul_one, hV] at htake
    have hg : g < w.heap.size := (Array.getElem?_eq_some_iff.1 hheap).1
    have H := Try.slices_Sort_int g 0 cap (N l) w (Go.Proofs.holds_of_block_i hheap (by rw [hlen]; exact htake)) hg (by rw [hlen]; omega)
    rw [hlen] at H
    refine H.mono ?_
    rintro e w' ⟨rfl, n, os, rfl⟩
    have hperm : ((N l).mergeSort fun x y => decide (x ≤ y)).Perm (N l) := List.mergeSort_perm _ _
    have hpair : ((N l).mergeSort fun x y => decide (x ≤ y)).Pairwise fun a b => decide (a ≤ b) = true :=
      List.pairwise_mergeSort (fun a b c h1 h2 => by simp at *; omega) (fun a b => by simp; omega) _
    generalize ((N l).mergeSort fun x y => decide (x ≤ y)) = ts at *
    have hnn : ∀ z ∈ ts, 0 ≤ z := fun z hz => by
      have := hperm.mem_iff.1 hz
      simp only [N, List.mem_map] at this
      obtain ⟨a, _, rfl⟩ := this
      omega
    have hts : N (ts.map Int.toNat) = ts := by
      unfold N
      rw [List.map_map]
      conv => rhs; rw [← List.map_id ts]
      exact List.map_congr_left fun z hz => by have := hnn z hz; simp; omega
    have hlt : ts.length = (N l).length := hperm.length_eq
    refine ⟨rfl, ts.map Int.toNat, ?_, ?_, ?_, ?_, Go.Proofs.grownBy_sorted_i _⟩
    · have := hperm.map Int.toNat
      have e : (N l).map Int.toNat = l := by simp [N, Function.comp_def]
      rw [e] at this
      exact this
    · rw [List.pairwise_map]
      exact hpair.imp fun h => by simp at h; omega
    · have := Go.Proofs.ownsRow_sorted_i (n := n) (os := os) hlt hbase hheap (by omega) hc2 hc3
      unfold Own
      have e2 : V (ts.map Int.toNat) = ts.map encZ := by
        conv => rhs; rw [← hts]
        simp [V, N]
      rw [e2]
      simpa [hlen, hlt] using this
    · intro w0 hb hB
      exact hb.grown (Go.Proofs.grownBy_sorted_i _) hB (fun k hk => by cases hk; exact hbase)
end Go.Proofs.Ytomajfpincehnaa
