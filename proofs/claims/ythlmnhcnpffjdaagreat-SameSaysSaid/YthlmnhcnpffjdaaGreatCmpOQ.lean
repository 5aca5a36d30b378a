/- slices.Compact over a sorted list of the call's own (out of the library's own contract, proved over any program). -/
import Derived.Shelf.Slices.CompactI
import Derived.Lib.SlKeysI
import Derived.Test.YthlmnhcnpffjdaaGreatOrdXQ
namespace Go.Proofs.YthlmnhcnpffjdaaGreat
open Go.RowKit Go.Sort Go.Lib Go.Shelf

def Tryz.lays20_ren : Go.Shelf.Ren := ⟨fun | 20 => 42 | n => n, fun | 0 => 0 | 3 => 3 | 4 => 4 | 22 => 22 | n => n, fun n => n⟩
theorem Tryz.lays20 : Lays2.n20 Tryz.prog Tryz.lays20_ren := {
  mixed := by kernel_rfl
  f20 := Tryz.func42.trans (congrArg some (by kernel_rfl))
  t0 := Tryz.underlying0
  a0 := Tryz.isAgg0
  z0 := Tryz.sizeOf0
  v0 := Tryz.zeroValue0
  t3 := Tryz.underlying3
  a3 := Tryz.isAgg3
  z3 := Tryz.sizeOf3
  v3 := Tryz.zeroValue3
  t4 := Tryz.underlying4
  a4 := Tryz.isAgg4
  z4 := Tryz.sizeOf4
  v4 := Tryz.zeroValue4
  t22 := Tryz.underlying22
  a22 := Tryz.isAgg22
  z22 := Tryz.sizeOf22
  v22 := Tryz.zeroValue22
  i3 := Tryz.infoInt }
/-- What is left of a sorted list: each once. -/
theorem upTo_spec {d : Array Int} (hs : ∀ i j, i < j → j < d.size → d[i]! ≤ d[j]!) : ∀ m, m ≤ d.size → (compactUpTo d m).Pairwise (· < ·) ∧ (∀ x, x ∈ compactUpTo d m ↔ ∃ j, j < m ∧ d[j]! = x) ∧ ∀ x ∈ compactUpTo d m, 0 < m → x ≤ d[m - 1]!
  | 0, _ => ⟨by simp [compactUpTo], fun x => by simp [compactUpTo], fun x hx => by simp [compactUpTo] at hx⟩
  | m + 1, hm => by
    obtain ⟨h1, h2, h3⟩ := upTo_spec hs m (by omega)
    rw [compactUpTo_succ]
    by_cases hk : keeps d m = true
    · rw [if_pos hk]
      have hlt : ∀ x ∈ compactUpTo d m, x < d[m]! := fun x hx => by
        have h0 : 0 < m := by
          obtain ⟨j, hj, _⟩ := (h2 x).1 hx
          omega
        have h4 := h3 x hx h0
        have h5 := hs (m - 1) m (by omega) (by omega)
        have h6 : d[m]! ≠ d[m - 1]! := by
          unfold keeps at hk
          rcases of_decide_eq_true hk with e | e
          · omega
          · exact e
        omega
      refine ⟨?_, fun x => ?_, fun x hx _ => ?_⟩
      · rw [List.pairwise_append]
        exact ⟨h1, by simp, fun a ha b hb => by rw [List.mem_singleton.1 hb]; exact hlt a ha⟩
      · rw [List.mem_append, List.mem_singleton, h2]
        constructor
        · rintro (⟨j, hj, e⟩ | e)
          · exact ⟨j, by omega, e⟩
          · exact ⟨m, by omega, e.symm⟩
        · rintro ⟨j, hj, e⟩
          by_cases c : j < m
          · exact .inl ⟨j, c, e⟩
          · obtain rfl : j = m := by omega
            exact .inr e.symm
      · rw [Nat.add_sub_cancel]
        rcases List.mem_append.1 hx with hx | hx
        · have := hlt x hx
          omega
        · rw [List.mem_singleton.1 hx]
          exact Int.le_refl _
    · rw [if_neg hk, List.append_nil]
      have hk2 : m ≠ 0 ∧ d[m]! = d[m - 1]! := by
        unfold keeps at hk
        rw [decide_eq_true_iff] at hk
        exact ⟨fun e => hk (.inl e), Classical.byContradiction fun e => hk (.inr e)⟩
      refine ⟨h1, fun x => ?_, fun x hx _ => ?_⟩
      · rw [h2]
        constructor
        · rintro ⟨j, hj, e⟩
          exact ⟨j, by omega, e⟩
        · rintro ⟨j, hj, e⟩
          by_cases c : j < m
          · exact ⟨j, c, e⟩
          · obtain rfl : j = m := by omega
            exact ⟨j - 1, by omega, by rw [← hk2.2]; exact e⟩
      · rw [Nat.add_sub_cancel, hk2.2]
        exact h3 x hx (by omega)
theorem Compact_own {B : Nat} {w : World} {v : Value} {l : List Nat} (h : Own B w v l) (hl : l.length ≤ 256) (hs : l.Pairwise (· ≤ ·)) :
    Calls Tryz.prog 42 #[v] w fun e w' => ∃ v' L, e = .returned v' ∧ L.Pairwise (· < ·) ∧ (∀ x, x ∈ L ↔ x ∈ l) ∧ Own B w' v' L ∧ w.grownBy w' v.ownBlock := by
  obtain ⟨h0, h1⟩ := id h
  rcases h1 with ⟨rfl, hn⟩ | ⟨g, cap, cur, rfl, hbase, hheap, hc1, hc2, hc3, htake⟩
  · have hl0 : l = [] := List.length_eq_zero_iff.1 hn
    subst hl0
    refine (Any.slices_Compact_int_empty Tryz.lays20 none 0 w).mono ?_
    rintro e w' ⟨rfl, rfl⟩
    exact ⟨_, [], rfl, List.Pairwise.nil, fun x => Iff.rfl, h, World.grownBy.refl _ _⟩
  · have hV : V l = (N l).map encZ := by simp [V, N]
    have hlen : (N l).length = l.length := N_len l
    rw [Nat.mul_one, hV] at htake
    have H := Any.slices_Compact_int Tryz.lays20 g 0 cap (N l) w (Go.Proofs.holds_of_block_i hheap (by rw [hlen]; exact htake)) (by rw [hlen]; omega) (by rw [hlen]; exact hc1)
    rw [hlen] at H
    refine H.mono ?_
    have hsz : (N l).toArray.size = l.length := by simp [hlen]
    have hat : ∀ j, j < l.length → (N l).toArray[j]! = (l.getD j 0 : Nat) := fun j hj => by
      rw [getElem!_pos _ _ (by rw [hsz]; exact hj)]
      simp [N, List.getD, hj]
    have hmono : ∀ i j, i < j → j < (N l).toArray.size → (N l).toArray[i]! ≤ (N l).toArray[j]! := fun i j hij hj => by
      rw [hsz] at hj
      rw [hat i (by omega), hat j hj]
      have := List.pairwise_iff_getElem.1 hs i j (by omega) hj hij
      simp only [List.getD, List.getElem?_eq_getElem (show i < l.length by omega), List.getElem?_eq_getElem hj, Option.getD_some]
      omega
    obtain ⟨s1, s2, _⟩ := upTo_spec hmono (N l).length (by simp)
    rw [show compactUpTo (N l).toArray (N l).length = compact (N l) from rfl] at s1 s2
    rintro e w' ⟨rfl, q, rfl⟩
    have hmem : ∀ x, x ∈ compact (N l) ↔ ∃ y ∈ l, (y : Int) = x := fun x => by
      rw [s2]
      constructor
      · rintro ⟨j, hj, e⟩
        rw [hlen] at hj
        rw [hat j hj] at e
        exact ⟨_, by simp [List.getD, hj], e⟩
      · rintro ⟨y, hy, e⟩
        obtain ⟨j, hj, e2⟩ := List.getElem_of_mem hy
        refine ⟨j, by rw [hlen]; exact hj, ?_⟩
        rw [hat j hj]
        simp only [List.getD, List.getElem?_eq_getElem hj, Option.getD_some, e2]
        exact e
    have hcl : (compact (N l)).length ≤ l.length := by
      unfold compact compactUpTo
      rw [List.length_map]
      exact Nat.le_trans (List.length_filter_le _ _) (by rw [List.length_range, hlen]; exact Nat.le_refl _)
    generalize compact (N l) = cs at *
    have hcs : cs = N (cs.map Int.toNat) := by
      unfold N
      rw [List.map_map]
      conv => lhs; rw [← List.map_id cs]
      exact List.map_congr_left fun z hz => by
        obtain ⟨y, _, rfl⟩ := (hmem z).1 hz
        simp
    refine ⟨_, cs.map Int.toNat, rfl, ?_, fun x => ?_, ?_, ?_⟩
    · rw [List.pairwise_map]
      refine List.Pairwise.imp_of_mem (fun {a b} ha hb hab => ?_) s1
      obtain ⟨y, _, rfl⟩ := (hmem a).1 ha
      obtain ⟨z, _, rfl⟩ := (hmem b).1 hb
      simp
      omega
    · rw [List.mem_map]
      constructor
      · rintro ⟨z, hz, rfl⟩
        obtain ⟨y, hy, rfl⟩ := (hmem z).1 hz
        simpa using hy
      · intro hx
        exact ⟨(x : Int), (hmem _).2 ⟨x, hx, rfl⟩, by simp⟩
    · have hr := Go.Proofs.ownsRow_sorted_i (n := q) (os := #[]) (ss := N l) (ts := cs ++ List.replicate (l.length - cs.length) 0) (by simp [hlen]; omega) hbase hheap (by rw [hlen]; exact hc1) hc2 hc3
      rw [Go.Sort.grow_empty] at hr
      have e2 : (cs ++ List.replicate (l.length - cs.length) 0).map encZ = V (cs.map Int.toNat ++ List.replicate (l.length - cs.length) 0) := by
        rw [List.map_append]
        conv => lhs; rw [hcs]
        simp [V, N]
      rw [e2, hlen] at hr
      have hl2 : (cs.map Int.toNat ++ List.replicate (l.length - cs.length) 0).length = l.length := by simp; omega
      have ho : Own B (putRow encZ (Sort.ahead w q) g 0 (cs ++ List.replicate (l.length - cs.length) 0).toArray) (.slice (some ⟨g, 0, none⟩) (cs.map Int.toNat ++ List.replicate (l.length - cs.length) 0).length cap) (cs.map Int.toNat ++ List.replicate (l.length - cs.length) 0) := by
        unfold Own
        rw [hl2]
        exact hr
      have hf := ho.front
      rw [List.length_map] at hf
      exact hf
    · have := Go.Proofs.grownBy_sorted_i (w := w) (g := g) (n := q) (os := #[]) (cs ++ List.replicate (l.length - cs.length) 0).toArray
      rw [Go.Sort.grow_empty] at this
      exact this
end Go.Proofs.YthlmnhcnpffjdaaGreat
