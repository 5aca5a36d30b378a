/- What graphs and matrices read as. -/
import Derived.Test.YtjnifcfcigcngaaKLmW
import Derived.OpenShut
import Derived.Deep.SlicePairs
import Derived.Deep.Matrix
import Derived.SizedLaws
import Derived.Lib.SmallJoins
namespace Go.Proofs.Ytjnifcfcigcngaa
open Go.RowKit Go.ChangeShapes Go.WideShapes Go.Deep Go.Joins

theorem undEdges : Try.prog.underlying 22 = some (.slice 42) := by kernel_rfl
theorem fieldsEdge : ∃ f0 f1 : Field, Try.prog.underlying 42 = some (.struct #[f0, f1]) ∧ Try.prog.cellsOf 42 = 2 ∧ f0.offset = 0 ∧ f1.offset = 1 ∧ Try.prog.cellsOf f0.type = 1 ∧ Try.prog.cellsOf f1.type = 1 ∧ f0.type = 3 ∧ f1.type = 3 :=
  ⟨_, _, Try.underlying42, by kernel_rfl, rfl, rfl, by kernel_rfl, by kernel_rfl, rfl, rfl⟩
theorem edges_of {H : Type} {enc : TypeId × Value → H} {W : World} {fuel : Nat} {v : Value} {y : DataW H × List MemPlace} (h : DataW.trod enc Try.prog W 0 (fun _ => true) true fuel 22 [v] = some y)
    (hb : ∀ elems spare, y.1 = .slice elems spare → elems.length ≤ 17592186044416) : ∃ F, EdgesI W v F := by
  obtain ⟨f0, f1, hu, h2, o0, o1, k0, k1, t0, t1⟩ := fieldsEdge
  rcases open_slice_pairs undEdges hu h2 o0 o1 k0 k1 h with ⟨hcs, _⟩ | ⟨a, len, cap, m, n, V0, V1, D0, D1, P0, P1, hcs, _, hl, hm, hmm, hx, hc⟩
  · obtain rfl : v = .slice none 0 0 := by simpa using hcs
    exact ⟨[], none, 0, rfl, by simp, fun h => by simp at h⟩
  · obtain rfl : v = .slice (some a) len cap := by simpa using hcs
    simp only [if_true] at hmm
    have hle := hb _ _ (by rw [hx])
    rw [List.length_map, List.length_range] at hle
    rw [t0, t1] at hc
    have hz : ∀ i, i < len → ∃ e : Int × Int, V0 i = .int .i64 e.1 ∧ V1 i = .int .i64 e.2 := fun i hi => by
      obtain ⟨_, _, h3, h4⟩ := hc i (by omega)
      obtain ⟨a0, e0, _, _⟩ := DataW.trod_int Try.underlying3 h3
      obtain ⟨a1, e1, _, _⟩ := DataW.trod_int Try.underlying3 h4
      exact ⟨(a0, a1), by simpa using e0, by simpa using e1⟩
    refine ⟨(List.range len).map fun i => if hi : i < len then Classical.choose (hz i hi) else (0, 0), some a, cap, by rw [List.length_map, List.length_range], by rw [List.length_map, List.length_range]; exact hle, fun hn => ?_⟩
    rw [List.length_map, List.length_range] at hn
    obtain ⟨b, off, spot⟩ := a
    have hspot : spot = none := by simpa [Addr.add] using World.cell?_spot (hc 0 (by omega)).1
    subst hspot
    refine ⟨b, off, rfl, World.block_lt_of_cell? W ⟨b, off, none⟩ (by simpa [Addr.add] using (hc 0 (by omega)).1), fun i hi => ?_⟩
    rw [List.length_map, List.length_range] at hi
    obtain ⟨h3, h4, _, _⟩ := hc i (by omega)
    rw [add_plain] at h3 h4
    have hg : ((List.range len).map fun i => if hi : i < len then Classical.choose (hz i hi) else (0, 0)).getD i (0, 0) = Classical.choose (hz i hi) := by
      simp [List.getD, hi]
    rw [hg]
    obtain ⟨e0, e1⟩ := Classical.choose_spec (hz i hi)
    rw [e0] at h3
    rw [e1] at h4
    exact ⟨h3, h4⟩
theorem undRows : Try.prog.underlying 29 = some (.slice 43) := by kernel_rfl
theorem rows_of {H : Type} {enc : TypeId × Value → H} {W : World} {fuel : Nat} {v : Value} {y : DataW H × List MemPlace} (h : DataW.trod enc Try.prog W 0 (fun _ => true) true fuel 29 [v] = some y)
    (hb : ∀ elems spare, y.1 = .slice elems spare → elems.length ≤ 17592186044416 ∧ ∀ e ∈ elems, ∀ es sp, e = .slice es sp → es.length ≤ 17592186044416) : ∃ R, RowsI W v R := by
  rcases open_int_rows undRows Try.underlying43 Try.underlying3 (by kernel_rfl) (by kernel_rfl) h with ⟨hcs, _⟩ | ⟨a, len, cap, A, L, C, Z, hcs, _, hl, hm, hx, hc⟩
  · obtain rfl : v = .slice none 0 0 := by simpa using hcs
    exact ⟨[], none, 0, rfl, by simp, fun h => by simp at h⟩
  · obtain rfl : v = .slice (some a) len cap := by simpa using hcs
    obtain ⟨hle, hrow⟩ := hb _ _ (by rw [hx])
    rw [List.length_map, List.length_range] at hle
    refine ⟨(List.range len).map fun i => (Z i).take (L i), some a, cap, by rw [List.length_map, List.length_range], by rw [List.length_map, List.length_range]; exact hle, fun hn => ?_⟩
    rw [List.length_map, List.length_range] at hn
    obtain ⟨b, off, spot⟩ := a
    have hspot : spot = none := by simpa [Addr.add] using World.cell?_spot (hc 0 (by omega)).1
    subst hspot
    refine ⟨b, off, rfl, World.block_lt_of_cell? W ⟨b, off, none⟩ (by simpa [Addr.add] using (hc 0 (by omega)).1), fun i hi => ?_⟩
    rw [List.length_map, List.length_range] at hi
    obtain ⟨h3, h4, h5, h6, _, h7, h8⟩ := hc i (by omega)
    rw [add_plain] at h3
    have hg : ((List.range len).map fun i => (Z i).take (L i)).getD i [] = (Z i).take (L i) := by simp [List.getD, hi]
    rw [hg]
    have hll : ((Z i).take (L i)).length = L i := by rw [List.length_take, h6]; omega
    refine ⟨_, h3, A i, C i, by rw [hll], ?_, fun hp => ?_⟩
    · have h9 := hrow (intRow .i64 (A i) (L i) (Z i)) (List.mem_map.2 ⟨i, List.mem_range.2 hi, rfl⟩)
      cases hA : A i with
      | none => rw [hll]; have := h7 hA; omega
      | some a' =>
        rw [hA] at h9
        have := h9 _ _ rfl
        rwa [lits, List.length_map] at this
    · rw [hll] at hp
      cases hA : A i with
      | none => have := h7 hA; omega
      | some a' =>
        obtain ⟨_, h9⟩ := h8 a' hA
        obtain ⟨b', off', spot'⟩ := a'
        have hspot' : spot' = none := by simpa [Addr.add] using World.cell?_spot (h9 0 (by omega))
        subst hspot'
        refine ⟨b', off', rfl, World.block_lt_of_cell? W ⟨b', off', none⟩ (by simpa [Addr.add] using h9 0 (by omega)), fun j hj => ?_⟩
        rw [hll] at hj
        have h10 := h9 j (by omega)
        rw [add_plain] at h10
        rw [h10]
        simp [List.getD, hj]
theorem bytesEdge : Try.prog.bytesOf 42 = 16 := by kernel_rfl
theorem bytesInts : Try.prog.bytesOf 43 = 24 := by kernel_rfl
theorem bytesOne : Try.prog.bytesOf 3 = 8 := by kernel_rfl
theorem fieldsGraph : ∃ f0 f1 : Field, Try.prog.underlying 24 = some (.struct #[f0, f1]) ∧ f0.type = 3 ∧ f1.type = 22 ∧ oneCellFields Try.prog #[f0, f1] = true ∧ Try.prog.cellsOf 24 = 2 :=
  ⟨_, _, Try.underlying24, rfl, rfl, by kernel_rfl, by kernel_rfl⟩
set_option maxRecDepth 100000 in
theorem open_graph {H : Type} {enc : TypeId × Value → H} {W : World} {r : Reach} {b0 : Nat} {v : Value} {d : DataW H} {p : List MemPlace} {ts : List TypeId} {ds : List (DataW H)} {j : Nat} (hval : Value.okWide Try.prog W r b0 24 v) (h : DataW.Trod enc Try.prog W 0 (fun _ => true) true 24 v d p)
    (hsz : (DataW.weightsEach Try.prog ts ds).all (· ≤ reachBytes) = true) (ht : ts[j]? = some 24) (hd : ds[j]? = some d) : ∃ n u F, v = .agg #[.int .i64 n, u] ∧ EdgesI W u F := by
  obtain ⟨f0, f1, hu, hf0, hf1, hone, hcells⟩ := fieldsGraph
  obtain ⟨c0, c1, y0, y1, n, rfl, rfl, rfl, hy0, hy1⟩ := open_agg2 hu hone hcells hval h
  rw [hf0] at hy0
  rw [hf1] at hy1
  obtain ⟨a0, hc0, _, _⟩ := DataW.trod_int Try.underlying3 hy0
  obtain rfl : c0 = .int .i64 a0 := by simpa using hc0
  obtain ⟨F, hF⟩ := edges_of hy1 fun elems spare he => by
    rw [he] at hd
    have hm := List.all_eq_true.1 hsz _ (DataW.weights_mem_each ht hd ((elems.length + spare.length) * Try.prog.bytesOf 42) (by simp [DataW.weights, DataW.weightsEach, hu, hf1]))
    have hm2 : (elems.length + spare.length) * Try.prog.bytesOf 42 ≤ reachBytes := of_decide_eq_true hm
    rw [bytesEdge] at hm2
    unfold reachBytes at hm2
    omega
  exact ⟨a0, c1, F, rfl, hF⟩
theorem weightsAll_mem {H : Type} {P : Program} {e : TypeId} {d : DataW H} {n : Nat} (hn : n ∈ d.weights P e) : ∀ {l : List (DataW H)}, d ∈ l → n ∈ DataW.weightsAll P e l
  | x :: l, h => by
    rw [DataW.weightsAll, List.mem_append]
    rcases List.mem_cons.1 h with rfl | h
    · exact .inl hn
    · exact .inr (weightsAll_mem hn h)
end Go.Proofs.Ytjnifcfcigcngaa
