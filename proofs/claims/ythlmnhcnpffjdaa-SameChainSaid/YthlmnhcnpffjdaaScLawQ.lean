/- The law rotakeep.SameChain. -/
import Derived.Test.YthlmnhcnpffjdaaMnBQ
import Derived.Test.YthlmnhcnpffjdaaPlainAll
namespace Go.Proofs.Ythlmnhcnpffjdaa
open Go.RowKit

/-- Two matroids, the other one a minor of the one. -/
def GoodMin (n : Int) (zs : List Int) (k : Int) (ys : List Int) : Prop := ∃ (m j : Nat) (l l' : List Nat), n = m ∧ zs = N l ∧ k = j ∧ ys = N l' ∧ m ≤ 8 ∧ Fam m l ∧ Bas l ∧ j ≤ 8 ∧ Fam j l' ∧ Bas l' ∧ (minO m l j l').isSome = true
theorem minE_iff {s : Option (Nat × Nat)} : minE s = 0 ↔ s.isSome = true := by
  unfold minE
  cases s <;> simp
/-- What Minor answers, whatever is handed in. -/
theorem minor_is (n k : Int) (zs ys : List Int) : ∃ x y q : Int, (q = 0 ↔ GoodMin n zs k ys) ∧ ∀ v u w, Ints w v zs → Ints w u ys → Calls Try.prog 8 #[.agg #[.int .i64 n, v], .agg #[.int .i64 k, u]] w fun e w' => e = .returned (.tuple #[.int .i64 x, .int .i64 y, .int .i64 q]) ∧ Below w.heap.size w w' := by
  by_cases hc : chk2 n zs k ys = 0
  · have h1 : chkR n zs = 0 := by
      unfold chk2 at hc
      split at hc
      · assumption
      · exact hc
    have h2 : chkR k ys = 0 := by
      unfold chk2 at hc
      rwa [if_pos h1] at hc
    obtain ⟨m, l, rfl, hm, rfl, hf, hb⟩ := chk_of h1
    obtain ⟨j, l', rfl, hj, rfl, hf', hb'⟩ := chk_of h2
    refine ⟨_, _, minE (minO m l j l'), ?_, fun v u w h h' => Minor_ok m j v u l l' w hm hf hb h hj hf' hb' h'⟩
    rw [minE_iff]
    constructor
    · intro h
      exact ⟨m, j, l, l', rfl, rfl, rfl, rfl, hm, hf, hb, hj, hf', hb', h⟩
    · rintro ⟨m2, j2, l2, l2', e1, e2, e3, e4, _, _, _, _, _, _, h⟩
      obtain rfl : m = m2 := by omega
      obtain rfl : j = j2 := by omega
      rw [N_inj e2, N_inj e4]
      exact h
  · refine ⟨0, 0, chk2 n zs k ys, ?_, fun v u w h h' => Minor_bad n k v u zs ys w h h' hc⟩
    constructor
    · intro h; exact absurd h hc
    · rintro ⟨m2, j2, l2, l2', rfl, rfl, rfl, rfl, h1, h2, h3, h4, h5, h6, _⟩
      exfalso
      apply hc
      unfold chk2
      rw [chk_mk h1 h2 h3, chk_mk h4 h5 h6]
      rfl
theorem GoodMin.chain {a b c : Int} {xs ys zs : List Int} (h1 : GoodMin a xs b ys) (h2 : GoodMin b ys c zs) : GoodMin a xs c zs := by
  obtain ⟨m, j, l, l', rfl, rfl, rfl, rfl, hm, hf, hb, hj, hf', hb', hs⟩ := h1
  obtain ⟨j2, i, l2, l3, e1, e2, rfl, rfl, _, _, _, hi, hfi, hbi, hs2⟩ := h2
  obtain rfl : j = j2 := by omega
  obtain rfl := N_inj e2
  exact ⟨m, i, l, l3, rfl, rfl, rfl, rfl, hm, hf, hb, hi, hfi, hbi, min_chain hm hb hj hf' hb' hi hfi hbi hs hs2⟩
theorem small_none : minO 1 [1] 4 twoL = none := by
  unfold minO
  rw [List.findSome?_eq_none_iff]
  intro d hd
  have hlt := pop_le (dif (2 ^ 1 - 1) d) (dif_lt (by decide))
  have hd2 := List.mem_range.1 hd
  have : d = 0 ∨ d = 1 := by omega
  rcases this with rfl | rfl <;> rfl
theorem one_fam : Fam 1 [1] := ⟨by decide, by decide⟩
theorem one_bas : Bas [1] := (bas_iff (by decide)).2 ⟨by decide, by decide +kernel, by decide +kernel⟩
/-- What stays while the law runs. -/
def Base3 (w W : World) (n : Int) (v : Value) (k : Int) (u : Value) (j : Int) (t : Value) : Prop := Below w.heap.size w W ∧ w.heap.size + 3 ≤ W.heap.size ∧ W.heap[w.heap.size]? = some (.cells #[.int .i64 n, v] 24 (0, 0)) ∧ W.heap[w.heap.size + 1]? = some (.cells #[.int .i64 k, u] 24 (0, 0)) ∧ W.heap[w.heap.size + 2]? = some (.cells #[.int .i64 j, t] 24 (0, 0))
theorem Base3.next {w W W' : World} {n : Int} {v : Value} {k : Int} {u : Value} {j : Int} {t : Value} (h : Base3 w W n v k u j t) (hb : Below W.heap.size W W') : Base3 w W' n v k u j t := by
  obtain ⟨h1, h2, h3, h4, h5⟩ := h
  exact ⟨h1.trans (hb.mono h1.size), Nat.le_trans h2 hb.size, (hb.block w.heap.size (by omega)).trans h3, (hb.block (w.heap.size + 1) (by omega)).trans h4, (hb.block (w.heap.size + 2) (by omega)).trans h5⟩
theorem Base3.cells {w W : World} {n : Int} {v : Value} {k : Int} {u : Value} {j : Int} {t : Value} (h : Base3 w W n v k u j t) : (W.cell? ⟨w.heap.size, 0, none⟩ = some (.int .i64 n) ∧ W.cell? ⟨w.heap.size, 1, none⟩ = some v) ∧ (W.cell? ⟨w.heap.size + 1, 0, none⟩ = some (.int .i64 k) ∧ W.cell? ⟨w.heap.size + 1, 1, none⟩ = some u) ∧ (W.cell? ⟨w.heap.size + 1 + 1, 0, none⟩ = some (.int .i64 j) ∧ W.cell? ⟨w.heap.size + 1 + 1, 1, none⟩ = some t) := by
  obtain ⟨_, _, h3, h4, h5⟩ := h
  exact ⟨cells2 h3, cells2 h4, cells2 h5⟩
theorem Base3.new (w : World) (n : Int) (v : Value) (k : Int) (u : Value) (j : Int) (t : Value) : Base3 w (((w.alloc (.cells #[.int .i64 n, v] 24)).alloc (.cells #[.int .i64 k, u] 24)).alloc (.cells #[.int .i64 j, t] 24)) n v k u j t := by
  obtain ⟨h1, h2, h3⟩ := three w (.cells #[.int .i64 n, v] 24) (.cells #[.int .i64 k, u] 24) (.cells #[.int .i64 j, t] 24)
  exact ⟨(((Below.refl _ _).alloc (Nat.le_refl _) _).alloc (by simp) _).alloc (by simp; omega) _, by simp, h1, h2, h3⟩
set_option maxRecDepth 100000 in
set_option maxHeartbeats 2000000 in
theorem chain_law (n : Int) (v : Value) (zs : List Int) (k : Int) (u : Value) (ys : List Int) (j : Int) (t : Value) (xs : List Int) (w : World) (h : Ints w v zs) (h' : Ints w u ys) (h2 : Ints w t xs) :
    Calls Try.prog 7 #[.agg #[.int .i64 n, v], .agg #[.int .i64 k, u], .agg #[.int .i64 j, t]] w fun e w' => e = .returned (.bool true) ∧ Below w.heap.size w w' := by
  obtain ⟨x1, y1, q1, hq1, M1⟩ := minor_is n k zs ys
  obtain ⟨x2, y2, q2, hq2, M2⟩ := minor_is k j ys xs
  obtain ⟨x3, y3, q3, hq3, M3⟩ := minor_is n j zs xs
  have HQ : Hid (q1 = 0 → q2 = 0 → q3 = 0) := fun e1 e2 => hq3.2 ((hq1.1 e1).chain (hq2.1 e2))
  have B0 := Base3.new w n v k u j t
  have HM1 := hid (fun w' (hb : Below w.heap.size w w') => M1 v u w' (h.below hb) (h'.below hb))
  have HM2 := hid (fun w' (hb : Below w.heap.size w w') => M2 u t w' (h'.below hb) (h2.below hb))
  have HM3 := hid (fun w' (hb : Below w.heap.size w w') => M3 v t w' (h.below hb) (h2.below hb))
  obtain ⟨a0, c0, rfl, -, -⟩ := h
  obtain ⟨a1, c1, rfl, -, -⟩ := h'
  obtain ⟨a2, c2, rfl, -, -⟩ := h2
  clear M1 M2 M3 hq1 hq2 hq3
  revert B0
  generalize hW3 : ((w.alloc (.cells #[.int .i64 n, .slice a0 zs.length c0] 24)).alloc (.cells #[.int .i64 k, .slice a1 ys.length c1] 24)).alloc (.cells #[.int .i64 j, .slice a2 xs.length c2] 24) = W3
  intro B0
  have S0 := hid B0
  clear B0
  go_enter Try.func7, Try.ntmps7
  go_wp2_with fail
  have b4 : Below W3.heap.size W3 (W3.alloc (.cells #[.int .i64 1] 3)) := (Below.refl _ _).alloc (Nat.le_refl _) _
  have S4 := hid (S0.out.next b4)
  have li : Ints (W3.alloc (.cells #[.int .i64 1] 3)) (.slice (some ⟨W3.heap.size, 0, none⟩) 1 1) (N [1]) := litsAt W3 [1]
  have HLI := hid li
  clear b4 li S0 hW3
  refine (two_any _).mono ?_
  rintro e w5 ⟨v5, rfl, hi5, hb5⟩
  have S5 := hid (S4.out.next hb5)
  have M0 := hid (Minor_ok 1 4 _ v5 [1] twoL w5 (by decide) one_fam one_bas (HLI.out.below hb5) (by decide) two_fam two_bas hi5)
  rw [small_none] at M0
  obtain ⟨a5, c5, rfl, -, -⟩ := hi5
  clear hb5 S4 HLI
  go_wp2_with fail
  refine M0.out.mono ?_
  rintro e w6 ⟨rfl, hb6⟩
  have S6 := hid (S5.out.next hb6)
  have N1 := hid (HM1.out w6 S6.out.1)
  have e5 : minE none = 5 := rfl
  obtain ⟨⟨z0, z1⟩, ⟨z2, z3⟩, ⟨z4, z5⟩⟩ := S6.out.cells
  clear hb6 S5 M0 HM1
  go_wp2_with fail
  refine N1.out.mono ?_
  rintro e w7 ⟨rfl, hb7⟩
  have S7 := hid (S6.out.next hb7)
  have N2 := hid (HM2.out w7 S7.out.1)
  clear hb7 S6 N1 HM2 z0 z1 z2 z3 z4 z5
  obtain ⟨⟨z0, z1⟩, ⟨z2, z3⟩, ⟨z4, z5⟩⟩ := S7.out.cells
  go_wp2_with fail
  refine N2.out.mono ?_
  rintro e w8 ⟨rfl, hb8⟩
  have S8 := hid (S7.out.next hb8)
  have N3 := hid (HM3.out w8 S8.out.1)
  clear hb8 S7 N2 HM3 z0 z1 z2 z3 z4 z5
  obtain ⟨⟨z0, z1⟩, ⟨z2, z3⟩, ⟨z4, z5⟩⟩ := S8.out.cells
  go_wp2_with fail
  refine N3.out.mono ?_
  rintro e w9 ⟨rfl, hb9⟩
  have S9 := hid (S8.out.next hb9)
  clear hb9 S8 N3 z0 z1 z2 z3 z4 z5
  by_cases h1 : q1 = 0
  · by_cases h2 : q2 = 0
    · have h3 := HQ.out h1 h2
      have h1' : (q1 != 0) = false := by simp [h1]
      have h2' : (q2 != 0) = false := by simp [h2]
      have h3' : (q3 == 0) = true := by simp [h3]
      clear h1 h2 h3
      go_wp2_with fail
      go_ret
      exact ⟨rfl, S9.out.1⟩
    · have h1' : (q1 != 0) = false := by simp [h1]
      have h2' : (q2 != 0) = true := by simp [h2]
      clear h1 h2
      go_wp2_with fail
      go_ret
      exact ⟨rfl, S9.out.1⟩
  · have h1' : (q1 != 0) = true := by simp [h1]
    clear h1
    go_wp2_with fail
    go_ret
    exact ⟨rfl, S9.out.1⟩
end Go.Proofs.Ythlmnhcnpffjdaa
