/- links.Sets. -/
import Derived.Test.YtgkkemlemnlchaaLkDQ
import Derived.Test.YtgkkemlemnlchaaOwnQ
namespace Go.Proofs.Ytgkkemlemnlchaa
open Go.RowKit

/-- Of each of the first k vertices that T has not, it and where edges lead from it. -/
def setsF (f : Nat → Nat) (T k : Nat) : List Nat := ((List.range k).filter fun v => !T.testBit v).map fun v => f v ||| 2 ^ v
theorem setsF_hit {f : Nat → Nat} {T k : Nat} (h : T.testBit k = false) : setsF f T (k + 1) = setsF f T k ++ [f k ||| 2 ^ k] := by
  unfold setsF
  rw [List.range_succ, List.filter_append]
  simp [h]
theorem setsF_miss {f : Nat → Nat} {T k : Nat} (h : T.testBit k = true) : setsF f T (k + 1) = setsF f T k := by
  unfold setsF
  rw [List.range_succ, List.filter_append]
  simp [h]
theorem setsF_le (f : Nat → Nat) (T k : Nat) : (setsF f T k).length ≤ k := by
  unfold setsF
  rw [List.length_map]
  have := List.length_filter_le (fun v => !T.testBit v) (List.range k)
  rwa [List.length_range] at this
theorem RkAt.cellS {w w' : World} {g c T : Nat} {r : Nat → Nat} (h : RkAt w (.slice (some ⟨g, 0, none⟩) T c) T r) (hb : Below w.heap.size w w') {i : Nat} (hi : i < T) : w'.cell? ⟨g, i, none⟩ = some (.int .i64 (r i : Nat)) := by
  obtain ⟨b, off, c', e, h1, h2⟩ := h.below hb
  obtain ⟨⟨rfl, rfl⟩, rfl⟩ : (g = b ∧ 0 = off) ∧ c = c' := by simpa using e
  have := h2 i hi
  rwa [Nat.zero_add] at this
set_option maxRecDepth 20000 in
set_option maxHeartbeats 4000000 in
theorem LSets_ok (m b : Nat) (v : Value) (F : List (Int × Int)) (w : World) (hg : lnkE m F 0 b = 0) (h : EdgesI w v F) :
    Calls Try.prog 4 #[.agg #[.int .i64 m, v], .int .i64 b] w fun e w' => ∃ r, e = .returned (.tuple #[r, .int .i64 0]) ∧ Own w.heap.size w' r (setsF (nxE F) b m) ∧ Below w.heap.size w w' := by
  obtain ⟨i0, hi, hz0, hz1, hz2⟩ := info_parts Try.infoInt
  obtain ⟨m', a', b', e1, e2, e3, h1, h7, h8, hall, ha, hb, hE⟩ := lnk_good hg
  obtain rfl : m = m' := by omega
  obtain rfl : b = b' := by omega
  clear e1 e2 e3 ha a'
  have HB0 := hid (below_boxGr w #[.int .i64 m, v])
  have HN := hid (World.alloc_heap_new w (.cells #[.int .i64 m, v] 24))
  have CG : Hid (Calls Try.prog 10 #[.agg #[.int .i64 m, v], .int .i64 0, .int .i64 b] (w.alloc (.cells #[.int .i64 m, v] 24)) fun e w' => e = .returned (.int .i64 0) ∧ Below (w.alloc (.cells #[.int .i64 m, v] 24)).heap.size (w.alloc (.cells #[.int .i64 m, v] 24)) w') := by
    have := lcheck_any m 0 b v F _ (h.below HB0.out)
    rw [hg] at this
    exact this
  have NX : Hid (∀ W, EdgesI W v F → Calls Try.prog 11 #[.agg #[.int .i64 m, v]] W fun e w' => ∃ g c, e = .returned (.slice (some ⟨g, 0, none⟩) m c) ∧ W.heap.size ≤ g ∧ RkAt w' (.slice (some ⟨g, 0, none⟩) m c) m (nxE F) ∧ Below W.heap.size W w') := fun W hW => nexts_own m v (natE F) W h1 h7 hE (hW.nat h8 hall)
  have HFL : Hid (∀ i, nxE F i < 256) := fun i => lt256 (by omega) (nxE_lt hE i)
  have HA := hid (fun v w hv => has_any b v w (lt256 (by omega) hb) hv)
  have HI := hid h
  have hmf : ∀ k, k < m → wrap64 (2 ^ k) = ((2 ^ k : Nat) : Int) := fun k hk => (pow_wrap _ (by omega)).1
  obtain ⟨ad, cap, rfl, hlen, hc⟩ := h
  clear hc hg hall h8 hE
  generalize nxE F = f at *
  go_enter Try.func4, Try.ntmps4
  go_wp2_with fail
  refine CG.out.mono ?_
  rintro e W ⟨rfl, hb1⟩
  have HB1 := hid (HB0.out.trans (hb1.mono HB0.out.size))
  have hwl : w.heap.size < W.heap.size := Nat.lt_of_lt_of_le (Array.getElem?_eq_some_iff.1 HN.out).1 hb1.size
  have hx := (hb1.block w.heap.size (Array.getElem?_eq_some_iff.1 HN.out).1).trans HN.out
  obtain ⟨z0, z1, _, _⟩ := two_cells hx
  have NW := hid (NX.out W (HI.out.below HB1.out))
  clear hb1 hx HB0 HN CG NX HI
  go_wp2_with fail
  refine NW.out.mono ?_
  rintro e W5 ⟨g, c, rfl, hg5, hR, hb5⟩
  have HB5 := hid (HB1.out.trans (hb5.mono HB1.out.size))
  have RK := hid hR
  clear hb5 hR NW z0 z1
  go_wp2_with fail
  go_loopw [7, 8, 9, 19] (fun u _ _ i wr => ∃ k : Nat, k ≤ m ∧ i = .int .i64 k ∧ Own W5.heap.size wr u (setsF f b k) ∧ Hid (Below W5.heap.size W5 wr)) (fun _ _ _ i _ => m - (intOf i).toNat)
  case atStart => exact ⟨0, Nat.zero_le _, rfl, Own.nil _ _, Below.refl _ _⟩
  case round =>
    obtain ⟨k, hk, rfl, hown, hnx⟩ := hrel
    have hsz := hnx.out.size
    by_cases hlt : k < m
    · have hki : (k : Int) < (m : Int) := by omega
      have Hhit := hid (fun hp => setsF_hit (f := f) (T := b) (k := k) hp)
      have Hmiss := hid (fun hp => setsF_miss (f := f) (T := b) (k := k) hp)
      have hfl := setsF_le f b k
      have HO := hid hown
      have x1 := RkAt.cellS RK.out hnx.out hlt
      have H1 := hid (HA.out k wr (by omega))
      have hfk := HFL.out k
      have hpw := hmf k hlt
      have hp2 : 2 ^ k < 256 := Nat.pow_lt_pow_right (by decide) (by omega : k < 8)
      have hor : bits .or .i64 ((f k : Nat) : Int) ((2 ^ k : Nat) : Int) = ((f k ||| 2 ^ k : Nat) : Int) := i64_or_nat _ _ (by omega) (by omega)
      have hki64 : ¬ (64 : Int) ≤ (k : Int) := by omega
      clear hown
      generalize setsF f b k = acc at *
      rcases hq : b.testBit k with _ | _
      · have HQ := hid hq
        rw [hq] at H1
        clear hq
        generalize f k ||| 2 ^ k = y at *
        generalize f k = x at *
        generalize hE2 : 2 ^ k = E2 at *
        go_wp2_with fail
        refine H1.out.mono ?_
        rintro e w2 ⟨rfl, rfl⟩
        go_wp2_with (at_builtin; refine wpList_append_own _ rfl _ _ 25 rfl W5.heap.size 3 i0 (.int .i64 0) 1 8 Try.underlying25 hi hz0 hz1 hz2 rfl (by decide) _ _ _ rfl (HO.out.alloc _) ⟨w2.heap.size, 0, none⟩ 1 1 [.int .i64 (y : Nat)] rfl rfl ?c1 ?c2 ?c3 ?c4 ?c5 ?_)
        case c1 => exact cell_one_new _ _ _
        case c2 => intro u hu; simp at hu; subst hu; rfl
        case c3 => unfold maxLen; omega
        case c4 => omega
        case c5 => simp; omega
        intro v' w3 hown' hgrow _
        have R3 := hid (Own.snoc hown')
        have R4 := hid (Own.grown HO.out hnx.out hsz hgrow)
        clear hown' hgrow
        go_wp2_with fail
        go_roundw
        case rel => exact ⟨k + 1, by omega, by go_num, by rw [Hhit.out HQ.out]; exact R3.out, R4.out⟩
        case measure => simp [intOf]; omega
      · have HQ := hid hq
        rw [hq] at H1
        clear hq
        go_wp2_with fail
        refine H1.out.mono ?_
        rintro e w2 ⟨rfl, rfl⟩
        go_wp2_with fail
        go_roundw
        case rel => exact ⟨k + 1, by omega, by go_num, by rw [Hmiss.out HQ.out]; exact HO.out, hnx.out⟩
        case measure => simp [intOf]; omega
    · obtain rfl : k = m := by omega
      have R9 := hid (hown.mono HB5.out.size)
      have B9 := hid (HB5.out.trans (hnx.out.mono HB5.out.size))
      clear hown
      go_wp2_with fail
      go_ret2
      exact ⟨_, rfl, R9.out, B9.out⟩
set_option maxRecDepth 20000 in
set_option maxHeartbeats 1600000 in
theorem LSets_bad (n b : Int) (v : Value) (F : List (Int × Int)) (w : World) (hg : lnkE n F 0 b ≠ 0) (h : EdgesI w v F) :
    Calls Try.prog 4 #[.agg #[.int .i64 n, v], .int .i64 b] w fun e w' => e = .returned (.tuple #[.slice none 0 0, .int .i64 (lnkE n F 0 b)]) ∧ Below w.heap.size w w' := by
  have HB0 := hid (below_boxGr w #[.int .i64 n, v])
  have CG := hid (lcheck_any n 0 b v F _ (h.below HB0.out))
  have HN := hid (World.alloc_heap_new w (.cells #[.int .i64 n, v] 24))
  have hq : (lnkE n F 0 b == 0) = false := by simpa using hg
  generalize lnkE n F 0 b = Q at *
  obtain ⟨ad, cap, rfl, hlen, hc⟩ := h
  clear hc
  go_enter Try.func4, Try.ntmps4
  go_wp2_with fail
  refine CG.out.mono ?_
  rintro e W ⟨rfl, hb1⟩
  have HB1 := hid (HB0.out.trans (hb1.mono HB0.out.size))
  clear hb1 HB0 HN CG
  go_wp2_with fail
  go_ret2
  exact ⟨rfl, HB1.out⟩
end Go.Proofs.Ytgkkemlemnlchaa
