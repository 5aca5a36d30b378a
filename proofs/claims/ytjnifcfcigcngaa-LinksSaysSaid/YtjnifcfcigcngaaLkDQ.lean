/- links.Cut, links.Most. -/
import Derived.Test.YtjnifcfcigcngaaLkCQ
namespace Go.Proofs.Ytjnifcfcigcngaa
open Go.RowKit

/-- What a good graph is. -/
theorem lnk_good {n s t : Int} {F : List (Int × Int)} (h : lnkE n F s t = 0) : ∃ m a b : Nat, n = m ∧ s = a ∧ t = b ∧ 1 ≤ m ∧ m ≤ 7 ∧ F.length ≤ 8 ∧ F.all (edgeB n) = true ∧ a < 2 ^ m ∧ b < 2 ^ m ∧ ∀ j, j < (natE F).length → ea (natE F) j < m ∧ eb (natE F) j < m := by
  unfold lnkE at h
  split at h
  · rename_i hg
    split at h
    · rename_i hs
      unfold graphR at hg
      split at hg
      · rename_i hgood
        obtain ⟨hn1, hn7, h8, hall⟩ := hgood
        obtain ⟨m, rfl⟩ := Int.eq_ofNat_of_zero_le (by omega : 0 ≤ n)
        have k1 := setR_n hs
        have k2 := setR_n h
        obtain ⟨a, rfl⟩ := Int.eq_ofNat_of_zero_le k1.2.2.1
        obtain ⟨b, rfl⟩ := Int.eq_ofNat_of_zero_le k2.2.2.1
        have e : ((2 ^ m : Nat) : Int) = (2 : Int) ^ m := by simp
        simp only [Int.toNat_natCast] at k1 k2
        refine ⟨m, a, b, rfl, rfl, rfl, by omega, by omega, h8, hall, by omega, by omega, fun j hj => ?_⟩
        rw [natE_len] at hj
        have hb := edge_in hall hj
        unfold ea eb
        rw [natE_at hj]
        show (F.getD j (0, 0)).1.toNat < m ∧ (F.getD j (0, 0)).2.toNat < m
        omega
      · cases hg
    · rename_i hs
      exact absurd h hs
  · rename_i hg
    exact absurd h hg
/-- The edges as they are followed. -/
def nxE (F : List (Int × Int)) : Nat → Nat := nxF (natE F) (natE F).length
theorem nxE_lt {m : Nat} {F : List (Int × Int)} (h : ∀ j, j < (natE F).length → ea (natE F) j < m ∧ eb (natE F) j < m) (v : Nat) : nxE F v < 2 ^ m := nx_lt (fun j hj => (h j hj).2) v _ (Nat.le_refl _)
set_option maxRecDepth 20000 in
set_option maxHeartbeats 4000000 in
theorem LCut_ok (m a b : Nat) (v : Value) (F : List (Int × Int)) (w : World) (hg : lnkE m F a b = 0) (h : EdgesI w v F) :
    Calls Try.prog 11 #[.agg #[.int .i64 m, v], .int .i64 a, .int .i64 b] w fun e w' => e = .returned (.tuple #[.int .i64 (cutV (nxE F) m (2 ^ m - 1) a b : Nat), .int .i64 0]) ∧ Below w.heap.size w w' := by
  obtain ⟨m', a', b', e1, e2, e3, h1, h7, h8, hall, ha, hb, hE⟩ := lnk_good hg
  obtain rfl : m = m' := by omega
  obtain rfl : a = a' := by omega
  obtain rfl : b = b' := by omega
  clear e1 e2 e3
  have HB0 := hid (below_boxGr w #[.int .i64 m, v])
  have HN := hid (World.alloc_heap_new w (.cells #[.int .i64 m, v] 24))
  have CG := hid (lcheck_any m a b v F _ (h.below HB0.out))
  rw [hg] at CG
  have NX : Hid (∀ W, EdgesI W v F → Calls Try.prog 26 #[.agg #[.int .i64 m, v]] W fun e w' => ∃ r, e = .returned r ∧ RkAt w' r m (nxE F) ∧ Below W.heap.size W w') := fun W hW => nexts_any m v (natE F) W h1 h7 hE (hW.nat h8 hall)
  have WH := hid (fun w => wholeSet_any m w (by omega))
  have CU : Hid (∀ (r : Value) (W : World), RkAt W r m (nxE F) → Calls Try.prog 25 #[r, .int .i64 ((2 ^ m - 1 : Nat) : Int), .int .i64 a, .int .i64 b] W fun e w' => e = .returned (.int .i64 (cutV (nxE F) m (2 ^ m - 1) a b : Nat)) ∧ w' = W) := fun r W hW =>
    lcut_any m (2 ^ m - 1) a b (nxE F) r W (by omega) (full_lt m) ha hb (fun i _ => lt256 (by omega) (nxE_lt hE i)) hW
  have HI := hid h
  obtain ⟨ad, cap, rfl, hlen, hc⟩ := h
  clear hc hg hall h8 hE
  generalize hM : 2 ^ m - 1 = M at *
  generalize cutV (nxE F) m M a b = c at *
  go_enter Try.func11, Try.ntmps11
  go_wp2_with fail
  refine CG.out.mono ?_
  rintro e W ⟨rfl, hb1⟩
  have HB1 := hid (HB0.out.trans (hb1.mono HB0.out.size))
  have hwl : w.heap.size < W.heap.size := Nat.lt_of_lt_of_le (Array.getElem?_eq_some_iff.1 HN.out).1 hb1.size
  have hx := (hb1.block w.heap.size (Array.getElem?_eq_some_iff.1 HN.out).1).trans HN.out
  obtain ⟨z0, z1, _, _⟩ := two_cells hx
  have HX := hid hx
  clear hb1 hx HB0 HN CG
  have CELL : Hid (∀ w', Below W.heap.size W w' → w'.cell? ⟨w.heap.size, 0, none⟩ = some (.int .i64 m) ∧ w'.cell? ⟨w.heap.size, 1, none⟩ = some (.slice ad F.length cap)) := fun w' hb => by
    obtain ⟨y0, y1, _, _⟩ := two_cells ((hb.block w.heap.size hwl).trans HX.out)
    exact ⟨y0, y1⟩
  have NXB : Hid (∀ w', Below W.heap.size W w' → Calls Try.prog 26 #[.agg #[.int .i64 m, .slice ad F.length cap]] w' fun e w2 => ∃ r, e = .returned r ∧ RkAt w2 r m (nxE F) ∧ Below W.heap.size W w2) := fun w' hb =>
    (NX.out w' ((HI.out.below HB1.out).below hb)).mono fun e w2 ⟨r, h1, h2, h3⟩ => ⟨r, h1, h2, hb.trans (h3.mono hb.size)⟩
  clear NX HI
  go_wp2_with fail
  go_region_with (first
    | (go_at_call 26; refine (NXB.out _ (Below.refl _ W).drew).mono ?_; rintro e w5 ⟨r5, rfl, hr5, hb5⟩; have HR5 := hid hr5; obtain ⟨q0, q1⟩ := CELL.out w5 hb5; have HB5 := hid (HB1.out.trans (hb5.mono HB1.out.size)); obtain ⟨rb, ro, rc, rfl, -, -⟩ := hr5; clear hb5)
    | (go_at_call 27; refine (WH.out _).mono ?_; rintro e w6 ⟨rfl, rfl⟩)
    | (go_at_call 25; refine (CU.out _ _ HR5.out).mono ?_; rintro e w7 ⟨rfl, rfl⟩))
  all_goals
    go_wp2_with fail
    go_ret2
    exact ⟨rfl, HB5.out⟩
set_option maxRecDepth 20000 in
set_option maxHeartbeats 1600000 in
theorem LCut_bad (n s t : Int) (v : Value) (F : List (Int × Int)) (w : World) (hg : lnkE n F s t ≠ 0) (h : EdgesI w v F) :
    Calls Try.prog 11 #[.agg #[.int .i64 n, v], .int .i64 s, .int .i64 t] w fun e w' => e = .returned (.tuple #[.int .i64 0, .int .i64 (lnkE n F s t)]) ∧ Below w.heap.size w w' := by
  have HB0 := hid (below_boxGr w #[.int .i64 n, v])
  have CG := hid (lcheck_any n s t v F _ (h.below HB0.out))
  have HN := hid (World.alloc_heap_new w (.cells #[.int .i64 n, v] 24))
  have hq : (lnkE n F s t == 0) = false := by simpa using hg
  generalize lnkE n F s t = Q at *
  obtain ⟨ad, cap, rfl, hlen, hc⟩ := h
  clear hc
  go_enter Try.func11, Try.ntmps11
  go_wp2_with fail
  refine CG.out.mono ?_
  rintro e W ⟨rfl, hb1⟩
  have HB1 := hid (HB0.out.trans (hb1.mono HB0.out.size))
  clear hb1 HB0 HN CG
  go_wp2_with fail
  go_ret2
  exact ⟨rfl, HB1.out⟩
set_option maxRecDepth 20000 in
set_option maxHeartbeats 1600000 in
theorem LMost_ok (m a b : Nat) (v : Value) (F : List (Int × Int)) (w : World) (hg : lnkE m F a b = 0) (h : EdgesI w v F) :
    Calls Try.prog 10 #[.agg #[.int .i64 m, v], .int .i64 a, .int .i64 b] w fun e w' => e = .returned (.tuple #[.int .i64 (lnkR (nxE F) m (2 ^ m - 1) b a : Nat), .int .i64 0]) ∧ Below w.heap.size w w' := by
  have h7 : m ≤ 7 := by
    obtain ⟨m', a', b', e1, e2, e3, h1, h7, h8, hall, ha, hb, hE⟩ := lnk_good hg
    omega
  have HB0 := hid (below_boxGr w #[.int .i64 m, v])
  have CU := hid (LCut_ok m a b v F _ hg (h.below HB0.out))
  have HL : lnkR (nxE F) m (2 ^ m - 1) b a = pop (cutV (nxE F) m (2 ^ m - 1) a b) := rfl
  have HC8 : cutV (nxE F) m (2 ^ m - 1) a b < 256 := lt256 (by omega) (cutV_lt (by omega) (full_lt m))
  rw [HL]
  have HS := hid (fun w => size_any (cutV (nxE F) m (2 ^ m - 1) a b) w HC8)
  generalize cutV (nxE F) m (2 ^ m - 1) a b = c at *
  have HN := hid (World.alloc_heap_new w (.cells #[.int .i64 m, v] 24))
  obtain ⟨ad, cap, rfl, hlen, hc⟩ := h
  clear hc hg
  go_enter Try.func10, Try.ntmps10
  go_wp2_with fail
  refine CU.out.mono ?_
  rintro e W ⟨rfl, hb1⟩
  have HB1 := hid (HB0.out.trans (hb1.mono HB0.out.size))
  clear hb1 HB0 HN CU
  go_wp2_with fail
  refine (HS.out _).mono ?_
  rintro e w2 ⟨rfl, rfl⟩
  go_wp2_with fail
  go_ret2
  exact ⟨rfl, HB1.out⟩
theorem pop0 : pop 0 = 0 := by decide
set_option maxRecDepth 20000 in
set_option maxHeartbeats 1600000 in
theorem LMost_bad (n s t : Int) (v : Value) (F : List (Int × Int)) (w : World) (hg : lnkE n F s t ≠ 0) (h : EdgesI w v F) :
    Calls Try.prog 10 #[.agg #[.int .i64 n, v], .int .i64 s, .int .i64 t] w fun e w' => e = .returned (.tuple #[.int .i64 0, .int .i64 (lnkE n F s t)]) ∧ Below w.heap.size w w' := by
  have HB0 := hid (below_boxGr w #[.int .i64 n, v])
  have CU := hid (LCut_bad n s t v F _ hg (h.below HB0.out))
  have HS := hid (fun w => size_any 0 w (by decide))
  rw [pop0] at HS
  have HN := hid (World.alloc_heap_new w (.cells #[.int .i64 n, v] 24))
  generalize lnkE n F s t = Q at *
  obtain ⟨ad, cap, rfl, hlen, hc⟩ := h
  clear hc
  go_enter Try.func10, Try.ntmps10
  go_wp2_with fail
  refine CU.out.mono ?_
  rintro e W ⟨rfl, hb1⟩
  have HB1 := hid (HB0.out.trans (hb1.mono HB0.out.size))
  clear hb1 HB0 HN CU
  go_wp2_with fail
  refine (HS.out _).mono ?_
  rintro e w2 ⟨rfl, rfl⟩
  go_wp2_with fail
  go_ret2
  exact ⟨rfl, HB1.out⟩
end Go.Proofs.Ytjnifcfcigcngaa
