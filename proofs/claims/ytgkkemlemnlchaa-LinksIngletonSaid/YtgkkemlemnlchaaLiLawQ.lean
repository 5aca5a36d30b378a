/- rotakeep.LinksIngleton. -/
import Derived.Test.YtgkkemlemnlchaaLkGQ
import Derived.Test.YtgkkemlemnlchaaLkSQ
import Derived.Test.YtgkkemlemnlchaaLkEQ
import Derived.Test.YtgkkemlemnlchaaPlainAll
import Derived.Test.YtgkkemlemnlchaaDualQ
import Derived.Test.YtgkkemlemnlchaaKTransQ
namespace Go.Proofs.Ytgkkemlemnlchaa
open Go.RowKit

theorem li_edge (w : World) : EdgesI (w.alloc (.cells #[.int .i64 0, .int .i64 1] 30)) (.slice (some ⟨w.heap.size, 0, none⟩) 1 1) [(0, 1)] := by
  have h := World.alloc_heap_new w (.cells #[.int .i64 0, .int .i64 1] 30)
  obtain ⟨c0, c1, -, -⟩ := two_cells h
  refine ⟨some ⟨w.heap.size, 0, none⟩, 1, rfl, by simp, fun _ => ⟨w.heap.size, 0, rfl, by simp, fun i hi => ?_⟩⟩
  have : i = 0 := by simp at hi; exact hi
  subst this
  exact ⟨c0, c1⟩
theorem li_three (w : World) : Ints (w.alloc (.cells #[.int .i64 3] 3)) (.slice (some ⟨w.heap.size, 0, none⟩) 1 1) (N [3]) := by
  have h := World.alloc_heap_new w (.cells #[.int .i64 3] 3)
  refine ⟨some ⟨w.heap.size, 0, none⟩, 1, rfl, by decide, fun _ => ⟨w.heap.size, 0, rfl, by simp, fun i hi => ?_⟩⟩
  have : i = 0 := by simp [N] at hi; exact hi
  subst this
  exact (one_at h).1.1
theorem li_lis {m : Nat} {l : List Nat} (hm : m ≤ 8) (hk : l.length ≤ 8) (hl : ∀ x ∈ l, x < 2 ^ m) : lisR m (N l) = 0 := by
  unfold lisR
  rw [if_pos, if_neg (by rw [show (N l).length = l.length by simp [N]]; omega)]
  refine ⟨?_, by omega, by omega⟩
  rw [List.all_eq_true]
  intro z hz
  obtain ⟨x, hx, rfl⟩ := List.mem_map.1 hz
  exact beq_iff_eq.2 (setR_nat hm (hl x hx))
theorem li_good : lnkE 2 [(0, 1)] 0 2 = 0 := by decide
theorem li_sets : setsF (nxE [(0, 1)]) 2 2 = [3] := by decide +kernel
/-- INGLETON and PIFF, of the program's lists. -/
theorem li_dual {m b : Nat} {F : List (Int × Int)} (hm : m ≤ 8) (hb : b < 2 ^ m) (hE : ∀ j, j < (natE F).length → ea (natE F) j < m ∧ eb (natE F) j < m) :
    Fam m (lnkL (nxE F) m b) ∧ Bas (lnkL (nxE F) m b) ∧ cmp m (lnkL (nxE F) m b) = bigL m fun s => hallTo ((N (setsF (nxE F) b m)).map Int.toNat) s s := by
  have hr := lnkR_few (f := nxE F) (T := b) hm (full_lt m)
  have e1 : lnkL (nxE F) m b = basR m (lnkR (nxE F) m (2 ^ m - 1) b) := lnk_basR hb hr
  have e2 : (N (setsF (nxE F) b m)).map Int.toNat = ingL (nxE F) b m := by
    unfold N
    rw [List.map_map]
    exact (List.map_congr_left (g := id) fun x _ => by simp).trans (List.map_id _)
  rw [e1, e2]
  refine ⟨basR_fam _ _, (hr.rkOn (full_lt m)).bas hm, ?_⟩
  rw [ingleton hm hb (fun v _ => nxE_lt hE v) hr]
  exact (trans_basR hm _).symm
set_option maxRecDepth 20000 in
set_option maxHeartbeats 8000000 in
theorem ling_law (n : Int) (v : Value) (F : List (Int × Int)) (t : Int) (w : World) (h : EdgesI w v F) :
    Calls Try.prog 3 #[.agg #[.int .i64 n, v], .int .i64 t] w fun e w' => e = .returned (.bool true) ∧ Below w.heap.size w w' := by
  have HI := hid h
  obtain ⟨a, cap, rfl, -, -⟩ := h
  obtain ⟨w0, hw0⟩ : ∃ w0, w.alloc (.cells #[.int .i64 n, .slice a F.length cap] 24) = w0 := ⟨_, rfl⟩
  have B0 : Hid (Below w.heap.size w w0) := by rw [← hw0]; exact (Below.refl _ _).alloc (Nat.le_refl _) _
  have X0 : Hid (w0.heap[w.heap.size]? = some (.cells #[.int .i64 n, .slice a F.length cap] 24 (0, 0))) := by rw [← hw0]; exact World.alloc_heap_new w _
  have hlt0 := (Array.getElem?_eq_some_iff.1 X0.out).1
  have K1 := below_alloc w0 (.cells #[.int .i64 0, .int .i64 1] 30)
  have C1 : Hid (Calls Try.prog 4 #[.agg #[.int .i64 2, .slice (some ⟨w0.heap.size, 0, none⟩) 1 1], .int .i64 2] (w0.alloc (.cells #[.int .i64 0, .int .i64 1] 30)) fun e w' => ∃ r, e = .returned (.tuple #[r, .int .i64 0]) ∧ Own (w0.alloc (.cells #[.int .i64 0, .int .i64 1] 30)).heap.size w' r [3] ∧ Below (w0.alloc (.cells #[.int .i64 0, .int .i64 1] 30)).heap.size (w0.alloc (.cells #[.int .i64 0, .int .i64 1] 30)) w') := by
    have := LSets_ok 2 2 _ _ _ li_good (li_edge w0)
    rw [li_sets] at this
    exact this
  have X1 := hid ((K1.block _ hlt0).trans X0.out)
  have B1 := hid (B0.out.trans (K1.mono B0.out.size))
  have hlt1 := Nat.lt_of_lt_of_le hlt0 K1.size
  clear K1 X0 B0
  go_enter Try.func3, Try.ntmps3
  go_wp2_with fail
  try rw [hw0]
  clear hw0
  generalize w0.alloc (.cells #[.int .i64 0, .int .i64 1] 30) = W1 at *
  refine C1.out.mono ?_
  rintro e w2 ⟨r2, rfl, hr2, hb2⟩
  obtain ⟨ra2, rc2, hr⟩ := ownsRow_form' hr2
  subst hr
  have X2 := hid ((hb2.block _ hlt1).trans X1.out)
  have B2 := hid (B1.out.trans (hb2.mono B1.out.size))
  have hlt2 := Nat.lt_of_lt_of_le hlt1 hb2.size
  have K3 := below_alloc w2 (.cells #[.int .i64 3] 3)
  have SM := hid (Same_any _ _ _ _ _ ((hr2.below K3).ints (by simp)) (li_three w2))
  rw [decide_eq_true rfl] at SM
  have X3 := hid ((K3.block _ hlt2).trans X2.out)
  have B3 := hid (B2.out.trans (K3.mono B2.out.size))
  have hlt3 := Nat.lt_of_lt_of_le hlt2 K3.size
  clear K3 hb2 hr2 C1 X1 B1 X2 B2
  go_wp2_with fail
  generalize w2.alloc (.cells #[.int .i64 3] 3) = W3 at *
  refine SM.out.mono ?_
  rintro e w4 ⟨rfl, hb4⟩
  have X4 := hid ((hb4.block _ hlt3).trans X3.out)
  have B4 := hid (B3.out.trans (hb4.mono B3.out.size))
  have hlt4 := Nat.lt_of_lt_of_le hlt3 hb4.size
  obtain ⟨x0, x1, -, -⟩ := two_cells X4.out
  have I4 := hid (HI.out.below B4.out)
  clear hb4 SM X3 B3
  by_cases hg : lnkE n F 0 t = 0
  rotate_left
  · have G4 := hid (LGam_bad n t _ F w4 hg I4.out)
    have SB : Hid (∀ w, EdgesI w (.slice a F.length cap) F → Calls Try.prog 4 #[.agg #[.int .i64 n, .slice a F.length cap], .int .i64 t] w fun e w' => e = .returned (.tuple #[.slice none 0 0, .int .i64 (lnkE n F 0 t)]) ∧ Below w.heap.size w w') := fun w h => LSets_bad n t _ F w hg h
    generalize lnkE n F 0 t = Q at *
    have hq : (Q == 0) = false := by simpa using hg
    go_wp2_with fail
    refine G4.out.mono ?_
    rintro e w5 ⟨rfl, hb5⟩
    have X5 := hid ((hb5.block _ hlt4).trans X4.out)
    have B5 := hid (B4.out.trans (hb5.mono B4.out.size))
    have hlt5 := Nat.lt_of_lt_of_le hlt4 hb5.size
    have K6 := below_alloc w5 (.cells #[.int .i64 0, .slice none 0 0] 33)
    have M6 := hid (World.alloc_heap_new w5 (.cells #[.int .i64 0, .slice none 0 0] 33))
    have X6 := hid ((K6.block _ hlt5).trans X5.out)
    have B6 := hid (B5.out.trans (K6.mono B5.out.size))
    have S6 := hid (SB.out _ (HI.out.below B6.out))
    clear K6 hb5 x0 x1
    obtain ⟨x0, x1, -, -⟩ := two_cells X6.out
    go_wp2_with fail
    generalize w5.alloc (.cells #[.int .i64 0, .slice none 0 0] 33) = W6 at *
    refine S6.out.mono ?_
    rintro e w7 ⟨rfl, hb7⟩
    have B7 := hid (B6.out.trans (hb7.mono B6.out.size))
    obtain ⟨z2, z3, -, -⟩ := two_cells ((hb7.block _ (Array.getElem?_eq_some_iff.1 M6.out).1).trans M6.out)
    clear hb7 x0 x1
    go_wp2_with fail
    go_ret
    exact ⟨rfl, B7.out⟩
  · obtain ⟨m, _, b, rfl, -, rfl, h1, h7, h8, hall, -, hb, hE⟩ := lnk_good hg
    have G4 := hid (LGam_ok m b _ F w4 hg I4.out)
    have SS : Hid (∀ W, EdgesI W (.slice a F.length cap) F → Calls Try.prog 4 #[.agg #[.int .i64 m, .slice a F.length cap], .int .i64 b] W fun e w' => ∃ r, e = .returned (.tuple #[r, .int .i64 0]) ∧ Own W.heap.size w' r (setsF (nxE F) b m) ∧ Below W.heap.size W w') := fun W hW => LSets_ok m b _ F W hg hW
    obtain ⟨hf, hbs, hd⟩ := li_dual (show m ≤ 8 by omega) hb hE
    have TR : Hid (∀ v W, Ints W v (N (setsF (nxE F) b m)) → Calls Try.prog 8 #[.int .i64 m, v] W (GivesO W m (cmp m (lnkL (nxE F) m b)))) := fun v W hv => by
      have h9 := Trans_any m v _ W hv
      rw [li_lis (by omega) (Nat.le_trans (setsF_le _ _ _) (by omega)) (fun x hx => by
        unfold setsF at hx
        obtain ⟨y, hy, rfl⟩ := List.mem_map.1 hx
        have := (List.mem_filter.1 hy).1
        rw [List.mem_range] at this
        exact Nat.or_lt_two_pow (nxE_lt hE y) (Nat.pow_lt_pow_right (by decide) this))] at h9
      rw [Int.toNat_natCast, ← hd] at h9
      exact h9.mono fun e w' k => k.1 rfl
    have DU : Hid (∀ v W, Ints W v (N (lnkL (nxE F) m b)) → Calls Try.prog 7 #[.agg #[.int .i64 m, v]] W (GivesO W m (cmp m (lnkL (nxE F) m b)))) := fun v W hv => Dual_ok m v _ W (by omega) hf hbs hv
    have HL8 := hid (Nat.le_trans (fam_len (by omega) hf) (by decide : 256 ≤ 17592186044416))
    have HC8 : Hid ((cmp m (lnkL (nxE F) m b)).length ≤ 17592186044416) := Nat.le_trans (fam_len (by omega) (cmp_fam hf)) (by decide)
    have HS8 : Hid ((setsF (nxE F) b m).length ≤ 17592186044416) := by show _ ≤ _; have := setsF_le (nxE F) b m; omega
    generalize lnkL (nxE F) m b = L at *
    generalize setsF (nxE F) b m = SF at *
    generalize cmp m L = C at *
    clear hd hf hbs hE hall h8 hg
    go_wp2_with fail
    refine G4.out.mono ?_
    rintro e w5 ⟨r5, rfl, hr5, hb5⟩
    obtain ⟨ra5, rc5, hr⟩ := ownsRow_form' hr5
    subst hr
    have X5 := hid ((hb5.block _ hlt4).trans X4.out)
    have B5 := hid (B4.out.trans (hb5.mono B4.out.size))
    have hlt5 := Nat.lt_of_lt_of_le hlt4 hb5.size
    have K6 := below_alloc w5 (.cells #[.int .i64 m, .slice ra5 L.length rc5] 33)
    have M6 := hid (World.alloc_heap_new w5 (.cells #[.int .i64 m, .slice ra5 L.length rc5] 33))
    have X6 := hid ((K6.block _ hlt5).trans X5.out)
    have B6 := hid (B5.out.trans (K6.mono B5.out.size))
    have R6 := hid (hr5.below K6)
    have S6 := hid (SS.out _ (HI.out.below B6.out))
    clear K6 hb5 hr5 x0 x1
    obtain ⟨x0, x1, -, -⟩ := two_cells X6.out
    go_wp2_with fail
    generalize w5.alloc (.cells #[.int .i64 m, .slice ra5 L.length rc5] 33) = W6 at *
    refine S6.out.mono ?_
    rintro e w7 ⟨r7, rfl, hr7, hb7⟩
    obtain ⟨ra7, rc7, hr⟩ := ownsRow_form' hr7
    subst hr
    have B7 := hid (B6.out.trans (hb7.mono B6.out.size))
    have M7 := hid ((hb7.block _ (Array.getElem?_eq_some_iff.1 M6.out).1).trans M6.out)
    have X7 := hid ((hb7.block _ (Array.getElem?_eq_some_iff.1 X6.out).1).trans X6.out)
    obtain ⟨z2, z3, -, -⟩ := two_cells M7.out
    have R7 := hid (R6.out.below hb7)
    have HS7 := hid hr7
    have D7 := hid (DU.out _ w7 (R7.out.ints HL8.out))
    clear hb7 hr7 x0 x1 X6 M6
    go_wp2_with fail
    refine D7.out.mono ?_
    rintro e w8 ⟨r8, rfl, hr8, hb8⟩
    obtain ⟨ra8, rc8, hr⟩ := ownsRow_form' hr8
    subst hr
    have B8 := hid (B7.out.trans (hb8.mono B7.out.size))
    have X8 := hid ((hb8.block _ (Array.getElem?_eq_some_iff.1 X7.out).1).trans X7.out)
    have HS8' := hid (HS7.out.below hb8)
    have K9 := below_alloc w8 (.cells #[.int .i64 m, .slice ra8 C.length rc8] 33)
    have M9 := hid (World.alloc_heap_new w8 (.cells #[.int .i64 m, .slice ra8 C.length rc8] 33))
    have X9 := hid ((K9.block _ (Array.getElem?_eq_some_iff.1 X8.out).1).trans X8.out)
    have B9 := hid (B8.out.trans (K9.mono B8.out.size))
    have R9 := hid (hr8.below K9)
    have HS9 := hid (HS8'.out.below K9)
    have T9 := hid (TR.out _ _ (HS9.out.ints HS8.out))
    clear K9 hb8 hr8 X7 M7
    obtain ⟨x0, x1, -, -⟩ := two_cells X9.out
    go_wp2_with fail
    generalize w8.alloc (.cells #[.int .i64 m, .slice ra8 C.length rc8] 33) = W9 at *
    refine T9.out.mono ?_
    rintro e w10 ⟨r10, rfl, hr10, hb10⟩
    obtain ⟨ra10, rc10, hr⟩ := ownsRow_form' hr10
    subst hr
    have B10 := hid (B9.out.trans (hb10.mono B9.out.size))
    have M10 := hid ((hb10.block _ (Array.getElem?_eq_some_iff.1 M9.out).1).trans M9.out)
    have R10 := hid (R9.out.below hb10)
    have K11 := below_alloc w10 (.cells #[.int .i64 m, .slice ra10 C.length rc10] 33)
    have M11 := hid (World.alloc_heap_new w10 (.cells #[.int .i64 m, .slice ra10 C.length rc10] 33))
    have N11 := hid ((K11.block _ (Array.getElem?_eq_some_iff.1 M10.out).1).trans M10.out)
    have B11 := hid (B10.out.trans (K11.mono B10.out.size))
    have Q11 := hid ((hr10.below K11).ints HC8.out)
    have P11 := hid ((R10.out.below K11).ints HC8.out)
    have E11 := hid (SameMatroid_any m m _ _ (N C) (N C) _ P11.out Q11.out)
    clear K11 hb10 hr10 x0 x1
    obtain ⟨y0, y1, -, -⟩ := two_cells M11.out
    obtain ⟨y2, y3, -, -⟩ := two_cells N11.out
    go_wp2_with fail
    generalize w10.alloc (.cells #[.int .i64 m, .slice ra10 C.length rc10] 33) = W11 at *
    refine E11.out.mono ?_
    rintro e w12 ⟨rfl, hb12⟩
    have B12 := hid (B11.out.trans (hb12.mono B11.out.size))
    clear hb12
    go_wp2_with fail
    go_ret
    exact ⟨by simp, B12.out⟩
end Go.Proofs.Ytgkkemlemnlchaa
