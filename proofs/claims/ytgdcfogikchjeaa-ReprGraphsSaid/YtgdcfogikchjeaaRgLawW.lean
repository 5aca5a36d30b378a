/- repr.Regular where there is none of the three that bar. -/
import Derived.Test.YtgdcfogikchjeaaKLbW
import Derived.Test.YtgdcfogikchjeaaRgAW
import Derived.Deep.CutRange
import Derived.Test.YtgdcfogikchjeaaRgLQ
import Derived.Test.YtgdcfogikchjeaaKGraph2W
import Derived.Test.YtgdcfogikchjeaaRgBW
import Derived.Test.YtgdcfogikchjeaaFdLQ
namespace Go.Proofs.Ytgdcfogikchjeaa
open Go.RowKit

theorem bars_new (w : World) (l0 l1 l2 : List Nat) (n0 n1 n2 : Nat) (a0 a1 a2 : Option Addr) (c0 c1 c2 : Nat) (i0 : Ints w (.slice a0 l0.length c0) (N l0)) (i1 : Ints w (.slice a1 l1.length c1) (N l1)) (i2 : Ints w (.slice a2 l2.length c2) (N l2)) :
    Bars (w.alloc (.cells #[.int .i64 n0, .slice a0 l0.length c0, .int .i64 n1, .slice a1 l1.length c1, .int .i64 n2, .slice a2 l2.length c2] 33)) w.heap.size n0 n1 n2 l0 l1 l2 a0 a1 a2 c0 c1 c2 := by
  have hk := (Below.refl _ w).alloc (Nat.le_refl _) (.cells #[.int .i64 n0, .slice a0 l0.length c0, .int .i64 n1, .slice a1 l1.length c1, .int .i64 n2, .slice a2 l2.length c2] 33)
  have hx := World.alloc_heap_new w (.cells #[.int .i64 n0, .slice a0 l0.length c0, .int .i64 n1, .slice a1 l1.length c1, .int .i64 n2, .slice a2 l2.length c2] 33)
  generalize w.alloc (.cells #[.int .i64 n0, .slice a0 l0.length c0, .int .i64 n1, .slice a1 l1.length c1, .int .i64 n2, .slice a2 l2.length c2] 33) = W at *
  refine ⟨⟨?_, ?_⟩, ⟨?_, ?_⟩, ⟨?_, ?_⟩, i0.below hk, i1.below hk, i2.below hk⟩ <;> simp [World.cell?, hx]
set_option maxRecDepth 20000 in
set_option maxHeartbeats 8000000 in
theorem Regular_ok (m : Nat) (a : Option Addr) (cap : Nat) (l : List Nat) (w : World) (hm : m ≤ 8) (hf : Fam m l) (hb : Bas l) (h : Ints w (.slice a l.length cap) (N l)) (e0 : minO m l 4 [3, 5, 6, 9, 10, 12] = none) (e1 : minO m l 7 fanoB = none) (e2 : minO m l 7 fanoD = none) :
    Calls Try.prog 8 #[.agg #[.int .i64 m, .slice a l.length cap]] w fun e w' => e = .returned (.tuple #[.bool true, .int .i64 0]) ∧ Below w.heap.size w w' := by
  have b1 := below_boxR w #[.int .i64 m, .slice a l.length cap]
  have x1 := World.alloc_heap_new w (.cells #[.int .i64 m, .slice a l.length cap] 33)
  obtain ⟨W1, hW1⟩ : ∃ W1, w.alloc (.cells #[.int .i64 m, .slice a l.length cap] 33) = W1 := ⟨_, rfl⟩
  rw [hW1] at b1 x1
  have KX := hid (fun W (hW : Below W1.heap.size W1 W) => two_cells ((hW.block _ (Array.getElem?_eq_some_iff.1 x1).1).trans x1))
  have UN : Hid (∀ W, Below W1.heap.size W1 W → Calls Try.prog 20 #[.int .i64 2, .int .i64 4] W fun e w' => ∃ a cap, e = .returned (.agg #[.int .i64 4, .slice a 6 cap]) ∧ Hid (Ints w' (.slice a 6 cap) (N [3, 5, 6, 9, 10, 12])) ∧ Hid (Below W1.heap.size W1 w')) := fun W hW => by
    have := runiform_ok 4 2 W (by omega) (by omega) (by rw [u24_is]; decide)
    rw [u24_is] at this
    exact this.mono fun e w' ⟨a, cap, h7, h8, h9⟩ => ⟨a, cap, h7, h8, hW.trans (h9.mono hW.size)⟩
  have FA : Hid (∀ W, Below W1.heap.size W1 W → Calls Try.prog 21 #[] W fun e w' => ∃ a cap, e = .returned (.agg #[.int .i64 7, .slice a 28 cap]) ∧ Hid (Ints w' (.slice a 28 cap) (N fanoB)) ∧ Hid (Below W.heap.size W w') ∧ Hid (Below W1.heap.size W1 w')) := fun W hW => (rfano_ok W).mono fun e w' ⟨a, cap, h7, h8, h9⟩ => ⟨a, cap, h7, h8, h9, hW.trans (h9.mono hW.size)⟩
  have DU : Hid (∀ (a : Option Addr) (cap : Nat) W, Below W1.heap.size W1 W → Ints W (.slice a 28 cap) (N fanoB) → Calls Try.prog 22 #[.agg #[.int .i64 7, .slice a 28 cap]] W fun e w' => ∃ a cap, e = .returned (.agg #[.int .i64 7, .slice a 28 cap]) ∧ Hid (Ints w' (.slice a 28 cap) (N fanoD)) ∧ Hid (Below W.heap.size W w') ∧ Hid (Below W1.heap.size W1 w')) := fun a cap W hW hI => by
    have := rdual_ok 7 a cap fanoB W (by omega) fanoB_fam fanoB_bas hI
    rw [fanoB_cmp] at this
    exact this.mono fun e w' ⟨a, cap, h7, h8, h9⟩ => ⟨a, cap, h7, h8, h9, hW.trans (h9.mono hW.size)⟩
  have HN : Hid (∀ (b : Nat) (a0 a1 a2 : Option Addr) (c0 c1 c2 : Nat) W, Below W1.heap.size W1 W → Bars W b 4 7 7 [3, 5, 6, 9, 10, 12] fanoB fanoD a0 a1 a2 c0 c1 c2 → Calls Try.prog 19 #[.agg #[.int .i64 m, .slice a l.length cap], .slice (some ⟨b, 0, none⟩) 3 3] W fun e w' => e = .returned (.tuple #[.bool true, .int .i64 0]) ∧ Hid (Below W1.heap.size W1 w')) := fun b a0 a1 a2 c0 c1 c2 W hW hB => (hasNone_ok m a cap l W hm hf hb ((h.below b1).below hW) b 4 7 7 _ _ _ a0 a1 a2 c0 c1 c2 hB ⟨by omega, u24_fam, u24_bas⟩ ⟨by omega, fanoB_fam, fanoB_bas⟩ ⟨by omega, fanoD_fam, fanoD_bas⟩ e0 e1 e2).mono fun e w' h9 => ⟨h9.1, hW.trans (h9.2.mono hW.size)⟩
  have HB1 := hid b1
  have B0 := hid (Below.refl W1.heap.size W1)
  subst hW1
  obtain ⟨k0, k1, -, -⟩ := KX.out _ B0.out
  clear h hf hb b1 x1 e0 e1 e2
  go_enter Try.func8, Try.ntmps8
  go_upto_region 1 with fail
  go_region_held3 (fun W => W.cell? ⟨w.heap.size, 0, none⟩ = some (.int .i64 m) ∧ W.cell? ⟨w.heap.size, 1, none⟩ = some (.slice a l.length cap)) (go_keep) (first
    | (go_at_call 20; (refine (UN.out _ (by first | exact B0.out.drew | exact B0.out)).mono ?_); rintro e w1 ⟨ua, uc, rfl, IU, K1⟩; obtain ⟨q0, q1, -, -⟩ := KX.out _ K1.out)
    | (go_at_call 22; (refine (DU.out _ _ _ K3.out IF2.out).mono ?_); rintro e w4 ⟨da, dc, rfl, ID, L4, K4⟩; have IU4 := hid (IU3.out.below L4.out); have IF4 := hid (IF3.out.below L4.out); obtain ⟨q0, q1, -, -⟩ := KX.out _ K4.out; have hk5 := K4.out.trans (((Below.refl _ w4).alloc (Nat.le_refl _) (.cells #[.int .i64 4, .slice ua 6 uc, .int .i64 7, .slice fa 28 fc, .int .i64 7, .slice da 28 dc] 33)).mono K4.out.size); have J5 := hid hk5; obtain ⟨p0, p1, -, -⟩ := KX.out _ hk5; clear hk5; have BN := hid (bars_new w4 [3, 5, 6, 9, 10, 12] fanoB fanoD 4 7 7 ua fa da uc fc dc IU4.out IF4.out ID.out))
    | (go_at_call 21; (refine (FA.out _ K2.out).mono ?_); rintro e w3 ⟨ga, gc, rfl, IF2, L3, K3⟩; have IU3 := hid (IU2.out.below L3.out); have IF3 := hid (IF1.out.below L3.out); obtain ⟨q0, q1, -, -⟩ := KX.out _ K3.out)
    | (go_at_call 21; (refine (FA.out _ K1.out).mono ?_); rintro e w2 ⟨fa, fc, rfl, IF1, L2, K2⟩; have IU2 := hid (IU.out.below L2.out); obtain ⟨q0, q1, -, -⟩ := KX.out _ K2.out)
    | (go_at_call 19; (refine (HN.out _ _ _ _ _ _ _ _ J5.out BN.out).mono ?_); rintro e w5 ⟨rfl, K5⟩; obtain ⟨q0, q1, -, -⟩ := KX.out _ K5.out))
  all_goals go_wp2_with fail
  all_goals exact bodyPost_ret (results_tmp2 rfl _ _ _) rfl ⟨rfl, HB1.out.trans (K5.out.mono HB1.out.size)⟩
end Go.Proofs.Ytgdcfogikchjeaa

namespace Go.Proofs.Ytgdcfogikchjeaa
open Go.RowKit

set_option maxRecDepth 20000 in
set_option maxHeartbeats 4000000 in
theorem rgraphs_law (n : Int) (v : Value) (F : List (Int × Int)) (w : World) (h : EdgesI w v F) :
    Calls Try.prog 3 #[.agg #[.int .i64 n, v]] w fun e w' => e = .returned (.bool true) ∧ Below w.heap.size w w' := by
  have HI := hid h
  obtain ⟨a, cap, rfl, hlen, -⟩ := h
  have B0 : Hid (Below w.heap.size w (w.alloc (.cells #[.int .i64 n, .slice a F.length cap] 24))) := (Below.refl _ _).alloc (Nat.le_refl _) _
  have X0 := hid (World.alloc_heap_new w (.cells #[.int .i64 n, .slice a F.length cap] 24))
  have S0 := hid (World.size_alloc w (.cells #[.int .i64 n, .slice a F.length cap] 24))
  obtain ⟨W0, hW0⟩ : ∃ W0, w.alloc (.cells #[.int .i64 n, .slice a F.length cap] 24) = W0 := ⟨_, rfl⟩
  rw [hW0] at B0 X0 S0
  have B1 := hid ((Below.refl _ W0).alloc (Nat.le_refl _) (.cells #[.int .i64 1] 3))
  have RP := hid (Represent_one _ 1 (W0.alloc (.cells #[.int .i64 1] 3)) (Ints.lit1 W0 1))
  go_enter Try.func3, Try.ntmps3
  go_wp2_with fail
  go_at_call 4
  refine RP.out.mono ?_
  rintro e w1 ⟨gm, rb, rc, rfl, hO, hb1⟩
  have H1 := hid (B1.out.trans (hb1.mono B1.out.size))
  have x3 := World.alloc_heap_new w1 (.cells #[.int .i64 2, .int .i64 1, .slice (some ⟨gm, 0, none⟩) 1 1] 27)
  have H3 := hid (H1.out.trans ((grow1 w1 (.cells #[.int .i64 2, .int .i64 1, .slice (some ⟨gm, 0, none⟩) 1 1] 27)).mono H1.out.size))
  have O3 := hid (hO.below (grow1 w1 (.cells #[.int .i64 2, .int .i64 1, .slice (some ⟨gm, 0, none⟩) 1 1] 27)))
  clear hb1 hO RP B1
  obtain ⟨⟨z0, z1, z2⟩, -⟩ := cells_3 x3
  clear hW0
  go_upto_region 2 with fail
  obtain ⟨W3, hW3⟩ : ∃ W3, w1.alloc (.cells #[.int .i64 2, .int .i64 1, .slice (some ⟨gm, 0, none⟩) 1 1] 27) = W3 := ⟨_, rfl⟩
  rw [hW3] at z0 z1 z2 H3 O3 x3 ⊢
  clear hW3
  have B35 := hid (grow2 W3 (.cells #[.int .i64 1] 3) (.cells #[.slice (some ⟨W3.heap.size, 0, none⟩) 1 1] 31))
  have SM := hid (RowsI_same _ _ [[1]] _ (O3.out.rows.below B35.out) (RowsI.lit1 W3 1))
  go_wp2_with fail
  go_at_call 5
  refine SM.out.mono ?_
  rintro e w2 ⟨rfl, hb2⟩
  have H2 := hid (H3.out.trans ((B35.out.trans (hb2.mono B35.out.size)).mono H3.out.size))
  have X2 := hid ((H2.out.block w.heap.size (by rw [S0.out]; omega)).trans X0.out)
  have B2 := hid (B0.out.trans (H2.out.mono B0.out.size))
  have hs2 : w.heap.size < w2.heap.size := (Array.getElem?_eq_some_iff.1 X2.out).1
  have GR := hid (Graphic_any n _ F w2 (HI.out.below B2.out))
  clear hb2 SM B35 O3 z0 z1 z2 x3 H3 H1 H2 B0 X0
  obtain ⟨c0, c1, -, -⟩ := two_cells X2.out
  go_wp2_with fail
  go_at_call 6
  refine GR.out.mono ?_
  clear GR
  rintro e w4 ⟨hy, hn⟩
  by_cases hg : graphR n F = 0
  · obtain ⟨m, rfl⟩ : ∃ m : Nat, n = (m : Int) := ⟨n.toNat, by unfold graphR at hg; split at hg; omega; cases hg⟩
    obtain ⟨r, rfl, ho, hb4⟩ := hy hg
    clear hy hn
    obtain ⟨ar, cr, hr⟩ := ownsRow_form' ho
    subst hr
    obtain ⟨hB, hFa, h8⟩ := gr_bas hg
    obtain ⟨d0, d1, d2⟩ := gr_none hg
    obtain ⟨f0, f1, f2⟩ := gr_dual hg
    have hl : (bigL F.length fun s => !ringB (natE F) s) = grL F := rfl
    rw [hl] at ho ⊢
    clear hl
    have hl8 := fam_len h8 hFa
    have M4 := hid (ho.ints (Nat.le_trans hl8 (by decide : 256 ≤ 17592186044416)))
    have hdB := dual_bas h8 hFa hB
    have hdF : Fam F.length (cmp F.length (grL F)) := cmp_fam hFa
    have b5 := grow1 w4 (.cells #[.int .i64 F.length, .slice ar (grL F).length cr] 33)
    have x5 := World.alloc_heap_new w4 (.cells #[.int .i64 F.length, .slice ar (grL F).length cr] 33)
    have B5 := hid (B2.out.trans ((hb4.trans (b5.mono hb4.size)).mono B2.out.size))
    have M5 := hid (M4.out.below b5)
    clear ho hb4 M4 c0 c1 X2
    obtain ⟨W5, hW5⟩ : ∃ W5, w4.alloc (.cells #[.int .i64 F.length, .slice ar (grL F).length cr] 33) = W5 := ⟨_, rfl⟩
    rw [hW5] at x5 b5 B5 M5
    have DU := hid (Dual_ok F.length _ (grL F) W5 h8 hFa hB M5.out)
    have X5 := hid x5
    have H5 := hid hW5
    obtain ⟨p0, p1, -, -⟩ := two_cells x5
    clear x5 b5 hg
    go_upto_region 5 with fail
    clear hW5
    go_wp2_with fail
    go_at_call 7
    refine DU.out.mono ?_
    rintro e w6 ⟨r6, rfl, ho6, hb6⟩
    obtain ⟨a6, c6, hr6⟩ := ownsRow_form' ho6
    subst hr6
    have b7 := grow1 w6 (.cells #[.int .i64 F.length, .slice a6 (cmp F.length (grL F)).length c6] 33)
    have x7 := World.alloc_heap_new w6 (.cells #[.int .i64 F.length, .slice a6 (cmp F.length (grL F)).length c6] 33)
    have M7 := hid ((ho6.ints (Nat.le_trans (fam_len h8 hdF) (by decide : 256 ≤ 17592186044416))).below b7)
    have B7' := hid (hb6.trans (b7.mono hb6.size))
    have B7 := hid (B5.out.trans (B7'.out.mono B5.out.size))
    have X57 := hid (gone X5.out B7'.out)
    obtain ⟨W7, hW7⟩ : ∃ W7, w6.alloc (.cells #[.int .i64 F.length, .slice a6 (cmp F.length (grL F)).length c6] 33) = W7 := ⟨_, rfl⟩
    rw [hW7] at x7 b7 B7 B7' M7 X57
    have X7 := hid x7
    have H7 := hid hW7
    have RA := hid (Regular_ok F.length ar cr (grL F) W7 h8 hFa hB (M5.out.below B7'.out) d0 d1 d2)
    clear p0 p1 x7 b7 hb6 ho6 DU
    obtain ⟨p0, p1, -, -⟩ := two_cells X57.out
    go_upto_region 8 with fail
    clear hW7
    go_wp2_with fail
    go_at_call 8
    refine RA.out.mono ?_
    rintro e w8 ⟨rfl, hb8⟩
    have X78 := hid (gone X7.out hb8)
    have B8 := hid (B7.out.trans (hb8.mono B7.out.size))
    have RB := hid (Regular_ok F.length a6 c6 (cmp F.length (grL F)) w8 h8 hdF hdB (M7.out.below hb8) f0 f1 f2)
    clear p0 p1 hb8 RA
    obtain ⟨p0, p1, -, -⟩ := two_cells X78.out
    go_wp2_with fail
    go_at_call 8
    refine RB.out.mono ?_
    rintro e w9 ⟨rfl, hb9⟩
    have B9 := hid (B8.out.trans (hb9.mono B8.out.size))
    clear p0 p1 hb9 RB
    go_wp2_with fail
    go_ret
    exact ⟨rfl, B9.out⟩
  · obtain ⟨rfl, hb4⟩ := hn hg
    have hq : (graphR n F == 0) = false := by rw [beq_eq_false_iff_ne]; exact hg
    have B4 := hid (B2.out.trans (hb4.mono B2.out.size))
    clear hb4 hy hn c0 c1
    go_wp2_with fail
    go_ret
    exact ⟨rfl, B4.out.alloc B4.out.size _⟩
end Go.Proofs.Ytgdcfogikchjeaa
