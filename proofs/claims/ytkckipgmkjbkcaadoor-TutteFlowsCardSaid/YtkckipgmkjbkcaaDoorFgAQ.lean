/- tutte.Flow: the Dual's Characteristic. -/
import Derived.Test.YtkckipgmkjbkcaaDoorKGraph2W
import Derived.Test.YtkckipgmkjbkcaaDoorDualQ
import Derived.Test.YtkckipgmkjbkcaaDoorFlCW
import Derived.Test.YtkckipgmkjbkcaaDoorPlainAll1
namespace Go.Proofs.YtkckipgmkjbkcaaDoor
open Go.RowKit

/-- The bases of a graph's matroid. -/
def gbL (F : List (Int × Int)) : List Nat := bigL F.length fun s => !ringB (natE F) s
theorem graph_is {n : Int} {F : List (Int × Int)} (h : graphR n F = 0) : ∃ N : Nat, n = N ∧ 1 ≤ N ∧ N ≤ 7 ∧ (∀ j, j < F.length → (F.getD j (0, 0)).1 = (ea (natE F) j : Nat) ∧ (F.getD j (0, 0)).2 = (eb (natE F) j : Nat)) ∧ GrM (natE F) N F.length (gbL F) := by
  unfold graphR at h
  split at h
  · rename_i hg
    obtain ⟨h1, h7, h8, hall⟩ := hg
    obtain ⟨N, rfl⟩ : ∃ N : Nat, n = N := ⟨n.toNat, by omega⟩
    have hl := natE_len F
    have hE : ∀ j, j < (natE F).length → ea (natE F) j < 7 ∧ eb (natE F) j < 7 := natE_lt h7 hall
    have e0 : gbL F = basR (natE F).length (depR (natE F).length (depG (natE F))) := by
      unfold gbL
      rw [← hl]
      exact ofInd_eq (by omega) ((depG_dep (natE F) (natE F).length).rkOn (by omega)) fun _ hs => ring_iff (by omega) hE hs
    have hd := (depG_dep (natE F) (natE F).length).rkOn (by omega : (natE F).length ≤ 8)
    refine ⟨N, rfl, by omega, by omega, fun j hj => ?_, hl.symm, h8, fun j hj => ?_, big_fam _ _, ?_, fun s hs => ?_⟩
    · have hb := edge_in hall hj
      unfold ea eb
      rw [natE_at hj]
      dsimp only
      omega
    · have hb := edge_in hall hj
      unfold ea eb
      rw [natE_at hj]
      dsimp only
      omega
    · rw [e0]
      exact hd.bas (by omega)
    · rw [e0, ← hl]
      rw [← hl] at hs
      exact hd.rk_eq (by omega) hs
  · exact absurd h (by decide)
/-- The number of the flows' polynomial. -/
def flR (F : List (Int × Int)) : Nat := rk (cmp F.length (gbL F)) (2 ^ F.length - 1)
def flC (F : List (Int × Int)) : Nat → Int := chrS (rk (cmp F.length (gbL F))) (flR F) (2 ^ F.length)
set_option maxHeartbeats 1000000 in
theorem Flow_any (n : Int) (v : Value) (F : List (Int × Int)) (w : World) (h : EdgesI w v F) :
    Calls Tryd.prog 4 #[.agg #[.int .i64 n, v]] w fun e w' => (graphR n F ≠ 0 → e = .returned (.tuple #[.slice none 0 0, .int .i64 (graphR n F)])) ∧ (graphR n F = 0 → ∃ u, e = .returned (.tuple #[u, .int .i64 0]) ∧ RkZ w' u (flR F + 1) (flC F)) ∧ Below w.heap.size w w' := by
  have HI := hid h
  obtain ⟨a, cap, rfl, -, -⟩ := h
  have HB0 : Hid (Below w.heap.size w (w.alloc (.cells #[.int .i64 n, .slice a F.length cap] 24))) := (Below.refl _ _).alloc (Nat.le_refl _) _
  have GR := hid (Graphic_any n _ F _ (HI.out.below HB0.out))
  by_cases hg : graphR n F = 0
  · obtain ⟨N, rfl, -, -, -, hG⟩ := graph_is hg
    have HG := hid hG
    have HZ := hid hg
    go_enter Tryd.func4, Tryd.ntmps4
    go_wp2_with fail
    refine GR.out.mono ?_
    rintro e w1 ⟨hm, -⟩
    obtain ⟨r, rfl, ho, hb⟩ := hm hg
    change Own _ _ _ (gbL F) at ho
    obtain ⟨ra, rc, rfl⟩ := ownsRow_form' ho
    have B1 := hid (HB0.out.trans (hb.mono HB0.out.size))
    have I1 := hid (ho.ints (Nat.le_trans (fam_len HG.out.m8 HG.out.fam) (by decide)))
    have hk := (Below.refl _ w1).alloc (Nat.le_refl _) (.cells #[.int .i64 F.length, .slice ra (gbL F).length rc] 42)
    have B2 := hid (B1.out.trans (hk.mono B1.out.size))
    have DU := hid (Dual_ok F.length _ (gbL F) _ HG.out.m8 HG.out.fam HG.out.bas (I1.out.below hk))
    clear ho hb hm hg GR HI HB0 hk
    go_wp2_with fail
    refine DU.out.mono ?_
    rintro e w2 ⟨r2, rfl, ho, hb⟩
    obtain ⟨da, dc, rfl⟩ := ownsRow_form' ho
    have B3 := hid (B2.out.trans (hb.mono B2.out.size))
    have hfc := cmp_fam HG.out.fam
    have hk := (Below.refl _ w2).alloc (Nat.le_refl _) (.cells #[.int .i64 F.length, .slice da (cmp F.length (gbL F)).length dc] 42)
    have I2 := ho.ints (Nat.le_trans (fam_len HG.out.m8 hfc) (by decide))
    have CH := hid (Characteristic_ok F.length _ (cmp F.length (gbL F)) _ HG.out.m8 hfc (dual_bas HG.out.m8 HG.out.fam HG.out.bas) (I2.below hk))
    have B4 := hid (B3.out.trans (hk.mono B3.out.size))
    clear ho hb DU hfc I2 hk
    go_wp2_with fail
    refine CH.out.mono ?_
    rintro e w3 ⟨u, rfl, hz, hb⟩
    have Z3 := hid hz
    have B5 := hid (B4.out.trans (hb.mono B4.out.size))
    obtain ⟨zb, zo, zc, rfl, -, -⟩ := hz
    clear hb CH
    go_wp2_with fail
    exact bodyPost_ret (results_tmp2 rfl _ _ _) rfl ⟨fun e => absurd HZ.out e, fun _ => ⟨_, rfl, Z3.out⟩, B5.out⟩
  · obtain ⟨q, hq⟩ : ∃ q, graphR n F = q := ⟨_, rfl⟩
    rw [hq] at hg GR ⊢
    have HN := hid hg
    have hg1 : (q != 0) = true := by rw [bne_iff_ne]; exact hg
    go_enter Tryd.func4, Tryd.ntmps4
    go_wp2_with fail
    refine GR.out.mono ?_
    rintro e w1 ⟨-, hm⟩
    obtain ⟨rfl, hb⟩ := hm hg
    have B1 := hid (HB0.out.trans (hb.mono HB0.out.size))
    clear hb hm hg GR HI HB0
    go_wp2_with fail
    exact bodyPost_ret (results_tmp2 rfl _ _ _) rfl ⟨fun _ => rfl, fun e => absurd e HN.out, B1.out.alloc B1.out.size _⟩
end Go.Proofs.YtkckipgmkjbkcaaDoor
