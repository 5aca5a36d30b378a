/- tutte.Acyclic. -/
import Derived.Test.YtkmpnaohdijpnaaGreatDoorFgAW
import Derived.Test.YtkmpnaohdijpnaaGreatDoorTtCW
import Derived.Test.YtkmpnaohdijpnaaGreatDoorPlainAll1
namespace Go.Proofs.YtkmpnaohdijpnaaGreatDoor
open Go.RowKit

/-- The ways of a graph's edges without a ring. -/
def acR (F : List (Int × Int)) : Nat := acN F.length (gbL F) (rk (gbL F) (2 ^ F.length - 1) + 1)
set_option maxRecDepth 20000 in
set_option maxHeartbeats 2000000 in
theorem Acyclic_any (n : Int) (v : Value) (F : List (Int × Int)) (w : World) (h : EdgesI w v F) :
    Calls Tryz.prog 7 #[.agg #[.int .i64 n, v]] w fun e w' => (graphR n F ≠ 0 → e = .returned (.tuple #[.int .i64 0, .int .i64 (graphR n F)])) ∧ (graphR n F = 0 → e = .returned (.tuple #[.int .i64 (acR F), .int .i64 0])) ∧ Below w.heap.size w w' := by
  have HI := hid h
  obtain ⟨a, cap, rfl, -, -⟩ := h
  have HB0 : Hid (Below w.heap.size w (w.alloc (.cells #[.int .i64 n, .slice a F.length cap] 24))) := (Below.refl _ _).alloc (Nat.le_refl _) _
  have GR := hid (Graphic_any n _ F _ (HI.out.below HB0.out))
  by_cases hg : graphR n F = 0
  · obtain ⟨N, rfl, -, -, -, hG⟩ := graph_is hg
    have HG := hid hG
    have HZ := hid hg
    go_enter Tryz.func7, Tryz.ntmps7
    go_wp2_with fail
    refine GR.out.mono ?_
    rintro e w1 ⟨hm, -⟩
    obtain ⟨r, rfl, ho, hb⟩ := hm hg
    change Own _ _ _ (gbL F) at ho
    obtain ⟨ra, rc, rfl⟩ := ownsRow_form' ho
    have B1 := hid (HB0.out.trans (hb.mono HB0.out.size))
    have I1 := hid (ho.ints (Nat.le_trans (fam_len HG.out.m8 HG.out.fam) (by decide)))
    have hk := (Below.refl _ w1).alloc (Nat.le_refl _) (.cells #[.int .i64 F.length, .slice ra (gbL F).length rc] 36)
    have B2 := hid (B1.out.trans (hk.mono B1.out.size))
    have PY := hid (poly_any F.length _ (gbL F) _ HG.out.m8 HG.out.fam HG.out.bas (I1.out.below hk))
    have HAR : Hid (acR F = acN F.length (gbL F) (rk (gbL F) (2 ^ F.length - 1) + 1)) := rfl
    have hl := fam_lenT HG.out.m8 HG.out.fam
    have HAL : Hid (∀ k, acN F.length (gbL F) k + 256 ≤ 256 * 2 ^ k) := fun k => acN_le (by omega) k
    have HTL : Hid (∀ k, ttN F.length (gbL F) k 0 ≤ 256) := fun k => Nat.le_trans (ttN_le _ _ _ _) (by omega)
    have hR := rk_small HG.out.m8 HG.out.fam (2 ^ F.length - 1)
    have HST : Hid (∀ k, acN F.length (gbL F) (k + 1) = acN F.length (gbL F) k + ttN F.length (gbL F) k 0 * 2 ^ k) := fun k => rfl
    clear ho hb hm hg GR HI HB0 hk
    obtain ⟨R, hRR⟩ : ∃ R, rk (gbL F) (2 ^ F.length - 1) = R := ⟨_, rfl⟩
    rw [hRR] at PY HAR hR
    clear hRR
    go_wp2_with fail
    refine PY.out.mono ?_
    rintro e w2 ⟨g, rfl, hgs, ht, hb⟩
    have TB := hid ht
    have B3 := hid (B2.out.trans (hb.mono B2.out.size))
    clear ht hb PY hgs
    go_wp2_with fail
    go_loopw [6, 20] (fun z i W => ∃ k : Nat, k ≤ R + 1 ∧ i = .int .i64 k ∧ z = .int .i64 (acN F.length (gbL F) k : Nat) ∧ W = w2) (fun _ i _ => R + 1 - (intOf i).toNat)
    case atStart => exact ⟨0, Nat.zero_le _, rfl, rfl, rfl⟩
    case round =>
      obtain ⟨k, hk, rfl, rfl, rfl⟩ := hrel
      by_cases hlt : k < R + 1
      · have hki : (k : Int) < (R : Int) + 1 := by omega
        have c1 := TB.out.head k hlt
        have c2 := (TB.out.row k hlt).cell 0 (by omega)
        have hal := HAL.out k
        have hal2 := HAL.out (k + 1)
        have htl := HTL.out k
        have hst := HST.out k
        have hp : 2 ^ k ≤ 256 := Nat.le_trans (Nat.pow_le_pow_right (by omega) (show k ≤ 8 by omega)) (by decide)
        have hp1 : 1 ≤ 2 ^ k := Nat.one_le_two_pow
        have hM0 : (0 : Int) < ((F.length - R + 1 : Nat) : Int) := by omega
        have e0 : ((ttN F.length (gbL F) k 0 : Nat) : Int) * 2 ^ k = ((ttN F.length (gbL F) k 0 * 2 ^ k : Nat) : Int) := by rw [Int.natCast_mul, Int.natCast_pow]; rfl
        have hmul : ttN F.length (gbL F) k 0 * 2 ^ k ≤ 256 * 256 := Nat.mul_le_mul htl hp
        have e1 : wrap64 (((ttN F.length (gbL F) k 0 : Nat) : Int) * 2 ^ k) = ((ttN F.length (gbL F) k 0 * 2 ^ k : Nat) : Int) := by rw [e0]; exact IntWalk.wrap64_in _ (by omega)
        have hpk : 256 * 2 ^ k ≤ 65536 := by omega
        have e2 : wrap64 (((acN F.length (gbL F) k : Nat) : Int) + ((ttN F.length (gbL F) k 0 * 2 ^ k : Nat) : Int)) = ((acN F.length (gbL F) (k + 1) : Nat) : Int) := by rw [IntWalk.wrap64_in _ (by omega), hst]; omega
        have E1 := hid e1
        have E2 := hid e2
        have HLT := hid hlt
        clear e0 e1 e2 hmul hpk hp hp1 hst htl hal hal2
        go_wp2_with fail
        go_roundw
        case rel => exact ⟨k + 1, HLT.out, by go_num, by rw [E1.out, E2.out], trivial⟩
        case measure => simp [intOf]; omega
      · obtain rfl : k = R + 1 := by omega
        have hn : ¬ ((R + 1 : Nat) : Int) < (R : Int) + 1 := by omega
        rw [← HAR.out]
        go_wp2_with fail
        exact bodyPost_ret (results_tmp2 rfl _ _ _) rfl ⟨fun e => absurd HZ.out e, fun _ => rfl, B3.out⟩
  · obtain ⟨q, hq⟩ : ∃ q, graphR n F = q := ⟨_, rfl⟩
    rw [hq] at hg GR ⊢
    have HN := hid hg
    have hg1 : (q != 0) = true := by rw [bne_iff_ne]; exact hg
    go_enter Tryz.func7, Tryz.ntmps7
    go_wp2_with fail
    refine GR.out.mono ?_
    rintro e w1 ⟨-, hm⟩
    obtain ⟨rfl, hb⟩ := hm hg
    have B1 := hid (HB0.out.trans (hb.mono HB0.out.size))
    clear hb hm hg GR HI HB0
    go_wp2_with fail
    exact bodyPost_ret (results_tmp2 rfl _ _ _) rfl ⟨fun _ => rfl, fun e => absurd e HN.out, B1.out.alloc B1.out.size _⟩
end Go.Proofs.YtkmpnaohdijpnaaGreatDoor
