/- rotaref.Covered, where there is a loop. -/
import Derived.Test.YthbcnolpjcppoabRfNQ
import Derived.Deep.RegionHeld3
import Derived.Test.YthbcnolpjcppoabCvDQ
import Derived.Test.YthbcnolpjcppoabPlainAll
import Derived.Test.YthbcnolpjcppoabThoseQ
namespace Go.Proofs.Ythbcnolpjcppoab
open Go.RowKit

set_option maxRecDepth 20000 in
set_option maxHeartbeats 2000000 in
theorem Covered_bad (m : Nat) (v : Value) (l : List Nat) (w : World) (hm : m ≤ 8) (hf : Fam m l) (hb : Bas l) (h : Ints w v (N l)) (hl : ¬ NoLoop m (rk l)) :
    Calls Try.prog 32 #[.agg #[.int .i64 m, v]] w fun e w' => e = .returned (.tuple #[.slice none 0 0, .bool false]) ∧ Below w.heap.size w w' := by
  have HB0 := hid (below_box w #[.int .i64 m, v])
  have hr := hb.rkOn m
  have N1 := hid (fun (w' : World) (hb' : Below w.heap.size w w') => Needs_ok m v l w' hm hf hb (h.below hb'))
  have R1 := hid (fun (w' : World) (hb' : Below w.heap.size w w') => Ranks_ref m v l w' hm (hf.lt256 hm) (h.below hb'))
  have hcv : nedZ (rk l) (2 ^ m - 1) = -1 := by
    unfold nedZ
    rw [if_neg (fun e => hl ((ned_full hm hr).1 e))]
  have AL := hid (fun w' => All_nat m w' hm)
  have hfull := full_lt m
  obtain ⟨T, HT, hT2, hT1⟩ : ∃ T : Nat, Hid (2 ^ m = T) ∧ T ≤ 256 ∧ 1 ≤ T := ⟨2 ^ m, Eq.refl (2 ^ m), (pow_wrap _ hm).2, Nat.one_le_two_pow⟩
  rw [HT.out] at N1 R1 AL hfull hcv
  obtain ⟨a, cap, hv, -, -⟩ := h.nats
  subst hv
  go_enter Try.func32, Try.ntmps32
  go_wp2_with fail
  have x0 : (w.alloc (.cells #[.int .i64 m, .slice a l.length cap] 24)).cell? ⟨w.heap.size, 0, none⟩ = some (.int .i64 m) := by rw [World.cell?_alloc_at _ _ _ _ rfl]; rfl
  have x1 : (w.alloc (.cells #[.int .i64 m, .slice a l.length cap] 24)).cell? ⟨w.heap.size, 1, none⟩ = some (.slice a l.length cap) := by rw [World.cell?_alloc_at _ _ _ _ rfl]; rfl
  have hs0 : w.heap.size < (w.alloc (.cells #[.int .i64 m, .slice a l.length cap] 24)).heap.size := by simp
  revert x0 x1 hs0 HB0
  generalize w.alloc (.cells #[.int .i64 m, .slice a l.length cap] 24) = W0
  intro HB0 x0 x1 hs0
  have N2 := hid (N1.out W0.drew HB0.out.drew)
  go_region_held3 (fun w' => w'.cell? ⟨w.heap.size, 0, none⟩ = some (.int .i64 m) ∧ w'.cell? ⟨w.heap.size, 1, none⟩ = some (.slice a l.length cap)) (go_keep)
    (first
      | (go_at_call 79; refine N2.out.mono ?_; rintro e w1 ⟨u, rfl, hu, hb1⟩; have HU := hid hu; obtain ⟨ub, uoff, ucap, rfl, -, -⟩ := hu; have HB1 := hid ((Below.refl W0.heap.size W0).drew.trans hb1); have y0 := (HB1.out.cell (p := ⟨w.heap.size, 0, none⟩) hs0).trans x0; have y1 := (HB1.out.cell (p := ⟨w.heap.size, 1, none⟩) hs0).trans x1; clear hb1)
      | (go_at_call 74; refine (R1.out _ (HB0.out.trans (HB1.out.mono HB0.out.size))).mono ?_; rintro e w2 ⟨r2, rfl, hr2, hb2⟩; have HR2 := hid hr2; obtain ⟨rb, roff, rcap, rfl, -, -⟩ := hr2; have HU2 := hid (HU.out.below hb2); have HB2 := hid (HB1.out.trans (hb2.mono HB1.out.size)); have z0 := (HB2.out.cell (p := ⟨w.heap.size, 0, none⟩) hs0).trans x0; have z1 := (HB2.out.cell (p := ⟨w.heap.size, 1, none⟩) hs0).trans x1; clear hb2 HU))
  have HBW := hid (HB0.out.trans (HB2.out.mono HB0.out.size))
  go_wp2_with fail
  refine (AL.out _).mono ?_
  rintro e w' ⟨rfl, h1⟩
  obtain rfl := h1.symm
  clear h1
  obtain ⟨_, _, _, e', hub, huc⟩ := HU2.out
  obtain ⟨⟨rfl, rfl⟩, rfl⟩ : (ub = _ ∧ uoff = _) ∧ ucap = _ := by simpa using e'
  have cF := huc (T - 1) hfull
  rw [hcv] at cF
  have hfT : ((T - 1 : Nat) : Int) < (T : Int) := by omega
  have hfT2 : (T : Int) - 1 = ((T - 1 : Nat) : Int) := by omega
  go_wp2_with fail
  go_ret2
  exact ⟨rfl, HBW.out⟩
end Go.Proofs.Ythbcnolpjcppoab

namespace Go.Proofs.Ythbcnolpjcppoab
open Go.RowKit

theorem two_free : NoLoop 4 (rk twoL) := by unfold NoLoop; decide +kernel
theorem two_cov : (covL 4 (rk twoL)).length = 2 := by
  rw [covL_len (by omega) (two_bas.rkOn 4) two_free]
  decide +kernel
theorem Up_any (a b : Nat) (w : World) (hb : 1 ≤ b) (ha : a ≤ 256) (hb2 : b ≤ 256) :
    Calls Try.prog 80 #[.int .i64 a, .int .i64 b] w fun e w' => e = .returned (.int .i64 ((a + b - 1) / b : Nat)) ∧ w' = w := by
  have hq : (a : Int) / (b : Int) = ((a / b : Nat) : Int) := (Int.natCast_ediv a b).symm
  have hm := Nat.div_add_mod a b
  have hml := Nat.mod_lt a hb
  have hle := Nat.div_le_self a b
  have hb0 : ((b : Int) == 0) = false := by rw [beq_eq_false_iff_ne]; omega
  have hb0' : ¬ (b : Int) = 0 := by omega
  have e : (a + b - 1) / b = if a % b = 0 then a / b else a / b + 1 := by
    split
    · rename_i h
      apply Nat.le_antisymm
      · rw [up_le hb, Nat.mul_comm]
        omega
      · exact Nat.div_le_div_right (by omega)
    · rename_i h
      apply Nat.le_antisymm
      · rw [up_le hb, Nat.succ_mul, Nat.mul_comm]
        omega
      · rw [Nat.le_div_iff_mul_le hb, Nat.succ_mul, Nat.mul_comm]
        omega
  have hmul : ((a / b : Nat) : Int) * (b : Int) = ((b * (a / b) : Nat) : Int) := by rw [Nat.mul_comm, Int.natCast_mul]
  have hml2 : b * (a / b) ≤ a := by omega
  rw [e]
  generalize a / b = q at *
  generalize b * q = p at *
  by_cases h0 : a % b = 0
  · rw [if_pos h0]
    have hlt : ¬ (p : Int) < (a : Int) := by omega
    go_enter Try.func80, Try.ntmps80
    go_wp2_with fail
    go_ret
    exact ⟨rfl, rfl⟩
  · rw [if_neg h0]
    have hlt : (p : Int) < (a : Int) := by omega
    go_enter Try.func80, Try.ntmps80
    go_wp2_with fail
    go_ret
    exact ⟨ret_int (by omega), rfl⟩
end Go.Proofs.Ythbcnolpjcppoab
