/- join.ranksAboveNought, join.Pack, join.Weak. -/
import Derived.Test.YthbcnolpjcppoabPkBQ
import Derived.Test.YthbcnolpjcppoabCvDQ
namespace Go.Proofs.Ythbcnolpjcppoab
open Go.RowKit

/-- What is answered by way of error, where there must be a rank above 0. -/
def ranQ (n : Int) (zs : List Int) : Int := if chkR n zs ≠ 0 then chkR n zs else if rk (zs.map Int.toNat) (2 ^ n.toNat - 1) = 0 then 5 else 0
theorem pk_of {m : Nat} {l : List Nat} (hm : m ≤ 8) (hf : Fam m l) (hb : Bas l) (h0 : rk l (2 ^ m - 1) ≠ 0) : Pk m l (rk l (2 ^ m - 1)) :=
  ⟨hm, hf, hb, fun b hb' => by have := (bas_mem hm hf hb (hf.lt b hb')).1 hb'; omega, by omega⟩
theorem ranQ_eq {m : Nat} {l : List Nat} (hc : chkR m (N l) = 0) : ranQ m (N l) = if rk l (2 ^ m - 1) = 0 then 5 else 0 := by
  unfold ranQ
  rw [if_neg (by rw [hc]; exact fun h => h rfl), toNats, Int.toNat_natCast]
theorem ranQ_of {n : Int} {zs : List Int} (hq : ranQ n zs = 0) : ∃ (m : Nat) (l : List Nat), n = m ∧ m ≤ 8 ∧ zs = N l ∧ Fam m l ∧ Bas l ∧ Pk m l (rk l (2 ^ m - 1)) := by
  have hc : chkR n zs = 0 := by
    unfold ranQ at hq
    split at hq
    · exact hq
    · rename_i h; exact Classical.not_not.1 h
  obtain ⟨m, l, rfl, hm, rfl, hf, hb⟩ := chk_of hc
  rw [ranQ_eq hc] at hq
  refine ⟨m, l, rfl, hm, rfl, hf, hb, pk_of hm hf hb fun e => ?_⟩
  rw [if_pos e] at hq
  cases hq
set_option maxHeartbeats 1000000 in
theorem ran_none (n : Int) (v : Value) (zs : List Int) (w : World) (h : Ints w v zs) (hq : ranQ n zs ≠ 0) :
    Calls Try.prog 88 #[.agg #[.int .i64 n, v]] w fun e w' => e = .returned (.tuple #[.slice none 0 0, .int .i64 (ranQ n zs)]) ∧ Below w.heap.size w w' := by
  have HB0 := hid (below_box w #[.int .i64 n, v])
  by_cases hc : chkR n zs = 0
  · obtain ⟨m, l, rfl, hm, rfl, hf, hb⟩ := chk_of hc
    rw [ranQ_eq hc] at hq ⊢
    have h0 : rk l (2 ^ m - 1) = 0 := Classical.byContradiction fun e => by
      rw [if_neg e] at hq
      exact hq rfl
    rw [if_pos h0]
    have R1 := hid (Ranks_ok m v l _ hm hf hb (h.below HB0.out))
    have WS := hid (fun w => wholeSet_any m w hm)
    obtain ⟨a, cap, hv, -, -⟩ := h.nats
    subst hv
    have hfl := full_lt m
    have hT := (pow_wrap m hm).2
    go_enter Try.func88, Try.ntmps88
    go_wp2_with fail
    refine R1.out.mono ?_
    rintro e w1 ⟨r1, rfl, hr1, hb1⟩
    obtain ⟨rb, roff, rcap, rfl, hrb, hrc⟩ := hr1
    have HB1 := hid (HB0.out.trans (hb1.mono HB0.out.size))
    obtain ⟨x0, x1⟩ := box_cells hb1
    have cF := hrc _ hfl
    rw [h0] at cF
    clear hrc hb1 R1
    generalize 2 ^ m - 1 = fm at *
    generalize 2 ^ m = T at *
    have hfl' : (fm : Int) < (T : Int) := by omega
    go_wp2_with fail
    refine (WS.out _).mono ?_
    rintro e w' ⟨rfl, h1⟩
    obtain rfl := h1.symm
    go_wp2_with fail
    go_ret2
    exact ⟨rfl, HB1.out⟩
  · have e : ranQ n zs = chkR n zs := by unfold ranQ; rw [if_pos hc]
    rw [e] at hq ⊢
    have R1 := hid (Ranks_bad n v zs _ (h.below HB0.out) hc)
    generalize chkR n zs = q at *
    have hq' : (q == 0) = false := by rw [beq_eq_false_iff_ne]; exact hq
    obtain ⟨a, cap, rfl, -, -⟩ := h
    go_enter Try.func88, Try.ntmps88
    go_wp2_with fail
    refine R1.out.mono ?_
    rintro e w2 ⟨rfl, hb2⟩
    have HB := hid (HB0.out.trans (hb2.mono HB0.out.size))
    clear hb2
    go_wp2_with fail
    go_ret2
    exact ⟨rfl, HB.out⟩
set_option maxHeartbeats 1000000 in
theorem ran_good (m : Nat) (v : Value) (l : List Nat) (w : World) (hm : m ≤ 8) (hf : Fam m l) (hb : Bas l) (h : Ints w v (N l)) (h0 : rk l (2 ^ m - 1) ≠ 0) :
    Calls Try.prog 88 #[.agg #[.int .i64 m, v]] w fun e w' => ∃ r, e = .returned (.tuple #[r, .int .i64 0]) ∧ RkAt w' r (2 ^ m) (rk l) ∧ Below w.heap.size w w' := by
  have HB0 := hid (below_box w #[.int .i64 m, v])
  have R1 := hid (Ranks_ok m v l _ hm hf hb (h.below HB0.out))
  have WS := hid (fun w => wholeSet_any m w hm)
  obtain ⟨a, cap, hv, -, -⟩ := h.nats
  subst hv
  have hfl := full_lt m
  have hT := (pow_wrap m hm).2
  have hk8 := rk_small hm hf (2 ^ m - 1)
  obtain ⟨T, HT⟩ : ∃ T, Hid (2 ^ m = T) := ⟨2 ^ m, Eq.refl (2 ^ m)⟩
  rw [HT.out] at R1 WS hfl hT hk8 h0
  rw [HT.out]
  go_enter Try.func88, Try.ntmps88
  go_wp2_with fail
  refine R1.out.mono ?_
  rintro e w1 ⟨r1, rfl, hr1, hb1⟩
  have HR1 := hid hr1
  obtain ⟨rb, roff, rcap, rfl, hrb, hrc⟩ := hr1
  have HB1 := hid (HB0.out.trans (hb1.mono HB0.out.size))
  obtain ⟨x0, x1⟩ := box_cells hb1
  have cF := hrc _ hfl
  clear hrc hb1 R1
  generalize rk l (T - 1) = z at *
  generalize T - 1 = fm at *
  have hfl' : (fm : Int) < (T : Int) := by omega
  have hz : ((z : Int) == 0) = false := by rw [beq_eq_false_iff_ne]; omega
  have hz' : ¬ (z : Int) = 0 := by omega
  go_wp2_with fail
  refine (WS.out _).mono ?_
  rintro e w' ⟨rfl, h1⟩
  obtain rfl := h1.symm
  go_wp2_with fail
  go_ret2
  exact ⟨_, rfl, HR1.out, HB1.out⟩
set_option maxHeartbeats 1000000 in
theorem Pack_bad (n : Int) (v : Value) (zs : List Int) (w : World) (h : Ints w v zs) (hq : ranQ n zs ≠ 0) :
    Calls Try.prog 39 #[.agg #[.int .i64 n, v]] w fun e w' => e = .returned (.tuple #[.slice none 0 0, .int .i64 (ranQ n zs)]) ∧ Below w.heap.size w w' := by
  have HB0 := hid (below_box w #[.int .i64 n, v])
  have R1 := hid (ran_none n v zs _ (h.below HB0.out) hq)
  generalize ranQ n zs = q at *
  have hq' : (q == 0) = false := by rw [beq_eq_false_iff_ne]; exact hq
  obtain ⟨a, cap, rfl, -, -⟩ := h
  go_enter Try.func39, Try.ntmps39
  go_wp2_with fail
  refine R1.out.mono ?_
  rintro e w2 ⟨rfl, hb2⟩
  have HB := hid (HB0.out.trans (hb2.mono HB0.out.size))
  clear hb2
  go_wp2_with fail
  go_ret2
  exact ⟨rfl, HB.out⟩
set_option maxHeartbeats 1000000 in
theorem Weak_bad (n : Int) (v : Value) (zs : List Int) (w : World) (h : Ints w v zs) (hq : ranQ n zs ≠ 0) :
    Calls Try.prog 40 #[.agg #[.int .i64 n, v]] w fun e w' => e = .returned (.tuple #[.int .i64 0, .int .i64 (ranQ n zs)]) ∧ Below w.heap.size w w' := by
  have HB0 := hid (below_box w #[.int .i64 n, v])
  have R1 := hid (ran_none n v zs _ (h.below HB0.out) hq)
  generalize ranQ n zs = q at *
  have hq' : (q == 0) = false := by rw [beq_eq_false_iff_ne]; exact hq
  obtain ⟨a, cap, rfl, -, -⟩ := h
  go_enter Try.func40, Try.ntmps40
  go_wp2_with fail
  refine R1.out.mono ?_
  rintro e w2 ⟨rfl, hb2⟩
  have HB := hid (HB0.out.trans (hb2.mono HB0.out.size))
  clear hb2
  go_wp2_with fail
  go_ret2
  exact ⟨rfl, HB.out⟩
set_option maxHeartbeats 1000000 in
theorem Pack_ok (m R : Nat) (v : Value) (l : List Nat) (w : World) (hP : Pk m l R) (h : Ints w v (N l)) :
    Calls Try.prog 39 #[.agg #[.int .i64 m, v]] w fun e w' => ∃ u, e = .returned (.tuple #[u, .int .i64 0]) ∧ Own w.heap.size w' u (packL m l) ∧ Below w.heap.size w w' := by
  have hm := hP.n8
  have HB0 := hid (below_box w #[.int .i64 m, v])
  have hR := hP.rank
  have hpos := hP.pos
  have R1 := hid (ran_good m v l _ hm hP.fam hP.bas (h.below HB0.out) (by omega))
  have C1 := hid (fun (w' : World) (hb' : Below w.heap.size w w') => packs_any v m R l w' hP (h.below hb'))
  have T1 : Hid (∀ (v : Value) (w : World), RkAt w v (2 ^ m) (pkF l) → Calls Try.prog 86 #[v, .int .i64 (2 ^ m - 1 : Nat)] w fun e w' => ∃ u, e = .returned u ∧ Own w.heap.size w' u (packL m l) ∧ Below w.heap.size w w') := (fun v w h => takeAll_any v (2 ^ m) (2 ^ m - 1) (pkF l) w (pow_wrap m hm).2 (full_lt m) (fun s hs => pkF_sub hP hs) h)
  have WS := hid (fun w => wholeSet_any m w hm)
  obtain ⟨a, cap, hv, -, -⟩ := h.nats
  subst hv
  go_enter Try.func39, Try.ntmps39
  go_wp2_with fail
  refine R1.out.mono ?_
  rintro e w1 ⟨r1, rfl, hr1, hb1⟩
  obtain ⟨rb, roff, rcap, rfl, -, -⟩ := hr1
  have HB1 := hid (HB0.out.trans (hb1.mono HB0.out.size))
  obtain ⟨x0, x1⟩ := box_cells hb1
  have hs1 := hb1.size
  rw [World.size_alloc] at hs1
  clear hb1 R1
  have hw0 : w.heap.size < w1.heap.size := by omega
  have C2 := hid (C1.out w1.drew HB1.out.drew)
  generalize 2 ^ m - 1 = fm at *
  generalize 2 ^ m = T at *
  go_wp2_with fail
  go_region_held3 (fun w' => w'.cell? ⟨w.heap.size, 0, none⟩ = some (.int .i64 m) ∧ w'.cell? ⟨w.heap.size, 1, none⟩ = some (.slice a l.length cap)) (go_keep)
    (first
      | (go_at_call 89; refine C2.out.mono ?_; rintro e w2 ⟨u, rfl, hu, hb2⟩; have HU := hid hu; obtain ⟨ub, uoff, ucap, rfl, -, -⟩ := hu; have HB2 := hid ((Below.refl w1.heap.size w1).drew.trans hb2); have y0 := (HB2.out.cell (p := ⟨w.heap.size, 0, none⟩) hw0).trans x0; have y1 := (HB2.out.cell (p := ⟨w.heap.size, 1, none⟩) hw0).trans x1; clear hb2)
      | (go_at_call 45; refine (WS.out _).mono ?_; rintro e w' ⟨rfl, h1⟩; obtain rfl := h1.symm)
      | (go_at_call 86; refine (T1.out _ _ HU.out).mono ?_; rintro e w3 ⟨u3, rfl, ho3, hb3⟩; have HO3 := hid ho3; have HB3 := hid (HB2.out.trans (hb3.mono HB2.out.size)); have z0 := (HB3.out.cell (p := ⟨w.heap.size, 0, none⟩) hw0).trans x0; have z1 := (HB3.out.cell (p := ⟨w.heap.size, 1, none⟩) hw0).trans x1; have hs2 := HB2.out.size; obtain ⟨ra, rc, hr⟩ := ownsRow_form' ho3; subst hr; clear ho3 hb3))
  have HO4 := hid (HO3.out.mono (by omega : w.heap.size ≤ w2.heap.size))
  have HB4 := hid (HB1.out.trans (HB3.out.mono (by omega : w.heap.size ≤ w1.heap.size)))
  clear HO3 HB3
  go_wp2_with fail
  go_ret2
  exact ⟨.slice ra (packL m l).length rc, rfl, HO4.out, HB4.out⟩
end Go.Proofs.Ythbcnolpjcppoab
