/- join.Cover, join.Dense. -/
import Derived.Test.YthbcnolpjcppoabRwLQ
import Derived.Test.YthbcnolpjcppoabTkAQ
import Derived.Deep.RegionHeld3
namespace Go.Proofs.Ythbcnolpjcppoab
open Go.RowKit

/-- What is answered by way of error, where there must be no loop. -/
def rwlQ (n : Int) (zs : List Int) : Int := if chkR n zs ≠ 0 then chkR n zs else if loopB n.toNat (rk (zs.map Int.toNat)) = true then 5 else 0
theorem toNats (l : List Nat) : (N l).map Int.toNat = l := by
  unfold N
  rw [List.map_map]
  conv => rhs; rw [← List.map_id l]
  rfl
theorem loop_none {m : Nat} {l : List Nat} (hm : m ≤ 8) (hl : NoLoop m (rk l)) : loopB m (rk l) = false := Bool.eq_false_iff.2 fun h => by
  obtain ⟨i, hi, h1⟩ := List.any_eq_true.1 h
  have := (mem_els (lt256 hm (full_lt m))).1 hi
  rw [full_bit] at this
  have hin : i < m := by simpa using this
  have h2 := hl (2 ^ i) (Nat.pow_lt_pow_right (by omega) hin) (by have := Nat.two_pow_pos i; omega)
  unfold bt at h1
  rw [beq_iff_eq] at h1
  omega
theorem rwlQ_of {n : Int} {zs : List Int} (hq : rwlQ n zs = 0) : ∃ (m : Nat) (l : List Nat), n = m ∧ m ≤ 8 ∧ zs = N l ∧ Fam m l ∧ Bas l ∧ NoLoop m (rk l) := by
  have hc : chkR n zs = 0 := by
    unfold rwlQ at hq
    split at hq
    · exact hq
    · rename_i h; exact Classical.not_not.1 h
  obtain ⟨m, l, rfl, hm, rfl, hf, hb⟩ := chk_of hc
  unfold rwlQ at hq
  rw [if_neg (by rw [hc]; exact fun h => h rfl), toNats, Int.toNat_natCast] at hq
  refine ⟨m, l, rfl, hm, rfl, hf, hb, loop_free hm hb ?_⟩
  cases e : loopB m (rk l)
  · rfl
  · rw [e, if_pos rfl] at hq
    cases hq
theorem rwl_none (n : Int) (v : Value) (zs : List Int) (w : World) (h : Ints w v zs) (hq : rwlQ n zs ≠ 0) :
    Calls Try.prog 85 #[.agg #[.int .i64 n, v]] w fun e w' => e = .returned (.tuple #[.slice none 0 0, .int .i64 (rwlQ n zs)]) ∧ Below w.heap.size w w' := by
  by_cases hc : chkR n zs = 0
  · obtain ⟨m, l, rfl, hm, rfl, hf, hb⟩ := chk_of hc
    have e : rwlQ m (N l) = if loopB m (rk l) = true then 5 else 0 := by
      unfold rwlQ
      rw [if_neg (by rw [hc]; exact fun h => h rfl), toNats, Int.toNat_natCast]
    rw [e] at hq ⊢
    cases hlp : loopB m (rk l)
    · rw [hlp] at hq
      exact absurd rfl hq
    · refine (rwl_any m v l w hm hf hb h).mono ?_
      rintro e w' ⟨h1 | h1, h2⟩
      · rw [hlp] at h1
        cases h1.1
      · exact ⟨h1.2, h2⟩
  · have e : rwlQ n zs = chkR n zs := by unfold rwlQ; rw [if_pos hc]
    rw [e]
    exact rwl_bad n v zs w h hc
theorem rwl_good (m : Nat) (v : Value) (l : List Nat) (w : World) (hm : m ≤ 8) (hf : Fam m l) (hb : Bas l) (h : Ints w v (N l)) (hl : NoLoop m (rk l)) :
    Calls Try.prog 85 #[.agg #[.int .i64 m, v]] w fun e w' => ∃ r, e = .returned (.tuple #[r, .int .i64 0]) ∧ RkAt w' r (2 ^ m) (rk l) ∧ Below w.heap.size w w' := by
  refine (rwl_any m v l w hm hf hb h).mono ?_
  rintro e w' ⟨h1 | h1, h2⟩
  · obtain ⟨_, r, h3, h4⟩ := h1
    exact ⟨r, h3, h4, h2⟩
  · rw [loop_none hm hl] at h1
    cases h1.1
set_option maxHeartbeats 1000000 in
theorem Cover_bad (n : Int) (v : Value) (zs : List Int) (w : World) (h : Ints w v zs) (hq : rwlQ n zs ≠ 0) :
    Calls Try.prog 37 #[.agg #[.int .i64 n, v]] w fun e w' => e = .returned (.tuple #[.slice none 0 0, .int .i64 (rwlQ n zs)]) ∧ Below w.heap.size w w' := by
  have HB0 := hid (below_box w #[.int .i64 n, v])
  have R1 := hid (rwl_none n v zs _ (h.below HB0.out) hq)
  generalize rwlQ n zs = q at *
  have hq' : (q == 0) = false := by rw [beq_eq_false_iff_ne]; exact hq
  obtain ⟨a, cap, rfl, -, -⟩ := h
  go_enter Try.func37, Try.ntmps37
  go_wp2_with fail
  refine R1.out.mono ?_
  rintro e w2 ⟨rfl, hb2⟩
  have HB := hid (HB0.out.trans (hb2.mono HB0.out.size))
  clear hb2
  go_wp2_with fail
  go_ret2
  exact ⟨rfl, HB.out⟩
set_option maxHeartbeats 1000000 in
theorem Dense_bad (n : Int) (v : Value) (zs : List Int) (w : World) (h : Ints w v zs) (hq : rwlQ n zs ≠ 0) :
    Calls Try.prog 38 #[.agg #[.int .i64 n, v]] w fun e w' => e = .returned (.tuple #[.int .i64 0, .int .i64 (rwlQ n zs)]) ∧ Below w.heap.size w w' := by
  have HB0 := hid (below_box w #[.int .i64 n, v])
  have R1 := hid (rwl_none n v zs _ (h.below HB0.out) hq)
  generalize rwlQ n zs = q at *
  have hq' : (q == 0) = false := by rw [beq_eq_false_iff_ne]; exact hq
  obtain ⟨a, cap, rfl, -, -⟩ := h
  go_enter Try.func38, Try.ntmps38
  go_wp2_with fail
  refine R1.out.mono ?_
  rintro e w2 ⟨rfl, hb2⟩
  have HB := hid (HB0.out.trans (hb2.mono HB0.out.size))
  clear hb2
  go_wp2_with fail
  go_ret2
  exact ⟨rfl, HB.out⟩
set_option maxHeartbeats 1000000 in
theorem Cover_ok (m : Nat) (v : Value) (l : List Nat) (w : World) (hm : m ≤ 8) (hf : Fam m l) (hb : Bas l) (h : Ints w v (N l)) (hl : NoLoop m (rk l)) :
    Calls Try.prog 37 #[.agg #[.int .i64 m, v]] w fun e w' => ∃ u, e = .returned (.tuple #[u, .int .i64 0]) ∧ Own w.heap.size w' u (covL m (rk l)) ∧ Below w.heap.size w w' := by
  have HB0 := hid (below_box w #[.int .i64 m, v])
  have R1 := hid (rwl_good m v l _ hm hf hb (h.below HB0.out) hl)
  have hr := hb.rkOn m
  have C1 := hid (fun v w h => covers_any v m (rk l) w hm hr hl h)
  have T1 : Hid (∀ (v : Value) (w : World), RkAt w v (2 ^ m) (cvF (rk l)) → Calls Try.prog 86 #[v, .int .i64 (2 ^ m - 1 : Nat)] w fun e w' => ∃ u, e = .returned u ∧ Own w.heap.size w' u (covL m (rk l)) ∧ Below w.heap.size w w') := (fun v w h => takeAll_any v (2 ^ m) (2 ^ m - 1) (cvF (rk l)) w (pow_wrap m hm).2 (full_lt m) (fun s hs => cvF_sub hm hr hl hs) h)
  have WS := hid (fun w => wholeSet_any m w hm)
  obtain ⟨a, cap, hv, -, -⟩ := h.nats
  subst hv
  go_enter Try.func37, Try.ntmps37
  go_wp2_with fail
  refine R1.out.mono ?_
  rintro e w1 ⟨r1, rfl, hr1, hb1⟩
  have HR1 := hid hr1
  obtain ⟨rb, roff, rcap, rfl, -, -⟩ := hr1
  have HB1 := hid (HB0.out.trans (hb1.mono HB0.out.size))
  obtain ⟨x0, x1⟩ := box_cells hb1
  have hs1 := hb1.size
  rw [World.size_alloc] at hs1
  clear hb1 R1
  have hw0 : w.heap.size < w1.heap.size := by omega
  have C2 := hid (C1.out _ w1.drew (HR1.out.below (Below.refl _ _).drew))
  generalize 2 ^ m - 1 = fm at *
  generalize 2 ^ m = T at *
  go_wp2_with fail
  go_region_held3 (fun w' => w'.cell? ⟨w.heap.size, 0, none⟩ = some (.int .i64 m)) (go_keep)
    (first
      | (go_at_call 87; refine C2.out.mono ?_; rintro e w2 ⟨u, rfl, hu, hb2⟩; have HU := hid hu; obtain ⟨ub, uoff, ucap, rfl, -, -⟩ := hu; have HB2 := hid ((Below.refl w1.heap.size w1).drew.trans hb2); have y0 := (HB2.out.cell (p := ⟨w.heap.size, 0, none⟩) hw0).trans x0; clear hb2)
      | (go_at_call 45; refine (WS.out _).mono ?_; rintro e w' ⟨rfl, h1⟩; obtain rfl := h1.symm)
      | (go_at_call 86; refine (T1.out _ _ HU.out).mono ?_; rintro e w3 ⟨u3, rfl, ho3, hb3⟩; have HO3 := hid ho3; have HB3 := hid (HB2.out.trans (hb3.mono HB2.out.size)); have z0 := (HB3.out.cell (p := ⟨w.heap.size, 0, none⟩) hw0).trans x0; have hs2 := HB2.out.size; obtain ⟨ra, rc, hr⟩ := ownsRow_form' ho3; subst hr; clear ho3 hb3))
  have HO4 := hid (HO3.out.mono (by omega : w.heap.size ≤ w2.heap.size))
  have HB4 := hid (HB1.out.trans (HB3.out.mono (by omega : w.heap.size ≤ w1.heap.size)))
  clear HO3 HB3
  go_wp2_with fail
  go_ret2
  exact ⟨.slice ra (covL m (rk l)).length rc, rfl, HO4.out, HB4.out⟩
set_option maxRecDepth 20000 in
set_option maxHeartbeats 2000000 in
theorem Dense_ok (m : Nat) (v : Value) (l : List Nat) (w : World) (hm : m ≤ 8) (hf : Fam m l) (hb : Bas l) (h : Ints w v (N l)) (hl : NoLoop m (rk l)) :
    Calls Try.prog 38 #[.agg #[.int .i64 m, v]] w fun e w' => e = .returned (.tuple #[.int .i64 ((deS (rk l) (2 ^ m)).1 : Nat), .int .i64 0]) ∧ Below w.heap.size w w' := by
  have HB0 := hid (below_box w #[.int .i64 m, v])
  have R1 := hid (rwl_good m v l _ hm hf hb (h.below HB0.out) hl)
  have hr := hb.rkOn m
  have HK := hid (rk_small hm hf)
  obtain ⟨T, HT, hT2, hT1⟩ : ∃ T : Nat, Hid (2 ^ m = T) ∧ T ≤ 256 ∧ 1 ≤ T := ⟨2 ^ m, Eq.refl (2 ^ m), (pow_wrap _ hm).2, Nat.one_le_two_pow⟩
  have HL : Hid (∀ t, t < T → t ≠ 0 → 1 ≤ rk l t) := fun t ht h0 => hl t (by rw [HT.out]; exact ht) h0
  have hd1 : deS (rk l) 1 = (0, 0) := rfl
  have HD8 : Hid (∀ j, j ≤ T → (deS (rk l) j).2 ≤ 16) := fun j hj => by
    rcases (deS_inv (rk l) j).2 with e | ⟨a, b, c, d, e⟩
    · rw [e]; omega
    · rw [c]
      have h1 := HK.out (deS (rk l) j).1
      have h2 := pop_le (deS (rk l) j).1 (by omega)
      exact Nat.le_trans (Nat.div_le_self _ _) (by omega)
  have HD9 : Hid (∀ j, j ≤ T → (deS (rk l) j).1 ≤ 256) := fun j hj => by
    rcases (deS_inv (rk l) j).2 with e | ⟨a, b, c, d, e⟩
    · rw [e]; omega
    · omega
  have HST : Hid (∀ j, deS (rk l) (j + 1) = if j ≠ 0 ∧ (deS (rk l) j).2 < upB (rk l) j then (j, upB (rk l) j) else deS (rk l) j) := fun j => rfl
  rw [HT.out] at R1 ⊢
  have hdS : Hid (∃ D : Nat → Nat × Nat, (∀ j, D j = deS (rk l) j)) := ⟨_, fun _ => rfl⟩
  obtain ⟨a, cap, hv, -, -⟩ := h.nats
  subst hv
  clear hdS h
  go_enter Try.func38, Try.ntmps38
  go_wp2_with fail
  refine R1.out.mono ?_
  rintro e w1 ⟨r1, rfl, hr1, hb1⟩
  have HR1 := hid hr1
  obtain ⟨rb, roff, rcap, rfl, -, -⟩ := hr1
  have HB1 := hid (HB0.out.trans (hb1.mono HB0.out.size))
  clear hb1 R1
  go_wp2_with fail
  go_loopw [6, 7, 8] (fun d u i wr => ∃ k : Nat, 1 ≤ k ∧ k ≤ T ∧ i = .int .i64 k ∧ d = .int .i64 ((deS (rk l) k).1 : Nat) ∧ u = .int .i64 ((deS (rk l) k).2 : Nat) ∧ Hid (Below w1.heap.size w1 wr)) (fun _ _ i _ => T - (intOf i).toNat)
  case atStart => exact ⟨1, Nat.le_refl _, hT1, rfl, by rw [hd1]; rfl, by rw [hd1]; rfl, Below.refl _ _⟩
  case round =>
    obtain ⟨k, hk1, hk, rfl, rfl, rfl, HW⟩ := hrel
    by_cases hlt : k < T
    · have hck : wr.cell? ⟨rb, roff + k, none⟩ = some (.int .i64 (rk l k : Nat)) := by
        obtain ⟨b', off', cp', e, h1, h2⟩ := HR1.out.below HW.out
        obtain ⟨⟨rfl, rfl⟩, rfl⟩ : (rb = b' ∧ roff = off') ∧ rcap = cp' := by simpa using e
        exact h2 k hlt
      have HS := hid (fun w' => size_any k w' (by omega))
      have hp8 := pop_le k (by omega)
      have hr1 := HL.out k hlt (by omega)
      have hr8 := HK.out k
      have h16 := HD8.out k hk
      have st := HST.out k
      have hup : Hid (upB (rk l) k = (pop k + rk l k - 1) / rk l k) := rfl
      have hkne : k ≠ 0 := by omega
      have HSP := hid st
      have h17 := HD9.out k hk
      clear st
      generalize hc2 : (deS (rk l) k).2 = c2 at *
      generalize hq : upB (rk l) k = q at *
      generalize rk l k = x at *
      generalize pop k = y at *
      have hquo : ((y : Int) + x - 1) / (x : Int) = (q : Int) := by
        rw [hup.out, Int.natCast_ediv]
        congr 1
        omega
      have hq16 : q ≤ 16 := by
        rw [hup.out]
        exact Nat.le_trans (Nat.div_le_self _ _) (by omega)
      have hx0 : ¬ (x : Int) = 0 := by omega
      have hx0' : ((x : Int) == 0) = false := by rw [beq_eq_false_iff_ne]; omega
      by_cases hgt : c2 < q
      · have hgt' : (c2 : Int) < (q : Int) := by omega
        go_wp2_with fail
        go_quiet ((go_at_call 52; refine (HS.out _).mono ?_; rintro e w' ⟨rfl, rfl⟩; exact ⟨rfl, _, rfl⟩))
        go_wp2_with fail
        have e : deS (rk l) (k + 1) = (k, q) := by rw [HSP.out, if_pos ⟨hkne, hgt⟩]
        exact ⟨⟨k + 1, by omega, by omega, by go_num, by rw [e], by rw [e, hquo], below_drewN HW.out _⟩, by simp [intOf]; omega⟩
      · have hgt' : ¬ (c2 : Int) < (q : Int) := by omega
        go_wp2_with fail
        go_quiet ((go_at_call 52; refine (HS.out _).mono ?_; rintro e w' ⟨rfl, rfl⟩; exact ⟨rfl, _, rfl⟩))
        go_wp2_with fail
        have e : deS (rk l) (k + 1) = deS (rk l) k := by rw [HSP.out, if_neg (fun h => hgt h.2)]
        exact ⟨⟨k + 1, by omega, by omega, by go_num, by rw [e], by rw [e, hc2], below_drewN HW.out _⟩, by simp [intOf]; omega⟩
    · obtain rfl : k = T := by omega
      have HBF := hid (HB1.out.trans (HW.out.mono HB1.out.size))
      go_wp2_with fail
      go_ret2
      exact ⟨rfl, HBF.out⟩
end Go.Proofs.Ythbcnolpjcppoab
