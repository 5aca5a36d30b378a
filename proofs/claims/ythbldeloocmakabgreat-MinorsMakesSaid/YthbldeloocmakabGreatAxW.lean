/- axioms.isFlat, axioms.isHyperplane. -/
import Derived.Test.YthbldeloocmakabGreatQBelW
import Derived.Test.YthbldeloocmakabGreatCloQ
import Derived.Test.YthbldeloocmakabGreatFamsQ
namespace Go.Proofs.YthbldeloocmakabGreat
open Go.RowKit

theorem isFlat_any (v : Value) (n : Nat) (r : Nat → Nat) (s : Nat) (w : World) (hn : n ≤ 8) (hs : s < 2 ^ n) (h : RkAt w v (2 ^ n) r) :
    Calls Tryz.prog 94 #[v, .int .i64 s] w fun e w' => e = .returned (.bool (flatB r n s)) ∧ Below w.heap.size w w' := by
  have HC := hid (closure_any v n r s w hn hs h)
  obtain ⟨b, off, cap, rfl, _, _⟩ := h
  unfold flatB
  generalize cl r n s = q at *
  generalize 2 ^ n = T at *
  go_enter Tryz.func94, Tryz.ntmps94
  go_wp2_with fail
  refine HC.out.mono ?_
  rintro e w' ⟨rfl, hb⟩
  have HB := hid hb
  clear hb
  go_wp2_with fail
  go_ret
  exact ⟨ret_bool (by rw [Bool.eq_iff_iff, beq_iff_eq, beq_iff_eq]; omega), HB.out⟩

set_option maxRecDepth 20000 in
set_option maxHeartbeats 4000000 in
theorem isHyp_any (v : Value) (n : Nat) (r : Nat → Nat) (s : Nat) (w : World) (hn : n ≤ 8) (hs : s < 2 ^ n) (hr : ∀ i, r i ≤ 8) (h : RkAt w v (2 ^ n) r) :
    Calls Tryz.prog 80 #[v, .int .i64 s] w fun e w' => e = .returned (.bool (hypB r n s)) ∧ Below w.heap.size w w' := by
  have HF := hid (fun x : Later w => isFlat_any v n r s x.now hn hs (h.below x.kept))
  have HR := hid (fun x : Later w => h.below x.kept)
  obtain ⟨b, off, cap, rfl, _, _⟩ := h
  unfold hypB
  obtain ⟨T, HT, hT2, hT1⟩ : ∃ T : Nat, Hid (T = 2 ^ n) ∧ T ≤ 256 ∧ 1 ≤ T := ⟨2 ^ n, rfl, (pow_wrap _ hn).2, Nat.one_le_two_pow⟩
  rw [← HT.out] at HR hs HF ⊢
  have r1 : ∀ x : Later w, x.now.cell? ⟨b, off + s, none⟩ = some (.int .i64 (r s : Nat)) := fun x => by
    obtain ⟨b', off', cap', heq, hbl, hcells⟩ := HR.out x
    obtain ⟨⟨rfl, rfl⟩, rfl⟩ : (b = b' ∧ off = off') ∧ cap = cap' := by simpa using heq
    exact hcells s hs
  have r2 : ∀ x : Later w, x.now.cell? ⟨b, off + (T - 1), none⟩ = some (.int .i64 (r (T - 1) : Nat)) := fun x => by
    obtain ⟨b', off', cap', heq, hbl, hcells⟩ := HR.out x
    obtain ⟨⟨rfl, rfl⟩, rfl⟩ : (b = b' ∧ off = off') ∧ cap = cap' := by simpa using heq
    exact hcells (T - 1) (by omega)
  have h8 := hr s
  have h8' := hr (T - 1)
  rcases hq : flatB r n s with _ | _
  · have HQ := hid hq
    clear hq
    go_enter Tryz.func80, Tryz.ntmps80
    go_wp2_with fail
    refine region_later (by kernel_rfl) (by kernel_rfl) ?_
    repeat (go_big_quiet_step ((go_at_call 94; refine (HF.out _).mono ?_; rw [HQ.out]; rintro e w' ⟨rfl, hb⟩; exact ⟨rfl, Later.on _ hb⟩)))
    refine wpQuiet_nil ?_
    intro _ hw'
    obtain ⟨x, hw''⟩ := hw'
    subst hw''
    go_wp2_with fail
    go_ret
    exact ⟨rfl, x.kept⟩
  · have HQ := hid hq
    clear hq
    go_enter Tryz.func80, Tryz.ntmps80
    go_wp2_with fail
    refine region_later (by kernel_rfl) (by kernel_rfl) ?_
    repeat (go_big_quiet_step ((go_at_call 94; refine (HF.out _).mono ?_; rw [HQ.out]; rintro e w' ⟨rfl, hb⟩; exact ⟨rfl, Later.on _ hb⟩)))
    refine wpQuiet_nil ?_
    intro _ hw'
    obtain ⟨x, hw''⟩ := hw'
    subst hw''
    go_wp2_with fail
    go_ret
    exact ⟨ret_bool (by rw [Bool.true_and, Bool.eq_iff_iff, beq_iff_eq, beq_iff_eq]; omega), x.kept⟩
end Go.Proofs.YthbldeloocmakabGreat

namespace Go.Proofs.YthbldeloocmakabGreat
open Go.RowKit

theorem rk_small {m : Nat} {l : List Nat} (hm : m ≤ 8) (hf : Fam m l) : ∀ i, rk l i ≤ 8 := rk_le8 l (hf.lt256 hm)
theorem below_box (w : World) (cs : Array Value) : Below w.heap.size w (w.alloc (.cells cs 24)) := (Below.refl _ _).alloc (Nat.le_refl _) _
theorem box_cells {w w2 : World} {n : Int} {u : Value} (hb2 : Below (w.alloc (.cells #[.int .i64 n, u] 24)).heap.size (w.alloc (.cells #[.int .i64 n, u] 24)) w2) :
    w2.cell? ⟨w.heap.size, 0, none⟩ = some (.int .i64 n) ∧ w2.cell? ⟨w.heap.size, 1, none⟩ = some u := by
  have hx : w2.heap[w.heap.size]? = some (.cells #[.int .i64 n, u] 24 (0, 0)) := (hb2.block _ (by simp)).trans (World.alloc_heap_new w _)
  exact ⟨by simp [World.cell?, hx], by simp [World.cell?, hx]⟩

/-- A literal slice. -/
theorem litsAt (w : World) (l : List Nat) (h : l.length ≤ 17592186044416 := by decide) : Ints (w.alloc (.cells (V l).toArray 3)) (.slice (some ⟨w.heap.size, 0, none⟩) l.length l.length) (N l) := by
  refine ⟨_, _, by rw [N_len], by rw [N_len]; exact h, fun _ => ⟨w.heap.size, 0, rfl, by simp, fun i hi => ?_⟩⟩
  rw [N_len] at hi
  rw [World.cell?_alloc_at _ _ _ _ rfl, N_getD, Nat.zero_add]
  simp [V, hi, List.getD]


theorem Circuits_bad (n : Int) (v : Value) (zs : List Int) (w : World) (h : Ints w v zs) (hc : chkR n zs ≠ 0) :
    Calls Tryz.prog 51 #[.agg #[.int .i64 n, v]] w fun e w' => e = .returned (.tuple #[.slice none 0 0, .int .i64 (chkR n zs)]) ∧ Below w.heap.size w w' := by
  have HI := hid h
  obtain ⟨a, cap, rfl, _, _⟩ := h
  have hB0 : Below w.heap.size w (w.alloc (.cells #[.int .i64 n, .slice a zs.length cap] 24)) := (Below.refl _ _).alloc (Nat.le_refl _) _
  have HC := hid (family_bad 78 n _ zs _ (HI.out.below hB0) hc)
  have HB0 := hid hB0
  generalize chkR n zs = q at *
  clear hB0 hc
  go_enter Tryz.func51, Tryz.ntmps51
  go_wp2_with fail
  refine HC.out.mono ?_
  rintro e w2 ⟨rfl, hb2⟩
  have HB := hid (HB0.out.trans (hb2.mono HB0.out.size))
  clear hb2
  go_wp2_with fail
  go_ret2
  exact ⟨rfl, HB.out⟩
theorem Circuits_ok (m : Nat) (v : Value) (l : List Nat) (w : World) (hm : m ≤ 8) (hf : Fam m l) (hb : Bas l) (h : Ints w v (N l)) :
    Calls Tryz.prog 51 #[.agg #[.int .i64 m, v]] w fun e w' => ∃ r, e = .returned (.tuple #[r, .int .i64 0]) ∧ Own w.heap.size w' r ((List.range (2 ^ m)).filter (cirB (rk l))) ∧ Below w.heap.size w w' := by
  have HI := hid h
  obtain ⟨a, cap, hv, _, _⟩ := h
  rw [N_len] at hv
  subst hv
  have hB0 : Below w.heap.size w (w.alloc (.cells #[.int .i64 m, .slice a l.length cap] 24)) := (Below.refl _ _).alloc (Nat.le_refl _) _
  have HC := hid (family_ok 78 m _ l (cirB (rk l)) _ hm hf hb (HI.out.below hB0) (fun args w => enters_of Tryz.func78 (by kernel_rfl) rfl args w) (fun v s w hs hv => isCircuit_any v (2 ^ m) (rk l) s w (pow_wrap m hm).2 hs hv))
  have HB0 := hid hB0
  clear hB0
  generalize (List.range (2 ^ m)).filter (cirB (rk l)) = acc at *
  go_enter Tryz.func51, Tryz.ntmps51
  go_wp2_with fail
  refine HC.out.mono ?_
  rintro e w2 ⟨r, rfl, ho, hb2⟩
  have HB := hid (HB0.out.trans (hb2.mono HB0.out.size))
  have HO := hid (ho.mono HB0.out.size : Own w.heap.size w2 r acc)
  clear hb2 ho
  go_wp2_with fail
  go_ret2
  exact ⟨_, rfl, HO.out, HB.out⟩


theorem Hyperplanes_bad (n : Int) (v : Value) (zs : List Int) (w : World) (h : Ints w v zs) (hc : chkR n zs ≠ 0) :
    Calls Tryz.prog 53 #[.agg #[.int .i64 n, v]] w fun e w' => e = .returned (.tuple #[.slice none 0 0, .int .i64 (chkR n zs)]) ∧ Below w.heap.size w w' := by
  have HI := hid h
  obtain ⟨a, cap, rfl, _, _⟩ := h
  have hB0 : Below w.heap.size w (w.alloc (.cells #[.int .i64 n, .slice a zs.length cap] 24)) := (Below.refl _ _).alloc (Nat.le_refl _) _
  have HC := hid (family_bad 80 n _ zs _ (HI.out.below hB0) hc)
  have HB0 := hid hB0
  generalize chkR n zs = q at *
  clear hB0 hc
  go_enter Tryz.func53, Tryz.ntmps53
  go_wp2_with fail
  refine HC.out.mono ?_
  rintro e w2 ⟨rfl, hb2⟩
  have HB := hid (HB0.out.trans (hb2.mono HB0.out.size))
  clear hb2
  go_wp2_with fail
  go_ret2
  exact ⟨rfl, HB.out⟩
theorem Hyperplanes_ok (m : Nat) (v : Value) (l : List Nat) (w : World) (hm : m ≤ 8) (hf : Fam m l) (hb : Bas l) (h : Ints w v (N l)) :
    Calls Tryz.prog 53 #[.agg #[.int .i64 m, v]] w fun e w' => ∃ r, e = .returned (.tuple #[r, .int .i64 0]) ∧ Own w.heap.size w' r ((List.range (2 ^ m)).filter (hypB (rk l) m)) ∧ Below w.heap.size w w' := by
  have HI := hid h
  obtain ⟨a, cap, hv, _, _⟩ := h
  rw [N_len] at hv
  subst hv
  have hB0 : Below w.heap.size w (w.alloc (.cells #[.int .i64 m, .slice a l.length cap] 24)) := (Below.refl _ _).alloc (Nat.le_refl _) _
  have HC := hid (family_ok 80 m _ l (hypB (rk l) m) _ hm hf hb (HI.out.below hB0) (fun args w => enters_of Tryz.func80 (by kernel_rfl) rfl args w) (fun v s w hs hv => isHyp_any v m (rk l) s w hm hs (rk_small hm hf) hv))
  have HB0 := hid hB0
  clear hB0
  generalize (List.range (2 ^ m)).filter (hypB (rk l) m) = acc at *
  go_enter Tryz.func53, Tryz.ntmps53
  go_wp2_with fail
  refine HC.out.mono ?_
  rintro e w2 ⟨r, rfl, ho, hb2⟩
  have HB := hid (HB0.out.trans (hb2.mono HB0.out.size))
  have HO := hid (ho.mono HB0.out.size : Own w.heap.size w2 r acc)
  clear hb2 ho
  go_wp2_with fail
  go_ret2
  exact ⟨_, rfl, HO.out, HB.out⟩

theorem Ranks_bad (n : Int) (v : Value) (zs : List Int) (w : World) (h : Ints w v zs) (hc : chkR n zs ≠ 0) :
    Calls Tryz.prog 49 #[.agg #[.int .i64 n, v]] w fun e w' => e = .returned (.tuple #[.slice none 0 0, .int .i64 (chkR n zs)]) ∧ Below w.heap.size w w' := by
  have HI := hid h
  obtain ⟨a, cap, rfl, _, _⟩ := h
  have hB0 : Below w.heap.size w (w.alloc (.cells #[.int .i64 n, .slice a zs.length cap] 24)) := (Below.refl _ _).alloc (Nat.le_refl _) _
  have HC := hid (check_any n _ zs _ (HI.out.below hB0))
  have HB0 := hid hB0
  generalize chkR n zs = q at *
  have hc' : (q == 0) = false := by rw [beq_eq_false_iff_ne]; exact hc
  clear hB0
  go_enter Tryz.func49, Tryz.ntmps49
  go_wp2_with fail
  refine HC.out.mono ?_
  rintro e w2 ⟨rfl, hb2⟩
  have HB := hid (HB0.out.trans (hb2.mono HB0.out.size))
  clear hb2
  go_wp2_with fail
  go_ret2
  exact ⟨rfl, HB.out⟩
theorem Ranks_ok (m : Nat) (v : Value) (l : List Nat) (w : World) (hm : m ≤ 8) (hf : Fam m l) (hb : Bas l) (h : Ints w v (N l)) :
    Calls Tryz.prog 49 #[.agg #[.int .i64 m, v]] w fun e w' => ∃ r, e = .returned (.tuple #[r, .int .i64 0]) ∧ RkAt w' r (2 ^ m) (rk l) ∧ Below w.heap.size w w' := by
  have HI := hid h
  obtain ⟨a, cap, hv, _, _⟩ := h
  rw [N_len] at hv
  subst hv
  have hB0 : Below w.heap.size w (w.alloc (.cells #[.int .i64 m, .slice a l.length cap] 24)) := (Below.refl _ _).alloc (Nat.le_refl _) _
  have HC := hid (check_any m _ (N l) _ (HI.out.below hB0))
  have H0 := hid (chk_mk hm hf hb)
  have HR := hid (fun w' (hb' : Below w.heap.size w w') => ranks_any m _ l w' hm (hf.lt256 hm) (HI.out.below hb'))
  have HB0 := hid hB0
  clear hB0
  generalize 2 ^ m = T at *
  go_enter Tryz.func49, Tryz.ntmps49
  go_wp2_with fail
  refine HC.out.mono ?_
  rw [H0.out]
  rintro e w2 ⟨rfl, hb2⟩
  obtain ⟨x0, x1⟩ := box_cells hb2
  have HB2 := hid (HB0.out.trans (hb2.mono HB0.out.size))
  clear hb2
  go_wp2_with fail
  refine (HR.out _ HB2.out).mono ?_
  rintro e w3 ⟨r, rfl, hr, hb3⟩
  have HB3 := hid (HB2.out.trans (hb3.mono HB2.out.size))
  have HRK := hid hr
  obtain ⟨rb, roff, rcap, rfl, _, _⟩ := hr
  clear hb3
  go_wp2_with fail
  go_ret2
  exact ⟨_, rfl, HRK.out, HB3.out⟩


end Go.Proofs.YthbldeloocmakabGreat
