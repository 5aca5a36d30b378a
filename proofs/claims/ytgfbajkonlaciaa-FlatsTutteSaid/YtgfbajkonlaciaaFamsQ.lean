/- axioms.family, for whatever function answers as p does by the ranks; sets.Check. -/
import Derived.Test.YtgfbajkonlaciaaSieveW
import Derived.Test.YtgfbajkonlaciaaRanksWQ
namespace Go.Proofs.Ytgfbajkonlaciaa
open Go.RowKit

/-- What sets.Check answers. -/
def setR (n s : Int) : Int := if 0 ≤ n ∧ n ≤ 8 ∧ 0 ≤ s ∧ s < 2 ^ n.toNat then 0 else 1

/-- A function of package axioms that answers as p does by r. -/
def ByRank (g T : Nat) (r : Nat → Nat) (p : Nat → Bool) : Prop := ∀ (v : Value) (s : Nat) (w : World), s < T → RkAt w v T r → Calls Try.prog g #[v, .int .i64 s] w fun e w' => e = .returned (.bool (p s)) ∧ Below w.heap.size w w'
theorem fam1_ans {g T : Nat} {r : Nat → Nat} {p : Nat → Bool} (eg : Enters g) (hg : ByRank g T r p) {w : World} {v : Value} {b1 b2 : Nat} (h1 : b1 < w.heap.size) (h2 : b2 < w.heap.size)
    (hc1 : w.cell? ⟨b1, 0, none⟩ = some (.func (.func g) #[] #[])) (hc2 : w.cell? ⟨b2, 0, none⟩ = some v) (hv : RkAt w v T r) :
    AnswersTo w.heap.size w 49 #[.pointer (some ⟨b1, 0, none⟩), .pointer (some ⟨b2, 0, none⟩)] T p := by
  intro x hx w1 hb hs
  have d1 := (hb.cell (p := ⟨b1, 0, none⟩) h1).trans hc1
  have d2 := (hb.cell (p := ⟨b2, 0, none⟩) h2).trans hc2
  have HC := hid (hg v x w1 hx (hv.below hb))
  obtain ⟨b, off, cap, rfl, _, _⟩ := hv
  unfold Enters at eg
  show Calls Try.prog 49 #[.int .i64 (x : Nat), .pointer (some ⟨b1, 0, none⟩), .pointer (some ⟨b2, 0, none⟩)] w1 _
  go_enter Try.func49, Try.ntmps49
  go_wp2_with fail
  refine HC.out.mono ?_
  rintro e w2 ⟨rfl, hb2⟩
  have HB := hid hb2
  clear hb2
  go_wp2_with fail
  go_ret
  exact ⟨rfl, HB.out⟩

theorem family_bad (g : Nat) (n : Int) (v : Value) (zs : List Int) (w : World) (h : Ints w v zs) (hc : chkR n zs ≠ 0) :
    Calls Try.prog 27 #[.agg #[.int .i64 n, v], .func (.func g) #[] #[]] w fun e w' => e = .returned (.tuple #[.slice none 0 0, .int .i64 (chkR n zs)]) ∧ Below w.heap.size w w' := by
  have HI := hid h
  obtain ⟨a, cap, rfl, _, _⟩ := h
  have hB0 : Below w.heap.size w ((w.alloc (.cells #[.int .i64 n, .slice a zs.length cap] 24)).alloc (.cells #[.func (.func g) #[] #[]] 58)) := ((Below.refl _ _).alloc (Nat.le_refl _) _).alloc (by simp) _
  have HC := hid (check_any n _ zs _ (HI.out.below hB0))
  have HB0 := hid hB0
  generalize chkR n zs = q at *
  have hc' : (q == 0) = false := by rw [beq_eq_false_iff_ne]; exact hc
  clear hB0
  go_enter Try.func27, Try.ntmps27
  go_wp2_with fail
  refine HC.out.mono ?_
  rintro e w2 ⟨rfl, hb2⟩
  have HB := hid (HB0.out.trans (hb2.mono HB0.out.size))
  clear hb2
  go_wp2_with fail
  go_ret2
  exact ⟨rfl, HB.out⟩

theorem Sieve_at (n T g : Nat) (hT : T = 2 ^ n) (cs : Array Value) (p : Nat → Bool) (w : World) (hn : n ≤ 8) (eg : Enters g) (hg : AnswersTo w.heap.size w g cs T p) :
    Calls Try.prog 48 #[.int .i64 n, .func (.func g) #[] cs] w fun e w' => ∃ r, e = .returned r ∧ Own w.heap.size w' r ((List.range T).filter p) ∧ Below w.heap.size w w' := by
  subst hT
  exact Sieve_any n g cs p w hn eg hg
set_option maxHeartbeats 1000000 in
theorem family_ok (g m : Nat) (v : Value) (l : List Nat) (p : Nat → Bool) (w : World) (hm : m ≤ 8) (hf : Fam m l) (hb : Bas l) (h : Ints w v (N l)) (eg : Enters g) (hg : ByRank g (2 ^ m) (rk l) p) :
    Calls Try.prog 27 #[.agg #[.int .i64 m, v], .func (.func g) #[] #[]] w fun e w' => ∃ r, e = .returned (.tuple #[r, .int .i64 0]) ∧ Own w.heap.size w' r ((List.range (2 ^ m)).filter p) ∧ Below w.heap.size w w' := by
  have HI := hid h
  obtain ⟨a, cap, hv, _, _⟩ := h
  rw [N_len] at hv
  subst hv
  have hB0 : Below w.heap.size w ((w.alloc (.cells #[.int .i64 m, .slice a l.length cap] 24)).alloc (.cells #[.func (.func g) #[] #[]] 58)) := ((Below.refl _ _).alloc (Nat.le_refl _) _).alloc (by simp) _
  have HC := hid (check_any m _ (N l) _ (HI.out.below hB0))
  have H0 := hid (chk_mk hm hf hb)
  have HR := hid (fun w' (hb' : Below w.heap.size w w') => ranks_any m _ l w' hm (hf.lt256 hm) (HI.out.below hb'))
  have d0 : ((w.alloc (.cells #[.int .i64 m, .slice a l.length cap] 24)).alloc (.cells #[.func (.func g) #[] #[]] 58)).heap[w.heap.size]? = some (.cells #[.int .i64 m, .slice a l.length cap] 24 (0, 0)) := by
    rw [Below.heap_alloc _ _ _ (by simp)]
    exact World.alloc_heap_new w _
  have HB0 := hid hB0
  clear hB0
  go_enter Try.func27, Try.ntmps27
  go_wp2_with fail
  refine HC.out.mono ?_
  rw [H0.out]
  rintro e w2 ⟨rfl, hb2⟩
  have hx : w2.heap[w.heap.size]? = some (.cells #[.int .i64 m, .slice a l.length cap] 24 (0, 0)) := (hb2.block _ (by simp; omega)).trans d0
  have x0 : w2.cell? ⟨w.heap.size, 0, none⟩ = some (.int .i64 m) := by simp [World.cell?, hx]
  have x1 : w2.cell? ⟨w.heap.size, 1, none⟩ = some (.slice a l.length cap) := by simp [World.cell?, hx]
  have x2 : w2.cell? ⟨w.heap.size + 1, 0, none⟩ = some (.func (.func g) #[] #[]) := (hb2.cell (p := ⟨w.heap.size + 1, 0, none⟩) (by show w.heap.size + 1 < _; simp)).trans (by
    have := (Boxed.new (w.alloc (.cells #[.int .i64 m, .slice a l.length cap] 24)) 58 (.func (.func g) #[] #[])).cell
    rwa [World.size_alloc] at this)
  have hs2 : w.heap.size + 1 + 1 ≤ w2.heap.size := by have := hb2.size; simpa using this
  have HB2 := hid (HB0.out.trans (hb2.mono HB0.out.size))
  clear hb2 d0
  go_wp2_with fail
  refine (HR.out _ HB2.out).mono ?_
  rintro e w3 ⟨r, rfl, hr, hb3⟩
  have y0 := (hb3.cell (p := ⟨w.heap.size, 0, none⟩) (by show w.heap.size < _; omega)).trans x0
  have y2 := (hb3.cell (p := ⟨w.heap.size + 1, 0, none⟩) (by show w.heap.size + 1 < _; omega)).trans x2
  have hs3 := hb3.size
  have HB3 := hid (HB2.out.trans (hb3.mono HB2.out.size))
  have HRK := hid hr
  obtain ⟨rb, roff, rcap, rfl, _, _⟩ := hr
  clear hb3
  obtain ⟨T, HT⟩ : ∃ T : Nat, Hid (T = 2 ^ m) := ⟨2 ^ m, rfl⟩
  rw [← HT.out] at HRK hg ⊢
  have z0 := cellA (.cells #[.slice (some ⟨rb, roff, none⟩) T rcap] 22) y0
  have z2 := cellA (.cells #[.slice (some ⟨rb, roff, none⟩) T rcap] 22) y2
  have z3 := (Boxed.new w3 22 (.slice (some ⟨rb, roff, none⟩) T rcap)).cell
  have hB4 : Below w3.heap.size w3 (w3.alloc (.cells #[.slice (some ⟨rb, roff, none⟩) T rcap] 22)) := (Below.refl _ _).alloc (Nat.le_refl _) _
  have ANS := hid (fam1_ans eg hg (w := w3.alloc (.cells #[.slice (some ⟨rb, roff, none⟩) T rcap] 22)) (b1 := w.heap.size + 1) (b2 := w3.heap.size) (by simp; omega) (by simp) z2 z3 (HRK.out.below hB4))
  have SV := hid (Sieve_at m T 49 HT.out _ p _ hm (fun args w => enters_of Try.func49 (by kernel_rfl) rfl args w) ANS.out)
  have HB4 := hid (HB3.out.trans (hB4.mono HB3.out.size))
  clear hB4 z3
  go_wp2_with fail
  refine SV.out.mono ?_
  rintro e w5 ⟨res, rfl, hown, hb5⟩
  have HO := hid (hown.mono (Nat.le_trans HB3.out.size (by simp)) : Own w.heap.size w5 res _)
  have HB5 := hid (HB4.out.trans (hb5.mono HB4.out.size))
  clear hown hb5
  go_wp2_with fail
  go_ret2
  exact ⟨_, rfl, (by have h9 := HO.out; rw [HT.out] at h9; exact h9), HB5.out⟩
end Go.Proofs.Ytgfbajkonlaciaa
