/- Linear's independent sets are those of a matroid. -/
import Derived.Test.YtdabkgbbalooiaaDoorKLlW
import Derived.Test.YtdabkgbbalooiaaDoorFdOQ
import Derived.Test.YtdabkgbbalooiaaDoorPlainAll1
import Derived.Test.YtdabkgbbalooiaaDoorFdLQ
import Derived.Test.YtdabkgbbalooiaaDoorKLmQ
namespace Go.Proofs.YtdabkgbbalooiaaDoor
open Go.RowKit

theorem pick_at (o : Nat → Nat → Int) (s n k : Nat) (hk : k < ((List.range n).filter fun i => s.testBit i).length) : ((pickL o s n).getD k fun _ => 0) = o (((List.range n).filter fun i => s.testBit i)[k]) := by
  unfold pickL
  simp [List.getD, hk]
theorem fore_pick (o : Nat → Nat → Int) (s n i : Nat) (hi : i < ((List.range n).filter fun i => s.testBit i).length) (x : Nat → Int) : Fore (fun k => (pickL o s n).getD k fun _ => 0) i x ↔ ∃ j, (lo s (((List.range n).filter fun i => s.testBit i)[i])).testBit j = true ∧ x = o j := by
  have hp : (((List.range n).filter fun i => s.testBit i)).Pairwise (· < ·) := List.Pairwise.filter _ List.pairwise_lt_range
  have hm : ∀ j, j ∈ ((List.range n).filter fun i => s.testBit i) ↔ j < n ∧ s.testBit j = true := fun j => by simp [List.mem_filter]
  have hat := pick_at o s n
  generalize (List.range n).filter (fun i => s.testBit i) = F at *
  rw [List.pairwise_iff_getElem] at hp
  constructor
  · rintro ⟨j, hj, rfl⟩
    refine ⟨F[j], ?_, hat j (by omega)⟩
    rw [lo_bit]
    have h1 := (hm F[j]).1 (List.getElem_mem _)
    have h2 := hp j i (by omega) hi hj
    simp [h1.2, h2]
  · rintro ⟨j, hj, rfl⟩
    rw [lo_bit] at hj
    simp only [Bool.and_eq_true, decide_eq_true_eq] at hj
    have hn := ((hm F[i]).1 (List.getElem_mem _)).1
    obtain ⟨k, hk, e⟩ := List.mem_iff_getElem.1 ((hm j).2 ⟨by omega, by first | exact hj.1 | exact hj.2⟩)
    refine ⟨k, ?_, by rw [← e]; exact (hat k hk).symm⟩
    rcases Nat.lt_trichotomy k i with h | h | h
    · exact h
    · subst h; omega
    · have := hp i k hi hk h
      omega
/-- Columns are free just if none hangs on those ahead. -/
theorem lin_iff {p : Int} (hp : isP p) {R : List (List Int)} (hin : ∀ j i, 0 ≤ mtF R j i ∧ mtF R j i < p) {n s : Nat} (hn : n ≤ 8) (hs : s < 2 ^ n) : linB p R n s = (depR n (depC p (mtF R)) s == pop s) := by
  rw [Bool.eq_iff_iff, beq_iff_eq, Dep.ind hn hs]
  unfold linB freeC
  rw [freeTo_iff, elim_free hp (fun k r => by
    by_cases hk : k < ((List.range n).filter fun i => s.testBit i).length
    · rw [pick_at _ _ _ _ hk]; exact hin _ _
    · have : ((pickL (mtF R) s n).getD k fun _ => 0) = fun _ => 0 := by
        unfold pickL
        simp [List.getD, hk]
      rw [this]
      have := hp.pos
      show 0 ≤ (0 : Int) ∧ (0 : Int) < p
      omega)]
  have hl : (pickL (mtF R) s n).length = ((List.range n).filter fun i => s.testBit i).length := by unfold pickL; rw [List.length_map]
  rw [hl]
  have hsp : ∀ i (hi : i < ((List.range n).filter fun i => s.testBit i).length), Span p (Fore (fun k => (pickL (mtF R) s n).getD k fun _ => 0) i) ((pickL (mtF R) s n).getD i fun _ => 0) ↔ depC p (mtF R) (lo s (((List.range n).filter fun i => s.testBit i)[i])) (((List.range n).filter fun i => s.testBit i)[i]) := fun i hi => by
    unfold depC
    rw [pick_at _ _ _ _ hi]
    have : Fore (fun k => (pickL (mtF R) s n).getD k fun _ => 0) i = fun x => ∃ j, (lo s (((List.range n).filter fun i => s.testBit i)[i])).testBit j = true ∧ x = mtF R j := funext fun x => propext (fore_pick (mtF R) s n i hi x)
    rw [this]
  constructor
  · intro h i hi hb
    obtain ⟨k, hk, e⟩ := List.mem_iff_getElem.1 (show i ∈ (List.range n).filter fun i => s.testBit i by simp [List.mem_filter, hi, hb])
    have h1 := h k hk
    rw [hsp k hk, e] at h1
    exact h1
  · intro h i hi
    rw [hsp i hi]
    have := List.getElem_mem hi
    rw [List.mem_filter, List.mem_range] at this
    exact h _ this.1 this.2
theorem lin_basR {p : Int} (hp : isP p) {R : List (List Int)} (hin : ∀ j i, 0 ≤ mtF R j i ∧ mtF R j i < p) {n : Nat} (hn : n ≤ 8) : bigL n (fun s => linB p R n s) = basR n (depR n (depC p (mtF R))) :=
  ofInd_eq hn ((depC_dep hp (mtF R) n).rkOn hn) fun _ hs => lin_iff hp hin hn hs
theorem lin_bas {p : Int} (hp : isP p) {R : List (List Int)} (hin : ∀ j i, 0 ≤ mtF R j i ∧ mtF R j i < p) {n : Nat} (hn : n ≤ 8) : Bas (bigL n fun s => linB p R n s) := by
  rw [lin_basR hp hin hn]
  exact ((depC_dep hp (mtF R) n).rkOn hn).bas hn
theorem graph_basR {E : List (Nat × Nat)} (hn : E.length ≤ 8) (hE : ∀ j, j < E.length → ea E j < 7 ∧ eb E j < 7) : bigL E.length (fun s => !ringB E s) = basR E.length (depR E.length (depG E)) :=
  ofInd_eq hn ((depG_dep E E.length).rkOn hn) fun _ hs => ring_iff hn hE hs
theorem graph_bas {E : List (Nat × Nat)} (hn : E.length ≤ 8) (hE : ∀ j, j < E.length → ea E j < 7 ∧ eb E j < 7) : Bas (bigL E.length fun s => !ringB E s) := by
  rw [graph_basR hn hE]
  exact ((depG_dep E E.length).rkOn hn).bas hn
end Go.Proofs.YtdabkgbbalooiaaDoor

namespace Go.Proofs.YtdabkgbbalooiaaDoor
open Go.RowKit

variable {p : Int} {c : Nat} {R : List (List Int)}
theorem ker_congr {m N : Nat} {f0 g : Nat → Nat → Int} (hp : isP p) (h0 : ∀ i, i < N → ∀ r, r < m → 0 ≤ f0 i r ∧ f0 i r < p) (e : ∀ i, i < N → ∀ r, r < m → g i r = f0 i r) : kerC p m N g = kerC p m N f0 ∧ ∀ i, i < kerC p m N g → ∀ r, r < m → kerF p m N g i r = kerF p m N f0 i r := by
  have h1 : ∀ i, i < N → ∀ r, r < m → 0 ≤ g i r ∧ g i r < p := fun i hi r hr => by rw [e i hi r hr]; exact h0 i hi r hr
  obtain ⟨b, r1⟩ := ker_rref (p := p) (m := m) (N := N) (f0 := g) hp
  obtain ⟨b', r2⟩ := ker_rref (p := p) (m := m) (N := N) (f0 := f0) hp
  obtain ⟨e1, -, e2⟩ := r1.uniq hp r2 (fun j hj => ker_span hp h1 fun i hi => by
    rw [sm_congr fun r hr => by rw [e i hi r hr]]
    exact ker_nought hp h0 hi hj) fun j hj => ker_span hp h0 fun i hi => by
    rw [sm_congr fun r hr => by rw [← e i hi r hr]]
    exact ker_nought hp h1 hi hj
  exact ⟨e1, e2⟩
theorem ker_rank (hm : MatOK p c R) (hk : c ≤ (redL p c R).length + 6) : c ≤ (redL p c (kerL p c R)).length + 6 := by
  have h1 := kerL_len hm
  have h2 : redL p c (kerL p c R) = kerL p c R := redL_twice (acL_ok hm hk)
  rw [h2]
  have := (redL_ok hm).rl
  omega
theorem kerL_twice (hm : MatOK p c R) (hk : c ≤ (redL p c R).length + 6) : kerL p c (kerL p c R) = redL p c R := by
  have hK := kerL_ok hm hk
  have hl : (kerL p c R).length = kerC p c R.length (rowF R) := by rw [kerL_is hm, matL_len]
  obtain ⟨e1, e2⟩ := ker_congr (m := c) (N := kerC p c R.length (rowF R)) (g := rowF (kerL p c R)) (f0 := kerF p c R.length (rowF R)) hm.pr (fun i hi r hr => kerF_in hm.pr hi hr) fun i hi r hr => kerL_rowF hm (by rw [hl]; exact hi) hr
  rw [kerL_is hK, hl, e1, ker_num hm.pr hm.rowc]
  refine matL_congr fun i hi r hr => ?_
  rw [e2 i (by rw [e1, ker_num hm.pr hm.rowc]; exact hi) r hr, ker_ker hm.pr hm.rowc i hi r hr]
theorem MatOK.inF (hm : MatOK p c R) (j i : Nat) : 0 ≤ mtF R j i ∧ mtF R j i < p := by
  have hp2 := isP_pos hm.pr
  by_cases hi : i < R.length
  · by_cases hj : j < c
    · exact hm.rowc i hi j hj
    · have hl := hm.len i hi
      have : mtF R j i = 0 := by
        show (R.getD i []).getD j 0 = 0
        generalize R.getD i [] = l at hl
        rw [List.getD_eq_getElem?_getD, List.getElem?_eq_none (by omega)]; rfl
      omega
  · have : mtF R j i = 0 := by
      show (R.getD i []).getD j 0 = 0
      rw [List.getD_eq_getElem?_getD (l := R), List.getElem?_eq_none (by omega)]; rfl
    omega
theorem mt_out {j i : Nat} (hi : R.length ≤ i) : mtF R j i = 0 := by
  show (R.getD i []).getD j 0 = 0
  rw [List.getD_eq_getElem?_getD (l := R), List.getElem?_eq_none (by omega)]; rfl
/-- The bases of a kernel's matroid are what the bases leave. -/
theorem ker_dual (hm : MatOK p c R) (hk : c ≤ (redL p c R).length + 6) : cmp c (bigL c fun s => linB p R c s) = bigL c fun s => linB p (kerL p c R) c s := by
  have hK := kerL_ok hm hk
  have hl : (kerL p c R).length = kerC p c R.length (rowF R) := by rw [kerL_is hm, matL_len]
  rw [lin_basR hm.pr hm.inF hm.c8', lin_basR hK.pr hK.inF hm.c8']
  refine dual_is hm.pr hm.c8' (fun i j hi hj => ?_) (fun v hv => ?_) fun v hv => ?_
  · by_cases h1 : i < R.length
    · by_cases h2 : j < (kerL p c R).length
      · refine Em.trans (Em.of (sm_congr fun r hr => ?_)) (ker_nought hm.pr hm.rowc h1 (by rw [← hl]; exact h2))
        show rowF R i r * rowF (kerL p c R) j r = _
        rw [kerL_rowF hm h2 hr]
      · exact Em.sm0 fun r _ => by rw [mt_out (R := kerL p c R) (by omega), Int.mul_zero]; exact Em.refl _
    · exact Em.sm0 fun r _ => by rw [mt_out (R := R) (by omega), Int.zero_mul]; exact Em.refl _
  · obtain ⟨-, b, r1, r2, r3⟩ := red_ok hm.pr hm.rowc
    have h1 := ker_perp (v := v) hm.pr hm.rowc fun j hj => by
      have h2 : j < (kerL p c R).length := by rw [hl]; exact hj
      refine Em.trans (Em.of (sm_congr fun r hr => ?_)) (hv j (by have := hK.rl; omega))
      rw [← kerL_rowF hm h2 hr]
      rfl
    refine (h1.trans r2).trans fun i hi => ?_
    have := hm.rl
    exact InS.of (g := fun i r => mtF R r i) (show i < 6 by omega)
  · have h1 := ker_span (v := v) hm.pr hm.rowc fun i hi => hv i (by have := hm.rl; omega)
    refine h1.trans fun j hj => ?_
    have h2 : j < (kerL p c R).length := by rw [hl]; exact hj
    have := hK.rl
    exact (InS.of (g := fun i r => mtF (kerL p c R) r i) (show j < 6 by omega)).cg fun r hr => Em.of (kerL_rowF hm h2 hr).symm
end Go.Proofs.YtdabkgbbalooiaaDoor

namespace Go.Proofs.YtdabkgbbalooiaaDoor
open Go.RowKit

/-- Is it a matrix? -/
def okM (p c : Int) (R : List (List Int)) : Bool := matR p c R == 0
theorem okM_ok {p c : Int} {R : List (List Int)} (h : MatOK p c R) : okM p c R = true := by
  unfold okM
  rw [MatOK.iff.2 h]; rfl
theorem okM_no {p c : Int} {R : List (List Int)} (h : matR p c R = 1) : okM p c R = false := by
  unfold okM
  rw [h]; rfl
theorem okM_bad {p c : Int} {R : List (List Int)} (h : ¬ (mduB p = true ∧ 0 ≤ c ∧ c ≤ 8 ∧ R.length ≤ 6)) : okM p c R = false := by
  unfold okM matR
  rw [if_neg fun e => h ⟨e.1, e.2.1, e.2.2.1, e.2.2.2.1⟩]; rfl
theorem okM_good {p c : Int} {R : List (List Int)} (h : mduB p = true ∧ 0 ≤ c ∧ c ≤ 8 ∧ R.length ≤ 6) : okM p c R = R.all (rowB p c) := by
  unfold okM matR
  by_cases e : R.all (rowB p c) = true
  · rw [if_pos ⟨h.1, h.2.1, h.2.2.1, h.2.2.2, e⟩, e]; rfl
  · rw [if_neg fun e2 => e e2.2.2.2.2, show R.all (rowB p c) = false by simpa using e]; rfl
theorem all_step {f : List Int → Bool} {R : List (List Int)} {i : Nat} (hi : i < R.length) : (R.drop i).all f = (f (R.getD i []) && (R.drop (i + 1)).all f) := by
  have e := List.drop_eq_getElem_cons hi
  rw [e, List.all_cons, show R.getD i [] = R[i] by simp [List.getD, hi]]
theorem all_stepI {f : Int → Bool} {R : List Int} {i : Nat} (hi : i < R.length) : (R.drop i).all f = (f (R.getD i 0) && (R.drop (i + 1)).all f) := by
  have e := List.drop_eq_getElem_cons hi
  rw [e, List.all_cons, show R.getD i 0 = R[i] by simp [List.getD, hi]]
end Go.Proofs.YtdabkgbbalooiaaDoor
