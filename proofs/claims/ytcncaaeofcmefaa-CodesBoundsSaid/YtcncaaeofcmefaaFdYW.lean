/- field.Determinant. -/
import Derived.Test.YtcncaaeofcmefaaVdAW
import Derived.Deep.RegionHeld3
import Derived.Test.YtcncaaeofcmefaaPlainAll2
namespace Go.Proofs.Ytcncaaeofcmefaa
open Go.RowKit

theorem MatOK.rowsOK {p : Int} {c : Nat} {R : List (List Int)} (hm : MatOK p c R) : ∀ r ∈ R, r.length = c ∧ ∀ j, j < c → 0 ≤ r.getD j 0 ∧ r.getD j 0 < p := fun r hr => by
  obtain ⟨k, hk, rfl⟩ := List.getElem_of_mem hr
  have e : R.getD k [] = R[k] := by simp [List.getD, hk]
  refine ⟨by rw [← e]; exact hm.lens k hk, fun j hj => ?_⟩
  have := hm.rowc k hk j hj
  unfold rowF at this
  rwa [e] at this
end Go.Proofs.Ytcncaaeofcmefaa

namespace Go.Proofs.Ytcncaaeofcmefaa
open Go.RowKit

theorem el_range (S : Nat) : ∀ d i, elT S d i = (List.range' i d).filter fun j => S.testBit j
  | 0, _ => rfl
  | d + 1, i => by
    rw [List.range'_succ]
    cases e : S.testBit i with
    | true => rw [el_hit e, List.filter_cons_of_pos e, el_range S d (i + 1)]
    | false => rw [el_miss e, List.filter_cons_of_neg (by simp [e]), el_range S d (i + 1)]
theorem el_els {S c : Nat} (hc : c ≤ 8) (hS : S < 2 ^ c) : elT S c 0 = elT S 8 0 := by
  have h0 : (List.range' (0 + c) (8 - c)).filter (fun j => S.testBit j) = [] := List.filter_eq_nil_iff.2 fun j hj => by
    have := List.mem_range'_1.1 hj
    rw [Nat.testBit_lt_two_pow (Nat.lt_of_lt_of_le hS (Nat.pow_le_pow_right (by omega) (by omega)))]
    simp
  have h1 := List.range'_append_1 (s := 0) (m := c) (n := 8 - c)
  rw [show c + (8 - c) = 8 by omega] at h1
  rw [el_range, el_range, ← h1, List.filter_append, h0, List.append_nil]
theorem pop_el : ∀ S : Nat, S < 256 → (elT S 8 0).length = pop S := by decide +kernel
theorem full_el (n : Nat) : elT (2 ^ n - 1) n 0 = List.range n := by
  rw [el_range, List.filter_eq_self.2 fun j hj => ?_, List.range_eq_range']
  have := List.mem_range'_1.1 hj
  rw [Nat.testBit_two_pow_sub_one]
  simp; omega
theorem detZ_em {p : Int} {c : Nat} : ∀ (R Q : List (List Int)) (s : Nat), Q.length = R.length → (∀ i, i < R.length → ∀ j, j < c → Em p ((Q.getD i []).getD j 0) ((R.getD i []).getD j 0)) → Em p (detZ c Q s) (detZ c R s)
  | [], Q, s, hl, _ => by
    have : Q = [] := List.length_eq_zero_iff.1 (by simpa using hl)
    subst this; exact Em.refl _
  | r :: R, Q, s, hl, h => by
    obtain ⟨x, Q', rfl⟩ : ∃ x Q', Q = x :: Q' := by
      cases Q with
      | nil => simp at hl
      | cons x Q' => exact ⟨x, Q', rfl⟩
    refine Em.sm fun j hj => ?_
    unfold lapT
    split
    · have h0 := h 0 (by simp) j hj
      exact ((Em.refl _).mul (by simpa using h0)).mul (detZ_em R Q' _ (by simpa using hl) fun i hi k hk => by
        have := h (i + 1) (by simp; omega) k hk
        simpa using this)
    · exact Em.refl _
variable {p : Int} {c c2 : Nat} {R R2 : List (List Int)}
/-- Turned over it is the same. -/
theorem det_tur (hm : MatOK p c R) (hl : R.length = c) : detL p R.length (turL c R) (2 ^ R.length - 1) = detL p c R (2 ^ c - 1) := by
  refine Em.eq (p := p) ?_ (detL_in hm.pr _ _ _) (detL_in hm.pr _ _ _)
  refine (detL_em p _ _ _).trans (Em.trans (Em.of ?_) (detL_em p _ _ _).symm)
  have e1 : R = (elT (2 ^ c - 1) c 0).map fun i => (List.range c).map (rowF R i) := by
    rw [full_el]
    have := hm.mat_self
    rw [hl] at this
    exact this.symm
  have e2 : turL c R = (elT (2 ^ c - 1) c 0).map fun j => (List.range c).map fun i => rowF R i j := by
    rw [full_el]
    show matL c R.length (fun j i => rowF R i j) = _
    rw [hl]
    rfl
  have h := det_turn c c (rowF R) c (2 ^ c - 1) (2 ^ c - 1) (by rw [full_el]; simp) (by rw [full_el]; simp)
  rw [← e1, ← e2] at h
  rw [hl]
  exact h.symm
/-- The columns of S. -/
def colL (c : Nat) (R : List (List Int)) (S : Nat) : List (List Int) := R.map fun r => (elT S c 0).map fun j => r.getD j 0
/-- The rows of S. -/
def rwsL (c : Nat) (R2 : List (List Int)) (S : Nat) : List (List Int) := (elT S c 0).map fun j => R2.getD j []
theorem el_len {S : Nat} (hc : c ≤ 8) (hS : S < 2 ^ c) : (elT S c 0).length = pop S := by
  rw [el_els hc hS]
  exact pop_el S (Nat.lt_of_lt_of_le hS (Nat.pow_le_pow_right (by omega) hc))
theorem col_det {S n : Nat} (hc : c ≤ 8) (hS : S < 2 ^ c) (hn : pop S = n) : detZ n (colL c R S) (2 ^ n - 1) = detZ c R S := by
  have hlen : (elT S c 0).length = n := by rw [el_len hc hS, hn]
  have het : ∀ t, (ht : t < n) → (elT S c 0).getD t 0 = (elT S c 0)[t]'(by omega) := fun t ht => by simp [List.getD, show t < (elT S c 0).length by omega]
  have hem : ∀ t, t < n → (elT S c 0).getD t 0 ∈ elT S c 0 := fun t ht => by rw [het t ht]; exact List.getElem_mem _
  refine det_image (e := fun t => (elT S c 0).getD t 0) (fun t ht => by have := (el_mem c 0).1 (hem t ht); omega) (fun i j hij hj => ?_) R (colL c R S) (2 ^ n - 1) S (by simp [colL]) (fun i hi t ht => ?_) ⟨fun t ht => ?_, fun j hj => ?_⟩
  · show (elT S c 0).getD i 0 < (elT S c 0).getD j 0
    rw [het i (by omega), het j hj]
    exact List.pairwise_iff_getElem.1 (el_up S c 0) i j (by omega) (by omega) hij
  · have : (colL c R S).getD i [] = (elT S c 0).map fun j => (R.getD i []).getD j 0 := by simp [colL, List.getD, hi]
    rw [this]
    show _ = (R.getD i []).getD ((elT S c 0).getD t 0) 0
    rw [het t ht]
    generalize R.getD i [] = r
    simp [List.getD, show t < (elT S c 0).length by omega]
  · rw [Nat.testBit_two_pow_sub_one]
    have := ((el_mem c 0).1 (hem t ht)).2.2
    show S.testBit ((elT S c 0).getD t 0) = _
    rw [this]; simp [ht]
  · cases eb : S.testBit j with
    | false => rfl
    | true =>
      have hjc : j < c := by
        apply Classical.byContradiction
        intro hn
        rw [Nat.testBit_lt_two_pow (Nat.lt_of_lt_of_le hS (Nat.pow_le_pow_right (by omega) (by omega)))] at eb
        cases eb
      obtain ⟨t, ht, e2⟩ := List.getElem_of_mem ((el_mem (S := S) (j := j) c 0).2 ⟨by omega, by omega, eb⟩)
      exact absurd ((het t (by omega)).trans e2) (hj t (by omega))
/-- CAUCHY, BINET, as the law adds them up. -/
def cbT (p : Int) (c n : Nat) (R R2 : List (List Int)) (S : Nat) : Int := if pop S = n then detL p n (colL c R S) (2 ^ n - 1) * detL p n (rwsL c R2 S) (2 ^ n - 1) else 0
theorem cb_list (hm : MatOK p c R) (hl : R.length = c2) : detL p c2 (timL p c c2 R R2) (2 ^ c2 - 1) = sm (2 ^ c) (cbT p c c2 R R2) % p := by
  have hp2 := isP_pos hm.pr
  refine Em.eq (p := p) ?_ (detL_in hm.pr _ _ _) ⟨Int.emod_nonneg _ (by omega), Int.emod_lt_of_pos _ (by omega)⟩
  refine (detL_em p _ _ _).trans (Em.trans ?_ (Em.mod _).symm)
  have h1 : Em p (detZ c2 (timL p c c2 R R2) (2 ^ c2 - 1)) (detZ c2 (matL R.length c2 fun i t => sm c fun j => rowF R i j * rowF R2 j t) (2 ^ c2 - 1)) := detZ_em _ _ _ (by rw [timL_len, matL_len]) fun i hi j hj => by
    rw [matL_len] at hi
    rw [matL_at hi hj]
    show Em p (rowF (timL p c c2 R R2) i j) _
    rw [timL_rowF hi hj]
    exact timF_em _ _ i j c
  refine h1.trans ?_
  rw [show detZ c2 (matL R.length c2 fun i t => sm c fun j => rowF R i j * rowF R2 j t) (2 ^ c2 - 1) = _ from cauchy_binet c hm.c8' c2 (fun k t => (R2.getD k []).getD t 0) R (matL R.length c2 fun i t => sm c fun j => rowF R i j * rowF R2 j t) (matL_len _ _ _) (fun i hi t ht => matL_at hi ht _) (2 ^ c2 - 1)]
  refine Em.sm fun S hS => ?_
  unfold cbT
  rw [hl]
  by_cases ep : pop S = c2
  · rw [if_pos ep, if_pos ep, psi_list, ← col_det hm.c8' hS ep]
    exact (detL_em p _ _ _).symm.mul (detL_em p _ _ _).symm
  · rw [if_neg ep, if_neg ep]; exact Em.refl _
end Go.Proofs.Ytcncaaeofcmefaa

namespace Go.Proofs.Ytcncaaeofcmefaa
open Go.RowKit

set_option maxHeartbeats 1000000 in
theorem CloneR_ok (T : Nat) (f : Nat → Int) (v : Value) (w : World) (h : RdZ w v T f fun _ => True) (hT : T ≤ 256) :
    Calls Try.prog 16 #[v] w fun e w' => ∃ a cap, e = .returned (.slice a T cap) ∧ (0 < T → ∃ g, a = some ⟨g, 0, none⟩ ∧ w.heap.size ≤ g ∧ RowB w' g T f) ∧ Below w.heap.size w w' := by
  obtain ⟨i0, hi, hz0, hz1, hz2⟩ := info_parts Try.infoInt
  obtain ⟨a, cap, rfl, hc⟩ := h
  rcases a with _ | x
  · obtain rfl : T = 0 := by
      rcases Nat.eq_zero_or_pos T with h | h
      · exact h
      · obtain ⟨b, off, e, -⟩ := hc h; cases e
    have hnil : ∀ W, (binOp .eql 28 (.slice none 0 cap) (.slice none 0 0)).run Try.prog W = .ok (.bool true) W := fun W => Lib.run_eql_slice_nil W _ _ _ _ _ _ _ Try.underlying28
    clear hc
    go_enter Try.func16, Try.ntmps16
    go_wp2_with fail
    go_ret
    exact ⟨none, 0, rfl, fun h => by omega, Below.refl _ _⟩
  · have hnil : ∀ W, (binOp .eql 28 (.slice (some x) T cap) (.slice none 0 0)).run Try.prog W = .ok (.bool false) W := fun W => Lib.run_eql_slice_nil W _ _ _ _ _ _ _ Try.underlying28
    have OE : OwnZ 3 w.heap.size (w.alloc (.cells #[] 3)) (.slice (some ⟨w.heap.size, 0, none⟩) 0 0) [] := ⟨rfl, .inr ⟨w.heap.size, 0, #[], rfl, Nat.le_refl _, World.alloc_heap_new w _, Nat.le_refl _, Nat.zero_le _, rfl, rfl⟩⟩
    have HOE := hid OE
    have HCL : Hid (∀ j u, (VZ ((List.range T).map f))[j]? = some u → (w.alloc (.cells #[] 3)).cell? (x.add j) = some u) := fun j u hu => by
      have hj : j < T := by
        have := (List.getElem?_eq_some_iff.1 hu).1
        simpa [VZ] using this
      obtain ⟨b, off, e, -, hb, hcell⟩ := hc (by omega)
      obtain rfl : x = ⟨b, off, none⟩ := by simpa using e
      have e1 : (w.alloc (.cells #[] 3)).cell? ⟨b, off + j, none⟩ = some (.int .i64 (f j)) := (((Below.refl _ w).alloc (Nat.le_refl _) _).cell (p := ⟨b, off + j, none⟩) hb).trans (hcell j hj)
      have e2 : u = .int .i64 (f j) := by
        simp [VZ, hj] at hu
        exact hu.symm
      rw [e2, ← e1]
      simp only [Addr.add]
      split
      · rename_i e; simp_all
      · rfl
    have HVL : Hid ((VZ ((List.range T).map f)).length = T * 1) := by show _ = _; rw [VZ_len]; simp
    have H1C : Hid (∀ u ∈ VZ ((List.range T).map f), u.oneCell' = true) := fun u hu => by
      unfold VZ at hu
      obtain ⟨x, _, rfl⟩ := List.mem_map.1 hu
      rfl
    have HFI : Hid (∀ B w' v', w'.ownsRow B 3 1 v' T (VZ [] ++ VZ ((List.range T).map f)) → OwnZ 3 B w' v' ((List.range T).map f)) := fun B w' v' ho => by
      unfold OwnZ
      have e : ((List.range T).map f).length = T := by simp
      rw [e]
      exact ho
    have HFO : Hid (∀ w' v', OwnZ 3 w.heap.size w' v' ((List.range T).map f) → ∃ a cap, v' = .slice a T cap ∧ (0 < T → ∃ g, a = some ⟨g, 0, none⟩ ∧ w.heap.size ≤ g ∧ RowB w' g T f)) := fun w' v' ho => by
      have hlen : ((List.range T).map f).length = T := by simp
      rcases Nat.eq_zero_or_pos T with h0 | h0
      · rcases Go.Joins.ownsRow_forms ho with ⟨rfl, -⟩ | ⟨g, cap, rfl⟩
        · exact ⟨none, 0, by rw [h0], fun h => by omega⟩
        · exact ⟨_, cap, by rw [hlen], fun h => by omega⟩
      · obtain ⟨g, cap, e, hg, ht⟩ := ho.rowB (by omega)
        rw [hlen] at e ht
        exact ⟨_, cap, e, fun _ => ⟨g, rfl, hg, ht.congr fun i hi => by simp [List.getD, hi]⟩⟩
    clear hc OE
    generalize VZ ((List.range T).map f) = vs at *
    go_enter Try.func16, Try.ntmps16
    go_wp2_with (at_builtin; refine wpList_append_own _ rfl _ _ 28 rfl w.heap.size 3 i0 (.int .i64 0) 1 8 Try.underlying28 hi hz0 hz1 hz2 rfl (by decide) _ _ _ rfl HOE.out x T cap vs rfl HVL.out HCL.out H1C.out ?c3 ?c4 ?c5 ?_)
    case c3 => unfold maxLen; simp; omega
    case c4 => simp; omega
    case c5 => simp
    intro v' w' ho hg _
    obtain ⟨a', c', rfl, h1⟩ := HFO.out _ _ (HFI.out _ _ _ ho)
    have H1 := hid h1
    have H2 : Hid (Below w.heap.size w w') := ((Below.refl _ w).alloc (Nat.le_refl _) _).grown hg (by simp) (fun k e => by cases e; exact Nat.le_refl _)
    clear ho hg h1
    go_wp2_with fail
    go_ret
    exact ⟨_, _, rfl, H1.out, H2.out⟩
theorem els_elT {S c : Nat} (hc : c ≤ 8) (hS : S < 2 ^ c) : els S = elT S c 0 := by
  rw [el_els hc hS, el_range, ← List.range_eq_range']
  rfl
variable {p : Int} {c c2 n : Nat} {R R2 : List (List Int)} {S : Nat}
theorem colL_len : (colL c R S).length = R.length := by simp [colL]
theorem rwsL_len (hc : c ≤ 8) (hS : S < 2 ^ c) : (rwsL c R2 S).length = pop S := by
  rw [rwsL, List.length_map, el_len hc hS]
/-- The columns' numbers. -/
def colF (c : Nat) (R : List (List Int)) (S i t : Nat) : Int := rowF R i ((elT S c 0).getD t 0)
theorem colL_mat (hl : (elT S c 0).length = n) : colL c R S = matL R.length n (colF c R S) := by
  refine List.ext_getElem (by rw [colL_len, matL_len]) fun i h1 h2 => ?_
  have hi : i < R.length := by rw [colL_len] at h1; exact h1
  have e2 := matL_row (c := n) hi (colF c R S)
  rw [List.getD_eq_getElem?_getD, List.getElem?_eq_getElem h2] at e2
  rw [show (matL R.length n (colF c R S))[i] = (List.range n).map (colF c R S i) from e2]
  refine List.ext_getElem (by simp [colL, hl]) fun t g1 g2 => ?_
  have ht : t < (elT S c 0).length := by simpa [colL] using g1
  simp [colL, colF, rowF, List.getD, hi, ht]
theorem rwsL_mat (hm : MatOK p n R2) (hS : ∀ j ∈ elT S c 0, j < R2.length) (hl : (elT S c 0).length = n) : rwsL c R2 S = matL n n fun i t => rowF R2 ((elT S c 0).getD i 0) t := by
  refine List.ext_getElem (by rw [matL_len, rwsL, List.length_map, hl]) fun i h1 h2 => ?_
  have hi : i < n := by rw [matL_len] at h2; exact h2
  have hie : i < (elT S c 0).length := by omega
  have e2 := matL_row (c := n) hi (fun i t => rowF R2 ((elT S c 0).getD i 0) t)
  rw [List.getD_eq_getElem?_getD, List.getElem?_eq_getElem h2] at e2
  rw [show (matL n n fun i t => rowF R2 ((elT S c 0).getD i 0) t)[i] = (List.range n).map (fun t => rowF R2 ((elT S c 0).getD i 0) t) from e2]
  have hg : (elT S c 0).getD i 0 = (elT S c 0)[i] := by simp [List.getD, hie]
  have hlt := hS _ (List.getElem_mem hie)
  have hlen := hm.lens _ hlt
  have e1 : (rwsL c R2 S)[i] = R2.getD (elT S c 0)[i] [] := by simp [rwsL]
  rw [e1, hg]
  refine List.ext_getElem (by rw [hlen]; simp) fun t g1 g2 => ?_
  rw [List.getElem_map, List.getElem_range]
  show _ = (R2.getD (elT S c 0)[i] []).getD t 0
  generalize R2.getD (elT S c 0)[i] [] = l at *
  simp [List.getD, g1]
theorem el_lt' : ∀ j ∈ elT S c 0, j < c := fun j hj => by have := (el_mem c 0).1 hj; omega
theorem col_ok (hm : MatOK p c R) (hl : (elT S c 0).length = n) (hn : n ≤ 8) : MatOK p n (colL c R S) := by
  rw [colL_mat hl]
  refine MatOK.mat hm.pr hn hm.rl fun i hi t ht => hm.rowc i hi _ ?_
  have : (elT S c 0).getD t 0 = (elT S c 0)[t]'(by omega) := by simp [List.getD, show t < (elT S c 0).length by omega]
  rw [this]
  exact el_lt' _ (List.getElem_mem _)
theorem rws_ok (hm : MatOK p n R2) (he : c = R2.length) (hl : (elT S c 0).length = n) (hn : n ≤ 6) : MatOK p n (rwsL c R2 S) := by
  rw [rwsL_mat hm (fun j hj => by have := el_lt' j hj; omega) hl]
  refine MatOK.mat hm.pr (by omega) hn fun i hi t ht => hm.rowc _ ?_ t ht
  have : (elT S c 0).getD i 0 = (elT S c 0)[i]'(by omega) := by simp [List.getD, show i < (elT S c 0).length by omega]
  rw [this]
  have := el_lt' _ (List.getElem_mem (show i < (elT S c 0).length by omega))
  omega
theorem cbT_hit (h : pop S = n) : cbT p c n R R2 S = detL p n (colL c R S) (2 ^ n - 1) * detL p n (rwsL c R2 S) (2 ^ n - 1) := if_pos h
theorem cbT_miss (h : pop S ≠ n) : cbT p c n R R2 S = 0 := if_neg h
theorem cbT_le (hp : isP p) (S : Nat) : 0 ≤ cbT p c n R R2 S ∧ cbT p c n R R2 S ≤ 49 := by
  have hp2 := isP_pos hp
  unfold cbT
  split
  · have h1 := detL_in hp n (colL c R S) (2 ^ n - 1)
    have h2 := detL_in hp n (rwsL c R2 S) (2 ^ n - 1)
    refine ⟨Int.mul_nonneg h1.1 h2.1, ?_⟩
    have := Int.mul_le_mul (show detL p n (colL c R S) (2 ^ n - 1) ≤ 7 by omega) (show detL p n (rwsL c R2 S) (2 ^ n - 1) ≤ 7 by omega) (by omega) (by omega)
    omega
  · omega
end Go.Proofs.Ytcncaaeofcmefaa
