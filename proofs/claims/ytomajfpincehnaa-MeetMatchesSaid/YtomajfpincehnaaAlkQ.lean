/- axioms.RanksOfAlike. -/
import Derived.Test.YtomajfpincehnaaBothQ
namespace Go.Proofs.Ytomajfpincehnaa
open Go.RowKit

/-- What is answered by way of error, where two matroids must have as many elements. -/
def uniQ (n : Int) (zs : List Int) (k : Int) (ys : List Int) : Int := if chk2 n zs k ys ≠ 0 then chk2 n zs k ys else if n = k then 0 else 3
theorem uni_of {n : Int} {zs : List Int} {k : Int} {ys : List Int} (hq : uniQ n zs k ys = 0) : ∃ (m : Nat) (l l' : List Nat), n = m ∧ k = m ∧ m ≤ 8 ∧ zs = N l ∧ ys = N l' ∧ Fam m l ∧ Bas l ∧ Fam m l' ∧ Bas l' := by
  have hc : chk2 n zs k ys = 0 := by
    unfold uniQ at hq
    split at hq
    · exact hq
    · rename_i h; exact Classical.not_not.1 h
  have hnk : n = k := by
    unfold uniQ at hq
    rw [if_neg (by rw [hc]; exact fun h => h rfl)] at hq
    split at hq
    · assumption
    · cases hq
  have h1 : chkR n zs = 0 := by
    unfold chk2 at hc
    split at hc
    · assumption
    · exact hc
  have h2 : chkR k ys = 0 := by
    unfold chk2 at hc
    rw [if_pos h1] at hc
    exact hc
  obtain ⟨m, l, rfl, hm, rfl, hf, hb⟩ := chk_of h1
  obtain ⟨m', l', rfl, hm', rfl, hf', hb'⟩ := chk_of h2
  obtain rfl : m = m' := by omega
  exact ⟨m, l, l', rfl, rfl, hm, rfl, rfl, hf, hb, hf', hb'⟩
theorem uni_mk {m : Nat} {l l' : List Nat} (hm : m ≤ 8) (hf : Fam m l) (hb : Bas l) (hf' : Fam m l') (hb' : Bas l') : uniQ m (N l) m (N l') = 0 := by
  unfold uniQ chk2
  rw [chk_mk hm hf hb, chk_mk hm hf' hb']
  simp
set_option maxHeartbeats 1000000 in
theorem alike_bad (n k : Int) (v u : Value) (zs ys : List Int) (w : World) (h : Ints w v zs) (h' : Ints w u ys) (hc : chk2 n zs k ys ≠ 0) :
    Calls Try.prog 13 #[.agg #[.int .i64 n, v], .agg #[.int .i64 k, u]] w fun e w' => e = .returned (.tuple #[.slice none 0 0, .slice none 0 0, .int .i64 (chk2 n zs k ys)]) ∧ Below w.heap.size w w' := by
  have HI := hid h
  have HI' := hid h'
  obtain ⟨a, cap, rfl, _, _⟩ := h
  obtain ⟨a', cap', rfl, _, _⟩ := h'
  have HB0 := hid (box2_below w n (.slice a zs.length cap) k (.slice a' ys.length cap'))
  have R1 := hid (both_bad n k _ _ zs ys _ (HI.out.below HB0.out) (HI'.out.below HB0.out) hc)
  generalize chk2 n zs k ys = q at *
  have hc' : (q == 0) = false := by rw [beq_eq_false_iff_ne]; exact hc
  go_enter Try.func13, Try.ntmps13
  go_wp2_with fail
  refine R1.out.mono ?_
  rintro e w1 ⟨rfl, hb1⟩
  have HB1 := hid (HB0.out.trans (hb1.mono HB0.out.size))
  clear hb1
  go_wp2_with fail
  refine bodyPost_ret (v := .tuple #[.slice none 0 0, .slice none 0 0, .int .i64 q]) ?_ rfl ⟨rfl, HB1.out⟩
  simp [results, Try.f13, go_sem]
set_option maxHeartbeats 1000000 in
theorem alike_shape (m k : Nat) (v u : Value) (l l' : List Nat) (w : World) (hm : m ≤ 8) (hf : Fam m l) (hb : Bas l) (h : Ints w v (N l)) (hk : k ≤ 8) (hf' : Fam k l') (hb' : Bas l') (h' : Ints w u (N l')) (hne : m ≠ k) :
    Calls Try.prog 13 #[.agg #[.int .i64 m, v], .agg #[.int .i64 k, u]] w fun e w' => e = .returned (.tuple #[.slice none 0 0, .slice none 0 0, .int .i64 3]) ∧ Below w.heap.size w w' := by
  have HI := hid h
  have HI' := hid h'
  obtain ⟨a, cap, hv, -, -⟩ := h.nats
  subst hv
  obtain ⟨a', cap', hv, -, -⟩ := h'.nats
  subst hv
  have HB0 := hid (box2_below w m (.slice a l.length cap) k (.slice a' l'.length cap'))
  have R1 := hid (both_ok m k _ _ l l' _ hm hf hb (HI.out.below HB0.out) hk hf' hb' (HI'.out.below HB0.out))
  have hne' : ((m : Int) == (k : Int)) = false := by rw [beq_eq_false_iff_ne]; omega
  generalize 2 ^ m = T at *
  generalize 2 ^ k = T' at *
  go_enter Try.func13, Try.ntmps13
  go_wp2_with fail
  refine R1.out.mono ?_
  rintro e w1 ⟨r, r', rfl, hr, hr', hb1⟩
  obtain ⟨b1, b2⟩ := box2_blocks hb1
  obtain ⟨x0, x1⟩ := cells2 b1
  obtain ⟨y0, y1⟩ := cells2 b2
  have HB1 := hid (HB0.out.trans (hb1.mono HB0.out.size))
  obtain ⟨rb, roff, rcap, rfl, -, -⟩ := hr
  obtain ⟨rb', roff', rcap', rfl, -, -⟩ := hr'
  clear hb1 b1 b2
  go_wp2_with fail
  refine bodyPost_ret (v := .tuple #[.slice none 0 0, .slice none 0 0, .int .i64 3]) ?_ rfl ⟨rfl, HB1.out⟩
  simp [results, Try.f13, go_sem]
set_option maxHeartbeats 1000000 in
theorem alike_ok (m : Nat) (v u : Value) (l l' : List Nat) (w : World) (hm : m ≤ 8) (hf : Fam m l) (hb : Bas l) (h : Ints w v (N l)) (hf' : Fam m l') (hb' : Bas l') (h' : Ints w u (N l')) :
    Calls Try.prog 13 #[.agg #[.int .i64 m, v], .agg #[.int .i64 m, u]] w fun e w' => ∃ r r', e = .returned (.tuple #[r, r', .int .i64 0]) ∧ RkAt w' r (2 ^ m) (rk l) ∧ RkAt w' r' (2 ^ m) (rk l') ∧ Below w.heap.size w w' := by
  have HI := hid h
  have HI' := hid h'
  obtain ⟨a, cap, hv, -, -⟩ := h.nats
  subst hv
  obtain ⟨a', cap', hv, -, -⟩ := h'.nats
  subst hv
  have HB0 := hid (box2_below w m (.slice a l.length cap) m (.slice a' l'.length cap'))
  have R1 := hid (both_ok m m _ _ l l' _ hm hf hb (HI.out.below HB0.out) hm hf' hb' (HI'.out.below HB0.out))
  generalize 2 ^ m = T at *
  go_enter Try.func13, Try.ntmps13
  go_wp2_with fail
  refine R1.out.mono ?_
  rintro e w1 ⟨r, r', rfl, hr, hr', hb1⟩
  obtain ⟨b1, b2⟩ := box2_blocks hb1
  obtain ⟨x0, x1⟩ := cells2 b1
  obtain ⟨y0, y1⟩ := cells2 b2
  have HB1 := hid (HB0.out.trans (hb1.mono HB0.out.size))
  have HR1 := hid hr
  have HR2 := hid hr'
  obtain ⟨rb, roff, rcap, rfl, -, -⟩ := hr
  obtain ⟨rb', roff', rcap', rfl, -, -⟩ := hr'
  clear hb1 b1 b2
  go_wp2_with fail
  refine bodyPost_ret (v := .tuple #[.slice (some ⟨rb, roff, none⟩) T rcap, .slice (some ⟨rb', roff', none⟩) T rcap', .int .i64 0]) ?_ rfl ⟨_, _, rfl, HR1.out, HR2.out, HB1.out⟩
  simp [results, Try.f13, go_sem]
theorem alike_none (n k : Int) (v u : Value) (zs ys : List Int) (w : World) (h : Ints w v zs) (h' : Ints w u ys) (hq : uniQ n zs k ys ≠ 0) :
    Calls Try.prog 13 #[.agg #[.int .i64 n, v], .agg #[.int .i64 k, u]] w fun e w' => e = .returned (.tuple #[.slice none 0 0, .slice none 0 0, .int .i64 (uniQ n zs k ys)]) ∧ Below w.heap.size w w' := by
  by_cases hc : chk2 n zs k ys = 0
  · have h1 : chkR n zs = 0 := by
      unfold chk2 at hc
      split at hc
      · assumption
      · exact hc
    have h2 : chkR k ys = 0 := by
      unfold chk2 at hc
      rw [if_pos h1] at hc
      exact hc
    have e : uniQ n zs k ys = 3 := by
      unfold uniQ at hq ⊢
      rw [if_neg (by rw [hc]; exact fun h => h rfl)] at hq ⊢
      split
      · rename_i e; rw [if_pos e] at hq; exact absurd rfl hq
      · rfl
    have hne : n ≠ k := fun e => by
      unfold uniQ at hq
      rw [if_neg (by rw [hc]; exact fun h => h rfl), if_pos e] at hq
      exact hq rfl
    rw [e]
    obtain ⟨m, l, rfl, hm, rfl, hf, hb⟩ := chk_of h1
    obtain ⟨m', l', rfl, hm', rfl, hf', hb'⟩ := chk_of h2
    exact alike_shape m m' v u l l' w hm hf hb h hm' hf' hb' h' (fun e => hne (by rw [e]))
  · have e : uniQ n zs k ys = chk2 n zs k ys := by unfold uniQ; rw [if_pos hc]
    rw [e]
    exact alike_bad n k v u zs ys w h h' hc
end Go.Proofs.Ytomajfpincehnaa
