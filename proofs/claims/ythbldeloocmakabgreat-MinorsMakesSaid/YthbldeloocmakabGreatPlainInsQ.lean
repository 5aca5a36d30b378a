/- Plain mathematics: a set laid into a rising list; what is relaxed, as a list. -/
import Derived.Test.YthbldeloocmakabGreatRelax2Q
namespace Go.Proofs.YthbldeloocmakabGreat

theorem take_lows {l : List Nat} (h : l.Pairwise (· < ·)) (s : Nat) : l.take (l.filter (· < s)).length = l.filter (· < s) ∧ l.drop (l.filter (· < s)).length = l.filter (fun x => !decide (x < s)) := by
  induction l with
  | nil => exact ⟨rfl, rfl⟩
  | cons a l ih =>
    obtain ⟨h1, h2⟩ := List.pairwise_cons.1 h
    obtain ⟨i1, i2⟩ := ih h2
    by_cases ha : a < s
    · rw [List.filter_cons_of_pos (by simpa using ha), List.filter_cons_of_neg (by simpa using ha)]
      exact ⟨by rw [List.length_cons, List.take_succ_cons, i1], by rw [List.length_cons, List.drop_succ_cons, i2]⟩
    · have e : l.filter (· < s) = [] := List.filter_eq_nil_iff.2 fun x hx => by have := h1 x hx; simp; omega
      rw [List.filter_cons_of_neg (by simpa using ha), e]
      refine ⟨rfl, ?_⟩
      rw [List.length_nil, List.drop_zero, List.filter_cons_of_pos (by simpa using ha)]
      congr 1
      exact (List.filter_eq_self.2 fun x hx => by have := h1 x hx; simp; omega).symm
theorem ins_eq {l : List Nat} (h : l.Pairwise (· < ·)) (s : Nat) : insL l s = l.filter (· < s) ++ ([s] ++ l.filter (fun x => !decide (x < s))) := by
  unfold insL flatN
  obtain ⟨h1, h2⟩ := take_lows h s
  rw [h1, h2]
  simp
theorem ins_mem {l : List Nat} (h : l.Pairwise (· < ·)) (s x : Nat) : x ∈ insL l s ↔ x = s ∨ x ∈ l := by
  rw [ins_eq h]
  simp only [List.mem_append, List.mem_filter, List.mem_singleton, decide_eq_true_eq, Bool.not_eq_true', decide_eq_false_iff_not]
  by_cases hx : x < s
  · have : x ≠ s := by omega
    simp [hx, this]
  · simp [hx]
theorem ins_fam {n : Nat} {l : List Nat} (hf : Fam n l) {s : Nat} (hs : s < 2 ^ n) (hn : s ∉ l) : Fam n (insL l s) := by
  refine ⟨?_, fun x hx => ?_⟩
  · rw [ins_eq hf.up, List.pairwise_append]
    refine ⟨hf.up.filter _, ?_, ?_⟩
    · rw [List.singleton_append, List.pairwise_cons]
      refine ⟨fun x hx => ?_, hf.up.filter _⟩
      obtain ⟨h1, h2⟩ := List.mem_filter.1 hx
      have : x ≠ s := fun e => hn (e ▸ h1)
      simp at h2
      omega
    · intro a ha b hb
      obtain ⟨_, h2⟩ := List.mem_filter.1 ha
      simp at h2
      rcases List.mem_append.1 hb with h | h
      · rw [List.mem_singleton] at h; omega
      · obtain ⟨_, h3⟩ := List.mem_filter.1 h
        simp at h3
        omega
  · rcases (ins_mem hf.up s x).1 hx with rfl | h
    · exact hs
    · exact hf.lt x h
theorem cir_out {n : Nat} (hn : n ≤ 8) {l : List Nat} (hf : Fam n l) (hb : Bas l) {c : Nat} (hc : c < 2 ^ n) (h1 : cirB (rk l) c = true) : c ∉ l := fun h => by
  have hr := hb.rk.cir_rk (lt256 hn hc) h1
  have := ((bas_mem hn hf hb hc).1 h).1
  omega
theorem ins_bas {n : Nat} (hn : n ≤ 8) {l : List Nat} (hf : Fam n l) (hb : Bas l) {c : Nat} (hc : c < 2 ^ n) (h1 : cirB (rk l) c = true) (h2 : hypB (rk l) n c = true) : Fam n (insL l c) ∧ Bas (insL l c) := by
  have hF := ins_fam hf hc (cir_out hn hf hb hc h1)
  have e : insL l c = basR n (relR (rk l) c) := sorted_ext hF.up (basR_fam _ _).up fun x => by rw [ins_mem hf.up, rel_mem hn hf hb hc h1 h2]
  exact ⟨hF, e ▸ (rel_rkOn hn hb hc h1 h2).bas hn⟩
end Go.Proofs.YthbldeloocmakabGreat
