/- Plain mathematics: each family of a matroid tells its bases; ranks make bases; complements, the dual. -/
import Derived.Test.YtkebhhpfnalbfaaDoorPlainAx
namespace Go.Proofs.YtkebhhpfnalbfaaDoor

theorem full_sub {n s : Nat} (hs : s < 2 ^ n) : subB s (2 ^ n - 1) = true := subB_iff.2 fun j hj => by rw [full_bit]; simp; exact bit_n hs hj
theorem bas_top {n : Nat} {l : List Nat} (hf : Fam n l) (hb : Bas l) {b : Nat} (hb1 : b ∈ l) : rk l (2 ^ n - 1) = pop b := by
  obtain ⟨c, hc, e⟩ := rk_at hb.ne (2 ^ n - 1)
  have : (2 ^ n - 1) &&& c = c := by rw [Nat.and_comm]; exact sub_and (full_sub (hf.lt c hc))
  rw [this] at e
  rw [← e]
  exact hb.size c hc b hb1
/-- The bases are the independent sets with the rank of all. -/
theorem bas_mem {n : Nat} {l : List Nat} (hn : n ≤ 8) (hf : Fam n l) (hb : Bas l) {s : Nat} (hs : s < 2 ^ n) : s ∈ l ↔ rk l s = pop s ∧ rk l s = rk l (2 ^ n - 1) := by
  have h8 := lt256 hn hs
  constructor
  · intro h
    have h1 : rk l s = pop s := (ind_iff hb.ne h8).2 ⟨s, h, sub_refl s⟩
    exact ⟨h1, by rw [h1, bas_top hf hb h]⟩
  · rintro ⟨h1, h2⟩
    obtain ⟨b, hb1, h3⟩ := (ind_iff hb.ne h8).1 h1
    have := eq_of_pop (hb.lt b hb1) h3 (by rw [← bas_top hf hb hb1, ← h2, h1]; exact Nat.le_refl _)
    rw [this]
    exact hb1
theorem rank_list {n : Nat} {l : List Nat} (hn : n ≤ 8) (hf : Fam n l) (hb : Bas l) : ((List.range (2 ^ n)).filter fun s => rk l s == pop s && rk l s == rk l (2 ^ n - 1)) = l := by
  refine sorted_ext (Fam.range n _).up hf.up fun s => ?_
  rw [List.mem_filter, List.mem_range, Bool.and_eq_true, beq_iff_eq, beq_iff_eq]
  constructor
  · rintro ⟨h1, h2⟩
    exact (bas_mem hn hf hb h1).2 h2
  · intro h
    exact ⟨hf.lt s h, (bas_mem hn hf hb (hf.lt s h)).1 h⟩
def indL (n : Nat) (l : List Nat) : List Nat := (List.range (2 ^ n)).filter fun s => rk l s == pop s
theorem mem_ind {n s : Nat} {l : List Nat} : s ∈ indL n l ↔ s < 2 ^ n ∧ rk l s = pop s := by unfold indL; simp
theorem most_ind {n : Nat} {l : List Nat} (hn : n ≤ 8) (hf : Fam n l) (hb : Bas l) : ((indL n l).filter fun s => !(indL n l).any (otherOut s)) = l := by
  refine sorted_ext ((Fam.range n _).filter _).up hf.up fun s => ?_
  rw [List.mem_filter, mem_ind, Bool.not_eq_true', List.any_eq_false]
  constructor
  · rintro ⟨⟨h1, h2⟩, h3⟩
    obtain ⟨b, hb1, h4⟩ := (ind_iff hb.ne (lt256 hn h1)).1 h2
    have h5 := h3 b (mem_ind.2 ⟨hf.lt b hb1, ((bas_mem hn hf hb (hf.lt b hb1)).1 hb1).1⟩)
    unfold otherOut at h5
    rw [h4] at h5
    simp at h5
    rw [← h5]
    exact hb1
  · intro h
    have hs := hf.lt s h
    refine ⟨⟨hs, ((bas_mem hn hf hb hs).1 h).1⟩, fun t ht h2 => ?_⟩
    rw [mem_ind] at ht
    unfold otherOut at h2
    rw [Bool.and_eq_true, bne_iff_ne] at h2
    obtain ⟨b, hb1, h4⟩ := (ind_iff hb.ne (lt256 hn ht.1)).1 ht.2
    have h5 := pop_sub h4
    have h6 := hb.size s h b hb1
    exact h2.1 (eq_of_pop (lt256 hn ht.1) h2.2 (by omega)).symm

/-- What each leaves of n elements, rising. -/
def cmp (n : Nat) (l : List Nat) : List Nat := l.reverse.map fun s => 2 ^ n - 1 - s
theorem cpl_bit {n s : Nat} (hs : s < 2 ^ n) (j : Nat) : (2 ^ n - 1 - s).testBit j = (decide (j < n) && !s.testBit j) := by rw [sub_compl hs, compl_bit n s j hs]
theorem cpl_lt {n s : Nat} : 2 ^ n - 1 - s < 2 ^ n := by have := Nat.one_le_two_pow (n := n); omega
theorem cpl_cpl {n s : Nat} (hs : s < 2 ^ n) : 2 ^ n - 1 - (2 ^ n - 1 - s) = s := by omega
theorem mem_cmp {n : Nat} {l : List Nat} (hl : ∀ s ∈ l, s < 2 ^ n) {s : Nat} : s ∈ cmp n l ↔ s < 2 ^ n ∧ 2 ^ n - 1 - s ∈ l := by
  unfold cmp
  rw [List.mem_map]
  constructor
  · rintro ⟨t, ht, rfl⟩
    rw [List.mem_reverse] at ht
    exact ⟨cpl_lt, by rw [cpl_cpl (hl t ht)]; exact ht⟩
  · rintro ⟨h1, h2⟩
    exact ⟨_, List.mem_reverse.2 h2, cpl_cpl h1⟩
theorem cmp_fam {n : Nat} {l : List Nat} (hf : Fam n l) : Fam n (cmp n l) := by
  refine ⟨?_, fun s hs => ((mem_cmp hf.lt).1 hs).1⟩
  unfold cmp
  rw [List.pairwise_map, List.pairwise_reverse]
  refine hf.up.imp_of_mem fun {a b} ha hb h => ?_
  have := hf.lt a ha
  have := hf.lt b hb
  omega
theorem cmp_cmp {n : Nat} {l : List Nat} (hf : Fam n l) : cmp n (cmp n l) = l := by
  refine sorted_ext (cmp_fam (cmp_fam hf)).up hf.up fun s => ?_
  rw [mem_cmp (cmp_fam hf).lt, mem_cmp hf.lt]
  constructor
  · rintro ⟨h1, _, h3⟩
    rwa [cpl_cpl h1] at h3
  · intro h
    exact ⟨hf.lt s h, cpl_lt, by rw [cpl_cpl (hf.lt s h)]; exact h⟩
theorem cmp_len (n : Nat) (l : List Nat) : (cmp n l).length = l.length := by unfold cmp; simp
theorem cpl_rm {n s i : Nat} (hs : s < 2 ^ n) (hi : s.testBit i = true) : 2 ^ n - 1 - rm s i = (2 ^ n - 1 - s) ||| 2 ^ i := Nat.eq_of_testBit_eq fun j => by
  have h1 : rm s i < 2 ^ n := sub_lt (rm_sub s i) hs
  rw [cpl_bit h1, or_bit, cpl_bit hs, rm_bit]
  by_cases e : i = j
  · subst e
    have := bit_n hs hi
    simp [this]
  · simp [e]

theorem dep_cir {r : Nat → Nat} (h : Rk r) {s : Nat} (hs : s < 256) (hd : r s ≠ pop s) : ∃ c, subB c s = true ∧ cirB r c = true := by
  apply Classical.byContradiction
  intro hno
  refine hd (h.ind_of s hs fun z hz e => ?_)
  have h1 := rm_lt hs hz
  obtain ⟨c, h2, _, h3⟩ := h.cir_of (bit8 hs hz) (rm s z) (by omega) (by rw [rm_bit]; simp) (by rw [ad_rm hz]; exact e.symm)
  rw [ad_rm hz] at h2
  exact hno ⟨c, h2, h3⟩
theorem cir_meet {n : Nat} {l : List Nat} (hn : n ≤ 8) (hb : Bas l) {s : Nat} (hs : s < 2 ^ n) : (cirL n l).all (meetB s) = true ↔ rk l (2 ^ n - 1 - s) = pop (2 ^ n - 1 - s) := by
  have hc8 := lt256 hn (cpl_lt (n := n) (s := s))
  rw [List.all_eq_true]
  constructor
  · intro h
    apply Classical.byContradiction
    intro hd
    obtain ⟨c, h1, h2⟩ := dep_cir hb.rk hc8 hd
    have h3 := h c (mem_cir.2 ⟨sub_lt h1 cpl_lt, h2⟩)
    rw [meetB_iff] at h3
    obtain ⟨i, h4, h5⟩ := h3
    have h6 := subB_iff.1 h1 i h5
    rw [cpl_bit hs, h4] at h6
    simp at h6
  · intro h c hc
    rw [mem_cir] at hc
    have c8 := lt256 hn hc.1
    apply Classical.byContradiction
    intro hm
    refine ((cir_iff c8).1 hc.2).2 (ind_sub hb hc8 (subB_iff.2 fun i hi => ?_) c8 h)
    rw [cpl_bit hs]
    cases e : s.testBit i
    · simp [bit_n hc.1 hi]
    · exact absurd (meetB_iff.2 ⟨i, e, hi⟩) hm
theorem ind_up {n : Nat} {r : Nat → Nat} (hn : n ≤ 8) (h : Rk r) {s : Nat} (hs : s < 2 ^ n) (hi : r s = pop s) (hlt : r s ≠ r (2 ^ n - 1)) : ∃ j, j < n ∧ s.testBit j = false ∧ r (s ||| 2 ^ j) = pop (s ||| 2 ^ j) := by
  apply Classical.byContradiction
  intro hno
  refine hlt ?_
  have h1 := h.adds (s := s) (2 ^ n - 1) (lt256 hn (full_lt n)) fun j hj => ?_
  · rw [or_eq_of_sub (full_sub hs)] at h1
    exact h1.symm
  · rw [full_bit, decide_eq_true_eq] at hj
    cases e : s.testBit j
    · have h2 := h.step s j
      have h3 := h.mono _ _ (sub_or s (2 ^ j))
      have h4 := pop_ad s (lt256 hn hs) j (by omega) e
      apply Classical.byContradiction
      intro h5
      exact hno ⟨j, hj, e, by omega⟩
    · rw [ad_in e]
theorem of_cir {n : Nat} {l : List Nat} (hn : n ≤ 8) (hf : Fam n l) (hb : Bas l) : cmp n (blk n (cirL n l)) = l := by
  have hblk : Fam n (blk n (cirL n l)) := Fam.range n _
  refine sorted_ext (cmp_fam hblk).up hf.up fun c => ?_
  rw [mem_cmp hblk.lt]
  constructor
  · rintro ⟨hc, h⟩
    have hs := cpl_lt (n := n) (s := c)
    unfold blk at h
    rw [List.mem_filter, block_iff (lt256 hn hs), cir_meet hn hb hs, cpl_cpl hc] at h
    obtain ⟨_, h1, h2⟩ := h
    refine (bas_mem hn hf hb hc).2 ⟨h1, ?_⟩
    apply Classical.byContradiction
    intro hlt
    obtain ⟨j, hj, hcj, h3⟩ := ind_up hn hb.rk hc h1 hlt
    have hsj : (2 ^ n - 1 - c).testBit j = true := by rw [cpl_bit hc, hcj]; simp [hj]
    have h4 := h2 j hsj
    have h5 := (cir_meet hn hb (sub_lt (rm_sub (2 ^ n - 1 - c) j) hs)).2 (by rw [cpl_rm hs hsj, cpl_cpl hc]; exact h3)
    rw [h5] at h4
    cases h4
  · intro h
    have hc := hf.lt c h
    have hs := cpl_lt (n := n) (s := c)
    refine ⟨hc, ?_⟩
    obtain ⟨h1, h2⟩ := (bas_mem hn hf hb hc).1 h
    unfold blk
    rw [List.mem_filter, List.mem_range, block_iff (lt256 hn hs), cir_meet hn hb hs, cpl_cpl hc]
    refine ⟨hs, h1, fun i hi => ?_⟩
    rw [Bool.eq_false_iff]
    intro h3
    have h4 := (cir_meet hn hb (sub_lt (rm_sub (2 ^ n - 1 - c) i) hs)).1 h3
    rw [cpl_rm hs hi, cpl_cpl hc] at h4
    rw [cpl_bit hc] at hi
    simp only [Bool.and_eq_true, decide_eq_true_eq, Bool.not_eq_true'] at hi
    have h5 := pop_ad c (lt256 hn hc) i (by omega) hi.2
    have h6 := hb.rk.mono _ _ (full_sub (ad_lt hc hi.1))
    omega

theorem out_meet {n : Nat} {H : List Nat} (hH : ∀ h ∈ H, h < 2 ^ n) {s : Nat} (hs : s < 2 ^ n) : (cmp n H).all (meetB s) = true ↔ ∀ h ∈ H, subB s h = false := by
  rw [List.all_eq_true]
  constructor
  · intro h x hx
    rw [Bool.eq_false_iff]
    intro hsub
    have h1 := h (2 ^ n - 1 - x) ((mem_cmp hH).2 ⟨cpl_lt, by rw [cpl_cpl (hH x hx)]; exact hx⟩)
    rw [meetB_iff] at h1
    obtain ⟨i, h2, h3⟩ := h1
    rw [cpl_bit (hH x hx), subB_iff.1 hsub i h2] at h3
    simp at h3
  · intro h x hx
    rw [mem_cmp hH] at hx
    have h1 := h _ hx.2
    rw [Bool.eq_false_iff] at h1
    apply Classical.byContradiction
    intro hm
    refine h1 (subB_iff.2 fun i hi => ?_)
    rw [cpl_bit hx.1]
    cases e : x.testBit i
    · simp [bit_n hs hi]
    · exact absurd (meetB_iff.2 ⟨i, hi, e⟩) hm
/-- What lies in none of these sets spans: the least such are the bases. -/
theorem of_out {n : Nat} {l H : List Nat} (hn : n ≤ 8) (hf : Fam n l) (hb : Bas l) (hH : ∀ h ∈ H, h < 2 ^ n) (hsp : ∀ s, s < 2 ^ n → ((∀ h ∈ H, subB s h = false) ↔ rk l s = rk l (2 ^ n - 1))) : blk n (cmp n H) = l := by
  refine sorted_ext (Fam.range n _).up hf.up fun s => ?_
  unfold blk
  rw [List.mem_filter, List.mem_range]
  constructor
  · rintro ⟨hs, h⟩
    rw [block_iff (lt256 hn hs), out_meet hH hs, hsp s hs] at h
    refine (bas_mem hn hf hb hs).2 ⟨hb.rk.ind_of s (lt256 hn hs) fun z hz e => ?_, h.1⟩
    have hz2 := sub_lt (rm_sub s z) hs
    have h2 := h.2 z hz
    rw [(out_meet hH hz2).2 ((hsp _ hz2).2 (e.trans h.1))] at h2
    cases h2
  · intro h
    have hs := hf.lt s h
    obtain ⟨h1, h2⟩ := (bas_mem hn hf hb hs).1 h
    refine ⟨hs, ?_⟩
    rw [block_iff (lt256 hn hs), out_meet hH hs, hsp s hs]
    refine ⟨h2, fun i hi => ?_⟩
    have hz2 := sub_lt (rm_sub s i) hs
    rw [Bool.eq_false_iff]
    intro h3
    have h4 := (hsp _ hz2).1 ((out_meet hH hz2).1 h3)
    have h5 := hb.rk.le (rm s i)
    have h6 := pop_rm' (lt256 hn hs) hi
    omega
theorem flat_top {n : Nat} {l : List Nat} (hn : n ≤ 8) (hb : Bas l) {s : Nat} (hs : s < 2 ^ n) (hfl : flatB (rk l) n s = true) (hr : rk l s = rk l (2 ^ n - 1)) : s = 2 ^ n - 1 := by
  refine Nat.eq_of_testBit_eq fun j => ?_
  rw [full_bit]
  cases e : s.testBit j
  · refine (decide_eq_false fun hj => ?_).symm
    refine (flat_iff hn hs).1 hfl j hj e ?_
    have h1 := hb.rk.mono _ _ (full_sub (ad_lt hs hj))
    have h2 := hb.rk.mono _ _ (sub_or s (2 ^ j))
    omega
  · exact (decide_eq_true (bit_n hs e)).symm
theorem flat_full {n : Nat} {l : List Nat} (hn : n ≤ 8) : flatB (rk l) n (2 ^ n - 1) = true := by
  rw [flat_iff hn (full_lt n)]
  intro j hj h
  rw [full_bit] at h
  simp [hj] at h
theorem hyp_out {n : Nat} {l : List Nat} (hn : n ≤ 8) (hb : Bas l) {s : Nat} (hs : s < 2 ^ n) : (∀ h ∈ (List.range (2 ^ n)).filter (hypB (rk l) n), subB s h = false) ↔ rk l s = rk l (2 ^ n - 1) := by
  constructor
  · intro h
    apply Classical.byContradiction
    intro hne
    have hc := cl_lt (r := rk l) hn hs
    have h1 : cl (rk l) n s ≠ 2 ^ n - 1 := fun e => hne (by rw [← hb.rk.cl_eq hn hs, e])
    have h2 : ∃ x, x < n ∧ (cl (rk l) n s).testBit x = false := by
      apply Classical.byContradiction
      intro hno
      refine h1 (Nat.eq_of_testBit_eq fun j => ?_)
      rw [full_bit]
      cases e : (cl (rk l) n s).testBit j
      · refine (decide_eq_false fun hj => hno ⟨j, hj, e⟩).symm
      · exact (decide_eq_true (bit_n hc e)).symm
    obtain ⟨x, hx, h3⟩ := h2
    obtain ⟨c, h4, h5, _, h6⟩ := hb.rk.hyper hn hx _ (cl (rk l) n s) hc (Nat.le_refl _) (by unfold flatB; rw [hb.rk.cl_cl hn hs]; simp) h3
    have h7 := h c (by rw [List.mem_filter, List.mem_range]; exact ⟨h4, h6⟩)
    rw [sub_trans (sub_cl hn hs) h5] at h7
    cases h7
  · intro h c hc
    rw [List.mem_filter, List.mem_range] at hc
    rw [Bool.eq_false_iff]
    intro h1
    have h2 := hb.rk.mono _ _ h1
    have h3 := hc.2
    unfold hypB at h3
    rw [Bool.and_eq_true, beq_iff_eq] at h3
    omega
theorem of_hyp {n : Nat} {l : List Nat} (hn : n ≤ 8) (hf : Fam n l) (hb : Bas l) : blk n (cmp n ((List.range (2 ^ n)).filter (hypB (rk l) n))) = l :=
  of_out hn hf hb (fun h hh => by rw [List.mem_filter, List.mem_range] at hh; exact hh.1) fun _ hs => hyp_out hn hb hs
def flatL (n : Nat) (l : List Nat) : List Nat := (List.range (2 ^ n)).filter (flatB (rk l) n)
/-- The flats but for that of all elements. -/
def lessL (n : Nat) (l : List Nat) : List Nat := (List.range (2 ^ n - 1)).filter (flatB (rk l) n)
theorem flat_split {n : Nat} {l : List Nat} (hn : n ≤ 8) : flatL n l = lessL n l ++ [2 ^ n - 1] := by
  have h1 := Nat.one_le_two_pow (n := n)
  obtain ⟨k, hk⟩ : ∃ k, 2 ^ n = k + 1 := ⟨2 ^ n - 1, by omega⟩
  have h2 := flat_full (l := l) hn
  unfold flatL lessL
  rw [hk] at h2 ⊢
  simp only [Nat.add_sub_cancel] at h2 ⊢
  rw [List.range_succ, List.filter_append, List.filter_cons, h2]
  simp
theorem of_flat {n : Nat} {l : List Nat} (hn : n ≤ 8) (hf : Fam n l) (hb : Bas l) : blk n (cmp n (lessL n l)) = l := by
  have hlt : ∀ h ∈ lessL n l, h < 2 ^ n := fun h hh => by unfold lessL at hh; rw [List.mem_filter, List.mem_range] at hh; omega
  refine of_out hn hf hb hlt fun s hs => ?_
  rw [← hyp_out hn hb hs]
  constructor
  · intro h c hc
    rw [List.mem_filter, List.mem_range] at hc
    have h3 := hc.2
    unfold hypB at h3
    rw [Bool.and_eq_true, beq_iff_eq] at h3
    refine h c ?_
    unfold lessL
    rw [List.mem_filter, List.mem_range]
    refine ⟨?_, h3.1⟩
    rcases Nat.lt_or_ge c (2 ^ n - 1) with g | g
    · exact g
    · have : c = 2 ^ n - 1 := by omega
      rw [this] at h3
      omega
  · intro h c hc
    have hs2 := (hyp_out hn hb hs).1 h
    rw [Bool.eq_false_iff]
    intro h1
    have h2 := hb.rk.mono _ _ h1
    have hc2 := hlt c hc
    unfold lessL at hc
    rw [List.mem_filter, List.mem_range] at hc
    have h4 := hb.rk.mono _ _ (full_sub hc2)
    have h3 := flat_top hn hb hc2 hc.2 (by omega)
    omega
end Go.Proofs.YtkebhhpfnalbfaaDoor
