/- Plain mathematics of sets, matroids, graphs and lists, on which the walks rest. -/
import Derived.Test.YtcncaaeofcmefaaPlainAll
namespace Go.Proofs.Ytcncaaeofcmefaa

/-- e changes places with no lesser one -/
def actB (l : List Nat) (b e : Nat) : Bool := (List.range e).all fun i => !memB (b ^^^ 2 ^ e ^^^ 2 ^ i) l
theorem act_iff {l : List Nat} {b e : Nat} : actB l b e = true ↔ ∀ i, i < e → b ^^^ 2 ^ e ^^^ 2 ^ i ∉ l := by
  unfold actB memB
  rw [List.all_eq_true]
  constructor
  · intro h i hi
    simpa using h i (List.mem_range.2 hi)
  · intro h i hi
    simpa using h i (List.mem_range.1 hi)
/-- what is active of b -/
def actI (l : List Nat) (b : Nat) : Nat → Nat
  | 0 => 0
  | e + 1 => if (actB l b e && b.testBit e) = true then actI l b e ||| 2 ^ e else actI l b e
/-- what is active without b -/
def actO (l : List Nat) (b : Nat) : Nat → Nat
  | 0 => 0
  | e + 1 => if (actB l b e && !b.testBit e) = true then actO l b e ||| 2 ^ e else actO l b e
theorem actI_bit (l : List Nat) (b : Nat) : ∀ n j, (actI l b n).testBit j = (decide (j < n) && (actB l b j && b.testBit j))
  | 0, j => by simp [actI]
  | n + 1, j => by
    have ih := actI_bit l b n j
    unfold actI
    by_cases h : (actB l b n && b.testBit n) = true
    · rw [if_pos h, or_bit, ih]
      by_cases hj : n = j
      · subst hj; simp [h]
      · have : (decide (j < n + 1)) = decide (j < n) := by rw [decide_eq_decide]; omega
        rw [this]; simp [hj]
    · rw [if_neg h, ih]
      by_cases hj : n = j
      · subst hj; simp at h ⊢; intro ha; simp [h ha]
      · have : (decide (j < n + 1)) = decide (j < n) := by rw [decide_eq_decide]; omega
        rw [this]
theorem actO_bit (l : List Nat) (b : Nat) : ∀ n j, (actO l b n).testBit j = (decide (j < n) && (actB l b j && !b.testBit j))
  | 0, j => by simp [actO]
  | n + 1, j => by
    have ih := actO_bit l b n j
    unfold actO
    by_cases h : (actB l b n && !b.testBit n) = true
    · rw [if_pos h, or_bit, ih]
      by_cases hj : n = j
      · subst hj; simp [h]
      · have : (decide (j < n + 1)) = decide (j < n) := by rw [decide_eq_decide]; omega
        rw [this]; simp [hj]
    · rw [if_neg h, ih]
      by_cases hj : n = j
      · subst hj; simp at h ⊢; intro ha; simp [h ha]
      · have : (decide (j < n + 1)) = decide (j < n) := by rw [decide_eq_decide]; omega
        rw [this]
theorem actI_lt (l : List Nat) (b n : Nat) : actI l b n < 2 ^ n := lt_of_bits fun j hj => by
  rw [actI_bit] at hj; simp at hj; exact hj.1
theorem actO_lt (l : List Nat) (b n : Nat) : actO l b n < 2 ^ n := lt_of_bits fun j hj => by
  rw [actO_bit] at hj; simp at hj; exact hj.1
theorem actI_sub (l : List Nat) (b n : Nat) : subB (actI l b n) b = true := subB_iff.2 fun j hj => by
  rw [actI_bit] at hj; simp at hj; exact hj.2.2
theorem actO_out (l : List Nat) (b n : Nat) : actO l b n &&& b = 0 := Nat.eq_of_testBit_eq fun j => by
  rw [Nat.testBit_and, actO_bit, Nat.zero_testBit]; cases b.testBit j <;> simp

/-- the sets without m; those with m, without it -/
def dnL (m : Nat) (l : List Nat) : List Nat := l.filter fun b => !b.testBit m
def cnL (m : Nat) (l : List Nat) : List Nat := (l.filter fun b => b.testBit m).map (rm · m)
theorem mem_dn {m : Nat} {l : List Nat} {x : Nat} : x ∈ dnL m l ↔ x.testBit m = false ∧ x ∈ l := by
  unfold dnL; rw [List.mem_filter]; simp; exact And.comm
theorem mem_cn {m : Nat} {l : List Nat} {x : Nat} : x ∈ cnL m l ↔ x.testBit m = false ∧ x ||| 2 ^ m ∈ l := by
  unfold cnL
  rw [List.mem_map]
  constructor
  · rintro ⟨b, hb, rfl⟩
    rw [List.mem_filter] at hb
    refine ⟨by rw [rm_bit]; simp, ?_⟩
    have : rm b m ||| 2 ^ m = b := ad_rm hb.2
    rw [this]; exact hb.1
  · rintro ⟨h1, h2⟩
    refine ⟨x ||| 2 ^ m, List.mem_filter.2 ⟨h2, by rw [or_bit]; simp⟩, ?_⟩
    exact Nat.eq_of_testBit_eq fun j => by
      rw [rm_bit, or_bit]
      by_cases hj : m = j
      · subst hj; simp [h1]
      · simp [hj]
theorem lt_top {m x : Nat} (h : x < 2 ^ (m + 1)) (hb : x.testBit m = false) : x < 2 ^ m := lt_of_bits fun j hj => by
  have := bit_n h hj
  rcases Nat.lt_or_ge j m with h1 | h1
  · exact h1
  · have : j = m := by omega
    subst this
    rw [hb] at hj; cases hj
theorem sorted_mapL {f : Nat → Nat} {l : List Nat} (hl : l.Pairwise (· < ·)) (hf : ∀ a ∈ l, ∀ b ∈ l, a < b → f a < f b) : (l.map f).Pairwise (· < ·) := by
  rw [List.pairwise_map]
  exact List.Pairwise.imp_of_mem (fun ha hb h => hf _ ha _ hb h) hl
theorem rm_top {m b : Nat} (hlt : b < 2 ^ (m + 1)) (hb : b.testBit m = true) : rm b m + 2 ^ m = b := by
  have h0 : (rm b m).testBit m = false := by rw [rm_bit]; simp
  have h1 : rm b m < 2 ^ m := lt_top (sub_lt (rm_sub b m) hlt) h0
  have := ad_rm hb
  rw [← add_top h1] at this
  omega
theorem dn_fam {m : Nat} {l : List Nat} (hf : Fam (m + 1) l) : Fam m (dnL m l) :=
  ⟨hf.up.filter _, fun s hs => by obtain ⟨h1, h2⟩ := mem_dn.1 hs; exact lt_top (hf.lt s h2) h1⟩
theorem cn_fam {m : Nat} {l : List Nat} (hf : Fam (m + 1) l) : Fam m (cnL m l) := by
  refine ⟨sorted_mapL (hf.up.filter _) fun a ha b hb h => ?_, fun s hs => ?_⟩
  · have h1 := rm_top (hf.lt a (List.mem_filter.1 ha).1) (List.mem_filter.1 ha).2
    have h2 := rm_top (hf.lt b (List.mem_filter.1 hb).1) (List.mem_filter.1 hb).2
    omega
  · obtain ⟨h1, h2⟩ := mem_cn.1 hs
    have h3 := hf.lt _ h2
    refine lt_top ?_ h1
    exact sub_lt (sub_or s (2 ^ m)) h3
theorem top_rank {m : Nat} {l : List Nat} (hf : Fam (m + 1) l) (hb : Bas l) (hd : dnL m l ≠ []) : rk l (2 ^ m - 1) = rk l (2 ^ (m + 1) - 1) := by
  obtain ⟨b, hbm⟩ := List.exists_mem_of_ne_nil _ hd
  obtain ⟨h1, h2⟩ := mem_dn.1 hbm
  have h3 := lt_top (hf.lt b h2) h1
  have h4 := hb.rk.mono _ _ (full_sub (Nat.lt_trans (full_lt m) (top_ltn m)))
  have h5 := rk_ge (2 ^ m - 1) h2
  have h6 : (2 ^ m - 1) &&& b = b := by rw [Nat.and_comm]; exact sub_and (full_sub h3)
  rw [h6, ← bas_top hf hb h2] at h5
  omega
theorem dn_min {m : Nat} {l : List Nat} (hm : m < 8) (hf : Fam (m + 1) l) (hb : Bas l) (hd : dnL m l ≠ []) : dnL m l = minL (m + 1) l (2 ^ m) 0 := by
  have hM := top_fam hm l 0
  have hr := top_rank hf hb hd
  have hr := top_rank hf hb hd
  have hz := hb.rk.zero
  refine sorted_ext (dn_fam hf).up hM.up fun s => ?_
  constructor
  · intro hs
    have hs' := (dn_fam hf).lt s hs
    obtain ⟨h1, h2⟩ := mem_dn.1 hs
    have h3 := (bas_mem (by omega) hf hb (hf.lt s h2)).1 h2
    refine (bas_mem (by omega) hM (min_bas (by omega) hb _ _) hs').2 ?_
    rw [top_rk hm hb 0 hs', top_rk hm hb 0 (full_lt m), hz, Nat.or_zero, Nat.or_zero, hr]
    omega
  · intro hs
    have hs' := hM.lt s hs
    have h3 := (bas_mem (by omega) hM (min_bas (by omega) hb _ _) hs').1 hs
    rw [top_rk hm hb 0 hs', top_rk hm hb 0 (full_lt m), hz, Nat.or_zero, Nat.or_zero, hr] at h3
    refine mem_dn.2 ⟨top_out hs', (bas_mem (by omega) hf hb (Nat.lt_trans hs' (top_ltn m))).2 ?_⟩
    omega
theorem top_one {m : Nat} {l : List Nat} (hm : m < 8) (hb : Bas l) (hc : cnL m l ≠ []) : rk l (2 ^ m) = 1 := by
  obtain ⟨b, hbm⟩ := List.exists_mem_of_ne_nil _ hc
  obtain ⟨h1, h2⟩ := mem_cn.1 hbm
  have h3 := hb.rk.le (2 ^ m)
  have h4 := rk_ge (2 ^ m) h2
  have h5 : 2 ^ m &&& (b ||| 2 ^ m) = 2 ^ m := by
    refine sub_and ?_
    rw [Nat.or_comm]; exact sub_or _ _
  have h6 : pop (2 ^ m) = 1 := by
    have := pop_ad 0 (by omega) m hm (by simp)
    rw [Nat.zero_or] at this
    rw [this]; rfl
  rw [h5, h6] at h4
  omega
theorem cn_min {m : Nat} {l : List Nat} (hm : m < 8) (hf : Fam (m + 1) l) (hb : Bas l) (hc : cnL m l ≠ []) : cnL m l = minL (m + 1) l (2 ^ m) (2 ^ m) := by
  have hM := top_fam hm l (2 ^ m)
  have h1r := top_one hm hb hc
  have hfull := full_top m
  have hge := fun s => min_ge hb.rk s (2 ^ m)
  refine sorted_ext (cn_fam hf).up hM.up fun s => ?_
  constructor
  · intro hs
    have hs' := (cn_fam hf).lt s hs
    obtain ⟨h1, h2⟩ := mem_cn.1 hs
    have h3 := (bas_mem (by omega) hf hb (hf.lt _ h2)).1 h2
    refine (bas_mem (by omega) hM (min_bas (by omega) hb _ _) hs').2 ?_
    rw [top_rk hm hb _ hs', top_rk hm hb _ (full_lt m), h1r, ← hfull]
    have h4 := pop_ad s (lt256 (by omega) hs') m hm h1
    omega
  · intro hs
    have hs' := hM.lt s hs
    have h3 := (bas_mem (by omega) hM (min_bas (by omega) hb _ _) hs').1 hs
    rw [top_rk hm hb _ hs', top_rk hm hb _ (full_lt m), h1r, ← hfull] at h3
    have h1 := top_out hs'
    have h4 := pop_ad s (lt256 (by omega) hs') m hm h1
    have h5 := hge s
    have h6 := hb.rk.mono _ _ (full_sub (top_ltn m))
    refine mem_cn.2 ⟨h1, (bas_mem (by omega) hf hb (ad_lt (Nat.lt_trans hs' (top_ltn m)) (by omega))).2 ?_⟩
    omega
theorem dn_bas {m : Nat} {l : List Nat} (hm : m < 8) (hf : Fam (m + 1) l) (hb : Bas l) (hd : dnL m l ≠ []) : Bas (dnL m l) := by
  rw [dn_min hm hf hb hd]; exact min_bas (by omega) hb _ _
theorem cn_bas {m : Nat} {l : List Nat} (hm : m < 8) (hf : Fam (m + 1) l) (hb : Bas l) (hc : cnL m l ≠ []) : Bas (cnL m l) := by
  rw [cn_min hm hf hb hc]; exact min_bas (by omega) hb _ _
theorem dn_rk {m : Nat} {l : List Nat} (hm : m < 8) (hf : Fam (m + 1) l) (hb : Bas l) (hd : dnL m l ≠ []) {s : Nat} (hs : s < 2 ^ m) : rk (dnL m l) s = rk l s := by
  rw [dn_min hm hf hb hd, top_rk hm hb 0 hs, hb.rk.zero, Nat.or_zero]; rfl
theorem cn_rk {m : Nat} {l : List Nat} (hm : m < 8) (hf : Fam (m + 1) l) (hb : Bas l) (hc : cnL m l ≠ []) {s : Nat} (hs : s < 2 ^ m) : rk (cnL m l) s + 1 = rk l (s ||| 2 ^ m) := by
  have := min_ge hb.rk s (2 ^ m)
  have h1 := top_one hm hb hc
  rw [cn_min hm hf hb hc, top_rk hm hb _ hs]
  omega
theorem dn_cn {m : Nat} {l : List Nat} (hb : Bas l) : dnL m l ≠ [] ∨ cnL m l ≠ [] := by
  obtain ⟨b, hbm⟩ := List.exists_mem_of_ne_nil _ hb.ne
  cases h : b.testBit m
  · exact Or.inl (List.ne_nil_of_mem (mem_dn.2 ⟨h, hbm⟩))
  · refine Or.inr (List.ne_nil_of_mem (a := rm b m) (mem_cn.2 ⟨by rw [rm_bit]; simp, ?_⟩))
    have := ad_rm h
    rw [this]; exact hbm

/-- activities below the top -/
theorem xor_out (b e i m : Nat) (he : e ≠ m) (hi : i ≠ m) : (b ^^^ 2 ^ e ^^^ 2 ^ i).testBit m = b.testBit m := by
  rw [flip_bit, flip_bit]; simp [he, hi]
theorem act_dn {m : Nat} {l : List Nat} {b e : Nat} (hb : b.testBit m = false) (he : e < m) : actB (dnL m l) b e = actB l b e := by
  rw [Bool.eq_iff_iff, act_iff, act_iff]
  refine forall_congr' fun i => forall_congr' fun hi => not_congr ?_
  rw [mem_dn, xor_out b e i m (by omega) (by omega), hb]
  simp
theorem or_xor (b e i m : Nat) (he : e ≠ m) (hi : i ≠ m) : (b ^^^ 2 ^ e ^^^ 2 ^ i) ||| 2 ^ m = (b ||| 2 ^ m) ^^^ 2 ^ e ^^^ 2 ^ i := Nat.eq_of_testBit_eq fun j => by
  rw [or_bit, flip_bit, flip_bit, flip_bit, flip_bit, or_bit]
  by_cases hj : m = j
  · subst hj; simp [he, hi]
  · simp [hj]
theorem act_cn {m : Nat} {l : List Nat} {b e : Nat} (hb : b.testBit m = false) (he : e < m) : actB (cnL m l) b e = actB l (b ||| 2 ^ m) e := by
  rw [Bool.eq_iff_iff, act_iff, act_iff]
  refine forall_congr' fun i => forall_congr' fun hi => not_congr ?_
  rw [mem_cn, xor_out b e i m (by omega) (by omega), hb, or_xor b e i m (by omega) (by omega)]
  simp
theorem actI_dn {m : Nat} {l : List Nat} {b : Nat} (hb : b.testBit m = false) : actI (dnL m l) b m = actI l b m := Nat.eq_of_testBit_eq fun j => by
  rw [actI_bit, actI_bit]
  by_cases h : j < m
  · rw [act_dn hb h]
  · simp [h]
theorem actO_dn {m : Nat} {l : List Nat} {b : Nat} (hb : b.testBit m = false) : actO (dnL m l) b m = actO l b m := Nat.eq_of_testBit_eq fun j => by
  rw [actO_bit, actO_bit]
  by_cases h : j < m
  · rw [act_dn hb h]
  · simp [h]
theorem actI_cn {m : Nat} {l : List Nat} {b : Nat} (hb : b.testBit m = false) : actI (cnL m l) b m = actI l (b ||| 2 ^ m) m := Nat.eq_of_testBit_eq fun j => by
  rw [actI_bit, actI_bit]
  by_cases h : j < m
  · rw [act_cn hb h, or_bit]
    have : m ≠ j := by omega
    simp [this]
  · simp [h]
theorem actO_cn {m : Nat} {l : List Nat} {b : Nat} (hb : b.testBit m = false) : actO (cnL m l) b m = actO l (b ||| 2 ^ m) m := Nat.eq_of_testBit_eq fun j => by
  rw [actO_bit, actO_bit]
  by_cases h : j < m
  · rw [act_cn hb h, or_bit]
    have : m ≠ j := by omega
    simp [this]
  · simp [h]

/-- m takes the place of an element of b -/
theorem exch_in {m : Nat} {l : List Nat} (hb : Bas l) {b : Nat} (hbl : b ∈ l) (hbm : b.testBit m = false) : ∀ (k a : Nat), a ∈ l → a.testBit m = true → pop (dif a b) ≤ k → ∃ y, b.testBit y = true ∧ rm b y ||| 2 ^ m ∈ l
  | k, a, ha, ham, hk => by
    by_cases h1 : ∃ x, x ≠ m ∧ a.testBit x = true ∧ b.testBit x = false
    · obtain ⟨x, hx, hax, hbx⟩ := h1
      obtain ⟨y, hy1, hy2, hy3⟩ := hb.exch a ha b hbl x hax hbx
      have hp : pop (dif (rm a x ||| 2 ^ y) b) < pop (dif a b) := by
        have e1 : dif (rm a x ||| 2 ^ y) b = rm (dif a b) x := Nat.eq_of_testBit_eq fun j => by
          rw [dif_bit, or_bit, rm_bit, rm_bit, dif_bit]
          by_cases hj : y = j
          · subst hj; simp [hy1]
          · cases a.testBit j <;> cases b.testBit j <;> simp [hj]
        rw [e1, pop_rm _ (dif_lt (hb.lt a ha)) x (bit8 (hb.lt a ha) hax) (by rw [dif_bit, hax, hbx]; rfl)]
        have : 0 < pop (dif a b) := by
          refine Nat.pos_of_ne_zero fun h0 => ?_
          have := (pop_pos _ (dif_lt (hb.lt a ha))).1 h0
          have h2 : (dif a b).testBit x = true := by rw [dif_bit, hax, hbx]; rfl
          rw [this] at h2; simp at h2
        omega
      match k, hk with
      | 0, hk => omega
      | k + 1, hk =>
        refine exch_in hb hbl hbm k _ hy3 ?_ (by omega)
        rw [or_bit, rm_bit, ham]
        simp; exact Or.inl hx
    · obtain ⟨y, hy1, hy2, hy3⟩ := hb.exch a ha b hbl m ham hbm
      refine ⟨y, hy1, ?_⟩
      have hbb : rm a m ||| 2 ^ y = b := by
        refine eq_of_pop (hb.lt b hbl) (subB_iff.2 fun j hj => ?_) (by rw [hb.size _ hy3 _ hbl]; exact Nat.le_refl _)
        rw [or_bit, rm_bit] at hj
        simp at hj
        rcases hj with ⟨hj1, hj2⟩ | rfl
        · cases hbj : b.testBit j
          · exact absurd ⟨j, fun e => hj2 e.symm, hj1, hbj⟩ h1
          · rfl
        · exact hy1
      have : rm b y ||| 2 ^ m = a := Nat.eq_of_testBit_eq fun j => by
        rw [← hbb, or_bit, rm_bit, or_bit, rm_bit]
        by_cases hj : m = j
        · subst hj; simp [ham]
        · by_cases hy : y = j
          · subst hy; simp [hj, hy2]
          · simp [hj, hy]
      rw [this]; exact ha
theorem act_top_out {m : Nat} {l : List Nat} (hf : Fam (m + 1) l) (hb : Bas l) {b : Nat} (hbl : b ∈ l) (hbm : b.testBit m = false) : actB l b m = true ↔ cnL m l = [] := by
  rw [act_iff]
  constructor
  · intro h
    by_cases hc : cnL m l = []
    · exact hc
    · exfalso
      obtain ⟨a, ha⟩ := List.exists_mem_of_ne_nil _ hc
      obtain ⟨h1, h2⟩ := mem_cn.1 ha
      obtain ⟨y, hy1, hy2⟩ := exch_in hb hbl hbm _ _ h2 (by rw [or_bit]; simp) (Nat.le_refl _)
      have hym : y ≠ m := fun e => by subst e; rw [hbm] at hy1; cases hy1
      have := bit_n (hf.lt b hbl) hy1
      refine h y (by omega) ?_
      have e1 : b ^^^ 2 ^ m ^^^ 2 ^ y = rm b y ||| 2 ^ m := Nat.eq_of_testBit_eq fun j => by
        rw [flip_bit, flip_bit, or_bit, rm_bit]
        by_cases hj : m = j
        · subst hj; simp [hbm, hym]
        · by_cases hy : y = j
          · subst hy; simp [hj, hy1]
          · simp [hj, hy]
      rw [e1]; exact hy2
  · intro h i hi hmem
    have : rm (b ^^^ 2 ^ m ^^^ 2 ^ i) m ∈ cnL m l := mem_cn.2 ⟨by rw [rm_bit]; simp, by
      have h1 : (b ^^^ 2 ^ m ^^^ 2 ^ i).testBit m = true := by
        have : i ≠ m := by omega
        rw [flip_bit, flip_bit, hbm]; simp [this]
      have := ad_rm h1
      rw [this]; exact hmem⟩
    rw [h] at this; cases this
theorem act_top_in {m : Nat} {l : List Nat} (hf : Fam (m + 1) l) (hb : Bas l) {b : Nat} (hbl : b ∈ l) (hbm : b.testBit m = true) : actB l b m = true ↔ dnL m l = [] := by
  rw [act_iff]
  constructor
  · intro h
    by_cases hc : dnL m l = []
    · exact hc
    · exfalso
      obtain ⟨a, ha⟩ := List.exists_mem_of_ne_nil _ hc
      obtain ⟨h1, h2⟩ := mem_dn.1 ha
      obtain ⟨y, hy1, hy2, hy3⟩ := hb.exch b hbl a h2 m hbm h1
      have hym : y ≠ m := fun e => by subst e; rw [hbm] at hy2; cases hy2
      have := bit_n (hf.lt a h2) hy1
      refine h y (by omega) ?_
      have e1 : b ^^^ 2 ^ m ^^^ 2 ^ y = rm b m ||| 2 ^ y := Nat.eq_of_testBit_eq fun j => by
        rw [flip_bit, flip_bit, or_bit, rm_bit]
        by_cases hj : m = j
        · subst hj; simp [hbm, hym]
        · by_cases hy : y = j
          · subst hy; simp [hj, hy2]
          · simp [hj, hy]
      rw [e1]; exact hy3
  · intro h i hi hmem
    have : b ^^^ 2 ^ m ^^^ 2 ^ i ∈ dnL m l := mem_dn.2 ⟨by
        have : i ≠ m := by omega
        rw [flip_bit, flip_bit, hbm]; simp [this], hmem⟩
    rw [h] at this; cases this
end Go.Proofs.Ytcncaaeofcmefaa

namespace Go.Proofs.Ytcncaaeofcmefaa

theorem tal_split (m : Nat) (F : Nat → Int) : ∀ l : List Nat, tal F l = tal F (dnL m l) + tal (fun b => F (b ||| 2 ^ m)) (cnL m l)
  | [] => rfl
  | b :: l => by
    have ih := tal_split m F l
    unfold dnL cnL at ih ⊢
    cases h : b.testBit m
    · simp only [List.filter_cons, h, tal]
      simp only [Bool.not_false, if_true, Bool.false_eq_true, if_false, tal]
      omega
    · have e1 : rm b m ||| 2 ^ m = b := ad_rm h
      simp only [List.filter_cons, h, tal]
      simp only [Bool.not_true, if_true, Bool.false_eq_true, if_false, List.map_cons, tal, e1]
      omega

/-- the sum over bases, by how many elements are active -/
def wt (n : Nat) (l : List Nat) (g : Nat → Nat → Int) : Int := tal (fun b => g (pop (actI l b n)) (pop (actO l b n))) l
theorem pop_top {m x : Nat} (hm : m < 8) (hx : x < 2 ^ m) : pop (x ||| 2 ^ m) = pop x + 1 := pop_ad x (lt256 (by omega) hx) m hm (top_out hx)
theorem actI_out {m : Nat} {l : List Nat} {b : Nat} (h : b.testBit m = false) : actI l b (m + 1) = actI l b m := by
  rw [actI, if_neg (by simp [h])]
theorem actO_in {m : Nat} {l : List Nat} {b : Nat} (h : b.testBit m = true) : actO l b (m + 1) = actO l b m := by
  rw [actO, if_neg (by simp [h])]
theorem bit_top (x m : Nat) : (x ||| 2 ^ m).testBit m = true := by rw [or_bit]; simp
theorem wt_both {m : Nat} {l : List Nat} (hf : Fam (m + 1) l) (hb : Bas l) (hd : dnL m l ≠ []) (hc : cnL m l ≠ []) (g : Nat → Nat → Int) : wt (m + 1) l g = wt m (dnL m l) g + wt m (cnL m l) g := by
  unfold wt
  rw [tal_split m]
  congr 1
  · refine tal_congr fun b hbm => ?_
    obtain ⟨h1, h2⟩ := mem_dn.1 hbm
    have h3 : actB l b m = false := by
      have := (not_congr (act_top_out hf hb h2 h1)).2 hc
      simpa using this
    rw [actI_out h1, actO, if_neg (by simp [h3]), actI_dn h1, actO_dn h1]
  · refine tal_congr fun b hbm => ?_
    obtain ⟨h1, h2⟩ := mem_cn.1 hbm
    have h3 : actB l (b ||| 2 ^ m) m = false := by
      have := (not_congr (act_top_in hf hb h2 (bit_top b m))).2 hd
      simpa using this
    rw [actO_in (bit_top b m), actI, if_neg (by simp [h3]), actI_cn h1, actO_cn h1]
theorem wt_loop {m : Nat} {l : List Nat} (hm : m < 8) (hf : Fam (m + 1) l) (hb : Bas l) (hc : cnL m l = []) (g : Nat → Nat → Int) : wt (m + 1) l g = wt m (dnL m l) fun i j => g i (j + 1) := by
  unfold wt
  rw [tal_split m, hc]
  simp only [tal, Int.add_zero]
  refine tal_congr fun b hbm => ?_
  obtain ⟨h1, h2⟩ := mem_dn.1 hbm
  have h3 := (act_top_out hf hb h2 h1).2 hc
  rw [actI_out h1, actO, if_pos (by simp [h3, h1]), actI_dn h1, actO_dn h1, pop_top hm (actO_lt l b m)]
theorem wt_isth {m : Nat} {l : List Nat} (hm : m < 8) (hf : Fam (m + 1) l) (hb : Bas l) (hd : dnL m l = []) (g : Nat → Nat → Int) : wt (m + 1) l g = wt m (cnL m l) fun i j => g (i + 1) j := by
  unfold wt
  rw [tal_split m, hd]
  simp only [tal, Int.zero_add]
  refine tal_congr fun b hbm => ?_
  obtain ⟨h1, h2⟩ := mem_cn.1 hbm
  have h3 := (act_top_in hf hb h2 (bit_top b m)).2 hd
  rw [actO_in (bit_top b m), actI, if_pos (by simp [h3]), actI_cn h1, actO_cn h1, pop_top hm (actI_lt l _ m)]

/-- differences -/
def dz (g : Nat → Nat → Int) : Nat → Nat → Int
  | 0, 0 => g 0 0
  | 0, b + 1 => dz (fun i j => g i (j + 1)) 0 b - dz g 0 b
  | a + 1, b => dz (fun i j => g (i + 1) j) a b - dz g a b
theorem dz_in (g : Nat → Nat → Int) (a b : Nat) : dz g a b + dz g (a + 1) b = dz (fun i j => g (i + 1) j) a b := by
  rw [dz]; omega
theorem dz_out (g : Nat → Nat → Int) : ∀ a b, dz g a b + dz g a (b + 1) = dz (fun i j => g i (j + 1)) a b
  | 0, b => by rw [dz.eq_2]; omega
  | a + 1, b => by
    have h1 := dz_out g a b
    have h2 := dz_out (fun i j => g (i + 1) j) a b
    have e1 : dz g (a + 1) b = dz (fun i j => g (i + 1) j) a b - dz g a b := by rw [dz]
    have e2 : dz g (a + 1) (b + 1) = dz (fun i j => g (i + 1) j) a (b + 1) - dz g a (b + 1) := by rw [dz]
    have e3 : dz (fun i j => g i (j + 1)) (a + 1) b = dz (fun i j => g (i + 1) (j + 1)) a b - dz (fun i j => g i (j + 1)) a b := by rw [dz]
    rw [e1, e2, e3]
    have h2' : dz (fun i j => g (i + 1) j) a b + dz (fun i j => g (i + 1) j) a (b + 1) = dz (fun i j => g (i + 1) (j + 1)) a b := h2
    omega
/-- the sum over all sets -/
def cz (n : Nat) (r : Nat → Nat) (g : Nat → Nat → Int) : Int := tal (fun s => dz g (r (2 ^ n - 1) - r s) (pop s - r s)) (List.range (2 ^ n))
theorem cz_top (m : Nat) (r : Nat → Nat) (g : Nat → Nat → Int) : cz (m + 1) r g = tal (fun s => dz g (r (2 ^ (m + 1) - 1) - r s) (pop s - r s) + dz g (r (2 ^ (m + 1) - 1) - r (s ||| 2 ^ m)) (pop (s ||| 2 ^ m) - r (s ||| 2 ^ m))) (List.range (2 ^ m)) := by
  unfold cz
  rw [range_top, tal_append, tal_map, tal_add]
  congr 1
  exact tal_congr fun s hs => by rw [add_top (List.mem_range.1 hs)]
theorem rk_loop {m : Nat} {l : List Nat} (hb : Bas l) (hc : cnL m l = []) (s : Nat) : rk l (s ||| 2 ^ m) = rk l s := by
  have hz := hb.rk.zero
  have h0 : rk l (2 ^ m) = 0 := by
    obtain ⟨b, hbm, h1⟩ := rk_at hb.ne (2 ^ m)
    have h2 : b.testBit m = false := by
      cases h : b.testBit m
      · rfl
      · have : rm b m ∈ cnL m l := mem_cn.2 ⟨by rw [rm_bit]; simp, by rw [show rm b m ||| 2 ^ m = b from ad_rm h]; exact hbm⟩
        rw [hc] at this; cases this
    have h3 : 2 ^ m &&& b = 0 := Nat.eq_of_testBit_eq fun j => by
      rw [Nat.testBit_and, Nat.testBit_two_pow, Nat.zero_testBit]
      by_cases hj : m = j
      · subst hj; simp [h2]
      · simp [hj]
    rw [h3] at h1
    rw [← h1]; rfl
  exact hb.rk.add (s := 0) (by unfold subB; simp) (by rw [Nat.zero_or, h0, hz])
theorem rk_isth {m : Nat} {l : List Nat} (hf : Fam (m + 1) l) (hb : Bas l) (hd : dnL m l = []) {s : Nat} (hs : s < 2 ^ m) : rk l (s ||| 2 ^ m) = rk l s + 1 := by
  have a1 := hb.rk.step s m
  have a2 := hb.rk.mono s (s ||| 2 ^ m) (sub_or _ _)
  by_cases he : rk l (s ||| 2 ^ m) = rk l s
  · exfalso
    have h1 := hb.rk.add (full_sub hs) he
    rw [← full_top] at h1
    obtain ⟨b, hbm, h2⟩ := rk_at hb.ne (2 ^ m - 1)
    have h3 : b.testBit m = true := by
      cases h : b.testBit m
      · have : b ∈ dnL m l := mem_dn.2 ⟨h, hbm⟩
        rw [hd] at this; cases this
      · rfl
    have h4 := bas_top hf hb hbm
    have h5 := pop_dif b (2 ^ m - 1)
    rw [Nat.and_comm b] at h5
    have h6 : pop (dif b (2 ^ m - 1)) ≠ 0 := fun h0 => by
      have := (pop_pos _ (dif_lt (hb.lt b hbm))).1 h0
      have h7 : (dif b (2 ^ m - 1)).testBit m = true := by rw [dif_bit, full_bit, h3]; simp
      rw [this] at h7; simp at h7
    omega
  · omega
theorem fam_zero {l : List Nat} (hf : Fam 0 l) (hb : Bas l) : l = [0] := by
  have h1 : ∀ s ∈ l, s = 0 := fun s hs => by have := hf.lt s hs; simp at this; exact this
  have h2 := hf.up
  match l, h1, h2, hb.ne with
  | [a], h1, _, _ => rw [h1 a (by simp)]
  | a :: b :: t, h1, h2, _ =>
    have e1 := h1 a (by simp)
    have e2 := h1 b (by simp)
    simp at h2
    have := h2.1.1
    omega
/-- CRAPO -/
theorem wt_cz : ∀ (n : Nat) (l : List Nat), n ≤ 8 → Fam n l → Bas l → ∀ g, wt n l g = cz n (rk l) g
  | 0, l, _, hf, hb, g => by
    have e := fam_zero hf hb
    subst e
    have h1 : List.range (2 ^ 0) = [0] := rfl
    have h2 : rk [0] 0 = 0 := rfl
    have h3 : pop 0 = 0 := rfl
    unfold wt cz
    rw [h1]
    simp only [tal, actI, actO, h2, h3, Nat.pow_zero, Nat.sub_self, dz]
  | m + 1, l, hn, hf, hb, g => by
    have hm : m < 8 := by omega
    have hr := hb.rk
    rw [cz_top]
    by_cases hd : dnL m l = []
    · have hc : cnL m l ≠ [] := (dn_cn hb).resolve_left fun h => h hd
      rw [wt_isth hm hf hb hd, wt_cz m _ (by omega) (cn_fam hf) (cn_bas hm hf hb hc)]
      unfold cz
      refine tal_congr fun s hs => ?_
      have hs := List.mem_range.1 hs
      have e1 := cn_rk hm hf hb hc hs
      have e2 := cn_rk hm hf hb hc (full_lt m)
      rw [← full_top] at e2
      have e3 := rk_isth hf hb hd hs
      have e4 := (cn_bas hm hf hb hc).rk.mono s _ (full_sub hs)
      rw [pop_top hm hs, ← e1, ← e2, ← dz_in]
      have e5 : rk l s = rk (cnL m l) s := by omega
      rw [e5, Int.add_comm]
      congr 2 <;> omega
    · by_cases hc : cnL m l = []
      · rw [wt_loop hm hf hb hc, wt_cz m _ (by omega) (dn_fam hf) (dn_bas hm hf hb hd)]
        unfold cz
        refine tal_congr fun s hs => ?_
        have hs := List.mem_range.1 hs
        rw [dn_rk hm hf hb hd hs, dn_rk hm hf hb hd (full_lt m), rk_loop hb hc, pop_top hm hs, ← dz_out, top_rank hf hb hd]
        have e4 := hr.le s
        rw [show pop s + 1 - rk l s = pop s - rk l s + 1 by omega]
      · rw [wt_both hf hb hd hc, wt_cz m _ (by omega) (dn_fam hf) (dn_bas hm hf hb hd), wt_cz m _ (by omega) (cn_fam hf) (cn_bas hm hf hb hc), tal_add]
        unfold cz
        congr 1
        · refine tal_congr fun s hs => ?_
          have hs := List.mem_range.1 hs
          rw [dn_rk hm hf hb hd hs, dn_rk hm hf hb hd (full_lt m), top_rank hf hb hd]
        · refine tal_congr fun s hs => ?_
          have hs := List.mem_range.1 hs
          have e1 := cn_rk hm hf hb hc hs
          have e2 := cn_rk hm hf hb hc (full_lt m)
          rw [← full_top] at e2
          rw [pop_top hm hs, ← e1, ← e2]
          congr 1 <;> omega

/-- s is between what is active of b -/
def btB (l : List Nat) (n b s : Nat) : Bool := subB (dif b (actI l b n)) s && subB s (b ||| actO l b n)
theorem bt_iff {l : List Nat} {n b s : Nat} (hb : b < 2 ^ n) (hs : s < 2 ^ n) : btB l n b s = true ↔ ∀ j, j < n → actB l b j = false → s.testBit j = b.testBit j := by
  unfold btB
  rw [Bool.and_eq_true, subB_iff, subB_iff]
  constructor
  · rintro ⟨h1, h2⟩ j hj ha
    have a1 := h1 j
    have a2 := h2 j
    rw [dif_bit, actI_bit] at a1
    rw [Nat.testBit_or, actO_bit] at a2
    simp [ha] at a1 a2
    cases h3 : s.testBit j <;> cases h4 : b.testBit j <;> simp_all
  · intro h
    constructor
    · intro j hj
      rw [dif_bit, actI_bit] at hj
      simp at hj
      have hjn := bit_n hb hj.1
      cases ha : actB l b j
      · rw [h j hjn ha]; exact hj.1
      · rcases hj.2 with h5 | h5 | h5
        · omega
        · rw [ha] at h5; cases h5
        · rw [hj.1] at h5; cases h5
    · intro j hj
      have hjn := bit_n hs hj
      rw [Nat.testBit_or, actO_bit]
      cases ha : actB l b j
      · rw [← h j hjn ha, hj]; rfl
      · cases hbj : b.testBit j <;> simp [hjn]
theorem rm_lt_top {m s : Nat} (hs : s < 2 ^ (m + 1)) : rm s m < 2 ^ m := lt_top (sub_lt (rm_sub s m) hs) (by rw [rm_bit]; simp)
theorem bt_dn {l : List Nat} {m b s : Nat} (hbm : b.testBit m = false) (hb : b < 2 ^ (m + 1)) (hs : s < 2 ^ (m + 1)) : btB l (m + 1) b s = (btB (dnL m l) m b (rm s m) && (actB l b m || !s.testBit m)) := by
  rw [Bool.eq_iff_iff, Bool.and_eq_true, bt_iff hb hs, bt_iff (lt_top hb hbm) (rm_lt_top hs)]
  constructor
  · intro h
    refine ⟨fun j hj ha => ?_, ?_⟩
    · rw [act_dn hbm hj] at ha
      rw [rm_bit, ← h j (by omega) ha]
      have : m ≠ j := by omega
      simp [this]
    · cases ha : actB l b m
      · rw [h m (by omega) ha, hbm]; rfl
      · rfl
  · rintro ⟨h1, h2⟩ j hj ha
    by_cases hjm : j = m
    · subst hjm
      rw [ha] at h2
      simp at h2
      rw [h2, hbm]
    · have := h1 j (by omega) (by rw [act_dn hbm (by omega)]; exact ha)
      rw [← this, rm_bit]
      have : m ≠ j := by omega
      simp [this]
theorem bt_cn {l : List Nat} {m b s : Nat} (hbm : b.testBit m = false) (hb : b < 2 ^ m) (hs : s < 2 ^ (m + 1)) : btB l (m + 1) (b ||| 2 ^ m) s = (btB (cnL m l) m b (rm s m) && (actB l (b ||| 2 ^ m) m || s.testBit m)) := by
  have hb' : b ||| 2 ^ m < 2 ^ (m + 1) := ad_lt (Nat.lt_trans hb (top_ltn m)) (by omega)
  rw [Bool.eq_iff_iff, Bool.and_eq_true, bt_iff hb' hs, bt_iff hb (rm_lt_top hs)]
  constructor
  · intro h
    refine ⟨fun j hj ha => ?_, ?_⟩
    · rw [act_cn hbm hj] at ha
      have := h j (by omega) ha
      have hne : m ≠ j := by omega
      rw [or_bit] at this
      simp [hne] at this
      rw [rm_bit, this]
      simp [hne]
    · cases ha : actB l (b ||| 2 ^ m) m
      · rw [h m (by omega) ha, bit_top]; rfl
      · rfl
  · rintro ⟨h1, h2⟩ j hj ha
    by_cases hjm : j = m
    · subst hjm
      rw [ha] at h2
      simp at h2
      rw [h2, bit_top]
    · have := h1 j (by omega) (by rw [act_cn hbm (by omega)]; exact ha)
      have hne : m ≠ j := by omega
      rw [or_bit, ← this, rm_bit]
      simp [hne]
/-- in just one place -/
def seeZ (n : Nat) (l : List Nat) (s : Nat) : Int := tal (fun b => if btB l n b s = true then 1 else 0) l
theorem see_one : ∀ (n : Nat) (l : List Nat), n ≤ 8 → Fam n l → Bas l → ∀ s, s < 2 ^ n → seeZ n l s = 1
  | 0, l, _, hf, hb, s, hs => by
    have e := fam_zero hf hb
    subst e
    have : s = 0 := by simpa using hs
    subst this
    rfl
  | m + 1, l, hn, hf, hb, s, hs => by
    have hm : m < 8 := by omega
    have hD : tal (fun b => if btB l (m + 1) b s = true then 1 else 0) (dnL m l) = if (decide (cnL m l = []) || !s.testBit m) = true then seeZ m (dnL m l) (rm s m) else 0 := by
      by_cases hq : (decide (cnL m l = []) || !s.testBit m) = true
      · rw [if_pos hq]
        unfold seeZ
        refine tal_congr fun b hbm => ?_
        obtain ⟨h1, h2⟩ := mem_dn.1 hbm
        have h3 : actB l b m = decide (cnL m l = []) := by rw [Bool.eq_iff_iff, act_top_out hf hb h2 h1]; simp
        rw [bt_dn h1 (hf.lt b h2) hs, h3, hq, Bool.and_true]
      · rw [if_neg hq, tal_congr (G := fun _ => 0), tal_const, Int.zero_mul]
        intro b hbm
        obtain ⟨h1, h2⟩ := mem_dn.1 hbm
        have h3 : actB l b m = decide (cnL m l = []) := by rw [Bool.eq_iff_iff, act_top_out hf hb h2 h1]; simp
        rw [bt_dn h1 (hf.lt b h2) hs, h3]
        simp only [Bool.not_eq_true] at hq
        rw [hq, Bool.and_false]; rfl
    have hC : tal (fun b => if btB l (m + 1) (b ||| 2 ^ m) s = true then 1 else 0) (cnL m l) = if (decide (dnL m l = []) || s.testBit m) = true then seeZ m (cnL m l) (rm s m) else 0 := by
      by_cases hq : (decide (dnL m l = []) || s.testBit m) = true
      · rw [if_pos hq]
        unfold seeZ
        refine tal_congr fun b hbm => ?_
        have hlt := (cn_fam hf).lt b hbm
        obtain ⟨h1, h2⟩ := mem_cn.1 hbm
        have h3 : actB l (b ||| 2 ^ m) m = decide (dnL m l = []) := by rw [Bool.eq_iff_iff, act_top_in hf hb h2 (bit_top b m)]; simp
        rw [bt_cn h1 hlt hs, h3, hq, Bool.and_true]
      · rw [if_neg hq, tal_congr (G := fun _ => 0), tal_const, Int.zero_mul]
        intro b hbm
        have hlt := (cn_fam hf).lt b hbm
        obtain ⟨h1, h2⟩ := mem_cn.1 hbm
        have h3 : actB l (b ||| 2 ^ m) m = decide (dnL m l = []) := by rw [Bool.eq_iff_iff, act_top_in hf hb h2 (bit_top b m)]; simp
        rw [bt_cn h1 hlt hs, h3]
        simp only [Bool.not_eq_true] at hq
        rw [hq, Bool.and_false]; rfl
    have hS : seeZ (m + 1) l s = _ := tal_split m _ l
    rw [hS, hD, hC]
    have hrm := rm_lt_top hs
    by_cases hd : dnL m l = []
    · have hc : cnL m l ≠ [] := (dn_cn hb).resolve_left fun h => h hd
      have h0 : seeZ m (dnL m l) (rm s m) = 0 := by unfold seeZ; rw [hd]; rfl
      rw [see_one m _ (by omega) (cn_fam hf) (cn_bas hm hf hb hc) _ hrm, h0]
      simp [hd]
    · by_cases hc : cnL m l = []
      · have h0 : seeZ m (cnL m l) (rm s m) = 0 := by unfold seeZ; rw [hc]; rfl
        rw [see_one m _ (by omega) (dn_fam hf) (dn_bas hm hf hb hd) _ hrm, h0]
        simp [hc]
      · rw [see_one m _ (by omega) (dn_fam hf) (dn_bas hm hf hb hd) _ hrm, see_one m _ (by omega) (cn_fam hf) (cn_bas hm hf hb hc) _ hrm]
        cases s.testBit m <;> simp [hd, hc]
end Go.Proofs.Ytcncaaeofcmefaa

namespace Go.Proofs.Ytcncaaeofcmefaa

/-- What is together with i, of what is left. -/
def clsR (T : Nat → Nat → Bool) (i : Nat) (pre : List Nat) : Nat := pre.foldl (fun a j => if T i j = true then a ||| 2 ^ j else a) (2 ^ i)
theorem clsR_snoc (T : Nat → Nat → Bool) (i : Nat) (pre : List Nat) (j : Nat) : clsR T i (pre ++ [j]) = if T i j = true then clsR T i pre ||| 2 ^ j else clsR T i pre := by
  unfold clsR
  rw [List.foldl_append]
  rfl
def partR (T : Nat → Nat → Bool) (rest : Nat) : Nat := clsR T (tz rest) (els (dif rest (2 ^ tz rest)))
/-- The parts, in the order in which they come. -/
inductive Prts (T : Nat → Nat → Bool) : Nat → List Nat → Prop
  | nil : Prts T 0 []
  | cons {rest : Nat} {L : List Nat} (h0 : rest ≠ 0) (h : Prts T (dif rest (partR T rest)) L) : Prts T rest (partR T rest :: L)
theorem clsR_bit (T : Nat → Nat → Bool) (i : Nat) (pre : List Nat) (j : Nat) : (clsR T i pre).testBit j = (decide (i = j) || (decide (j ∈ pre) && T i j)) := by
  unfold clsR
  rw [fold_bit (fun j => T i j = true), pow_bit]
  simp
theorem tz_bit : ∀ s : Nat, s < 256 → 0 < s → s.testBit (tz s) = true := by decide +kernel
theorem mem_els8 {s j : Nat} (hs : s < 256) : j ∈ els s ↔ s.testBit j = true := by
  unfold els
  rw [List.mem_filter, List.mem_range]
  exact ⟨fun h => h.2, fun h => ⟨bit8 hs h, h⟩⟩
theorem partR_bit {T : Nat → Nat → Bool} {rest : Nat} (h8 : rest < 256) (j : Nat) : (partR T rest).testBit j = (decide (tz rest = j) || (rest.testBit j && decide (tz rest ≠ j) && T (tz rest) j)) := by
  unfold partR
  rw [clsR_bit]
  have : decide (j ∈ els (dif rest (2 ^ tz rest))) = (rest.testBit j && decide (tz rest ≠ j)) := by
    rw [Bool.eq_iff_iff, decide_eq_true_eq, mem_els8 (dif_lt h8), dif_bit, pow_bit]
    simp
  rw [this]
theorem partR_sub {T : Nat → Nat → Bool} {rest : Nat} (h8 : rest < 256) (h0 : 0 < rest) : subB (partR T rest) rest = true := subB_iff.2 fun j hj => by
  rw [partR_bit h8] at hj
  rcases Bool.or_eq_true_iff.1 hj with e | e
  · rw [decide_eq_true_eq] at e; rw [← e]; exact tz_bit rest h8 h0
  · simp only [Bool.and_eq_true] at e; exact e.1.1
theorem rest_less {T : Nat → Nat → Bool} {rest : Nat} (h8 : rest < 256) (h0 : 0 < rest) : dif rest (partR T rest) < rest := by
  refine Nat.lt_of_le_of_ne ?_ fun e => ?_
  · have : dif rest (partR T rest) &&& rest = dif rest (partR T rest) := sub_and (subB_iff.2 fun j hj => by rw [dif_bit] at hj; simp at hj; exact hj.1)
    rw [← this]
    exact Nat.and_le_right
  · have h1 := congrArg (fun t => t.testBit (tz rest)) e
    simp only [dif_bit, partR_bit h8, tz_bit rest h8 h0] at h1
    simp at h1
theorem tz_full : ∀ n : Nat, 1 ≤ n → n ≤ 8 → tz (2 ^ n - 1) = 0 := by
  intro n h1 h2
  rcases (by omega : n = 1 ∨ n = 2 ∨ n = 3 ∨ n = 4 ∨ n = 5 ∨ n = 6 ∨ n = 7 ∨ n = 8) with rfl | rfl | rfl | rfl | rfl | rfl | rfl | rfl <;> decide +kernel
theorem part_full {n : Nat} {C : List Nat} (h1 : 1 ≤ n) (hn : n ≤ 8) : partR (tg C) (2 ^ n - 1) = cls C n 0 := Nat.eq_of_testBit_eq fun j => by
  rw [partR_bit (lt256 hn (full_lt n)), tz_full n h1 hn, cls_bit, full_bit]
  by_cases e : 0 = j
  · subst e; simp; omega
  · by_cases hj : j < n <;> simp [e, hj]
theorem prts_zero {T : Nat → Nat → Bool} {L : List Nat} (h : Prts T 0 L) : L = [] := by
  cases h with
  | nil => rfl
  | cons h0 _ => exact absurd rfl h0
theorem prts_cons {T : Nat → Nat → Bool} {F : Nat} {L : List Nat} (h : Prts T F L) (h0 : F ≠ 0) : ∃ L', L = partR T F :: L' ∧ Prts T (dif F (partR T F)) L' := by
  cases h with
  | nil => exact absurd rfl h0
  | cons _ h' => exact ⟨_, rfl, h'⟩
theorem prts_nil {T : Nat → Nat → Bool} {F : Nat} (h : Prts T F []) : F = 0 := by
  cases h
  rfl
/-- There is one part just if all hangs together. -/
theorem con_len {n : Nat} {l L : List Nat} (h1 : 1 ≤ n) (hn : n ≤ 8) (hb : Bas l) (h : Prts (tg (cirL n l)) (2 ^ n - 1) L) : L.length = 1 ↔ Con n (rk l) := by
  rw [con_iff hn hb (show 0 < n by omega), ← part_full h1 hn]
  have hf0 : 2 ^ n - 1 ≠ 0 := by have := Nat.pow_le_pow_right (n := 2) (by omega) h1; omega
  obtain ⟨L', rfl, h'⟩ := prts_cons h hf0
  have hs := partR_sub (T := tg (cirL n l)) (lt256 hn (full_lt n)) (by omega)
  clear h
  generalize partR (tg (cirL n l)) (2 ^ n - 1) = p at *
  constructor
  · intro hl
    have hL : L' = [] := by
      cases L' with
      | nil => rfl
      | cons a b => simp at hl
    subst hL
    have hd := prts_nil h'
    refine Nat.eq_of_testBit_eq fun j => ?_
    have h3 := congrArg (fun t => t.testBit j) hd
    simp only [dif_bit, Nat.zero_testBit] at h3
    have h4 := subB_iff.1 hs j
    cases hpj : p.testBit j <;> cases hfj : (2 ^ n - 1).testBit j <;> simp_all
  · intro he
    have hd : dif (2 ^ n - 1) p = 0 := Nat.eq_of_testBit_eq fun j => by rw [dif_bit, he]; simp
    rw [hd] at h'
    rw [prts_zero h']
    rfl
end Go.Proofs.Ytcncaaeofcmefaa

namespace Go.Proofs.Ytcncaaeofcmefaa

/-- What each set of the first elements becomes. -/
def imgs (p : List Nat) : List Nat := p.foldl (fun im x => im ++ im.map (· ||| 2 ^ x)) [0]
theorem imgs_snoc (p : List Nat) (x : Nat) : imgs (p ++ [x]) = imgs p ++ (imgs p).map (· ||| 2 ^ x) := by
  unfold imgs
  rw [List.foldl_append]
  rfl
theorem snoc_cases {p : List Nat} : p = [] ∨ ∃ q x, p = q ++ [x] := by
  rcases List.eq_nil_or_concat p with h | ⟨q, x, h⟩
  · exact .inl h
  · exact .inr ⟨q, x, by simpa using h⟩
theorem imgs_len : ∀ (k : Nat) (p : List Nat), p.length = k → (imgs p).length = 2 ^ k
  | 0, p, h => by rw [List.length_eq_zero_iff] at h; subst h; rfl
  | k + 1, p, h => by
    rcases snoc_cases (p := p) with rfl | ⟨q, x, rfl⟩
    · simp at h
    · have hq : q.length = k := by simpa using h
      rw [imgs_snoc, List.length_append, List.length_map, imgs_len k q hq, Nat.pow_succ]
      omega
/-- What a set becomes, bit by bit. -/
def image (p : List Nat) (s : Nat) : Nat := (List.range p.length).foldl (fun u i => if s.testBit i = true then u ||| 2 ^ p.getD i 0 else u) 0
theorem or_fold_bit {p : List Nat} {s j : Nat} : ∀ (L : List Nat) (u : Nat), (L.foldl (fun u i => if s.testBit i = true then u ||| 2 ^ p.getD i 0 else u) u).testBit j = (u.testBit j || L.any fun i => s.testBit i && decide (p.getD i 0 = j))
  | [], u => by simp
  | i :: L, u => by
    rw [List.foldl_cons, or_fold_bit L]
    by_cases h : s.testBit i = true
    · rw [if_pos h, Nat.testBit_or, Nat.testBit_two_pow]
      simp [h, Bool.or_assoc]
    · rw [if_neg h]
      simp [h]
theorem image_bit {p : List Nat} {s j : Nat} : (image p s).testBit j = (List.range p.length).any fun i => s.testBit i && decide (p.getD i 0 = j) := by
  unfold image
  rw [or_fold_bit]
  simp
/-- A loop that may be left: is more wanted, and the state. -/
def loopO {σ : Type} (step : σ → Nat → Bool × σ) : List Nat → σ → Bool × σ
  | [], s => (true, s)
  | x :: xs, s => if (step s x).1 = true then loopO step xs (step s x).2 else step s x
/-- The walk through the orders that begin with p (k elements are missing), as long as more are wanted. -/
def walkO {σ : Type} (fit : σ → List Nat → Bool) (fnd : σ → List Nat → Bool × σ) (n : Nat) : Nat → σ → List Nat → Bool × σ
  | 0, s, p => fnd s p
  | k + 1, s, p => loopO (fun s x => if x ∈ p then (true, s) else if fit s (p ++ [x]) = true then walkO fit fnd n k s (p ++ [x]) else (true, s)) (List.range n) s
/-- All orders that go on from p, in order. -/
def goes (n : Nat) : Nat → List Nat → List (List Nat)
  | 0, p => [p]
  | k + 1, p => (List.range n).flatMap fun x => if x ∈ p then [] else goes n k (p ++ [x])
theorem loopO_append {σ : Type} (step : σ → Nat → Bool × σ) : ∀ (xs ys : List Nat) (s : σ), loopO step (xs ++ ys) s = if (loopO step xs s).1 = true then loopO step ys (loopO step xs s).2 else loopO step xs s
  | [], ys, s => by simp [loopO]
  | x :: xs, ys, s => by
    rw [List.cons_append, loopO]
    by_cases h : (step s x).1 = true
    · rw [if_pos h, loopO_append step xs ys, loopO, if_pos h]
    · rw [if_neg h, loopO, if_neg h, if_neg h]
theorem image_snoc (q : List Nat) (x s : Nat) : image (q ++ [x]) s = image q s ||| if s.testBit q.length = true then 2 ^ x else 0 := by
  refine Nat.eq_of_testBit_eq fun j => ?_
  rw [Nat.testBit_or, image_bit, image_bit, List.length_append, List.length_singleton, List.range_succ, List.any_append]
  have e : ((List.range q.length).any fun i => s.testBit i && decide ((q ++ [x]).getD i 0 = j)) = (List.range q.length).any fun i => s.testBit i && decide (q.getD i 0 = j) := by
    have e1 : ∀ i, i < q.length → (q ++ [x]).getD i 0 = q.getD i 0 := fun i hi => by simp only [List.getD, List.getElem?_append_left hi]
    rw [Bool.eq_iff_iff, List.any_eq_true, List.any_eq_true]
    constructor
    · rintro ⟨i, hi, h⟩
      rw [e1 i (List.mem_range.1 hi)] at h
      exact ⟨i, hi, h⟩
    · rintro ⟨i, hi, h⟩
      rw [← e1 i (List.mem_range.1 hi)] at h
      exact ⟨i, hi, h⟩
  rw [e]
  congr 1
  by_cases h : s.testBit q.length = true
  · rw [if_pos h, Nat.testBit_two_pow]
    simp [h, List.getD]
  · rw [if_neg h]
    simp [h]
theorem image_low (q : List Nat) {k s t : Nat} (hk : q.length ≤ k) (h : ∀ i, i < k → s.testBit i = t.testBit i) : image q s = image q t := by
  refine Nat.eq_of_testBit_eq fun j => ?_
  rw [image_bit, image_bit, Bool.eq_iff_iff, List.any_eq_true, List.any_eq_true]
  constructor <;> rintro ⟨i, hi, h9⟩ <;> refine ⟨i, hi, ?_⟩ <;> rw [List.mem_range] at hi
  · rw [← h i (by omega)]; exact h9
  · rw [h i (by omega)]; exact h9
/-- The list of images holds each set's. -/
theorem imgs_at : ∀ (k : Nat) (p : List Nat), p.length = k → ∀ s, s < 2 ^ k → (imgs p).getD s 0 = image p s
  | 0, p, h, s, hs => by
    rw [List.length_eq_zero_iff] at h
    subst h
    have : s = 0 := by omega
    subst this
    rfl
  | k + 1, p, h, s, hs => by
    rcases snoc_cases (p := p) with rfl | ⟨q, x, rfl⟩
    · simp at h
    · have hq : q.length = k := by simpa using h
      have hl := imgs_len k q hq
      rw [imgs_snoc, image_snoc, hq]
      by_cases hlt : s < 2 ^ k
      · have hb : s.testBit k = false := Nat.testBit_lt_two_pow hlt
        have := imgs_at k q hq s hlt
        simp only [List.getD] at this ⊢
        rw [List.getElem?_append_left (by omega), this, hb]
        simp
      · have hb : s.testBit k = true := by
          rw [Nat.testBit_eq_decide_div_mod_eq]
          have : s / 2 ^ k = 1 := Nat.div_eq_of_lt_le (by omega) (by rw [Nat.pow_succ] at hs; omega)
          rw [this]
          rfl
        have ht : s - 2 ^ k < 2 ^ k := by rw [Nat.pow_succ] at hs; omega
        have hi := imgs_at k q hq (s - 2 ^ k) ht
        have hm : image q (s - 2 ^ k) = image q s := image_low q (Nat.le_of_eq hq) fun i hi => by
          have e : s = 2 ^ k + (s - 2 ^ k) := by omega
          conv => rhs; rw [e]
          rw [Nat.testBit_two_pow_add_gt hi]
        simp only [List.getD] at hi ⊢
        rw [List.getElem?_append_right (by omega), hl, List.getElem?_map]
        rw [List.getElem?_eq_getElem (by omega)] at hi ⊢
        simp only [Option.getD_some, Option.map_some] at hi ⊢
        rw [hi, hm, hb]
        simp
/-- The orders all of whose beginnings fit, in order. -/
def goesF (fit : List Nat → Bool) (n : Nat) : Nat → List Nat → List (List Nat)
  | 0, p => [p]
  | k + 1, p => (List.range n).flatMap fun x => if x ∈ p then [] else if fit (p ++ [x]) = true then goesF fit n k (p ++ [x]) else []
/-- A loop over orders that may be left. -/
def loopL {σ : Type} (fnd : σ → List Nat → Bool × σ) : List (List Nat) → σ → Bool × σ
  | [], s => (true, s)
  | q :: qs, s => if (fnd s q).1 = true then loopL fnd qs (fnd s q).2 else fnd s q
theorem loopL_append {σ : Type} (fnd : σ → List Nat → Bool × σ) : ∀ (xs ys : List (List Nat)) (s : σ), loopL fnd (xs ++ ys) s = if (loopL fnd xs s).1 = true then loopL fnd ys (loopL fnd xs s).2 else loopL fnd xs s
  | [], ys, s => by simp [loopL]
  | x :: xs, ys, s => by
    rw [List.cons_append, loopL]
    by_cases h : (fnd s x).1 = true
    · rw [if_pos h, loopL_append fnd xs ys, loopL, if_pos h]
    · rw [if_neg h, loopL, if_neg h, if_neg h]
/-- Where what fits does not hang on the state, the walk goes through a list. -/
theorem walkO_eq {σ : Type} (fit : List Nat → Bool) (fnd : σ → List Nat → Bool × σ) (n : Nat) : ∀ (k : Nat) (s : σ) (p : List Nat), walkO (fun _ => fit) fnd n k s p = loopL fnd (goesF fit n k p) s
  | 0, s, p => by
    rw [walkO, goesF, loopL]
    by_cases h : (fnd s p).1 = true
    · rw [if_pos h, loopL, ← h]
    · rw [if_neg h]
  | k + 1, s, p => by
    rw [walkO, goesF]
    generalize List.range n = xs
    induction xs generalizing s with
    | nil => rfl
    | cons x xs ih =>
      rw [List.flatMap_cons, loopL_append, loopO]
      by_cases hx : x ∈ p
      · simp only [if_pos hx, loopL, if_true]
        exact ih s
      · by_cases hf : fit (p ++ [x]) = true
        · simp only [if_neg hx, if_pos hf]
          rw [walkO_eq fit fnd n k s (p ++ [x])]
          split
          · exact ih _
          · rfl
        · simp only [if_neg hx, if_neg hf, loopL, if_true]
          exact ih s
end Go.Proofs.Ytcncaaeofcmefaa

namespace Go.Proofs.Ytcncaaeofcmefaa

/-- An order of n elements, or the beginning of one. -/
structure Beg (n : Nat) (p : List Nat) : Prop where
  lt : ∀ x ∈ p, x < n
  once : p.Nodup
theorem Beg.at {n : Nat} {p : List Nat} (h : Beg n p) {i : Nat} (hi : i < p.length) : p.getD i 0 < n := by
  simp only [List.getD, List.getElem?_eq_getElem hi, Option.getD_some]
  exact h.lt _ (List.getElem_mem _)
theorem Beg.inj {n : Nat} {p : List Nat} (h : Beg n p) {i j : Nat} (hi : i < p.length) (hj : j < p.length) (e : p.getD i 0 = p.getD j 0) : i = j := by
  simp only [List.getD, List.getElem?_eq_getElem hi, List.getElem?_eq_getElem hj, Option.getD_some] at e
  have hp := List.pairwise_iff_getElem.1 h.once
  rcases Nat.lt_trichotomy i j with a | a | a
  · exact absurd e (hp i j hi hj a)
  · exact a
  · exact absurd e.symm (hp j i hj hi a)
theorem image_has {p : List Nat} {s j : Nat} : (image p s).testBit j = true ↔ ∃ i, i < p.length ∧ s.testBit i = true ∧ p.getD i 0 = j := by
  rw [image_bit, List.any_eq_true]
  constructor
  · rintro ⟨i, hi, h⟩
    rw [Bool.and_eq_true, decide_eq_true_iff] at h
    exact ⟨i, List.mem_range.1 hi, h.1, h.2⟩
  · rintro ⟨i, hi, h1, h2⟩
    exact ⟨i, List.mem_range.2 hi, by rw [Bool.and_eq_true, decide_eq_true_iff]; exact ⟨h1, h2⟩⟩
theorem Beg.image_at {n : Nat} {p : List Nat} (h : Beg n p) {s i : Nat} (hi : i < p.length) : (image p s).testBit (p.getD i 0) = s.testBit i := by
  rw [Bool.eq_iff_iff, image_has]
  constructor
  · rintro ⟨k, hk, h1, h2⟩
    rw [← h.inj hk hi h2]
    exact h1
  · exact fun h1 => ⟨i, hi, h1, rfl⟩
theorem Beg.image_lt {n : Nat} {p : List Nat} (h : Beg n p) (s : Nat) : image p s < 2 ^ n := lt_of_bits fun j hj => by
  obtain ⟨i, hi, _, rfl⟩ := image_has.1 hj
  exact h.at hi
theorem Beg.image_and {n : Nat} {p : List Nat} (h : Beg n p) (s t : Nat) : image p (s &&& t) = image p s &&& image p t := Nat.eq_of_testBit_eq fun j => by
  rw [Nat.testBit_and, Bool.eq_iff_iff, Bool.and_eq_true, image_has, image_has, image_has]
  constructor
  · rintro ⟨i, hi, h1, h2⟩
    rw [Nat.testBit_and, Bool.and_eq_true] at h1
    exact ⟨⟨i, hi, h1.1, h2⟩, ⟨i, hi, h1.2, h2⟩⟩
  · rintro ⟨⟨i, hi, h1, h2⟩, ⟨k, hk, h3, h4⟩⟩
    have e := h.inj hi hk (h2.trans h4.symm)
    subst e
    exact ⟨i, hi, by rw [Nat.testBit_and, h1, h3]; rfl, h2⟩
theorem Beg.image_inj {n : Nat} {p : List Nat} (h : Beg n p) {s t : Nat} (hs : s < 2 ^ p.length) (ht : t < 2 ^ p.length) (e : image p s = image p t) : s = t := Nat.eq_of_testBit_eq fun j => by
  by_cases hj : j < p.length
  · rw [← h.image_at (s := s) hj, ← h.image_at (s := t) hj, e]
  · rw [Nat.testBit_lt_two_pow (Nat.lt_of_lt_of_le hs (Nat.pow_le_pow_right (by decide) (by omega))), Nat.testBit_lt_two_pow (Nat.lt_of_lt_of_le ht (Nat.pow_le_pow_right (by decide) (by omega)))]
theorem Beg.image_pop {n : Nat} {p : List Nat} (hn : n ≤ 8) (h : Beg n p) : ∀ (N : Nat) {s : Nat}, pop s ≤ N → s < 2 ^ p.length → p.length ≤ 8 → pop (image p s) = pop s := by
  intro N
  induction N with
  | zero =>
    intro s h0 hs hp
    have : s = 0 := (pop_pos s (lt256 hp hs)).1 (by omega)
    subst this
    have e : image p 0 = 0 := Nat.eq_of_testBit_eq fun j => by
      rw [Nat.zero_testBit, Bool.eq_false_iff]
      intro hj
      obtain ⟨i, _, h1, _⟩ := image_has.1 hj
      rw [Nat.zero_testBit] at h1
      cases h1
    rw [e]
  | succ N ih =>
    intro s hN hs hp
    by_cases e0 : s = 0
    · subst e0
      exact ih (by rw [show pop 0 = 0 from by decide]; omega) hs hp
    · obtain ⟨i, hi⟩ := exists_bit e0
      have hs8 := lt256 hp hs
      have hil : i < p.length := Classical.byContradiction fun c => by
        rw [Nat.testBit_lt_two_pow (Nat.lt_of_lt_of_le hs (Nat.pow_le_pow_right (by decide) (by omega)))] at hi
        cases hi
      have h1 := pop_rm' hs8 hi
      have hlt := rm_lt hs8 hi
      have h2 := ih (s := rm s i) (by omega) (by omega) hp
      have e : image p s = image p (rm s i) ||| 2 ^ p.getD i 0 := Nat.eq_of_testBit_eq fun j => by
        rw [Nat.testBit_or, Nat.testBit_two_pow, Bool.eq_iff_iff, Bool.or_eq_true, image_has, image_has, decide_eq_true_iff]
        constructor
        · rintro ⟨k, hk, g1, g2⟩
          by_cases ek : i = k
          · subst ek; exact .inr g2
          · exact .inl ⟨k, hk, by rw [rm_bit, g1]; simp [ek], g2⟩
        · rintro (⟨k, hk, g1, g2⟩ | g)
          · rw [rm_bit, Bool.and_eq_true] at g1
            exact ⟨k, hk, g1.1, g2⟩
          · exact ⟨i, hil, hi, g⟩
      have hout : (image p (rm s i)).testBit (p.getD i 0) = false := by
        rw [h.image_at hil, rm_bit]
        simp
      rw [e, pop_ad _ (lt256 hn (h.image_lt _)) _ (Nat.lt_of_lt_of_le (h.at hil) hn) hout, h2, h1]
/-- Ranks go along. -/
theorem Beg.image_rk {n : Nat} {p bs : List Nat} (hn : n ≤ 8) (h : Beg n p) (hp : p.length ≤ 8) {s : Nat} (hs : s < 2 ^ p.length) : rk (bs.map (image p)) (image p s) = rk bs s := by
  unfold rk
  rw [List.foldl_map]
  refine congrArg (fun f => bs.foldl f 0) (funext fun m => funext fun b => ?_)
  rw [← h.image_and, h.image_pop hn _ (Nat.le_refl _) (Nat.lt_of_le_of_lt Nat.and_le_left hs) hp]
end Go.Proofs.Ytcncaaeofcmefaa

namespace Go.Proofs.Ytcncaaeofcmefaa

theorem goes_mem {n : Nat} : ∀ (k : Nat) (p q : List Nat), q ∈ goes n k p → q.length = p.length + k ∧ q.take p.length = p
  | 0, p, q, h => by
    rw [goes, List.mem_singleton] at h
    subst h
    exact ⟨rfl, List.take_length⟩
  | k + 1, p, q, h => by
    rw [goes, List.mem_flatMap] at h
    obtain ⟨x, _, h⟩ := h
    split at h
    · cases h
    · obtain ⟨h1, h2⟩ := goes_mem k (p ++ [x]) q h
      rw [List.length_append, List.length_singleton] at h1 h2
      refine ⟨by omega, ?_⟩
      have := congrArg (List.take p.length) h2
      rw [List.take_take, Nat.min_eq_left (by omega), List.take_append_of_le_length (Nat.le_refl _), List.take_length] at this
      exact this
/-- All beginnings of q behind the first m elements fit. -/
def fitsB (fit : List Nat → Bool) (m : Nat) (q : List Nat) : Bool := (List.range (q.length - m)).all fun j => fit (q.take (m + j + 1))
theorem fits_step {fit : List Nat → Bool} {m : Nat} {q : List Nat} (h : m < q.length) : fitsB fit m q = (fit (q.take (m + 1)) && fitsB fit (m + 1) q) := by
  unfold fitsB
  rw [show q.length - m = (q.length - (m + 1)) + 1 from by omega, List.range_succ_eq_map, List.all_cons, List.all_map]
  congr 1
  refine congrArg (fun f => (List.range (q.length - (m + 1))).all f) (funext fun j => ?_)
  show fit (q.take (m + (j + 1) + 1)) = _
  rw [show m + (j + 1) + 1 = m + 1 + j + 1 from by omega]
theorem filter_flat {f : Nat → List (List Nat)} {P : List Nat → Bool} : ∀ (xs : List Nat), (xs.flatMap f).filter P = xs.flatMap fun x => (f x).filter P
  | [] => rfl
  | x :: xs => by rw [List.flatMap_cons, List.flatMap_cons, List.filter_append, filter_flat xs]
theorem goesF_eq (fit : List Nat → Bool) (n : Nat) : ∀ (k : Nat) (p : List Nat), goesF fit n k p = (goes n k p).filter (fitsB fit p.length)
  | 0, p => by
    rw [goesF, goes]
    have : fitsB fit p.length p = true := by unfold fitsB; simp
    simp [this]
  | k + 1, p => by
    rw [goesF, goes, filter_flat]
    refine congrArg (fun f => (List.range n).flatMap f) (funext fun x => ?_)
    by_cases hx : x ∈ p
    · rw [if_pos hx, if_pos hx]; rfl
    · rw [if_neg hx, if_neg hx]
      have key : ∀ q ∈ goes n k (p ++ [x]), fitsB fit p.length q = (fit (p ++ [x]) && fitsB fit (p ++ [x]).length q) := fun q hq => by
        obtain ⟨h1, h2⟩ := goes_mem k (p ++ [x]) q hq
        rw [List.length_append, List.length_singleton] at h1 h2 ⊢
        rw [fits_step (by omega), h2]
      rw [List.filter_congr key]
      by_cases hf : fit (p ++ [x]) = true
      · rw [if_pos hf, goesF_eq fit n k (p ++ [x]), hf]
        simp only [Bool.true_and]
      · rw [if_neg hf, Bool.eq_false_iff.2 hf]
        simp only [Bool.false_and]
        exact (List.filter_eq_nil_iff.2 fun _ _ h => by cases h).symm
/-- What goes on from a beginning is a beginning. -/
theorem goes_beg {n : Nat} : ∀ (k : Nat) (p q : List Nat), Beg n p → q ∈ goes n k p → Beg n q
  | 0, p, q, hp, h => by
    rw [goes, List.mem_singleton] at h
    subst h
    exact hp
  | k + 1, p, q, hp, h => by
    rw [goes, List.mem_flatMap] at h
    obtain ⟨x, hx, h⟩ := h
    split at h
    · cases h
    · rename_i hn
      refine goes_beg k (p ++ [x]) q ⟨fun y hy => ?_, ?_⟩ h
      · rcases List.mem_append.1 hy with hy | hy
        · exact hp.lt y hy
        · rw [List.mem_singleton.1 hy]; exact List.mem_range.1 hx
      · rw [List.nodup_append]
        refine ⟨hp.once, List.nodup_cons.2 ⟨List.not_mem_nil, List.nodup_nil⟩, fun a ha b hb => ?_⟩
        rw [List.mem_singleton.1 hb]
        rintro rfl
        exact hn ha
/-- Every order that goes on from p is met. -/
theorem goes_all {n : Nat} : ∀ (k : Nat) (p q : List Nat), Beg n q → q.length = p.length + k → q.take p.length = p → q ∈ goes n k p
  | 0, p, q, _, h1, h2 => by
    rw [goes, List.mem_singleton, ← h2, List.take_of_length_le (by omega)]
  | k + 1, p, q, hq, h1, h2 => by
    have hlt : p.length < q.length := by omega
    rw [goes, List.mem_flatMap]
    have e : q.take (p.length + 1) = p ++ [q[p.length]] := by
      rw [List.take_add_one, h2, List.getElem?_eq_getElem hlt]
      rfl
    refine ⟨q[p.length], List.mem_range.2 (hq.lt _ (List.getElem_mem _)), ?_⟩
    have hn : q[p.length] ∉ p := fun hm => by
      have := hq.once.sublist (List.take_sublist (p.length + 1) q)
      rw [e, List.nodup_append] at this
      exact this.2.2 _ hm _ (List.mem_singleton.2 rfl) rfl
    rw [if_neg hn]
    exact goes_all k (p ++ [q[p.length]]) q hq (by rw [List.length_append, List.length_singleton]; omega) (by rw [List.length_append, List.length_singleton]; exact e)
end Go.Proofs.Ytcncaaeofcmefaa

namespace Go.Proofs.Ytcncaaeofcmefaa

theorem nodup_le : ∀ (n : Nat) (l : List Nat), l.Nodup → (∀ x ∈ l, x < n) → l.length ≤ n
  | 0, l, _, h => by
    cases l with
    | nil => exact Nat.le_refl _
    | cons x l => exact absurd (h x List.mem_cons_self) (by omega)
  | n + 1, l, hn, h => by
    have h1 := nodup_le n (l.erase n) (hn.erase n) fun x hx => by
      have h2 := (hn.mem_erase_iff).1 hx
      have := h x h2.2
      have := h2.1
      omega
    have h3 := List.length_erase (a := n) (l := l)
    split at h3 <;> omega
/-- An order has every element. -/
theorem Beg.all {n : Nat} {p : List Nat} (h : Beg n p) (hl : p.length = n) {j : Nat} (hj : j < n) : ∃ i, i < n ∧ p.getD i 0 = j := by
  have hm : j ∈ p := Classical.byContradiction fun c => by
    have := nodup_le n (j :: p) (List.nodup_cons.2 ⟨c, h.once⟩) fun x hx => by
      rcases List.mem_cons.1 hx with rfl | hx
      · exact hj
      · exact h.lt x hx
    simp at this
    omega
  obtain ⟨i, hi, e⟩ := List.getElem_of_mem hm
  exact ⟨i, by omega, by simp [List.getD, hi, e]⟩
/-- What becomes t. -/
def back (p : List Nat) (t : Nat) : Nat := (List.range p.length).foldl (fun u i => if t.testBit (p.getD i 0) = true then u ||| 2 ^ i else u) 0
theorem back_fold {p : List Nat} {t j : Nat} : ∀ (L : List Nat) (u : Nat), (L.foldl (fun u i => if t.testBit (p.getD i 0) = true then u ||| 2 ^ i else u) u).testBit j = (u.testBit j || L.any fun i => t.testBit (p.getD i 0) && decide (i = j))
  | [], u => by simp
  | i :: L, u => by
    rw [List.foldl_cons, back_fold L]
    by_cases h : t.testBit (p.getD i 0) = true
    · rw [if_pos h, Nat.testBit_or, Nat.testBit_two_pow, List.any_cons, h, Bool.true_and, Bool.or_assoc]
    · rw [if_neg h, List.any_cons, Bool.eq_false_iff.2 h, Bool.false_and, Bool.false_or]
theorem back_bit {p : List Nat} {t j : Nat} : (back p t).testBit j = (decide (j < p.length) && t.testBit (p.getD j 0)) := by
  unfold back
  rw [back_fold, Nat.zero_testBit, Bool.false_or, Bool.eq_iff_iff, List.any_eq_true, Bool.and_eq_true, decide_eq_true_iff]
  constructor
  · rintro ⟨i, hi, h⟩
    rw [Bool.and_eq_true, decide_eq_true_iff] at h
    obtain ⟨h1, rfl⟩ := h
    exact ⟨List.mem_range.1 hi, h1⟩
  · rintro ⟨h1, h2⟩
    exact ⟨j, List.mem_range.2 h1, by rw [h2]; simp⟩
theorem back_lt (p : List Nat) (t : Nat) : back p t < 2 ^ p.length := lt_of_bits fun j hj => by
  rw [back_bit, Bool.and_eq_true, decide_eq_true_iff] at hj
  exact hj.1
theorem Beg.image_back {n : Nat} {p : List Nat} (h : Beg n p) (hl : p.length = n) {t : Nat} (ht : t < 2 ^ n) : image p (back p t) = t := Nat.eq_of_testBit_eq fun j => by
  by_cases hj : j < n
  · obtain ⟨i, hi, rfl⟩ := h.all hl hj
    rw [h.image_at (by omega), back_bit, decide_eq_true (by omega : i < p.length), Bool.true_and]
  · rw [Nat.testBit_lt_two_pow (Nat.lt_of_lt_of_le (h.image_lt _) (Nat.pow_le_pow_right (by decide) (by omega))), Nat.testBit_lt_two_pow (Nat.lt_of_lt_of_le ht (Nat.pow_le_pow_right (by decide) (by omega)))]
end Go.Proofs.Ytcncaaeofcmefaa

namespace Go.Proofs.Ytcncaaeofcmefaa

/-- The sets of n elements that become bases, in order: the renamed matroid's bases. -/
def renL (n : Nat) (p bs : List Nat) : List Nat := (List.range (2 ^ n)).filter fun t => memB (back p t) bs
theorem mem_ren {n : Nat} {p bs : List Nat} {t : Nat} : t ∈ renL n p bs ↔ t < 2 ^ n ∧ back p t ∈ bs := by unfold renL memB; simp
theorem ren_fam (n : Nat) (p bs : List Nat) : Fam n (renL n p bs) := Fam.range n _
theorem Beg.back_image {n : Nat} {p : List Nat} (h : Beg n p) {s : Nat} (hs : s < 2 ^ p.length) : back p (image p s) = s := Nat.eq_of_testBit_eq fun j => by
  rw [back_bit]
  by_cases hj : j < p.length
  · rw [decide_eq_true hj, Bool.true_and, h.image_at hj]
  · rw [decide_eq_false hj, Bool.false_and, Nat.testBit_lt_two_pow (Nat.lt_of_lt_of_le hs (Nat.pow_le_pow_right (by decide) (by omega)))]
theorem Beg.mem_image {n : Nat} {p bs : List Nat} (h : Beg n p) (hl : p.length = n) (hf : Fam n bs) {t : Nat} : t ∈ renL n p bs ↔ ∃ b ∈ bs, image p b = t := by
  rw [mem_ren]
  constructor
  · rintro ⟨h1, h2⟩
    exact ⟨_, h2, h.image_back hl h1⟩
  · rintro ⟨b, hb, rfl⟩
    have hb2 : b < 2 ^ p.length := by rw [hl]; exact hf.lt b hb
    exact ⟨h.image_lt b, by rw [h.back_image hb2]; exact hb⟩
theorem rk_congr {l m : List Nat} (h : ∀ x, x ∈ l ↔ x ∈ m) (hl : l ≠ []) (hm : m ≠ []) (s : Nat) : rk l s = rk m s := by
  obtain ⟨a, h1, h2⟩ := rk_at hl s
  obtain ⟨b, h3, h4⟩ := rk_at hm s
  have h5 := rk_ge s ((h a).1 h1)
  have h6 := rk_ge s ((h b).2 h3)
  omega
/-- Ranks of the renamed matroid. -/
theorem Beg.ren_rk {n : Nat} {p bs : List Nat} (hn : n ≤ 8) (h : Beg n p) (hl : p.length = n) (hf : Fam n bs) (hne : bs ≠ []) {s : Nat} (hs : s < 2 ^ n) : rk (renL n p bs) (image p s) = rk bs s := by
  rw [← h.image_rk (bs := bs) hn (by omega) (by rw [hl]; exact hs)]
  have hm : ∀ x, x ∈ renL n p bs ↔ x ∈ bs.map (image p) := fun x => by rw [h.mem_image hl hf, List.mem_map]
  have h1 : bs.map (image p) ≠ [] := by simpa using hne
  refine rk_congr hm (fun e => ?_) h1 _
  obtain ⟨b, hb⟩ := List.exists_mem_of_ne_nil _ h1
  have := (hm b).2 hb
  rw [e] at this
  cases this
theorem Beg.image_top {n : Nat} {p : List Nat} (h : Beg n p) (hl : p.length = n) : image p (2 ^ n - 1) = 2 ^ n - 1 := Nat.eq_of_testBit_eq fun j => by
  rw [Nat.testBit_two_pow_sub_one]
  by_cases hj : j < n
  · obtain ⟨i, hi, rfl⟩ := h.all hl hj
    rw [h.image_at (by omega), Nat.testBit_two_pow_sub_one, decide_eq_true hi, decide_eq_true hj]
  · rw [Nat.testBit_lt_two_pow (Nat.lt_of_lt_of_le (h.image_lt _) (Nat.pow_le_pow_right (by decide) (by omega))), decide_eq_false hj]
/-- An order makes B of A just if each set has the rank that what it becomes has. -/
theorem Beg.iso {n : Nat} {p A B : List Nat} (hn : n ≤ 8) (h : Beg n p) (hl : p.length = n) (fA : Fam n A) (bA : Bas A) (fB : Fam n B) (bB : Bas B) : renL n p A = B ↔ ∀ s, s < 2 ^ n → rk A s = rk B (image p s) := by
  constructor
  · rintro rfl s hs
    exact (h.ren_rk hn hl fA bA.ne hs).symm
  · intro hr
    refine sorted_ext (ren_fam n p A).up fB.up fun t => ?_
    rw [mem_ren]
    have key : ∀ t, t < 2 ^ n → (back p t ∈ A ↔ t ∈ B) := fun t ht => by
      have hb : back p t < 2 ^ n := by have := back_lt p t; rw [hl] at this; exact this
      rw [bas_mem hn fA bA hb, bas_mem hn fB bB ht, hr _ hb, h.image_back hl ht, hr (2 ^ n - 1) (by have := Nat.two_pow_pos n; omega), h.image_top hl]
      have := h.image_pop hn _ (Nat.le_refl _) (show back p t < 2 ^ p.length by rw [hl]; exact hb) (by omega)
      rw [h.image_back hl ht] at this
      rw [this]
    constructor
    · rintro ⟨h1, h2⟩
      exact (key t h1).1 h2
    · intro h1
      have ht := fB.lt t h1
      exact ⟨ht, (key t ht).2 h1⟩
end Go.Proofs.Ytcncaaeofcmefaa

namespace Go.Proofs.Ytcncaaeofcmefaa

theorem eq_by {n : Nat} {p : List Nat} (h : Beg n p) (hl : p.length = n) {s t : Nat} (hs : s < 2 ^ n) (ht : t < 2 ^ n) (e : ∀ k, k < n → s.testBit (p.getD k 0) = t.testBit (p.getD k 0)) : s = t := Nat.eq_of_testBit_eq fun j => by
  by_cases hj : j < n
  · obtain ⟨k, hk, rfl⟩ := h.all hl hj
    exact e k hk
  · rw [Nat.testBit_lt_two_pow (Nat.lt_of_lt_of_le hs (Nat.pow_le_pow_right (by decide) (by omega))), Nat.testBit_lt_two_pow (Nat.lt_of_lt_of_le ht (Nat.pow_le_pow_right (by decide) (by omega)))]
theorem Beg.ren_bas {n : Nat} {p bs : List Nat} (hn : n ≤ 8) (h : Beg n p) (hl : p.length = n) (hf : Fam n bs) (hb : Bas bs) : Bas (renL n p bs) where
  lt := fun t ht => lt256 hn ((ren_fam n p bs).lt t ht)
  size := fun a ha b hb' => by
    obtain ⟨x, hx, rfl⟩ := (h.mem_image hl hf).1 ha
    obtain ⟨y, hy, rfl⟩ := (h.mem_image hl hf).1 hb'
    rw [h.image_pop hn _ (Nat.le_refl _) (by rw [hl]; exact hf.lt x hx) (by omega), h.image_pop hn _ (Nat.le_refl _) (by rw [hl]; exact hf.lt y hy) (by omega)]
    exact hb.size x hx y hy
  exch := fun a ha b hb' x h1 h2 => by
    obtain ⟨a, hA, rfl⟩ := (h.mem_image hl hf).1 ha
    obtain ⟨b, hB, rfl⟩ := (h.mem_image hl hf).1 hb'
    obtain ⟨i, hi, hai, rfl⟩ := image_has.1 h1
    rw [h.image_at hi] at h2
    obtain ⟨y, y1, y2, y3⟩ := hb.exch a hA b hB i hai h2
    have hy : y < p.length := by rw [hl]; exact bit_lt (hf.lt b hB) y1
    refine ⟨p.getD y 0, by rw [h.image_at hy]; exact y1, by rw [h.image_at hy]; exact y2, (h.mem_image hl hf).2 ⟨_, y3, ?_⟩⟩
    have hlt : rm (image p a) (p.getD i 0) ||| 2 ^ p.getD y 0 < 2 ^ n := Nat.or_lt_two_pow (Nat.lt_of_le_of_lt (Nat.le_of_lt (rm_lt (lt256 hn (h.image_lt a)) (by rw [h.image_at hi]; exact hai))) (h.image_lt a)) (Nat.pow_lt_pow_right (by decide) (h.at hy))
    refine eq_by h hl (h.image_lt _) hlt fun k hk => ?_
    rw [h.image_at (by omega), Nat.testBit_or, Nat.testBit_or, Nat.testBit_two_pow, Nat.testBit_two_pow, rm_bit, rm_bit, h.image_at (by omega)]
    have e1 : decide (i ≠ k) = decide (p.getD i 0 ≠ p.getD k 0) := by
      rw [Bool.eq_iff_iff, decide_eq_true_iff, decide_eq_true_iff]
      exact ⟨fun c e => c (h.inj hi (by omega) e), fun c e => c (by rw [e])⟩
    have e2 : decide (y = k) = decide (p.getD y 0 = p.getD k 0) := by
      rw [Bool.eq_iff_iff, decide_eq_true_iff, decide_eq_true_iff]
      exact ⟨fun e => by rw [e], fun e => h.inj hy (by omega) e⟩
    rw [e1, e2]
  ne := fun e => by
    obtain ⟨b, hb'⟩ := List.exists_mem_of_ne_nil _ hb.ne
    have := (h.mem_image hl hf).2 ⟨b, hb', rfl⟩
    rw [e] at this
    cases this
end Go.Proofs.Ytcncaaeofcmefaa

namespace Go.Proofs.Ytcncaaeofcmefaa

theorem image_take {q : List Nat} {s m : Nat} (hs : s < 2 ^ m) (hm : m ≤ q.length) : image (q.take m) s = image q s := Nat.eq_of_testBit_eq fun j => by
  rw [Bool.eq_iff_iff, image_has, image_has]
  have e : ∀ i, i < m → (q.take m).getD i 0 = q.getD i 0 := fun i hi => by simp only [List.getD, List.getElem?_take, if_pos hi]
  have l : (q.take m).length = m := by rw [List.length_take]; omega
  constructor
  · rintro ⟨i, hi, h1, h2⟩
    rw [l] at hi
    exact ⟨i, by omega, h1, by rw [← e i hi]; exact h2⟩
  · rintro ⟨i, hi, h1, h2⟩
    have him := bit_lt hs h1
    exact ⟨i, by rw [l]; exact him, h1, by rw [e i him]; exact h2⟩
/-- Has each set with the last element the rank that its image has? -/
def keepB (rA rB : Nat → Nat) (q : List Nat) : Bool := (List.range (2 ^ q.length)).all fun s => decide (s < 2 ^ q.length / 2) || rA s == rB (image q s)
theorem image_zero (q : List Nat) : image q 0 = 0 := Nat.eq_of_testBit_eq fun j => by
  rw [Nat.zero_testBit, Bool.eq_false_iff]
  intro hj
  obtain ⟨i, _, h1, _⟩ := image_has.1 hj
  rw [Nat.zero_testBit] at h1
  cases h1
theorem fits_iff {rA rB : Nat → Nat} (h0 : rA 0 = rB 0) (q : List Nat) : fitsB (keepB rA rB) 0 q = true ↔ ∀ s, s < 2 ^ q.length → rA s = rB (image q s) := by
  unfold fitsB keepB
  simp only [List.all_eq_true, List.mem_range, Nat.sub_zero, Nat.zero_add, Bool.or_eq_true, decide_eq_true_eq, beq_iff_eq]
  constructor
  · intro h s hs
    by_cases e : s = 0
    · subst e
      rw [image_zero]
      exact h0
    · have h1 := Nat.log2_self_le e
      have h2 := Nat.lt_log2_self (n := s)
      have hj : s.log2 < q.length := Classical.byContradiction fun c => by
        have := Nat.pow_le_pow_right (show 0 < 2 by decide) (show q.length ≤ s.log2 by omega)
        omega
      have hl : (q.take (s.log2 + 1)).length = s.log2 + 1 := by rw [List.length_take]; omega
      have := h s.log2 hj s (by rw [hl]; exact h2)
      rw [hl, Nat.pow_succ, Nat.mul_div_cancel _ (by decide)] at this
      rcases this with c | c
      · omega
      · rw [image_take h2 (by omega)] at c
        exact c
  · intro h j hj s hs
    have hl : (q.take (j + 1)).length = j + 1 := by rw [List.length_take]; omega
    rw [hl] at hs
    refine .inr ?_
    rw [image_take hs (by omega)]
    exact h s (Nat.lt_of_lt_of_le hs (Nat.pow_le_pow_right (by decide) (by omega)))
/-- The orders that make B of A, in order. -/
def isoL (n : Nat) (A B : List Nat) : List (List Nat) := (goes n n []).filter fun q => renL n q A == B
theorem beg_nil (n : Nat) : Beg n [] := ⟨(fun _ h => absurd h List.not_mem_nil), List.nodup_nil⟩
/-- What the program's walk finds. -/
theorem iso_walk {n : Nat} {A B : List Nat} (hn : n ≤ 8) (fA : Fam n A) (bA : Bas A) (fB : Fam n B) (bB : Bas B) (h0 : rk A 0 = rk B 0) : goesF (keepB (rk A) (rk B)) n n [] = isoL n A B := by
  rw [goesF_eq]
  refine List.filter_congr fun q hq => ?_
  obtain ⟨hl, _⟩ := goes_mem n [] q hq
  have hb := goes_beg n [] q (beg_nil n) hq
  have hl' : q.length = n := by simpa using hl
  rw [Bool.eq_iff_iff, List.length_nil, fits_iff h0, beq_iff_eq, hb.iso hn hl' fA bA fB bB, hl']
end Go.Proofs.Ytcncaaeofcmefaa

namespace Go.Proofs.Ytcncaaeofcmefaa

theorem Beg.ren_len {n : Nat} {q A : List Nat} (h : Beg n q) (hl : q.length = n) (hf : Fam n A) : (renL n q A).length = A.length := by
  have h1 : (renL n q A).Nodup := (ren_fam n q A).up.imp (fun h => Nat.ne_of_lt h)
  have h2 : (A.map (image q)).Nodup := by
    refine List.pairwise_map.2 (List.Pairwise.imp_of_mem (fun {a b} ha hb hab e => ?_) hf.up)
    have := h.image_inj (s := a) (t := b) (by rw [hl]; exact hf.lt a ha) (by rw [hl]; exact hf.lt b hb) e
    omega
  have h3 := (List.perm_ext_iff_of_nodup h1 h2).2 fun x => by rw [h.mem_image hl hf, List.mem_map]
  rw [h3.length_eq, List.length_map]
/-- The orders that make the one of the other. -/
def isoK (m : Nat) (A : List Nat) (k : Nat) (B : List Nat) : List (List Nat) := if m = k then isoL m A B else []
theorem isoL_mem {n : Nat} {A B q : List Nat} : q ∈ isoL n A B ↔ (Beg n q ∧ q.length = n) ∧ renL n q A = B := by
  unfold isoL
  rw [List.mem_filter, beq_iff_eq]
  constructor
  · rintro ⟨h1, h2⟩
    obtain ⟨hl, _⟩ := goes_mem n [] q h1
    exact ⟨⟨goes_beg n [] q (beg_nil n) h1, by simpa using hl⟩, h2⟩
  · rintro ⟨⟨h1, h2⟩, h3⟩
    exact ⟨goes_all n [] q h1 (by simpa using h2) (by simp), h3⟩
theorem isoK_len {m k : Nat} {A B : List Nat} (hf : Fam m A) (h : A.length ≠ B.length) : isoK m A k B = [] := by
  unfold isoK
  by_cases e : m = k
  · rw [if_pos e, List.eq_nil_iff_forall_not_mem]
    intro q hq
    obtain ⟨⟨h1, h2⟩, h3⟩ := isoL_mem.1 hq
    exact h (by rw [← h3, h1.ren_len h2 hf])
  · rw [if_neg e]
end Go.Proofs.Ytcncaaeofcmefaa

namespace Go.Proofs.Ytcncaaeofcmefaa

/-- Is what is left, contracted by c, the other but for names? -/
def conP (K : Nat) (L : List Nat) (k : Nat) (l' : List Nat) (c : Nat) : Bool := (isoK (pop (dif (2 ^ K - 1) c)) (minL K L c c) k l').head?.isSome
/-- The sets by which it may be contracted. -/
def conL (K k : Nat) : List Nat := (List.range (2 ^ K)).filter fun s => pop s == K - k
/-- The least set by which to contract. -/
def conO (m : Nat) (l : List Nat) (k : Nat) (l' : List Nat) (d : Nat) : Option Nat :=
  if pop (dif (2 ^ m - 1) d) < k then none else ((conL (pop (dif (2 ^ m - 1) d)) k).find? (conP (pop (dif (2 ^ m - 1) d)) (minL m l d 0) k l')).map (old (els (dif (2 ^ m - 1) d)))
/-- What is deleted and contracted: the least. -/
def minO (m : Nat) (l : List Nat) (k : Nat) (l' : List Nat) : Option (Nat × Nat) := (List.range (2 ^ m)).findSome? fun d => (conO m l k l' d).map fun c => (d, c)
def minE (s : Option (Nat × Nat)) : Int := if s.isSome = true then 0 else 5
end Go.Proofs.Ytcncaaeofcmefaa

namespace Go.Proofs.Ytcncaaeofcmefaa

/-- Numbers anew twice are numbers anew once. -/
theorem old_old {k j : Nat} (hk : k < 256) (hj : j < 2 ^ pop k) (t : Nat) : old (els k) (old (els j) t) = old (els (old (els k) j)) t := by
  have h8 := pop_le k hk
  have j8 : j < 256 := lt256 h8 hj
  have ho : old (els k) j < 256 := old_lt (fun x h => els_8 h) j
  have key : els (old (els k) j) = (els j).map fun i => (els k).getD i 0 := by
    refine sorted_ext (els_up _) ?_ fun x => ?_
    · rw [List.pairwise_map]
      refine (els_up j).imp_of_mem fun {a b} ha hb hab => ?_
      have ha' := bit_n hj ((mem_els j8).1 ha)
      have hb' := bit_n hj ((mem_els j8).1 hb)
      rw [← els_len] at ha' hb'
      have := List.pairwise_iff_getElem.1 (els_up k) a b ha' hb' hab
      simpa [List.getD, ha', hb'] using this
    · rw [mem_els ho, old_bit, List.mem_map]
      constructor
      · rintro ⟨i, h1, h2⟩
        exact ⟨i, (mem_els j8).2 h2, by simp [List.getD, h1]⟩
      · rintro ⟨i, h1, h2⟩
        have h3 := (mem_els j8).1 h1
        have h4 := bit_n hj h3
        rw [← els_len] at h4
        refine ⟨i, ?_, h3⟩
        simp only [List.getD, List.getElem?_eq_getElem h4, Option.getD_some] at h2
        rw [List.getElem?_eq_getElem h4, h2]
  rw [key]
  refine Nat.eq_of_testBit_eq fun x => ?_
  rw [Bool.eq_iff_iff, old_bit, old_bit]
  constructor
  · rintro ⟨i, h1, h2⟩
    rw [old_bit] at h2
    obtain ⟨q, h3, h4⟩ := h2
    refine ⟨q, ?_, h4⟩
    rw [List.getElem?_map, h3]
    simp [List.getD, h1]
  · rintro ⟨q, h1, h2⟩
    rw [List.getElem?_map] at h1
    cases h3 : (els j)[q]? with
    | none => rw [h3] at h1; cases h1
    | some i =>
      rw [h3] at h1
      have h4 := bit_n hj ((mem_els j8).1 (List.mem_of_getElem? h3))
      rw [← els_len] at h4
      refine ⟨i, ?_, old_bit.2 ⟨q, h3, h2⟩⟩
      simp only [Option.map_some, Option.some.injEq, List.getD, List.getElem?_eq_getElem h4, Option.getD_some] at h1
      rw [List.getElem?_eq_getElem h4, h1]
theorem old_dif {k : Nat} (hk : k < 256) {s : Nat} (hs : s < 2 ^ pop k) : old (els k) (dif (2 ^ pop k - 1) s) = dif k (old (els k) s) := by
  rw [dif_cpl hs, old_cpl hk hs]
theorem dif_bit' (a b i : Nat) : (dif a b).testBit i = (a.testBit i && !b.testBit i) := dif_bit a b i
/-- The two roads. -/
theorem swap_eq {n : Nat} {l : List Nat} (hn : n ≤ 8) (hb : Bas l) {d c : Nat} (hd : d < 2 ^ n) (hc : c < 2 ^ n) (hdc : d &&& c = 0) :
    let kd := dif (2 ^ n - 1) d
    let kc := dif (2 ^ n - 1) c
    let c' := shf (els kd) c
    let d' := shf (els kc) d
    pop (dif (2 ^ pop kd - 1) c') = pop (dif (2 ^ pop kc - 1) d') ∧ minL (pop kd) (minL n l d 0) c' c' = minL (pop kc) (minL n l c c) d' 0 := by
  intro kd kc c' d'
  have kd8 : kd < 256 := kept_lt hn d
  have kc8 : kc < 256 := kept_lt hn c
  have pd := kept_le hn d
  have pc := kept_le hn c
  have hc' : c' < 2 ^ pop kd := shf_lt c
  have hd' : d' < 2 ^ pop kc := shf_lt d
  have bit0 : ∀ j, d.testBit j = true → c.testBit j = true → False := fun j h1 h2 => by
    have := congrArg (fun x => x.testBit j) hdc
    simp [h1, h2] at this
  have e1 : old (els kd) c' = c := by
    show old (els kd) (shf (els kd) c) = c
    rw [old_shf kd8]
    refine Nat.eq_of_testBit_eq fun j => ?_
    rw [and_bit, dif_bit, full_bit]
    have h1 := bit0 j
    have h2 := bit_n hc (i := j)
    cases e1 : d.testBit j <;> cases e2 : c.testBit j <;> simp_all
  have e2 : old (els kc) d' = d := by
    show old (els kc) (shf (els kc) d) = d
    rw [old_shf kc8]
    refine Nat.eq_of_testBit_eq fun j => ?_
    rw [and_bit, dif_bit, full_bit]
    have h1 := bit0 j
    have h2 := bit_n hd (i := j)
    cases e1 : d.testBit j <;> cases e2 : c.testBit j <;> simp_all
  have k1 : dif (2 ^ pop kd - 1) c' < 2 ^ pop kd := kept_ltn _ _
  have k2 : dif (2 ^ pop kc - 1) d' < 2 ^ pop kc := kept_ltn _ _
  have f1 : old (els kd) (dif (2 ^ pop kd - 1) c') = dif kd c := by rw [old_dif kd8 hc', e1]
  have f2 : old (els kc) (dif (2 ^ pop kc - 1) d') = dif kc d := by rw [old_dif kc8 hd', e2]
  have f3 : dif kd c = dif kc d := Nat.eq_of_testBit_eq fun j => by
    rw [dif_bit, dif_bit, dif_bit, dif_bit]
    cases (2 ^ n - 1).testBit j <;> cases d.testBit j <;> cases c.testBit j <;> rfl
  have hp : pop (dif (2 ^ pop kd - 1) c') = pop (dif (2 ^ pop kc - 1) d') := by
    rw [← els_pop kd8 k1, ← els_pop kc8 k2, f1, f2, f3]
  refine ⟨hp, ?_⟩
  have b1 := min_bas hn hb d 0
  have b2 := min_bas hn hb c c
  have hL := min_fam (pop kd) (minL n l d 0) c' c'
  have hR := min_fam (pop kc) (minL n l c c) d' 0
  rw [← hp] at hR
  refine bas_ext (kept_le pd c') hL (min_bas pd b1 c' c') hR (min_bas pc b2 d' 0) fun t ht => ?_
  have ht2 : t < 2 ^ pop (dif (2 ^ pop kc - 1) d') := by rw [← hp]; exact ht
  rw [min_rk pd b1 c' c' ht, min_rk pc b2 d' 0 ht2]
  unfold minR
  rw [Nat.or_zero]
  have g1 : old (els (dif (2 ^ pop kd - 1) c')) t < 2 ^ pop kd := old_ltn pd c' t
  have g2 : old (els (dif (2 ^ pop kc - 1) d')) t < 2 ^ pop kc := old_ltn pc d' t
  rw [min_rk hn hb d 0 (Nat.or_lt_two_pow g1 hc'), min_rk hn hb d 0 hc', min_rk hn hb c c g2, min_rk hn hb c c (Nat.two_pow_pos _)]
  unfold minR
  have m1 : old (els kd) (old (els (dif (2 ^ pop kd - 1) c')) t ||| c') = old (els (dif kd c)) t ||| c := by rw [old_or, e1, old_old kd8 k1, f1]
  have m2 : old (els kc) (old (els (dif (2 ^ pop kc - 1) d')) t) = old (els (dif kd c)) t := by rw [old_old kc8 k2, f2, f3]
  show rk l (old (els kd) (old (els (dif (2 ^ pop kd - 1) c')) t ||| c') ||| 0) - rk l 0 - (rk l (old (els kd) c' ||| 0) - rk l 0) = rk l (old (els kc) (old (els (dif (2 ^ pop kc - 1) d')) t) ||| c) - rk l c - (rk l (old (els kc) 0 ||| c) - rk l c)
  rw [m1, m2, e1, old_zero, Nat.or_zero, Nat.or_zero, Nat.zero_or, hb.rk.zero]
  omega
end Go.Proofs.Ytcncaaeofcmefaa

namespace Go.Proofs.Ytcncaaeofcmefaa

theorem getD_some {xs : List Nat} {i j : Nat} : xs[i]? = some j ↔ i < xs.length ∧ xs.getD i 0 = j := by
  constructor
  · intro h
    obtain ⟨h1, h2⟩ := List.getElem?_eq_some_iff.1 h
    exact ⟨h1, by simp [List.getD, h1, h2]⟩
  · rintro ⟨h1, h2⟩
    rw [List.getElem?_eq_getElem h1]
    simpa [List.getD, h1] using h2
theorem image_old (xs : List Nat) (s : Nat) : image xs s = old xs s := Nat.eq_of_testBit_eq fun j => by
  rw [Bool.eq_iff_iff, image_has, old_bit]
  constructor
  · rintro ⟨i, h1, h2, h3⟩
    exact ⟨i, getD_some.2 ⟨h1, h3⟩, h2⟩
  · rintro ⟨i, h1, h2⟩
    obtain ⟨h3, h4⟩ := getD_some.1 h1
    exact ⟨i, h3, h2, h4⟩
theorem image_or (xs : List Nat) (s t : Nat) : image xs (s ||| t) = image xs s ||| image xs t := by rw [image_old, image_old, image_old, old_or]
/-- One after the other. -/
def comp (a b : List Nat) : List Nat := b.map fun i => a.getD i 0
theorem comp_len (a b : List Nat) : (comp a b).length = b.length := List.length_map _
theorem comp_at {a b : List Nat} {j : Nat} (h : j < b.length) : (comp a b).getD j 0 = a.getD (b.getD j 0) 0 := by simp [comp, List.getD, h]
theorem image_comp {a b : List Nat} (hb : ∀ x ∈ b, x < a.length) (t : Nat) : image a (image b t) = image (comp a b) t := Nat.eq_of_testBit_eq fun x => by
  rw [Bool.eq_iff_iff, image_has, image_has, comp_len]
  constructor
  · rintro ⟨i, _, h2, h3⟩
    obtain ⟨j, h4, h5, rfl⟩ := image_has.1 h2
    exact ⟨j, h4, h5, by rw [comp_at h4]; exact h3⟩
  · rintro ⟨j, h4, h5, h6⟩
    rw [comp_at h4] at h6
    refine ⟨b.getD j 0, hb _ ?_, image_has.2 ⟨j, h4, h5, rfl⟩, h6⟩
    simp [List.getD, h4]
theorem Beg.comp {m k : Nat} {a b : List Nat} (ha : Beg m a) (hl : a.length = k) (hb : Beg k b) : Beg m (comp a b) := by
  refine ⟨fun x hx => ?_, ?_⟩
  · obtain ⟨i, hi, rfl⟩ := List.mem_map.1 hx
    exact ha.at (by rw [hl]; exact hb.lt i hi)
  · refine List.pairwise_map.2 (List.Pairwise.imp_of_mem (fun {i j} hi hj hij e => hij ?_) hb.once)
    exact ha.inj (by rw [hl]; exact hb.lt i hi) (by rw [hl]; exact hb.lt j hj) e
theorem range_at {k i : Nat} (h : i < k) : (List.range k).getD i 0 = i := by simp [List.getD, h]
theorem image_range {k t : Nat} (ht : t < 2 ^ k) : image (List.range k) t = t := Nat.eq_of_testBit_eq fun j => by
  rw [Bool.eq_iff_iff, image_has, List.length_range]
  constructor
  · rintro ⟨i, h1, h2, h3⟩
    rw [range_at h1] at h3
    rw [← h3]
    exact h2
  · intro h
    have hj : j < k := bit_lt ht h
    exact ⟨j, hj, h, range_at hj⟩
theorem idx_at {q : List Nat} {j : Nat} (h : j ∈ q) : q.getD (q.idxOf j) 0 = j := by
  have hl := List.idxOf_lt_length_of_mem h
  simp [List.getD, hl]
/-- The elements of which the other ones are made. -/
theorem Beg.inv {m k : Nat} {p xs : List Nat} (_hp : Beg m p) (hl : p.length = k) (hx : ∀ x ∈ xs, x ∈ p) (hn : xs.Nodup) : Beg k (xs.map p.idxOf) ∧ Go.Proofs.Ytcncaaeofcmefaa.comp p (xs.map p.idxOf) = xs := by
  refine ⟨⟨fun i hi => ?_, ?_⟩, ?_⟩
  · obtain ⟨x, h1, rfl⟩ := List.mem_map.1 hi
    rw [← hl]
    exact List.idxOf_lt_length_of_mem (hx x h1)
  · refine List.pairwise_map.2 (List.Pairwise.imp_of_mem (fun {x y} h1 h2 hxy e => hxy ?_) hn)
    rw [← idx_at (hx x h1), ← idx_at (hx y h2), e]
  · unfold Go.Proofs.Ytcncaaeofcmefaa.comp
    rw [List.map_map]
    conv => rhs; rw [← List.map_id xs]
    exact List.map_congr_left fun x h => idx_at (hx x h)
/-- The other one lies in the one, what is left of it contracted or deleted. -/
def Emb (m : Nat) (A : List Nat) (k : Nat) (B : List Nat) : Prop := ∃ (p : List Nat) (C : Nat), Beg m p ∧ p.length = k ∧ C < 2 ^ m ∧ (∀ x ∈ p, C.testBit x = false) ∧ ∀ s, s < 2 ^ k → rk B s + rk A C = rk A (image p s ||| C)
theorem Emb.trans {m k j : Nat} {A B D : List Nat} (h1 : Emb m A k B) (h2 : Emb k B j D) : Emb m A j D := by
  obtain ⟨p, C, hp, hl, hC, hd, hr⟩ := h1
  obtain ⟨p2, C2, hp2, hl2, hC2, hd2, hr2⟩ := h2
  have hlt : ∀ x ∈ p2, x < p.length := fun x hx => by rw [hl]; exact hp2.lt x hx
  refine ⟨comp p p2, image p C2 ||| C, hp.comp hl hp2, by rw [comp_len, hl2], Nat.or_lt_two_pow (hp.image_lt _) hC, fun x hx => ?_, fun s hs => ?_⟩
  · obtain ⟨i, hi, rfl⟩ := List.mem_map.1 hx
    rw [Nat.testBit_or, hp.image_at (hlt i hi), hd2 i hi, Bool.false_or]
    refine hd _ ?_
    have := hlt i hi
    simp [List.getD, this]
  · have e1 := hr2 s hs
    have e2 := hr C2 hC2
    have e3 := hr (image p2 s ||| C2) (Nat.or_lt_two_pow (hp2.image_lt s) hC2)
    rw [image_or, image_comp hlt, Nat.or_assoc] at e3
    omega
theorem con_rk {m d c s : Nat} {A : List Nat} (hm : m ≤ 8) (hb : Bas A) (hc : c < 2 ^ pop (dif (2 ^ m - 1) d)) (hs : s < 2 ^ pop (dif (2 ^ pop (dif (2 ^ m - 1) d) - 1) c)) :
    rk (minL (pop (dif (2 ^ m - 1) d)) (minL m A d 0) c c) s + rk A (old (els (dif (2 ^ m - 1) d)) c) = rk A (image (els (old (els (dif (2 ^ m - 1) d)) (dif (2 ^ pop (dif (2 ^ m - 1) d) - 1) c))) s ||| old (els (dif (2 ^ m - 1) d)) c) := by
  have hkl := kept_lt hm d
  have hK8 := kept_le hm d
  have hJ := kept_ltn (pop (dif (2 ^ m - 1) d)) c
  have h1 : ∀ t, t < 2 ^ pop (dif (2 ^ m - 1) d) → rk (minL m A d 0) t = rk A (old (els (dif (2 ^ m - 1) d)) t) := fun t ht => by
    rw [min_rk hm hb d 0 ht]
    unfold minR
    rw [Nat.or_zero, (hb.rkOn m).zero, Nat.sub_zero]
  have h2 := min_rk hK8 (min_bas hm hb d 0) c c hs
  unfold minR at h2
  rw [h1 c hc, h1 _ (Nat.or_lt_two_pow (old_ltn hK8 c s) hc), old_or, old_old hkl hJ] at h2
  rw [h2, image_old]
  exact Nat.sub_add_cancel (min_ge hb.rk _ _)
end Go.Proofs.Ytcncaaeofcmefaa

namespace Go.Proofs.Ytcncaaeofcmefaa

theorem goes_iff {n : Nat} {q : List Nat} : q ∈ goes n n [] ↔ Beg n q ∧ q.length = n := by
  constructor
  · intro h
    obtain ⟨hl, _⟩ := goes_mem n [] q h
    exact ⟨goes_beg n [] q (beg_nil n) h, by simpa using hl⟩
  · rintro ⟨h1, h2⟩
    exact goes_all n [] q h1 (by simpa using h2) (by simp)
theorem goes_nodup {n : Nat} : ∀ (k : Nat) (p : List Nat), (goes n k p).Nodup
  | 0, p => by rw [goes]; simp
  | k + 1, p => by
    rw [goes]
    have h : ∀ (xs : List Nat), xs.Nodup → (xs.flatMap fun x => if x ∈ p then [] else goes n k (p ++ [x])).Nodup := fun xs => by
      induction xs with
      | nil => intro _; simp
      | cons x xs ih =>
        intro hx
        obtain ⟨hx1, hx2⟩ := List.nodup_cons.1 hx
        rw [List.flatMap_cons, List.nodup_append]
        refine ⟨?_, ih hx2, fun a ha b hb e => ?_⟩
        · split
          · exact List.nodup_nil
          · exact goes_nodup k _
        · subst e
          obtain ⟨y, hy, hb2⟩ := List.mem_flatMap.1 hb
          by_cases h1 : x ∈ p
          · rw [if_pos h1] at ha; cases ha
          · rw [if_neg h1] at ha
            by_cases h2 : y ∈ p
            · rw [if_pos h2] at hb2; cases hb2
            · rw [if_neg h2] at hb2
              have e1 := (goes_mem k _ a ha).2
              have e2 := (goes_mem k _ a hb2).2
              rw [List.length_append, List.length_singleton] at e1 e2
              have e3 := e1.symm.trans e2
              have : x = y := by
                have := List.append_cancel_left e3
                simpa using this
              subst this
              exact hx1 hy
    exact h _ List.nodup_range
theorem ren_comp {n : Nat} {a b A : List Nat} (ha : Beg n a) (hla : a.length = n) (hb : Beg n b) (hlb : b.length = n) (hf : Fam n A) : renL n (comp a b) A = renL n a (renL n b A) := by
  have hc := ha.comp hla hb
  have hlc : (comp a b).length = n := by rw [comp_len, hlb]
  refine sorted_ext (ren_fam _ _ _).up (ren_fam _ _ _).up fun t => ?_
  rw [hc.mem_image hlc hf, ha.mem_image hla (ren_fam n b A)]
  have hlt : ∀ x ∈ b, x < a.length := fun x hx => by rw [hla]; exact hb.lt x hx
  constructor
  · rintro ⟨s, hs, e⟩
    exact ⟨image b s, (hb.mem_image hlb hf).2 ⟨s, hs, rfl⟩, by rw [image_comp hlt]; exact e⟩
  · rintro ⟨c, hc2, e⟩
    obtain ⟨s, hs, rfl⟩ := (hb.mem_image hlb hf).1 hc2
    exact ⟨s, hs, by rw [← image_comp hlt]; exact e⟩
theorem ren_inj {n : Nat} {a X Y : List Nat} (ha : Beg n a) (hla : a.length = n) (hX : Fam n X) (hY : Fam n Y) (h : renL n a X = renL n a Y) : X = Y := by
  have key : ∀ {Z : List Nat}, Fam n Z → ∀ t, t < 2 ^ n → (t ∈ Z ↔ image a t ∈ renL n a Z) := fun hZ t ht => by
    rw [ha.mem_image hla hZ]
    constructor
    · intro h; exact ⟨t, h, rfl⟩
    · rintro ⟨b, hb, e⟩
      have := ha.image_inj (s := b) (t := t) (by rw [hla]; exact hZ.lt b hb) (by rw [hla]; exact ht) e
      rwa [← this]
  refine sorted_ext hX.up hY.up fun t => ?_
  constructor
  · intro ht
    have hlt := hX.lt t ht
    rw [key hY t hlt, ← h, ← key hX t hlt]
    exact ht
  · intro ht
    have hlt := hY.lt t ht
    rw [key hX t hlt, h, ← key hY t hlt]
    exact ht
theorem goes_perm {n : Nat} {a : List Nat} (ha : Beg n a) (hla : a.length = n) : ((goes n n []).map (comp a)).Perm (goes n n []) := by
  refine (List.perm_ext_iff_of_nodup ?_ (goes_nodup n [])).2 fun x => ?_
  · refine List.pairwise_map.2 (List.Pairwise.imp_of_mem (fun {q r} hq hr hqr e => hqr ?_) (goes_nodup n []))
    obtain ⟨hq1, hq2⟩ := goes_iff.1 hq
    obtain ⟨hr1, hr2⟩ := goes_iff.1 hr
    refine List.ext_getElem (by omega) fun i h1 h2 => ?_
    have e1 : (comp a q).getD i 0 = (comp a r).getD i 0 := by rw [e]
    rw [comp_at h1, comp_at h2] at e1
    have := ha.inj (by rw [hla]; exact hq1.at h1) (by rw [hla]; exact hr1.at h2) e1
    simpa [List.getD, h1, h2] using this
  · rw [List.mem_map, goes_iff]
    constructor
    · rintro ⟨q, hq, rfl⟩
      obtain ⟨hq1, hq2⟩ := goes_iff.1 hq
      exact ⟨ha.comp hla hq1, by rw [comp_len, hq2]⟩
    · rintro ⟨h1, h2⟩
      obtain ⟨hb, hc⟩ := ha.inv hla (xs := x) (fun y hy => by
        obtain ⟨i, hi, e⟩ := ha.all hla (h1.lt y hy)
        have : i < a.length := by omega
        rw [← e]
        simp [List.getD, this]) h1.once
      exact ⟨x.map a.idxOf, goes_iff.2 ⟨hb, by rw [List.length_map, h2]⟩, hc⟩
theorem fiber {n : Nat} {A q0 : List Nat} (hf : Fam n A) (hq : q0 ∈ goes n n []) : (goes n n []).countP (fun q => renL n q A == renL n q0 A) = (isoL n A A).length := by
  obtain ⟨h1, h2⟩ := goes_iff.1 hq
  rw [← (goes_perm h1 h2).countP_eq, List.countP_map, List.countP_eq_length_filter]
  unfold isoL
  congr 1
  refine List.filter_congr fun q hq2 => ?_
  obtain ⟨h3, h4⟩ := goes_iff.1 hq2
  show (renL n (comp q0 q) A == renL n q0 A) = (renL n q A == A)
  rw [ren_comp h1 h2 h3 h4 hf, Bool.eq_iff_iff, beq_iff_eq, beq_iff_eq]
  exact ⟨fun e => ren_inj h1 h2 (ren_fam n q A) hf e, fun e => by rw [e]⟩
/-- The unlike ones among those of a list. -/
def addU (L : List (List Nat)) (x : List Nat) : List (List Nat) := if x ∈ L then L else L ++ [x]
theorem addU_mem {L : List (List Nat)} {x y : List Nat} : y ∈ addU L x ↔ y ∈ L ∨ y = x := by
  unfold addU
  split
  · constructor
    · exact .inl
    · rintro (h | rfl)
      · exact h
      · assumption
  · simp
theorem addU_nodup {L : List (List Nat)} {x : List Nat} (h : L.Nodup) : (addU L x).Nodup := by
  unfold addU
  split
  · exact h
  · rename_i hx
    rw [List.nodup_append]
    refine ⟨h, by simp, fun a ha b hb e => ?_⟩
    rw [List.mem_singleton] at hb
    subst hb
    subst e
    exact hx ha
theorem unl_spec (f : List Nat → List Nat) : ∀ (G : List (List Nat)) (L : List (List Nat)), L.Nodup → (G.foldl (fun L q => addU L (f q)) L).Nodup ∧ ∀ y, y ∈ G.foldl (fun L q => addU L (f q)) L ↔ y ∈ L ∨ ∃ q ∈ G, f q = y
  | [], L, h => ⟨h, fun y => by simp⟩
  | q :: G, L, h => by
    obtain ⟨h1, h2⟩ := unl_spec f G (addU L (f q)) (addU_nodup h)
    refine ⟨h1, fun y => ?_⟩
    rw [List.foldl_cons, h2, addU_mem]
    constructor
    · rintro ((h | h) | ⟨r, hr, e⟩)
      · exact .inl h
      · exact .inr ⟨q, List.mem_cons_self, h.symm⟩
      · exact .inr ⟨r, List.mem_cons_of_mem _ hr, e⟩
    · rintro (h | ⟨r, hr, e⟩)
      · exact .inl (.inl h)
      · rcases List.mem_cons.1 hr with rfl | hr
        · exact .inl (.inr e.symm)
        · exact .inr ⟨r, hr, e⟩
theorem countP_or {α : Type} (p r : α → Bool) (G : List α) (h : ∀ x ∈ G, ¬ (p x = true ∧ r x = true)) : G.countP (fun x => p x || r x) = G.countP p + G.countP r := by
  induction G with
  | nil => rfl
  | cons x G ih =>
    have h1 := ih fun y hy => h y (List.mem_cons_of_mem _ hy)
    have h2 := h x List.mem_cons_self
    rw [List.countP_cons, List.countP_cons, List.countP_cons, h1]
    cases e1 : p x <;> cases e2 : r x <;> simp_all <;> omega
theorem count_sum {c : Nat} (f : List Nat → List Nat) (G : List (List Nat)) : ∀ (D : List (List Nat)), D.Nodup → (∀ d ∈ D, G.countP (fun q => f q == d) = c) → G.countP (fun q => decide (f q ∈ D)) = D.length * c
  | [], _, _ => by simp
  | d :: D, hn, hc => by
    obtain ⟨h1, h2⟩ := List.nodup_cons.1 hn
    have ih := count_sum f G D h2 fun e he => hc e (List.mem_cons_of_mem _ he)
    rw [List.length_cons, Nat.succ_mul, ← ih, ← hc d List.mem_cons_self, Nat.add_comm, ← countP_or]
    · refine List.countP_congr fun q _ => ?_
      simp [List.mem_cons]
    · rintro q _ ⟨h3, h4⟩
      rw [beq_iff_eq] at h3
      rw [decide_eq_true_eq, h3] at h4
      exact h1 h4
/-- LAGRANGE. -/
theorem lagrange {n : Nat} {A : List Nat} (hf : Fam n A) : ((goes n n []).foldl (fun L q => addU L (renL n q A)) []).length * (isoL n A A).length = (goes n n []).length := by
  obtain ⟨h1, h2⟩ := unl_spec (fun q => renL n q A) (goes n n []) [] List.nodup_nil
  rw [← count_sum (c := (isoL n A A).length) (fun q => renL n q A) (goes n n []) _ h1 fun d hd => ?_]
  · rw [List.countP_eq_length]
    intro q hq
    rw [decide_eq_true_eq, h2]
    exact .inr ⟨q, hq, rfl⟩
  · rcases (h2 d).1 hd with h | ⟨q0, hq0, rfl⟩
    · cases h
    · exact fiber hf hq0
end Go.Proofs.Ytcncaaeofcmefaa

namespace Go.Proofs.Ytcncaaeofcmefaa

/-- The first list has the first set that only one has. -/
def ltV (T : Nat) (a b : Nat → Bool) : Prop := ∃ s, s < T ∧ (∀ t, t < s → a t = b t) ∧ a s = true ∧ b s = false
def leV (T : Nat) (a b : Nat → Bool) : Prop := ltV T a b ∨ ∀ t, t < T → a t = b t
theorem ltV.trans {T : Nat} {a b c : Nat → Bool} (h : ltV T a b) (k : ltV T b c) : ltV T a c := by
  obtain ⟨s, h1, h2, h3, h4⟩ := h
  obtain ⟨u, k1, k2, k3, k4⟩ := k
  rcases Nat.lt_trichotomy s u with e | e | e
  · exact ⟨s, h1, fun t ht => (h2 t ht).trans (k2 t (by omega)), h3, by rw [← k2 s e]; exact h4⟩
  · subst e
    rw [h4] at k3
    cases k3
  · exact ⟨u, k1, fun t ht => (h2 t (by omega)).trans (k2 t ht), by rw [h2 u e]; exact k3, k4⟩
theorem leV.refl (T : Nat) (a : Nat → Bool) : leV T a a := .inr fun _ _ => rfl
theorem ltV.congr {T : Nat} {a b a' b' : Nat → Bool} (h : ltV T a b) (ha : ∀ t, t < T → a t = a' t) (hb : ∀ t, t < T → b t = b' t) : ltV T a' b' := by
  obtain ⟨s, h1, h2, h3, h4⟩ := h
  exact ⟨s, h1, fun t ht => by rw [← ha t (by omega), ← hb t (by omega)]; exact h2 t ht, by rw [← ha s h1]; exact h3, by rw [← hb s h1]; exact h4⟩
theorem leV.trans {T : Nat} {a b c : Nat → Bool} (h : leV T a b) (k : leV T b c) : leV T a c := by
  rcases h with h | h
  · rcases k with k | k
    · exact .inl (h.trans k)
    · exact .inl (h.congr (fun _ _ => rfl) k)
  · rcases k with k | k
    · exact .inl (k.congr (fun t ht => (h t ht).symm) fun _ _ => rfl)
    · exact .inr fun t ht => (h t ht).trans (k t ht)
theorem leV.anti {T : Nat} {a b : Nat → Bool} (h : leV T a b) (k : leV T b a) : ∀ t, t < T → a t = b t := by
  rcases h with h | h
  · rcases k with k | k
    · obtain ⟨s, _, _, h3, h4⟩ := h.trans k
      rw [h3] at h4
      cases h4
    · exact fun t ht => (k t ht).symm
  · exact h
theorem leV.congr {T : Nat} {a b a' b' : Nat → Bool} (h : leV T a b) (ha : ∀ t, t < T → a t = a' t) (hb : ∀ t, t < T → b t = b' t) : leV T a' b' := by
  rcases h with h | h
  · exact .inl (h.congr ha hb)
  · exact .inr fun t ht => by rw [← ha t ht, ← hb t ht]; exact h t ht
theorem leV.of_not {T : Nat} : ∀ {a b : Nat → Bool}, (∀ s, s < T → (∀ t, t < s → a t = b t) → a s ≠ b s → a s = true) → leV T a b := by
  intro a b h
  by_cases e : ∀ t, t < T → a t = b t
  · exact .inr e
  · have hex : ∃ s, s < T ∧ a s ≠ b s := Classical.byContradiction fun c => e fun t ht => Classical.byContradiction fun d => c ⟨t, ht, d⟩
    have key : ∀ N, ∀ s, s < N → s < T → a s ≠ b s → leV T a b := by
      intro N
      induction N with
      | zero => intro s hs; omega
      | succ N ih =>
        intro s hs hT hne
        by_cases c : ∀ t, t < s → a t = b t
        · have ha := h s hT c hne
          refine .inl ⟨s, hT, c, ha, ?_⟩
          cases hb : b s with
          | false => rfl
          | true => exact absurd (ha.trans hb.symm) hne
        · have : ∃ t, t < s ∧ a t ≠ b t := Classical.byContradiction fun d => c fun t ht => Classical.byContradiction fun f => d ⟨t, ht, f⟩
          obtain ⟨t, ht, hne2⟩ := this
          exact ih t (by omega) (by omega) hne2
    obtain ⟨s, h1, h2⟩ := hex
    exact key (s + 1) s (by omega) h1 h2
/-- Is the list, as far as it is known, no greater? -/
def noGr (a b : Nat → Bool) : List Nat → Bool
  | [] => true
  | s :: r => if a s = b s then noGr a b r else a s
theorem noGr_skip {a b : Nat → Bool} : ∀ (xs : List Nat) (i : Nat), (∀ j, j < i → ∀ (h : j < xs.length), a xs[j] = b xs[j]) → noGr a b xs = noGr a b (xs.drop i)
  | xs, 0, _ => by rw [List.drop_zero]
  | [], i + 1, _ => rfl
  | x :: xs, i + 1, h => by
    have h0 := h 0 (by omega) (by simp)
    rw [noGr, if_pos (by simpa using h0), List.drop_succ_cons]
    exact noGr_skip xs i fun j hj hl => by
      have := h (j + 1) (by omega) (by simpa using hl)
      simpa using this
theorem noGr_at {a b : Nat → Bool} {K i : Nat} (hi : i < K) (h : ∀ t, t < i → a t = b t) : noGr a b (List.range K) = if a i = b i then noGr a b ((List.range K).drop (i + 1)) else a i := by
  rw [noGr_skip (List.range K) i (fun j hj hl => by simp only [List.getElem_range]; exact h j hj), List.drop_eq_getElem_cons (by simpa using hi), noGr]
  simp
theorem noGr_all {a b : Nat → Bool} {K : Nat} (h : ∀ t, t < K → a t = b t) : noGr a b (List.range K) = true := by
  rw [noGr_skip (List.range K) K (fun j hj hl => by simp only [List.getElem_range]; exact h j hj), List.drop_of_length_le (by simp)]
  rfl
theorem noGr_first {a b : Nat → Bool} {K i : Nat} (hi : i < K) (h : ∀ t, t < i → a t = b t) (hne : a i ≠ b i) : noGr a b (List.range K) = a i := by rw [noGr_at hi h, if_neg hne]
theorem noGr_true {a b : Nat → Bool} {K : Nat} (h : noGr a b (List.range K) = true) : leV K a b := leV.of_not fun s hs h1 h2 => by rw [← noGr_first hs h1 h2]; exact h
theorem noGr_false {a b : Nat → Bool} {K : Nat} (h : noGr a b (List.range K) = false) : ltV K b a := by
  have h1 : leV K b a := leV.of_not fun s hs h1 h2 => by
    have h3 := noGr_first hs (fun t ht => (h1 t ht).symm) (fun e => h2 e.symm)
    rw [h] at h3
    cases hb : b s with
    | true => rfl
    | false => exact absurd (h3.symm.trans hb.symm).symm h2
  rcases h1 with h1 | h1
  · exact h1
  · rw [noGr_all fun t ht => (h1 t ht).symm] at h
    cases h
/-- Which sets become bases. -/
def vecB (A : List Nat) (p : List Nat) (s : Nat) : Bool := memB (image p s) A
def canF (A : List Nat) (L : Nat → Bool) (p : List Nat) : Bool := noGr (vecB A p) L (List.range (2 ^ p.length))
def canG (A : List Nat) (_ : Nat → Bool) (p : List Nat) : Bool × (Nat → Bool) := (true, vecB A p)
theorem ltV.mono {T K : Nat} {a b : Nat → Bool} (h : ltV K a b) (hk : K ≤ T) : ltV T a b := by
  obtain ⟨s, h1, h2⟩ := h
  exact ⟨s, by omega, h2⟩
theorem vec_take {A q p : List Nat} {n k : Nat} (h : q ∈ goes n k p) {s : Nat} (hs : s < 2 ^ p.length) : vecB A q s = vecB A p s := by
  obtain ⟨h1, h2⟩ := goes_mem k p q h
  unfold vecB
  rw [← image_take hs (by omega), h2]
/-- What the walk leaves as the least one. -/
def LeastOf (A : List Nat) (T : Nat) (G : List (List Nat)) (L L' : Nat → Bool) : Prop := (L' = L ∨ ∃ q ∈ G, L' = vecB A q) ∧ leV T L' L ∧ ∀ q ∈ G, leV T L' (vecB A q)
theorem LeastOf.trans {A : List Nat} {T : Nat} {G H : List (List Nat)} {L M N : Nat → Bool} (h : LeastOf A T G L M) (k : LeastOf A T H M N) : LeastOf A T (G ++ H) L N := by
  obtain ⟨h1, h2, h3⟩ := h
  obtain ⟨k1, k2, k3⟩ := k
  refine ⟨?_, k2.trans h2, fun q hq => ?_⟩
  · rcases k1 with rfl | ⟨q, hq, e⟩
    · rcases h1 with h1 | ⟨q, hq, e⟩
      · exact .inl h1
      · exact .inr ⟨q, List.mem_append_left _ hq, e⟩
    · exact .inr ⟨q, List.mem_append_right _ hq, e⟩
  · rcases List.mem_append.1 hq with hq | hq
    · exact k2.trans (h3 q hq)
    · exact k3 q hq
theorem can_walk (A : List Nat) (n : Nat) : ∀ (k : Nat) (L : Nat → Bool) (p : List Nat), p.length + k = n → canF A L p = true → (walkO (canF A) (canG A) n k L p).1 = true ∧ LeastOf A (2 ^ n) (goes n k p) L (walkO (canF A) (canG A) n k L p).2
  | 0, L, p, hp, hf => by
    refine ⟨rfl, .inr ⟨p, by rw [goes]; exact List.mem_singleton.2 rfl, rfl⟩, ?_, fun q hq => ?_⟩
    · have := noGr_true hf
      rw [show p.length = n by omega] at this
      exact this
    · rw [goes, List.mem_singleton] at hq
      subst hq
      exact leV.refl _ _
  | k + 1, L, p, hp, _ => by
    have key : ∀ (xs : List Nat) (L : Nat → Bool), (loopO (fun s x => if x ∈ p then (true, s) else if canF A s (p ++ [x]) = true then walkO (canF A) (canG A) n k s (p ++ [x]) else (true, s)) xs L).1 = true ∧ LeastOf A (2 ^ n) (xs.flatMap fun x => if x ∈ p then [] else goes n k (p ++ [x])) L (loopO (fun s x => if x ∈ p then (true, s) else if canF A s (p ++ [x]) = true then walkO (canF A) (canG A) n k s (p ++ [x]) else (true, s)) xs L).2 := by
      intro xs
      induction xs with
      | nil => intro L; exact ⟨rfl, .inl rfl, leV.refl _ _, fun q hq => by cases hq⟩
      | cons x xs ih =>
        intro L
        rw [List.flatMap_cons, loopO]
        by_cases hx : x ∈ p
        · simp only [if_pos hx, if_true, List.nil_append]
          exact ih L
        · by_cases hf : canF A L (p ++ [x]) = true
          · simp only [if_neg hx, if_pos hf]
            obtain ⟨h1, h2⟩ := can_walk A n k L (p ++ [x]) (by simp; omega) hf
            rw [if_pos h1]
            obtain ⟨h3, h4⟩ := ih (walkO (canF A) (canG A) n k L (p ++ [x])).2
            exact ⟨h3, h2.trans h4⟩
          · simp only [if_neg hx, if_neg hf, if_true]
            obtain ⟨h3, h4⟩ := ih L
            refine ⟨h3, LeastOf.trans (M := L) ⟨.inl rfl, leV.refl _ _, fun q hq => ?_⟩ h4⟩
            have h5 := noGr_false (Bool.eq_false_iff.2 hf)
            have hle : (p ++ [x]).length ≤ n := by simp; omega
            refine .inl ((ltV.congr h5 (fun _ _ => rfl) fun t ht => (vec_take hq ht).symm).mono (Nat.pow_le_pow_right (by decide) hle))
    rw [walkO, goes]
    exact key (List.range n) L
/-- The least list: what the program's walk finds. -/
def canV (n : Nat) (A : List Nat) : Nat → Bool := (walkO (canF A) (canG A) n n (fun s => memB s A) []).2
def canL (n : Nat) (A : List Nat) : List Nat := (List.range (2 ^ n)).filter (canV n A)
theorem can_fam (n : Nat) (A : List Nat) : Fam n (canL n A) := Fam.range n _
theorem mem_can {n : Nat} {A : List Nat} {s : Nat} (hs : s < 2 ^ n) : memB s (canL n A) = canV n A s := by
  unfold canL memB
  rw [Bool.eq_iff_iff, decide_eq_true_iff, List.mem_filter, List.mem_range]
  exact ⟨fun h => h.2, fun h => ⟨hs, h⟩⟩
/-- The order that turns another one round. -/
def invL (n : Nat) (p : List Nat) : List Nat := (List.range n).map p.idxOf
theorem inv_beg {n : Nat} {p : List Nat} (h : Beg n p) (hl : p.length = n) : Beg n (invL n p) ∧ (invL n p).length = n ∧ comp p (invL n p) = List.range n := by
  obtain ⟨h1, h2⟩ := h.inv hl (xs := List.range n) (fun x hx => by
    obtain ⟨i, hi, e⟩ := h.all hl (List.mem_range.1 hx)
    have : i < p.length := by omega
    rw [← e]
    simp [List.getD, this]) List.nodup_range
  exact ⟨h1, by simp [invL], h2⟩
theorem inv_image {n : Nat} {p : List Nat} (h : Beg n p) (hl : p.length = n) {s : Nat} (hs : s < 2 ^ n) : image p (image (invL n p) s) = s := by
  obtain ⟨h1, h2, h3⟩ := inv_beg h hl
  rw [image_comp (fun x hx => by rw [hl]; exact h1.lt x hx), h3, image_range hs]
theorem ren_vec {n : Nat} {p A : List Nat} (h : Beg n p) (hl : p.length = n) {s : Nat} (hs : s < 2 ^ n) : memB s (renL n p A) = vecB A (invL n p) s := by
  obtain ⟨h1, h2, _⟩ := inv_beg h hl
  have e : back p s = image (invL n p) s := by
    have := h.back_image (s := image (invL n p) s) (by rw [hl]; exact h1.image_lt _)
    rw [inv_image h hl hs] at this
    exact this
  unfold vecB
  rw [← e, Bool.eq_iff_iff]
  unfold memB
  rw [decide_eq_true_iff, decide_eq_true_iff, mem_ren]
  exact ⟨fun h => h.2, fun h => ⟨hs, h⟩⟩
theorem vec_ren {n : Nat} {q A : List Nat} (h : Beg n q) (hl : q.length = n) {s : Nat} (hs : s < 2 ^ n) : vecB A q s = memB s (renL n (invL n q) A) := by
  obtain ⟨h1, h2, _⟩ := inv_beg h hl
  have e : back (invL n q) s = image q s := by
    have e1 := h1.image_back h2 hs
    rw [← e1, inv_image h hl (by have := back_lt (invL n q) s; rw [h2] at this; exact this), e1]
  unfold vecB
  rw [← e, Bool.eq_iff_iff]
  unfold memB
  rw [decide_eq_true_iff, decide_eq_true_iff, mem_ren]
  exact ⟨fun h => ⟨hs, h⟩, fun h => h.2⟩
theorem fam_ext {n : Nat} {A B : List Nat} (fA : Fam n A) (fB : Fam n B) (h : ∀ s, s < 2 ^ n → memB s A = memB s B) : A = B := by
  refine sorted_ext fA.up fB.up fun t => ?_
  have key : ∀ {X Y : List Nat}, Fam n X → (∀ s, s < 2 ^ n → memB s X = memB s Y) → t ∈ X → t ∈ Y := fun fX h ht => by
    have := h t (fX.lt t ht)
    unfold memB at this
    rw [decide_eq_true ht] at this
    exact of_decide_eq_true this.symm
  exact ⟨key fA h, key fB fun s hs => (h s hs).symm⟩
/-- The least one is one of the renamed ones, and none is less. -/
theorem can_spec {n : Nat} {A : List Nat} (hf : Fam n A) : (∃ p, (Beg n p ∧ p.length = n) ∧ renL n p A = canL n A) ∧ ∀ p, Beg n p → p.length = n → leV (2 ^ n) (fun s => memB s (canL n A)) fun s => memB s (renL n p A) := by
  have h0 : canF A (fun s => memB s A) [] = true := noGr_all fun t ht => by
    have : t = 0 := by simpa using ht
    subst this
    unfold vecB
    rw [image_zero]
  obtain ⟨_, h1, h2, h3⟩ := can_walk A n n (fun s => memB s A) [] (by simp) h0
  constructor
  · rcases h1 with h1 | ⟨q, hq, e⟩
    · refine ⟨List.range n, ⟨⟨fun x hx => List.mem_range.1 hx, List.nodup_range⟩, by simp⟩, fam_ext (ren_fam _ _ _) (can_fam n A) fun s hs => ?_⟩
      rw [mem_can hs]
      unfold canV
      rw [h1, Bool.eq_iff_iff]
      have hr : Beg n (List.range n) := ⟨fun x hx => List.mem_range.1 hx, List.nodup_range⟩
      unfold memB
      rw [decide_eq_true_iff, decide_eq_true_iff, hr.mem_image (by simp) hf]
      constructor
      · rintro ⟨b, hb, rfl⟩
        rw [image_range (hf.lt b hb)]
        exact hb
      · intro h
        exact ⟨s, h, image_range hs⟩
    · obtain ⟨g1, g2⟩ := goes_iff.1 hq
      obtain ⟨g3, g4, _⟩ := inv_beg g1 g2
      refine ⟨invL n q, ⟨g3, g4⟩, fam_ext (ren_fam _ _ _) (can_fam n A) fun s hs => ?_⟩
      rw [mem_can hs, ← vec_ren g1 g2 hs]
      unfold canV
      rw [e]
  · intro p hp hl
    obtain ⟨g3, g4, _⟩ := inv_beg hp hl
    exact (h3 _ (goes_iff.2 ⟨g3, g4⟩)).congr (fun t ht => (mem_can ht).symm) fun t ht => (ren_vec hp hl ht).symm
/-- Other names have the same least list. -/
theorem can_ren {n : Nat} {A p : List Nat} (hf : Fam n A) (hp : Beg n p) (hl : p.length = n) : canL n (renL n p A) = canL n A := by
  obtain ⟨⟨a, ⟨a1, a2⟩, a3⟩, a4⟩ := can_spec hf
  obtain ⟨⟨b, ⟨b1, b2⟩, b3⟩, b4⟩ := can_spec (ren_fam n p A)
  refine fam_ext (can_fam _ _) (can_fam _ _) (leV.anti ?_ ?_)
  · obtain ⟨g3, g4, g5⟩ := inv_beg hp hl
    have h1 := b4 (comp a (invL n p)) (a1.comp a2 g3) (by rw [comp_len, g4])
    have e : renL n (comp a (invL n p)) (renL n p A) = canL n A := by
      rw [ren_comp a1 a2 g3 g4 (ren_fam n p A), ← a3]
      congr 1
      rw [← ren_comp g3 g4 hp hl hf]
      refine fam_ext (ren_fam _ _ _) hf fun s hs => ?_
      have hc := g3.comp g4 hp
      have hlc : (comp (invL n p) p).length = n := by rw [comp_len, hl]
      have key : ∀ t, t < 2 ^ n → image (comp (invL n p) p) t = t := fun t ht => by
        rw [← image_comp (fun x hx => by rw [g4]; exact hp.lt x hx)]
        refine hp.image_inj (by rw [hl]; exact g3.image_lt _) (by rw [hl]; exact ht) ?_
        exact inv_image hp hl (hp.image_lt t)
      rw [Bool.eq_iff_iff]
      unfold memB
      rw [decide_eq_true_iff, decide_eq_true_iff, hc.mem_image hlc hf]
      constructor
      · rintro ⟨x, hx, rfl⟩
        rw [key x (hf.lt x hx)]
        exact hx
      · intro h
        exact ⟨s, h, key s hs⟩
    rw [e] at h1
    exact h1
  · have h1 := a4 (comp b p) (b1.comp b2 hp) (by rw [comp_len, hl])
    rw [ren_comp b1 b2 hp hl hf, b3] at h1
    exact h1
end Go.Proofs.Ytcncaaeofcmefaa

namespace Go.Proofs.Ytcncaaeofcmefaa

/-- What i becomes by the orders of a list. -/
def toS (G : List (List Nat)) (i : Nat) : Nat := G.foldl (fun u q => u ||| 2 ^ q.getD i 0) 0
theorem toS_fold {i j : Nat} : ∀ (G : List (List Nat)) (u : Nat), (G.foldl (fun u q => u ||| 2 ^ q.getD i 0) u).testBit j = (u.testBit j || G.any fun q => decide (q.getD i 0 = j))
  | [], u => by simp
  | q :: G, u => by
    rw [List.foldl_cons, toS_fold G, Nat.testBit_or, Nat.testBit_two_pow, List.any_cons, Bool.or_assoc]
theorem toS_bit {G : List (List Nat)} {i j : Nat} : (toS G i).testBit j = true ↔ ∃ q ∈ G, q.getD i 0 = j := by
  unfold toS
  rw [toS_fold, Nat.zero_testBit, Bool.false_or, List.any_eq_true]
  constructor
  · rintro ⟨q, hq, h⟩
    exact ⟨q, hq, of_decide_eq_true h⟩
  · rintro ⟨q, hq, h⟩
    exact ⟨q, hq, decide_eq_true h⟩
def orbS (n : Nat) (A : List Nat) (i : Nat) : Nat := toS (isoL n A A) i
/-- The sets that elements are in. -/
def orbL (n : Nat) (A : List Nat) : List Nat := (List.range (2 ^ n)).filter fun s => memB s ((List.range n).map (orbS n A))
theorem orbS_lt {n : Nat} {A : List Nat} {i : Nat} (hi : i < n) : orbS n A i < 2 ^ n := lt_of_bits fun j hj => by
  obtain ⟨q, hq, rfl⟩ := toS_bit.1 hj
  obtain ⟨⟨h1, h2⟩, _⟩ := isoL_mem.1 hq
  exact h1.at (by omega)
theorem orb_fam (n : Nat) (A : List Nat) : Fam n (orbL n A) := Fam.range n _
theorem mem_orb {n : Nat} {A : List Nat} {s : Nat} : s ∈ orbL n A ↔ ∃ i, i < n ∧ orbS n A i = s := by
  unfold orbL memB
  rw [List.mem_filter, List.mem_range, decide_eq_true_iff, List.mem_map]
  constructor
  · rintro ⟨_, i, hi, rfl⟩
    exact ⟨i, List.mem_range.1 hi, rfl⟩
  · rintro ⟨i, hi, rfl⟩
    exact ⟨orbS_lt hi, i, List.mem_range.2 hi, rfl⟩
theorem iso_one {n : Nat} {A : List Nat} (hf : Fam n A) : List.range n ∈ isoL n A A := by
  have hr : Beg n (List.range n) := ⟨fun x hx => List.mem_range.1 hx, List.nodup_range⟩
  refine isoL_mem.2 ⟨⟨hr, by simp⟩, fam_ext (ren_fam _ _ _) hf fun s hs => ?_⟩
  rw [Bool.eq_iff_iff]
  unfold memB
  rw [decide_eq_true_iff, decide_eq_true_iff, hr.mem_image (by simp) hf]
  constructor
  · rintro ⟨b, hb, rfl⟩
    rw [image_range (hf.lt b hb)]
    exact hb
  · intro h
    exact ⟨s, h, image_range hs⟩
theorem iso_comp {n : Nat} {A a b : List Nat} (hf : Fam n A) (ha : a ∈ isoL n A A) (hb : b ∈ isoL n A A) : comp a b ∈ isoL n A A := by
  obtain ⟨⟨a1, a2⟩, a3⟩ := isoL_mem.1 ha
  obtain ⟨⟨b1, b2⟩, b3⟩ := isoL_mem.1 hb
  exact isoL_mem.2 ⟨⟨a1.comp a2 b1, by rw [comp_len, b2]⟩, by rw [ren_comp a1 a2 b1 b2 hf, b3, a3]⟩
theorem range_beg (n : Nat) : Beg n (List.range n) := ⟨fun _ hx => List.mem_range.1 hx, List.nodup_range⟩
/-- Both ways round. -/
theorem inv_both {n : Nat} {p : List Nat} (h : Beg n p) (hl : p.length = n) {i : Nat} (hi : i < n) : p.getD ((invL n p).getD i 0) 0 = i ∧ (invL n p).getD (p.getD i 0) 0 = i := by
  obtain ⟨h1, h2, h3⟩ := inv_beg h hl
  have key : ∀ j, j < n → p.getD ((invL n p).getD j 0) 0 = j := fun j hj => by
    rw [← comp_at (a := p) (by omega : j < (invL n p).length), h3, range_at hj]
  refine ⟨key i hi, ?_⟩
  have hp := h.at (by omega : i < p.length)
  exact h.inj (by rw [hl]; exact h1.at (by omega)) (by omega) (key _ hp)
theorem ren_inv {n : Nat} {A p : List Nat} (hf : Fam n A) (hp : Beg n p) (hl : p.length = n) : renL n (invL n p) (renL n p A) = A := by
  obtain ⟨g3, g4, g5⟩ := inv_beg hp hl
  rw [← ren_comp g3 g4 hp hl hf]
  refine fam_ext (ren_fam _ _ _) hf fun s hs => ?_
  have hc := g3.comp g4 hp
  have hlc : (comp (invL n p) p).length = n := by rw [comp_len, hl]
  have key : ∀ t, t < 2 ^ n → image (comp (invL n p) p) t = t := fun t ht => by
    rw [← image_comp (fun x hx => by rw [g4]; exact hp.lt x hx)]
    refine hp.image_inj (by rw [hl]; exact g3.image_lt _) (by rw [hl]; exact ht) ?_
    exact inv_image hp hl (hp.image_lt t)
  rw [Bool.eq_iff_iff]
  unfold memB
  rw [decide_eq_true_iff, decide_eq_true_iff, hc.mem_image hlc hf]
  constructor
  · rintro ⟨x, hx, rfl⟩
    rw [key x (hf.lt x hx)]
    exact hx
  · intro h
    exact ⟨s, h, key s hs⟩
theorem iso_inv {n : Nat} {A a : List Nat} (hf : Fam n A) (ha : a ∈ isoL n A A) : invL n a ∈ isoL n A A := by
  obtain ⟨⟨a1, a2⟩, a3⟩ := isoL_mem.1 ha
  obtain ⟨g3, g4, _⟩ := inv_beg a1 a2
  refine isoL_mem.2 ⟨⟨g3, g4⟩, ?_⟩
  have := ren_inv hf a1 a2
  rwa [a3] at this
/-- Where j is of i's, both have the same. -/
theorem orb_same {n : Nat} {A : List Nat} (hf : Fam n A) {i j : Nat} (hi : i < n) (h : (orbS n A i).testBit j = true) : orbS n A i = orbS n A j := by
  obtain ⟨q, hq, rfl⟩ := toS_bit.1 h
  obtain ⟨⟨q1, q2⟩, _⟩ := isoL_mem.1 hq
  refine Nat.eq_of_testBit_eq fun k => ?_
  rw [Bool.eq_iff_iff]
  unfold orbS
  rw [toS_bit, toS_bit]
  constructor
  · rintro ⟨r, hr, rfl⟩
    obtain ⟨⟨r1, r2⟩, _⟩ := isoL_mem.1 hr
    obtain ⟨g3, g4, _⟩ := inv_beg q1 q2
    refine ⟨comp r (invL n q), iso_comp hf hr (iso_inv hf hq), ?_⟩
    rw [comp_at (by rw [g4]; exact q1.at (by omega)), (inv_both q1 q2 hi).2]
  · rintro ⟨r, hr, rfl⟩
    exact ⟨comp r q, iso_comp hf hr hq, comp_at (by omega)⟩
theorem orb_self {n : Nat} {A : List Nat} (hf : Fam n A) {i : Nat} (hi : i < n) : (orbS n A i).testBit i = true := toS_bit.2 ⟨_, iso_one hf, range_at hi⟩
/-- Two that have an element together are one. -/
theorem orb_meet {n : Nat} {A : List Nat} (hf : Fam n A) {s t : Nat} (hs : s ∈ orbL n A) (ht : t ∈ orbL n A) (h : s &&& t ≠ 0) : s = t := by
  obtain ⟨i, hi, rfl⟩ := mem_orb.1 hs
  obtain ⟨k, hk, rfl⟩ := mem_orb.1 ht
  obtain ⟨j, hj⟩ := exists_bit h
  rw [Nat.testBit_and, Bool.and_eq_true] at hj
  rw [orb_same hf hi hj.1, orb_same hf hk hj.2]
/-- As many orders take i to the one as to the other. -/
theorem orb_count {n : Nat} {A : List Nat} (hf : Fam n A) {i j : Nat} (hi : i < n) (h : (orbS n A i).testBit j = true) : (isoL n A A).countP (fun q => [q.getD i 0] == [j]) = (isoL n A A).countP fun q => [q.getD i 0] == [i] := by
  obtain ⟨a, ha, rfl⟩ := toS_bit.1 h
  obtain ⟨⟨a1, a2⟩, _⟩ := isoL_mem.1 ha
  have hperm : ((isoL n A A).map (comp a)).Perm (isoL n A A) := by
    have hnd : (isoL n A A).Nodup := (goes_nodup n []).sublist List.filter_sublist
    refine (List.perm_ext_iff_of_nodup ?_ hnd).2 fun x => ?_
    · refine List.pairwise_map.2 (List.Pairwise.imp_of_mem (fun {q r} hq hr hqr e => hqr ?_) hnd)
      obtain ⟨⟨q1, q2⟩, _⟩ := isoL_mem.1 hq
      obtain ⟨⟨r1, r2⟩, _⟩ := isoL_mem.1 hr
      refine List.ext_getElem (by omega) fun k h1 h2 => ?_
      have e1 : (comp a q).getD k 0 = (comp a r).getD k 0 := by rw [e]
      rw [comp_at h1, comp_at h2] at e1
      have := a1.inj (by rw [a2]; exact q1.at h1) (by rw [a2]; exact r1.at h2) e1
      simpa [List.getD, h1, h2] using this
    · rw [List.mem_map]
      constructor
      · rintro ⟨q, hq, rfl⟩
        exact iso_comp hf ha hq
      · intro hx
        obtain ⟨⟨x1, x2⟩, _⟩ := isoL_mem.1 hx
        obtain ⟨g3, g4, _⟩ := inv_beg a1 a2
        refine ⟨comp (invL n a) x, iso_comp hf (iso_inv hf ha) hx, ?_⟩
        refine List.ext_getElem (by rw [comp_len, comp_len]) fun k h1 h2 => ?_
        have e1 : (comp a (comp (invL n a) x)).getD k 0 = x.getD k 0 := by
          rw [comp_at (by rw [comp_len]; exact h2), comp_at h2, (inv_both a1 a2 (x1.at h2)).1]
        simpa [List.getD, h1, h2] using e1
  rw [← hperm.countP_eq, List.countP_map]
  refine List.countP_congr fun q hq => ?_
  obtain ⟨⟨q1, q2⟩, _⟩ := isoL_mem.1 hq
  simp only [Function.comp_apply, beq_iff_eq, List.cons.injEq, and_true]
  rw [comp_at (by omega)]
  constructor
  · intro e
    exact a1.inj (by rw [a2]; exact q1.at (by omega)) (by omega) e
  · intro e
    rw [e]
/-- The number of elements of a set, counted one by one. -/
theorem pop_list {n : Nat} (hn : n ≤ 8) : ∀ (N : Nat) {s : Nat}, pop s ≤ N → s < 2 ^ n → ((List.range n).filter s.testBit).length = pop s := by
  intro N
  induction N with
  | zero =>
    intro s h0 hs
    have : s = 0 := (pop_pos s (lt256 hn hs)).1 (by omega)
    subst this
    rw [List.filter_eq_nil_iff.2 (fun x _ h => by rw [Nat.zero_testBit] at h; cases h)]
    decide
  | succ N ih =>
    intro s hN hs
    by_cases e0 : s = 0
    · subst e0
      exact ih (by rw [show pop 0 = 0 from by decide]; omega) hs
    · obtain ⟨i, hi⟩ := exists_bit e0
      have hs8 := lt256 hn hs
      have h1 := pop_rm' hs8 hi
      have hlt := rm_lt hs8 hi
      have h2 := ih (s := rm s i) (by omega) (by omega)
      have hil := bit_lt hs hi
      have hc : ((List.range n).filter s.testBit).length = ((List.range n).filter (rm s i).testBit).length + ((List.range n).filter fun x => decide (x = i)).length := by
        rw [← List.countP_eq_length_filter, ← List.countP_eq_length_filter, ← List.countP_eq_length_filter]
        generalize List.range n = G
        induction G with
        | nil => rfl
        | cons x G ih2 =>
          rw [List.countP_cons, List.countP_cons, List.countP_cons, ih2, rm_bit]
          by_cases ex : i = x
          · subst ex
            simp [hi]
            omega
          · have : ¬ x = i := fun e => ex e.symm
            simp [ex, this]
            omega
      have h3 : ((List.range n).filter fun x => decide (x = i)).length = 1 := by
        rw [← List.countP_eq_length_filter]
        have := List.nodup_range (n := n) |>.count (a := i)
        rw [if_pos (List.mem_range.2 hil), List.count_eq_countP] at this
        rw [← this]
        exact List.countP_congr fun x _ => by simp
      omega
/-- A set's size is one of the group's number. -/
theorem orb_divides {n : Nat} {A : List Nat} (hn : n ≤ 8) (hf : Fam n A) {s : Nat} (hs : s ∈ orbL n A) : (isoL n A A).length % pop s = 0 := by
  obtain ⟨i, hi, rfl⟩ := mem_orb.1 hs
  have hD : (((List.range n).filter (orbS n A i).testBit).map fun j => [j]).Nodup := by
    refine List.pairwise_map.2 (List.Pairwise.imp (fun h e => h (by simpa using e)) (List.nodup_range.sublist List.filter_sublist))
  have h1 := count_sum (c := (isoL n A A).countP fun q => [q.getD i 0] == [i]) (fun q => [q.getD i 0]) (isoL n A A) _ hD (fun d hd => by
    obtain ⟨j, hj, rfl⟩ := List.mem_map.1 hd
    exact orb_count hf hi (List.mem_filter.1 hj).2)
  rw [List.length_map, pop_list hn _ (Nat.le_refl _) (orbS_lt hi)] at h1
  have h2 : (isoL n A A).countP (fun q => decide ([q.getD i 0] ∈ (((List.range n).filter (orbS n A i).testBit).map fun j => [j]))) = (isoL n A A).length := by
    rw [List.countP_eq_length]
    intro q hq
    obtain ⟨⟨q1, q2⟩, _⟩ := isoL_mem.1 hq
    rw [decide_eq_true_iff, List.mem_map]
    exact ⟨q.getD i 0, List.mem_filter.2 ⟨List.mem_range.2 (q1.at (by omega)), toS_bit.2 ⟨q, hq, rfl⟩⟩, rfl⟩
  rw [h2] at h1
  rw [h1]
  exact Nat.mul_mod_right _ _
def fac : Nat → Nat
  | 0 => 1
  | n + 1 => (n + 1) * fac n
/-- There are so many orders. -/
theorem goes_fac {n : Nat} : ∀ (k : Nat) (p : List Nat), Beg n p → p.length + k = n → (goes n k p).length = fac k
  | 0, p, _, _ => rfl
  | k + 1, p, hb, hl => by
    rw [goes, fac]
    have h : ∀ (xs : List Nat), (∀ x ∈ xs, x < n) → (xs.flatMap fun x => if x ∈ p then [] else goes n k (p ++ [x])).length = (xs.countP fun x => decide (x ∉ p)) * fac k := fun xs => by
      induction xs with
      | nil => intro _; simp
      | cons x xs ih =>
        intro hx
        rw [List.flatMap_cons, List.length_append, List.countP_cons, ih fun y hy => hx y (List.mem_cons_of_mem _ hy)]
        by_cases hm : x ∈ p
        · rw [if_pos hm]
          simp [hm]
        · rw [if_neg hm, goes_fac k (p ++ [x]) ?_ (by simp; omega)]
          · simp [hm, Nat.add_mul, Nat.add_comm]
          · refine ⟨fun y hy => ?_, ?_⟩
            · rcases List.mem_append.1 hy with hy | hy
              · exact hb.lt y hy
              · rw [List.mem_singleton.1 hy]; exact hx x List.mem_cons_self
            · rw [List.nodup_append]
              refine ⟨hb.once, List.nodup_cons.2 ⟨List.not_mem_nil, List.nodup_nil⟩, fun a ha b hb' => ?_⟩
              rw [List.mem_singleton.1 hb']
              rintro rfl
              exact hm ha
    rw [h _ fun x hx => List.mem_range.1 hx]
    congr 1
    have h1 : (List.range n).countP (fun x => decide (x ∉ p)) + (List.range n).countP (fun x => decide (x ∈ p)) = n := by
      have := List.length_eq_countP_add_countP (fun x => decide (x ∉ p)) (l := List.range n)
      rw [List.length_range] at this
      have e : (List.range n).countP (fun a => decide ¬ (decide (a ∉ p)) = true) = (List.range n).countP fun x => decide (x ∈ p) := List.countP_congr fun x _ => by simp
      omega
    have h2 : (List.range n).countP (fun x => decide (x ∈ p)) = p.length := by
      rw [List.countP_eq_length_filter]
      refine List.Perm.length_eq ((List.perm_ext_iff_of_nodup (List.nodup_range.sublist List.filter_sublist) hb.once).2 fun x => ?_)
      rw [List.mem_filter, List.mem_range, decide_eq_true_iff]
      exact ⟨fun h => h.2, fun h => ⟨hb.lt x h, h⟩⟩
    omega
/-- LAGRANGE: the group's number is one of all orders'. -/
theorem iso_divides {n : Nat} {A : List Nat} (hf : Fam n A) : fac n % (isoL n A A).length = 0 := by
  have h := lagrange hf
  rw [goes_fac n [] (beg_nil n) (by simp)] at h
  rw [← h]
  exact Nat.mul_mod_left _ _
theorem iso_pos {n : Nat} {A : List Nat} (hf : Fam n A) : 0 < (isoL n A A).length := List.length_pos_of_mem (iso_one hf)
/-- Other names have as large a group. -/
theorem iso_ren {n : Nat} {A p : List Nat} (hf : Fam n A) (hp : Beg n p) (hl : p.length = n) : (isoL n (renL n p A) (renL n p A)).length = (isoL n A A).length := by
  rw [← fiber hf (goes_iff.2 ⟨hp, hl⟩), List.countP_eq_length_filter]
  have hnd : ((goes n n []).filter fun q => renL n q A == renL n p A).Nodup := (goes_nodup n []).sublist List.filter_sublist
  have hnd2 : (isoL n (renL n p A) (renL n p A)).Nodup := (goes_nodup n []).sublist List.filter_sublist
  have hperm : ((isoL n (renL n p A) (renL n p A)).map fun q => comp q p).Perm ((goes n n []).filter fun q => renL n q A == renL n p A) := by
    refine (List.perm_ext_iff_of_nodup ?_ hnd).2 fun x => ?_
    · refine List.pairwise_map.2 (List.Pairwise.imp_of_mem (fun {q r} hq hr hqr e => hqr ?_) hnd2)
      obtain ⟨⟨q1, q2⟩, _⟩ := isoL_mem.1 hq
      obtain ⟨⟨r1, r2⟩, _⟩ := isoL_mem.1 hr
      refine List.ext_getElem (by omega) fun k h1 h2 => ?_
      obtain ⟨i, hi, rfl⟩ := hp.all hl (show k < n by omega)
      have e1 : (comp q p).getD i 0 = (comp r p).getD i 0 := by rw [e]
      rw [comp_at (by omega), comp_at (by omega)] at e1
      generalize p.getD i 0 = k at *
      simpa [List.getD, h1, h2] using e1
    · rw [List.mem_map, List.mem_filter, beq_iff_eq]
      constructor
      · rintro ⟨q, hq, rfl⟩
        obtain ⟨⟨q1, q2⟩, q3⟩ := isoL_mem.1 hq
        exact ⟨goes_iff.2 ⟨q1.comp q2 hp, by rw [comp_len, hl]⟩, by rw [ren_comp q1 q2 hp hl hf, q3]⟩
      · rintro ⟨hx, hx3⟩
        obtain ⟨x1, x2⟩ := goes_iff.1 hx
        obtain ⟨g3, g4, _⟩ := inv_beg hp hl
        refine ⟨comp x (invL n p), isoL_mem.2 ⟨⟨x1.comp x2 g3, by rw [comp_len, g4]⟩, ?_⟩, ?_⟩
        · rw [ren_comp x1 x2 g3 g4 (ren_fam n p A), ren_inv hf hp hl, hx3]
        · refine List.ext_getElem (by rw [comp_len, hl, x2]) fun k h1 h2 => ?_
          have hk : k < n := by omega
          have e1 : (comp (comp x (invL n p)) p).getD k 0 = x.getD k 0 := by
            rw [comp_at (by omega), comp_at (by rw [g4]; exact hp.at (by omega)), (inv_both hp hl hk).2]
          simpa [List.getD, h1, h2] using e1
  rw [← hperm.length_eq, List.length_map]
/-- All that is in the first i of them. -/
def orT (L : List Nat) (i : Nat) : Nat := (L.take i).foldl (· ||| ·) 0
theorem orT_fold : ∀ (L : List Nat) (u j : Nat), (L.foldl (· ||| ·) u).testBit j = (u.testBit j || L.any fun s => s.testBit j)
  | [], u, j => by simp
  | s :: L, u, j => by rw [List.foldl_cons, orT_fold L, Nat.testBit_or, List.any_cons, Bool.or_assoc]
theorem orT_bit {L : List Nat} {i j : Nat} : (orT L i).testBit j = true ↔ ∃ s ∈ L.take i, s.testBit j = true := by
  unfold orT
  rw [orT_fold, Nat.zero_testBit, Bool.false_or, List.any_eq_true]
theorem orT_succ {L : List Nat} {i : Nat} (h : i < L.length) : orT L (i + 1) = orT L i ||| L.getD i 0 := by
  unfold orT
  rw [List.take_add_one, List.foldl_append, List.getElem?_eq_getElem h]
  simp [List.getD, h]
theorem orT_lt {n : Nat} {L : List Nat} (hL : ∀ s ∈ L, s < 2 ^ n) (i : Nat) : orT L i < 2 ^ n := lt_of_bits fun j hj => by
  obtain ⟨s, hs, hb⟩ := orT_bit.1 hj
  exact bit_lt (hL s (List.mem_of_mem_take hs)) hb
theorem orb_free {n : Nat} {A : List Nat} (hf : Fam n A) {i : Nat} (hi : i < (orbL n A).length) : orT (orbL n A) i &&& (orbL n A).getD i 0 = 0 := by
  refine Classical.byContradiction fun c => ?_
  obtain ⟨j, hj⟩ := exists_bit c
  rw [Nat.testBit_and, Bool.and_eq_true] at hj
  obtain ⟨s, hs, hb⟩ := orT_bit.1 hj.1
  obtain ⟨k, hk, e⟩ := List.mem_take_iff_getElem.1 hs
  have hm : (orbL n A).getD i 0 ∈ orbL n A := by simp [List.getD, hi]
  have hs2 : s ∈ orbL n A := List.mem_of_mem_take hs
  have hne : s &&& (orbL n A).getD i 0 ≠ 0 := fun e0 => by
    have : (s &&& (orbL n A).getD i 0).testBit j = true := by rw [Nat.testBit_and, hb, hj.2]; rfl
    rw [e0, Nat.zero_testBit] at this
    cases this
  have h1 := orb_meet hf hs2 hm hne
  have hki : k < i := by omega
  have h2 := List.pairwise_iff_getElem.1 (orb_fam n A).up k i (by omega) hi hki
  rw [e, h1] at h2
  simp [List.getD, hi] at h2
theorem orb_all {n : Nat} {A : List Nat} (hf : Fam n A) : orT (orbL n A) (orbL n A).length = 2 ^ n - 1 := Nat.eq_of_testBit_eq fun j => by
  rw [Nat.testBit_two_pow_sub_one, Bool.eq_iff_iff, orT_bit, List.take_length, decide_eq_true_iff]
  constructor
  · rintro ⟨s, hs, hb⟩
    exact bit_lt ((orb_fam n A).lt s hs) hb
  · intro hj
    exact ⟨_, mem_orb.2 ⟨j, hj, rfl⟩, orb_self hf hj⟩
theorem orb_pos {n : Nat} {A : List Nat} (hn : n ≤ 8) (hf : Fam n A) {s : Nat} (hs : s ∈ orbL n A) : pop s ≠ 0 := by
  obtain ⟨i, hi, rfl⟩ := mem_orb.1 hs
  intro e
  have := (pop_pos _ (lt256 hn (orbS_lt hi))).1 e
  have h1 := orb_self hf hi
  rw [this, Nat.zero_testBit] at h1
  cases h1
theorem fac_le {n : Nat} (hn : n ≤ 8) : fac n ≤ 40320 := by
  have : ∀ k, k ≤ 8 → fac k ≤ 40320 := by decide
  exact this n hn
theorem tmod_nat (a b : Nat) (h : a % b = 0) : Int.tmod (a : Int) (b : Int) = 0 := by
  rw [Int.tmod_eq_emod_of_nonneg (by omega)]
  omega
end Go.Proofs.Ytcncaaeofcmefaa

namespace Go.Proofs.Ytcncaaeofcmefaa

theorem top_add {n s : Nat} (hs : s < 2 ^ n) : s ||| 2 ^ n = s + 2 ^ n := by
  have := Nat.two_pow_add_eq_or_of_lt hs 1
  rw [Nat.mul_one] at this
  rw [Nat.or_comm, Nat.add_comm, ← this]
theorem top_lt {n s : Nat} (hs : s < 2 ^ n) : s ||| 2 ^ n < 2 ^ (n + 1) := by rw [top_add hs, Nat.pow_succ]; omega
theorem up_lt {n s : Nat} (hs : s < 2 ^ n) : s < 2 ^ (n + 1) := by rw [Nat.pow_succ]; omega
theorem top_cpl {n s : Nat} (hs : s < 2 ^ n) : 2 ^ (n + 1) - 1 - s = (2 ^ n - 1 - s) ||| 2 ^ n := by
  rw [top_add (by omega), Nat.pow_succ]; omega
theorem top_cpl' {n s : Nat} (hs : s < 2 ^ n) : 2 ^ (n + 1) - 1 - (s ||| 2 ^ n) = 2 ^ n - 1 - s := by
  rw [top_add hs, Nat.pow_succ]; omega
theorem no_top {n s : Nat} (hs : s < 2 ^ n) : s.testBit n = false := Nat.testBit_lt_two_pow hs
theorem or_ltn {n s t : Nat} (hs : s < 2 ^ n) (ht : t < 2 ^ n) : s ||| t < 2 ^ n := Nat.or_lt_two_pow hs ht
theorem RkOn.down {n : Nat} {r : Nat → Nat} (h : RkOn (n + 1) r) : RkOn n r :=
  ⟨fun s hs => h.le s (up_lt hs), fun s t hs ht => h.mono s t (up_lt hs) (up_lt ht), fun s t hs ht => h.sub s t (up_lt hs) (up_lt ht)⟩
theorem RkOn.add {n : Nat} {r : Nat → Nat} (h : RkOn n r) {s t : Nat} (hs : s < 2 ^ n) (ht : t < 2 ^ n) : r (s ||| t) ≤ r s + r t := by
  have := h.sub s t hs ht; omega
theorem RkOn.con {n : Nat} {r : Nat → Nat} (hn : n < 8) (h : RkOn (n + 1) r) (h1 : 1 ≤ r (2 ^ n)) : RkOn n (fun s => r (s ||| 2 ^ n) - 1) := by
  have he : 2 ^ n < 2 ^ (n + 1) := by rw [Nat.pow_succ]; have := Nat.two_pow_pos n; omega
  have hge : ∀ s, s < 2 ^ n → 1 ≤ r (s ||| 2 ^ n) := fun s hs => Nat.le_trans h1 (h.mono _ _ he (top_lt hs) (subB_iff.2 fun i hi => by rw [Nat.testBit_or, hi]; simp))
  refine ⟨fun s hs => ?_, fun s t hs ht hst => ?_, fun s t hs ht => ?_⟩
  · have := h.le _ (top_lt hs)
    rw [pop_ad s (Nat.lt_of_lt_of_le hs (Nat.pow_le_pow_right (by omega) (by omega : n ≤ 8))) n hn (no_top hs)] at this
    omega
  · have := h.mono _ _ (top_lt hs) (top_lt ht) (subB_iff.2 fun i hi => by
      rw [Nat.testBit_or] at hi ⊢
      have := subB_iff.1 hst i
      cases e : s.testBit i <;> simp_all)
    omega
  · have h2 := h.sub _ _ (top_lt hs) (top_lt ht)
    have e1 : (s ||| 2 ^ n) ||| (t ||| 2 ^ n) = (s ||| t) ||| 2 ^ n := Nat.eq_of_testBit_eq fun j => by
      simp only [Nat.testBit_or]; cases s.testBit j <;> cases t.testBit j <;> cases (2 ^ n).testBit j <;> rfl
    have e2 : (s ||| 2 ^ n) &&& (t ||| 2 ^ n) = (s &&& t) ||| 2 ^ n := Nat.eq_of_testBit_eq fun j => by
      simp only [Nat.testBit_or, Nat.testBit_and]; cases s.testBit j <;> cases t.testBit j <;> cases (2 ^ n).testBit j <;> rfl
    rw [e1, e2] at h2
    have h3 := hge (s ||| t) (or_ltn hs ht)
    have h4 := hge (s &&& t) (and_ltn hs)
    have h5 := hge s hs
    have h6 := hge t ht
    omega
/-- EDMONDS: where no set bars it there is a set of k elements that is independent in both. -/
theorem isect : ∀ (n : Nat), n ≤ 8 → ∀ (r q : Nat → Nat), RkOn n r → RkOn n q → ∀ k, (∀ s, s < 2 ^ n → k ≤ r s + q (2 ^ n - 1 - s)) → ∃ i, i < 2 ^ n ∧ pop i = k ∧ r i = k ∧ q i = k := by
  intro n
  induction n with
  | zero =>
    intro _ r q hr hq k hk
    have h1 := hk 0 (by decide)
    have h2 := hr.zero
    have h3 := hq.zero
    have e : 2 ^ 0 - 1 - 0 = 0 := rfl
    rw [e, h2, h3] at h1
    have e2 : k = 0 := by omega
    subst e2
    exact ⟨0, by decide, by decide, h2, h3⟩
  | succ n ih =>
    intro hn r q hr hq k hk
    by_cases hA : ∀ s, s < 2 ^ n → k ≤ r s + q (2 ^ n - 1 - s)
    · obtain ⟨i, h1, h2⟩ := ih (by omega) r q hr.down hq.down k hA
      exact ⟨i, up_lt h1, h2⟩
    · obtain ⟨s, hs⟩ := Classical.not_forall.1 hA
      obtain ⟨hs, hlt⟩ := Classical.not_imp.1 hs
      have hlt : r s + q (2 ^ n - 1 - s) < k := by omega
      have hcs : 2 ^ n - 1 - s < 2 ^ n := by have := Nat.two_pow_pos n; omega
      have he : 2 ^ n < 2 ^ (n + 1) := by rw [Nat.pow_succ]; have := Nat.two_pow_pos n; omega
      have r1 : 1 ≤ r (2 ^ n) := by
        have h1 := hk (s ||| 2 ^ n) (top_lt hs)
        rw [top_cpl' hs] at h1
        have h2 := hr.add (up_lt hs) he
        omega
      have q1 : 1 ≤ q (2 ^ n) := by
        have h1 := hk s (up_lt hs)
        rw [top_cpl hs] at h1
        have h2 := hq.add (up_lt hcs) he
        omega
      obtain ⟨i, i1, i2, i3, i4⟩ := ih (by omega) _ _ (hr.con (by omega) r1) (hq.con (by omega) q1) (k - 1) (fun t ht => by
        have hct : 2 ^ n - 1 - t < 2 ^ n := by have := Nat.two_pow_pos n; omega
        have a1 := hr.sub s (t ||| 2 ^ n) (up_lt hs) (top_lt ht)
        have a2 := hq.sub (2 ^ n - 1 - s) ((2 ^ n - 1 - t) ||| 2 ^ n) (up_lt hcs) (top_lt hct)
        have b1 := hk (s &&& t) (up_lt (and_ltn hs))
        have b2 := hk ((s ||| t) ||| 2 ^ n) (top_lt (or_ltn hs ht))
        rw [top_cpl (and_ltn hs), cpl_and hs ht] at b1
        rw [top_cpl' (or_ltn hs ht), cpl_or hs ht] at b2
        have e1 : s ||| (t ||| 2 ^ n) = (s ||| t) ||| 2 ^ n := (Nat.or_assoc ..).symm
        have e2 : s &&& (t ||| 2 ^ n) = s &&& t := and_ad_out (no_top hs)
        have e3 : (2 ^ n - 1 - s) ||| ((2 ^ n - 1 - t) ||| 2 ^ n) = ((2 ^ n - 1 - s) ||| (2 ^ n - 1 - t)) ||| 2 ^ n := (Nat.or_assoc ..).symm
        have e4 : (2 ^ n - 1 - s) &&& ((2 ^ n - 1 - t) ||| 2 ^ n) = (2 ^ n - 1 - s) &&& (2 ^ n - 1 - t) := and_ad_out (no_top hcs)
        rw [e1, e2] at a1
        rw [e3, e4] at a2
        have c1 : 1 ≤ r (t ||| 2 ^ n) := Nat.le_trans r1 (hr.mono _ _ he (top_lt ht) (subB_iff.2 fun i hi => by rw [Nat.testBit_or, hi]; simp))
        have c2 : 1 ≤ q ((2 ^ n - 1 - t) ||| 2 ^ n) := Nat.le_trans q1 (hq.mono _ _ he (top_lt hct) (subB_iff.2 fun i hi => by rw [Nat.testBit_or, hi]; simp))
        omega)
      have p := pop_ad i (Nat.lt_of_lt_of_le i1 (Nat.pow_le_pow_right (by omega) (by omega : n ≤ 8))) n (by omega) (no_top i1)
      have c1 : 1 ≤ r (i ||| 2 ^ n) := Nat.le_trans r1 (hr.mono _ _ he (top_lt i1) (subB_iff.2 fun i hi => by rw [Nat.testBit_or, hi]; simp))
      have c2 : 1 ≤ q (i ||| 2 ^ n) := Nat.le_trans q1 (hq.mono _ _ he (top_lt i1) (subB_iff.2 fun i hi => by rw [Nat.testBit_or, hi]; simp))
      exact ⟨i ||| 2 ^ n, top_lt i1, by omega, by omega, by omega⟩

theorem difn_lt {n a b : Nat} (h : a < 2 ^ n) : dif a b < 2 ^ n := sub_lt (subB_iff.2 fun i hi => by rw [dif_bit] at hi; simp at hi; exact hi.1) h
theorem dif_subl (a b : Nat) : subB (dif a b) a = true := subB_iff.2 fun i hi => by rw [dif_bit] at hi; simp at hi; exact hi.1
theorem RkOn.gap {n : Nat} {r : Nat → Nat} (h : RkOn n r) {a b : Nat} (ha : a < 2 ^ n) (hb : b < 2 ^ n) : r a ≤ r b + pop (dif a b) := by
  have h1 := h.add hb (difn_lt (b := b) ha)
  have h2 := h.le _ (difn_lt (b := b) ha)
  have h3 := h.mono a (b ||| dif a b) ha (or_ltn hb (difn_lt ha)) (subB_iff.2 fun i hi => by rw [Nat.testBit_or, dif_bit, hi]; cases b.testBit i <;> rfl)
  omega
theorem pop_disj {a b : Nat} (h : a &&& b = 0) : pop (a ||| b) = pop a + pop b := by
  have := pop_or_and a b
  rw [h] at this
  have e : pop 0 = 0 := by decide
  omega
/-- GREENE: of two bases, for any elements of the one alone there are some of the other alone. -/
theorem greene {n : Nat} {l : List Nat} (hn : n ≤ 8) (hf : Fam n l) (hb : Bas l) {a b x : Nat} (ha : a ∈ l) (hbb : b ∈ l) (hx : subB x (dif a b) = true) :
    ∃ y, subB y (dif b a) = true ∧ pop y = pop x ∧ (dif a x ||| y) ∈ l ∧ (dif b y ||| x) ∈ l := by
  have self := basR_self hn hf hb
  rw [← self] at ha hbb
  obtain ⟨a1, a2, a3⟩ := mem_basR.1 ha
  obtain ⟨b1, b2, b3⟩ := mem_basR.1 hbb
  have R := hb.rkOn n
  generalize rk l = r at *
  have hx1 : x < 2 ^ n := sub_lt hx (difn_lt a1)
  have c1 : dif a x < 2 ^ n := difn_lt a1
  have xa : ∀ i, x.testBit i = true → a.testBit i = true ∧ b.testBit i = false := fun i hi => by
    have := subB_iff.1 hx i hi
    rw [dif_bit] at this
    simp at this
    exact this
  have ca : dif a x ||| x = a := Nat.eq_of_testBit_eq fun i => by
    rw [Nat.testBit_or, dif_bit]
    have := xa i
    cases e : x.testBit i <;> cases e2 : a.testBit i <;> simp_all
  have cx : dif a x &&& x = 0 := Nat.eq_of_testBit_eq fun i => by
    rw [Nat.testBit_and, dif_bit]
    cases e : x.testBit i <;> simp
  have pc := pop_disj cx
  rw [ca] at pc
  -- what is left of a is independent
  have rc : r (dif a x) = pop (dif a x) := by
    have h1 := R.add c1 hx1
    have h2 := R.le _ c1
    have h3 := R.le _ hx1
    rw [ca] at h1
    omega
  have rx : r x = pop x := by
    have h1 := R.add c1 hx1
    have h2 := R.le _ c1
    have h3 := R.le _ hx1
    rw [ca] at h1
    omega
  have hbs : ∀ s, s &&& b < 2 ^ n := fun s => Nat.lt_of_le_of_lt Nat.and_le_right b1
  have full : 2 ^ n - 1 < 2 ^ n := full_lt n
  have u1 : ∀ s, (s &&& b) ||| dif a x < 2 ^ n := fun s => or_ltn (hbs s) c1
  have u2 : ∀ s, dif b s ||| x < 2 ^ n := fun s => or_ltn (difn_lt b1) hx1
  have g1 : ∀ s, pop (dif a x) ≤ r ((s &&& b) ||| dif a x) := fun s => by
    rw [← rc]
    exact R.mono _ _ c1 (u1 s) (subB_iff.2 fun i hi => by rw [Nat.testBit_or, hi]; simp)
  have top : ∀ s, s < 2 ^ n → r s ≤ r (2 ^ n - 1) := fun s hs => R.mono _ _ hs full (full_sub hs)
  have g2 : ∀ s, r (2 ^ n - 1) ≤ pop (s &&& b) + r (dif b s ||| x) := fun s => by
    have h1 := R.gap b1 (u2 s)
    have h2 : pop (dif b (dif b s ||| x)) ≤ pop (s &&& b) := pop_sub (subB_iff.2 fun i hi => by
      rw [dif_bit, Nat.testBit_or, dif_bit] at hi
      rw [Nat.testBit_and]
      cases e : s.testBit i <;> cases e2 : b.testBit i <;> simp_all)
    omega
  have r1on : RkOn n (fun s => r ((s &&& b) ||| dif a x) - pop (dif a x)) := by
    refine ⟨fun s hs => ?_, fun s t hs ht hst => ?_, fun s t hs ht => ?_⟩
    · have h1 := R.add (hbs s) c1
      have h2 := R.le _ (hbs s)
      have h3 : pop (s &&& b) ≤ pop s := pop_sub (subB_iff.2 fun i hi => by rw [Nat.testBit_and] at hi; simp at hi; exact hi.1)
      omega
    · have := R.mono _ _ (u1 s) (u1 t) (subB_iff.2 fun i hi => by
        rw [Nat.testBit_or, Nat.testBit_and] at hi ⊢
        have := subB_iff.1 hst i
        cases e : s.testBit i <;> cases e2 : b.testBit i <;> simp_all)
      omega
    · have h1 := R.sub _ _ (u1 s) (u1 t)
      have e1 : ((s &&& b) ||| dif a x) ||| ((t &&& b) ||| dif a x) = ((s ||| t) &&& b) ||| dif a x := Nat.eq_of_testBit_eq fun i => by
        simp only [Nat.testBit_or, Nat.testBit_and]
        cases s.testBit i <;> cases t.testBit i <;> cases b.testBit i <;> cases (dif a x).testBit i <;> rfl
      have e2 : ((s &&& b) ||| dif a x) &&& ((t &&& b) ||| dif a x) = ((s &&& t) &&& b) ||| dif a x := Nat.eq_of_testBit_eq fun i => by
        simp only [Nat.testBit_or, Nat.testBit_and]
        cases s.testBit i <;> cases t.testBit i <;> cases b.testBit i <;> cases (dif a x).testBit i <;> rfl
      rw [e1, e2] at h1
      have := g1 s; have := g1 t; have := g1 (s ||| t); have := g1 (s &&& t)
      omega
  have r2on : RkOn n (fun s => pop (s &&& b) + r (dif b s ||| x) - r (2 ^ n - 1)) := by
    refine ⟨fun s hs => ?_, fun s t hs ht hst => ?_, fun s t hs ht => ?_⟩
    · have h1 := top _ (u2 s)
      have h3 : pop (s &&& b) ≤ pop s := pop_sub (subB_iff.2 fun i hi => by rw [Nat.testBit_and] at hi; simp at hi; exact hi.1)
      omega
    · have h1 := R.gap (u2 s) (u2 t)
      have h2 : pop (dif (dif b s ||| x) (dif b t ||| x)) + pop (s &&& b) ≤ pop (t &&& b) := by
        have hd : dif (dif b s ||| x) (dif b t ||| x) &&& (s &&& b) = 0 := Nat.eq_of_testBit_eq fun i => by
          simp only [Nat.testBit_and, dif_bit, Nat.testBit_or]
          cases s.testBit i <;> cases t.testBit i <;> cases b.testBit i <;> cases x.testBit i <;> simp
        rw [← pop_disj hd]
        refine pop_sub (subB_iff.2 fun i hi => ?_)
        simp only [Nat.testBit_and, dif_bit, Nat.testBit_or] at hi ⊢
        have := subB_iff.1 hst i
        cases e : s.testBit i <;> cases e1 : t.testBit i <;> cases e2 : b.testBit i <;> cases e3 : x.testBit i <;> simp_all
      omega
    · have h1 := R.sub _ _ (u2 s) (u2 t)
      have e1 : (dif b s ||| x) ||| (dif b t ||| x) = dif b (s &&& t) ||| x := Nat.eq_of_testBit_eq fun i => by
        simp only [Nat.testBit_or, Nat.testBit_and, dif_bit]
        cases s.testBit i <;> cases t.testBit i <;> cases b.testBit i <;> cases x.testBit i <;> rfl
      have e2 : (dif b s ||| x) &&& (dif b t ||| x) = dif b (s ||| t) ||| x := Nat.eq_of_testBit_eq fun i => by
        simp only [Nat.testBit_or, Nat.testBit_and, dif_bit]
        cases s.testBit i <;> cases t.testBit i <;> cases b.testBit i <;> cases x.testBit i <;> rfl
      rw [e1, e2] at h1
      have h2 := pop_or_and (s &&& b) (t &&& b)
      have e3 : (s &&& b) ||| (t &&& b) = (s ||| t) &&& b := Nat.eq_of_testBit_eq fun i => by
        simp only [Nat.testBit_or, Nat.testBit_and]
        cases s.testBit i <;> cases t.testBit i <;> cases b.testBit i <;> rfl
      have e4 : (s &&& b) &&& (t &&& b) = (s &&& t) &&& b := Nat.eq_of_testBit_eq fun i => by
        simp only [Nat.testBit_and]
        cases s.testBit i <;> cases t.testBit i <;> cases b.testBit i <;> rfl
      rw [e3, e4] at h2
      have := g2 s; have := g2 t; have := g2 (s ||| t); have := g2 (s &&& t)
      omega
  obtain ⟨y, y1, y2, y3, y4⟩ := isect n hn _ _ r1on r2on (pop x) (fun s hs => by
    have hc : 2 ^ n - 1 - s < 2 ^ n := by have := Nat.two_pow_pos n; omega
    have cb : ∀ i, (2 ^ n - 1 - s).testBit i = (decide (i < n) && !s.testBit i) := fun i => by
      rw [show 2 ^ n - 1 - s = 2 ^ n - (s + 1) by omega, Nat.testBit_two_pow_sub_succ hs]
    have bn : ∀ i, b.testBit i = true → i < n := fun i hi => by
      apply Classical.byContradiction; intro hh
      rw [Nat.testBit_lt_two_pow (Nat.lt_of_lt_of_le b1 (Nat.pow_le_pow_right (by omega) (by omega)))] at hi
      cases hi
    have e1 : dif b (2 ^ n - 1 - s) = s &&& b := Nat.eq_of_testBit_eq fun i => by
      rw [dif_bit, cb, Nat.testBit_and]
      have := bn i
      cases e : b.testBit i <;> cases e2 : s.testBit i <;> simp_all
    have e2 : (2 ^ n - 1 - s) &&& b = dif b s := Nat.eq_of_testBit_eq fun i => by
      rw [dif_bit, Nat.testBit_and, cb]
      have := bn i
      cases e : b.testBit i <;> cases e2 : s.testBit i <;> simp_all
    have h1 := R.sub _ _ (u1 s) (u2 (2 ^ n - 1 - s))
    show pop x ≤ (r ((s &&& b) ||| dif a x) - pop (dif a x)) + (pop ((2 ^ n - 1 - s) &&& b) + r (dif b (2 ^ n - 1 - s) ||| x) - r (2 ^ n - 1))
    rw [e1] at h1 ⊢
    rw [e2]
    have k1 : ((s &&& b) ||| dif a x) ||| ((s &&& b) ||| x) = (s &&& b) ||| a := Nat.eq_of_testBit_eq fun i => by
      simp only [Nat.testBit_or, Nat.testBit_and, dif_bit]
      have := xa i
      cases e1 : s.testBit i <;> cases e2 : b.testBit i <;> cases e3 : a.testBit i <;> cases e4 : x.testBit i <;> simp_all
    have k2 : ((s &&& b) ||| dif a x) &&& ((s &&& b) ||| x) = s &&& b := Nat.eq_of_testBit_eq fun i => by
      simp only [Nat.testBit_or, Nat.testBit_and, dif_bit]
      cases s.testBit i <;> cases b.testBit i <;> cases a.testBit i <;> cases x.testBit i <;> rfl
    rw [k1, k2] at h1
    have h2 := R.mono a _ a1 (or_ltn (hbs s) a1) (subB_iff.2 fun i hi => by rw [Nat.testBit_or, hi]; simp : subB a ((s &&& b) ||| a) = true)
    have h3 : r (s &&& b) = pop (s &&& b) := by
      have i1 := R.gap b1 (hbs s)
      have i2 := R.le _ (hbs s)
      have i3 := pop_dif b (s &&& b)
      have e5 : b &&& (s &&& b) = s &&& b := Nat.eq_of_testBit_eq fun i => by
        simp only [Nat.testBit_and]
        cases s.testBit i <;> cases b.testBit i <;> rfl
      rw [e5] at i3
      omega
    have h4 := pop_dif b s
    rw [Nat.and_comm] at h4
    have := g1 s
    have := g2 (2 ^ n - 1 - s)
    rw [e2, e1] at this
    omega)
  have q1 := g1 y
  have q2 := g2 y
  -- y lies in b
  have t1 := R.add (hbs y) c1
  have t2 := R.le _ (hbs y)
  have t3 : pop (y &&& b) ≤ pop y := pop_sub (subB_iff.2 fun i hi => by rw [Nat.testBit_and] at hi; simp at hi; exact hi.1)
  have yb : y &&& b = y := eq_of_pop (lt256 hn y1) (subB_iff.2 fun i hi => by rw [Nat.testBit_and] at hi; simp at hi; exact hi.1) (by omega)
  rw [yb] at q1 q2 y3 y4
  have t4 := R.le _ (or_ltn y1 c1)
  have t5 := pop_or_and y (dif a x)
  have t6 : y &&& dif a x = 0 := by
    apply Classical.byContradiction; intro hh
    have : 0 < pop (y &&& dif a x) := by
      apply Nat.pos_of_ne_zero; intro h0
      exact hh (eq_of_pop (lt256 hn (and_ltn y1)) (subB_iff.2 fun i hi => by simp at hi) (by rw [h0]; omega)).symm
    omega
  have t6b : ∀ i, y.testBit i = true → b.testBit i = true ∧ a.testBit i = false := fun i hi => by
    have h1 : b.testBit i = true := by
      have := congrArg (·.testBit i) yb
      simp only [Nat.testBit_and] at this
      rw [hi] at this
      simpa using this
    refine ⟨h1, ?_⟩
    have h2 := congrArg (·.testBit i) t6
    simp only [Nat.testBit_and, dif_bit, Nat.zero_testBit] at h2
    have h3 := xa i
    cases e : a.testBit i <;> cases e2 : x.testBit i <;> simp_all
  refine ⟨y, subB_iff.2 fun i hi => by rw [dif_bit]; obtain ⟨h1, h2⟩ := t6b i hi; rw [h1, h2]; rfl, y2, ?_, ?_⟩
  · rw [← self]
    have e1 : dif a x ||| y = y ||| dif a x := Nat.or_comm ..
    rw [e1]
    have h0 := pop_disj t6
    have h1 := top _ (or_ltn y1 c1)
    refine mem_basR.2 ⟨or_ltn y1 c1, ?_, ?_⟩ <;> omega
  · rw [← self]
    have h0 : dif b y &&& x = 0 := Nat.eq_of_testBit_eq fun i => by
      rw [Nat.testBit_and, dif_bit]
      have := xa i
      cases e : x.testBit i <;> simp_all
    have h1 := pop_disj h0
    have h2 := pop_dif b y
    rw [Nat.and_comm, yb] at h2
    have h3 := top _ (u2 y)
    have h4 := R.le _ (u2 y)
    refine mem_basR.2 ⟨u2 y, ?_, ?_⟩ <;> omega
end Go.Proofs.Ytcncaaeofcmefaa

namespace Go.Proofs.Ytcncaaeofcmefaa

/-- f tells each element's class. -/
structure Eqv (n : Nat) (f : Nat → Nat) : Prop where
  lt : ∀ i, i < n → f i < 2 ^ n
  self : ∀ i, i < n → (f i).testBit i = true
  same : ∀ i j, i < n → (f i).testBit j = true → f i = f j
def eqL (n : Nat) (f : Nat → Nat) : List Nat := (List.range (2 ^ n)).filter fun s => memB s ((List.range n).map f)
theorem eq_fam (n : Nat) (f : Nat → Nat) : Fam n (eqL n f) := Fam.range n _
theorem mem_eqL {n : Nat} {f : Nat → Nat} (h : Eqv n f) {s : Nat} : s ∈ eqL n f ↔ ∃ i, i < n ∧ f i = s := by
  unfold eqL memB
  rw [List.mem_filter, List.mem_range, decide_eq_true_iff, List.mem_map]
  constructor
  · rintro ⟨_, i, hi, rfl⟩
    exact ⟨i, List.mem_range.1 hi, rfl⟩
  · rintro ⟨i, hi, rfl⟩
    exact ⟨h.lt i hi, i, List.mem_range.2 hi, rfl⟩
theorem Eqv.meet {n : Nat} {f : Nat → Nat} (h : Eqv n f) {s t : Nat} (hs : s ∈ eqL n f) (ht : t ∈ eqL n f) (hne : s &&& t ≠ 0) : s = t := by
  obtain ⟨i, hi, rfl⟩ := (mem_eqL h).1 hs
  obtain ⟨k, hk, rfl⟩ := (mem_eqL h).1 ht
  obtain ⟨j, hj⟩ := exists_bit hne
  rw [Nat.testBit_and, Bool.and_eq_true] at hj
  rw [h.same i j hi hj.1, h.same k j hk hj.2]
theorem Eqv.free {n : Nat} {f : Nat → Nat} (h : Eqv n f) {i : Nat} (hi : i < (eqL n f).length) : orT (eqL n f) i &&& (eqL n f).getD i 0 = 0 := by
  refine Classical.byContradiction fun c => ?_
  obtain ⟨j, hj⟩ := exists_bit c
  rw [Nat.testBit_and, Bool.and_eq_true] at hj
  obtain ⟨s, hs, hb⟩ := orT_bit.1 hj.1
  obtain ⟨k, hk, e⟩ := List.mem_take_iff_getElem.1 hs
  have hm : (eqL n f).getD i 0 ∈ eqL n f := by simp [List.getD, hi]
  have hne : s &&& (eqL n f).getD i 0 ≠ 0 := fun e0 => by
    have : (s &&& (eqL n f).getD i 0).testBit j = true := by rw [Nat.testBit_and, hb, hj.2]; rfl
    rw [e0, Nat.zero_testBit] at this
    cases this
  have h1 := h.meet (List.mem_of_mem_take hs) hm hne
  have hki : k < i := by omega
  have h2 := List.pairwise_iff_getElem.1 (eq_fam n f).up k i (by omega) hi hki
  rw [e, h1] at h2
  simp [List.getD, hi] at h2
theorem Eqv.all {n : Nat} {f : Nat → Nat} (h : Eqv n f) : orT (eqL n f) (eqL n f).length = 2 ^ n - 1 := Nat.eq_of_testBit_eq fun j => by
  rw [Nat.testBit_two_pow_sub_one, Bool.eq_iff_iff, orT_bit, List.take_length, decide_eq_true_iff]
  constructor
  · rintro ⟨s, hs, hb⟩
    exact bit_lt ((eq_fam n f).lt s hs) hb
  · intro hj
    exact ⟨_, (mem_eqL h).2 ⟨j, hj, rfl⟩, h.self j hj⟩
/-- What is left to part is made of whole classes. -/
def Whole (n : Nat) (f : Nat → Nat) (F : Nat) : Prop := F < 2 ^ n ∧ ∀ i j, i < n → F.testBit i = true → (f i).testBit j = true → F.testBit j = true
theorem prts_eqv {n : Nat} {f : Nat → Nat} {T : Nat → Nat → Bool} (hn : n ≤ 8) (h : Eqv n f) (hT : ∀ i j, i < n → j < n → (f i).testBit j = (decide (i = j) || T i j)) : ∀ (N F : Nat) (L : List Nat), F ≤ N → Whole n f F → Prts T F L → L.Nodup ∧ ∀ s, s ∈ L ↔ ∃ i, i < n ∧ F.testBit i = true ∧ f i = s := by
  intro N
  induction N with
  | zero =>
    intro F L hF _ hp
    have : F = 0 := by omega
    subst this
    rw [prts_zero hp]
    exact ⟨List.nodup_nil, fun s => ⟨(fun h => by cases h), (fun ⟨i, _, h1, _⟩ => by rw [Nat.zero_testBit] at h1; cases h1)⟩⟩
  | succ N ih =>
    intro F L hF hW hp
    by_cases h0 : F = 0
    · subst h0
      rw [prts_zero hp]
      exact ⟨List.nodup_nil, fun s => ⟨(fun h => by cases h), (fun ⟨i, _, h1, _⟩ => by rw [Nat.zero_testBit] at h1; cases h1)⟩⟩
    · obtain ⟨L', rfl, hp'⟩ := prts_cons hp h0
      have h8 := lt256 hn hW.1
      have hpos : 0 < F := by omega
      have htz := tz_bit F h8 hpos
      have hzn : tz F < n := bit_lt hW.1 htz
      have hpart : partR T F = f (tz F) := Nat.eq_of_testBit_eq fun j => by
        rw [partR_bit h8]
        by_cases hj : j < n
        · rw [hT _ _ hzn hj]
          by_cases e : tz F = j
          · simp [e]
          · by_cases hTj : T (tz F) j = true
            · have hfj : (f (tz F)).testBit j = true := by rw [hT _ _ hzn hj, hTj, Bool.or_true]
              have := hW.2 _ _ hzn htz hfj
              simp [e, hTj, this]
            · simp [e, hTj]
        · have e1 : (f (tz F)).testBit j = false := Nat.testBit_lt_two_pow (Nat.lt_of_lt_of_le (h.lt _ hzn) (Nat.pow_le_pow_right (by decide) (by omega)))
          have e2 : F.testBit j = false := Nat.testBit_lt_two_pow (Nat.lt_of_lt_of_le hW.1 (Nat.pow_le_pow_right (by decide) (by omega)))
          have e3 : tz F ≠ j := by omega
          simp [e1, e2, e3]
      rw [hpart] at hp' ⊢
      have hless := rest_less (T := T) h8 hpos
      rw [hpart] at hless
      have hW' : Whole n f (dif F (f (tz F))) := by
        refine ⟨Nat.lt_trans hless hW.1, fun i j hi h1 h2 => ?_⟩
        rw [dif_bit, Bool.and_eq_true, Bool.not_eq_true'] at h1
        rw [dif_bit, hW.2 i j hi h1.1 h2, Bool.true_and, Bool.not_eq_true']
        refine Bool.eq_false_iff.2 fun hc => ?_
        have e1 := h.same _ _ hzn hc
        have e2 := h.same i j hi h2
        have e3 := h.self i hi
        rw [e2, ← e1] at e3
        rw [e3] at h1
        cases h1.2
      obtain ⟨i1, i2⟩ := ih _ L' (by omega) hW' hp'
      refine ⟨List.nodup_cons.2 ⟨fun hm => ?_, i1⟩, fun s => ?_⟩
      · obtain ⟨i, hi, hb, e⟩ := (i2 _).1 hm
        rw [dif_bit, Bool.and_eq_true, Bool.not_eq_true'] at hb
        have := h.self i hi
        rw [e] at this
        rw [this] at hb
        cases hb.2
      · rw [List.mem_cons, i2]
        constructor
        · rintro (rfl | ⟨i, hi, hb, e⟩)
          · exact ⟨_, hzn, htz, rfl⟩
          · rw [dif_bit, Bool.and_eq_true] at hb
            exact ⟨i, hi, hb.1, e⟩
        · rintro ⟨i, hi, hb, rfl⟩
          by_cases hc : (f (tz F)).testBit i = true
          · exact .inl (h.same _ _ hzn hc).symm
          · exact .inr ⟨i, hi, by rw [dif_bit, hb, Bool.eq_false_iff.2 hc]; rfl, rfl⟩
/-- Put in order, the parts are the list of classes. -/
theorem prts_sorted {n : Nat} {f : Nat → Nat} {T : Nat → Nat → Bool} {L L' : List Nat} (hn : n ≤ 8) (h : Eqv n f) (hT : ∀ i j, i < n → j < n → (f i).testBit j = (decide (i = j) || T i j)) (hp : Prts T (2 ^ n - 1) L) (h1 : L'.Perm L) (h2 : L'.Pairwise (· ≤ ·)) : L' = eqL n f := by
  have hW : Whole n f (2 ^ n - 1) := ⟨full_lt n, fun i j hi _ hj => by
    rw [Nat.testBit_two_pow_sub_one]
    exact decide_eq_true (bit_lt (h.lt i hi) hj)⟩
  obtain ⟨n1, n2⟩ := prts_eqv hn h hT _ _ L (Nat.le_refl _) hW hp
  have hL : L'.Nodup := h1.nodup_iff.2 n1
  have h3 : L'.Pairwise (· < ·) := List.Pairwise.imp₂ (fun a b h4 h5 => Nat.lt_of_le_of_ne h4 h5) h2 hL
  refine sorted_ext h3 (eq_fam n f).up fun x => ?_
  rw [h1.mem_iff, n2, mem_eqL h]
  constructor
  · rintro ⟨i, hi, _, e⟩
    exact ⟨i, hi, e⟩
  · rintro ⟨i, hi, e⟩
    exact ⟨i, hi, by rw [Nat.testBit_two_pow_sub_one]; exact decide_eq_true hi, e⟩
/-- Components' classes. -/
theorem cls_eqv {n : Nat} {l : List Nat} (hn : n ≤ 8) (hb : Bas l) : Eqv n (cls (cirL n l) n) where
  lt := fun i _ => cls_lt _ _ _
  self := fun i hi => by rw [cls_bit, decide_eq_true hi, decide_eq_true (.inl rfl)]; rfl
  same := fun i j hi h => by
    rw [cls_bit, Bool.and_eq_true, decide_eq_true_iff, decide_eq_true_iff] at h
    refine Nat.eq_of_testBit_eq fun k => ?_
    rw [cls_bit, cls_bit]
    congr 1
    rw [Bool.eq_iff_iff, decide_eq_true_iff, decide_eq_true_iff]
    rcases h.2 with rfl | hij
    · exact Iff.rfl
    · constructor
      · rintro (rfl | hik)
        · exact .inr (by rw [tg_symm]; exact hij)
        · exact .inr (tg_trans hn hb (by rw [tg_symm]; exact hij) hik)
      · rintro (rfl | hjk)
        · exact .inr hij
        · exact .inr (tg_trans hn hb hij hjk)
theorem cls_T {n : Nat} {C : List Nat} : ∀ i j, i < n → j < n → (cls C n i).testBit j = (decide (i = j) || tg C i j) := fun i j _ hj => by
  rw [cls_bit, decide_eq_true hj, Bool.true_and, Bool.eq_iff_iff, decide_eq_true_iff, Bool.or_eq_true, decide_eq_true_iff]
/-- A separator's ranks add up in every set. -/
theorem sep_add {n : Nat} {r : Nat → Nat} (h : RkOn n r) {c x : Nat} (hc : c < 2 ^ n) (hx : x < 2 ^ n) (hs : r c + r (2 ^ n - 1 - c) = r (2 ^ n - 1)) : r x = r (x &&& c) + r (dif x c) := by
  have hv : 2 ^ n - 1 - c < 2 ^ n := by have := Nat.two_pow_pos n; omega
  have hxc : x &&& c < 2 ^ n := Nat.lt_of_le_of_lt Nat.and_le_left hx
  have hd : dif x c < 2 ^ n := difn_lt hx
  have hor : x ||| c < 2 ^ n := Nat.or_lt_two_pow hx hc
  have h1 := h.sub x c hx hc
  have h2 := h.sub (x ||| c) (2 ^ n - 1 - c) hor hv
  have e1 : (x ||| c) ||| (2 ^ n - 1 - c) = 2 ^ n - 1 := Nat.eq_of_testBit_eq fun i => by
    rw [Nat.testBit_or, Nat.testBit_or, cpl_bit hc, Nat.testBit_two_pow_sub_one]
    by_cases hi : i < n
    · cases x.testBit i <;> cases c.testBit i <;> simp [hi]
    · have a1 : x.testBit i = false := Nat.testBit_lt_two_pow (Nat.lt_of_lt_of_le hx (Nat.pow_le_pow_right (by decide) (by omega)))
      have a2 : c.testBit i = false := Nat.testBit_lt_two_pow (Nat.lt_of_lt_of_le hc (Nat.pow_le_pow_right (by decide) (by omega)))
      simp [a1, a2, hi]
  have e2 : (x ||| c) &&& (2 ^ n - 1 - c) = dif x c := Nat.eq_of_testBit_eq fun i => by
    rw [Nat.testBit_and, Nat.testBit_or, cpl_bit hc, dif_bit]
    by_cases hi : i < n
    · cases x.testBit i <;> cases c.testBit i <;> simp [hi]
    · have a1 : x.testBit i = false := Nat.testBit_lt_two_pow (Nat.lt_of_lt_of_le hx (Nat.pow_le_pow_right (by decide) (by omega)))
      simp [a1, hi]
  rw [e1, e2] at h2
  have h3 := h.sub (x &&& c) (dif x c) hxc hd
  have e3 : (x &&& c) ||| dif x c = x := Nat.eq_of_testBit_eq fun i => by
    rw [Nat.testBit_or, Nat.testBit_and, dif_bit]
    cases x.testBit i <;> cases c.testBit i <;> rfl
  rw [e3] at h3
  omega
/-- The sum of the ranks of the first i. -/
def sumT (r : Nat → Nat) (L : List Nat) (i : Nat) : Nat := (L.take i).foldl (fun a s => a + r s) 0
theorem sumT_succ {r : Nat → Nat} {L : List Nat} {i : Nat} (h : i < L.length) : sumT r L (i + 1) = sumT r L i + r (L.getD i 0) := by
  unfold sumT
  rw [List.take_add_one, List.foldl_append, List.getElem?_eq_getElem h]
  simp [List.getD, h]
theorem comp_sum {n : Nat} {l : List Nat} (hn : n ≤ 8) (hb : Bas l) : ∀ i, i ≤ (eqL n (cls (cirL n l) n)).length → sumT (rk l) (eqL n (cls (cirL n l) n)) i = rk l (orT (eqL n (cls (cirL n l) n)) i)
  | 0, _ => by
    have h1 := (hb.rkOn n).le 0 (Nat.two_pow_pos n)
    have e : pop 0 = 0 := by decide
    show 0 = rk l 0
    omega
  | i + 1, hi => by
    have hE := cls_eqv hn hb
    have hlt : i < (eqL n (cls (cirL n l) n)).length := by omega
    have hmem : (eqL n (cls (cirL n l) n)).getD i 0 ∈ eqL n (cls (cirL n l) n) := by simp [List.getD, hlt]
    have hfree := hE.free hlt
    rw [sumT_succ hlt, comp_sum hn hb i (by omega), orT_succ hlt]
    obtain ⟨k, hk, e⟩ := (mem_eqL hE).1 hmem
    have hc := (eq_fam n (cls (cirL n l) n)).lt _ hmem
    have ho := orT_lt (eq_fam n (cls (cirL n l) n)).lt i
    generalize orT (eqL n (cls (cirL n l) n)) i = o at *
    rw [← e] at hfree hc ⊢
    have hs := cls_sep (i := k) hn hb
    have h1 := sep_add (hb.rkOn n) hc (Nat.or_lt_two_pow ho hc) hs
    have e1 : (o ||| cls (cirL n l) n k) &&& cls (cirL n l) n k = cls (cirL n l) n k := Nat.eq_of_testBit_eq fun j => by
      rw [Nat.testBit_and, Nat.testBit_or]
      cases (cls (cirL n l) n k).testBit j <;> simp
    have e2 : dif (o ||| cls (cirL n l) n k) (cls (cirL n l) n k) = o := Nat.eq_of_testBit_eq fun j => by
      rw [dif_bit, Nat.testBit_or]
      have h2 : (o &&& cls (cirL n l) n k).testBit j = false := by rw [hfree, Nat.zero_testBit]
      rw [Nat.testBit_and] at h2
      revert h2
      cases o.testBit j <;> cases (cls (cirL n l) n k).testBit j <;> simp
    rw [e1, e2] at h1
    omega
end Go.Proofs.Ytcncaaeofcmefaa

namespace Go.Proofs.Ytcncaaeofcmefaa

/-- Are i and j loops both, or parallel? -/
def parP (r : Nat → Nat) (i j : Nat) : Bool := r (2 ^ i ||| 2 ^ j) == r (2 ^ i) && r (2 ^ i ||| 2 ^ j) == r (2 ^ j)
theorem par_iff {r : Nat → Nat} {i j : Nat} : parP r i j = true ↔ r (2 ^ i ||| 2 ^ j) = r (2 ^ i) ∧ r (2 ^ i ||| 2 ^ j) = r (2 ^ j) := by
  unfold parP
  rw [Bool.and_eq_true, beq_iff_eq, beq_iff_eq]
theorem par_symm {r : Nat → Nat} {i j : Nat} (h : parP r i j = true) : parP r j i = true := by
  rw [par_iff] at h ⊢
  rw [Nat.or_comm]
  exact ⟨h.2, h.1⟩
theorem par_trans {r : Nat → Nat} (hr : Rk r) {i j k : Nat} (h1 : parP r i j = true) (h2 : parP r j k = true) : parP r i k = true := by
  rw [par_iff] at h1 h2 ⊢
  have hs := hr.sub (2 ^ i ||| 2 ^ j) (2 ^ j ||| 2 ^ k)
  have m1 := hr.mono (2 ^ i ||| 2 ^ k) ((2 ^ i ||| 2 ^ j) ||| (2 ^ j ||| 2 ^ k)) (subB_iff.2 fun x hx => by
    simp only [Nat.testBit_or] at hx ⊢
    revert hx
    cases (2 ^ i).testBit x <;> cases (2 ^ k).testBit x <;> simp)
  have m2 := hr.mono (2 ^ j) ((2 ^ i ||| 2 ^ j) &&& (2 ^ j ||| 2 ^ k)) (subB_iff.2 fun x hx => by
    simp only [Nat.testBit_and, Nat.testBit_or, hx]
    simp)
  have m3 := hr.mono (2 ^ i) (2 ^ i ||| 2 ^ k) (subB_iff.2 fun x hx => by rw [Nat.testBit_or, hx]; rfl)
  have m4 := hr.mono (2 ^ k) (2 ^ i ||| 2 ^ k) (subB_iff.2 fun x hx => by rw [Nat.testBit_or, hx, Bool.or_true])
  omega
/-- An element's class. -/
def pcl (r : Nat → Nat) (n i : Nat) : Nat := (List.range n).foldl (fun a j => if i = j ∨ parP r i j = true then a ||| 2 ^ j else a) 0
theorem pcl_bit (r : Nat → Nat) (n i j : Nat) : (pcl r n i).testBit j = (decide (j < n) && decide (i = j ∨ parP r i j = true)) := by
  unfold pcl
  have key : ∀ (xs : List Nat) (a : Nat), (xs.foldl (fun a j => if i = j ∨ parP r i j = true then a ||| 2 ^ j else a) a).testBit j = (a.testBit j || (decide (j ∈ xs) && decide (i = j ∨ parP r i j = true))) := fun xs => by
    induction xs with
    | nil => intro a; simp
    | cons x xs ih =>
      intro a
      rw [List.foldl_cons, ih]
      by_cases hx : i = x ∨ parP r i x = true
      · rw [if_pos hx, Nat.testBit_or, Nat.testBit_two_pow]
        by_cases e : x = j
        · subst e
          rw [decide_eq_true hx]
          simp
        · have e' : ¬ j = x := fun c => e c.symm
          simp [e, e']
      · rw [if_neg hx]
        by_cases e : j = x
        · subst e
          rw [decide_eq_false hx]
          simp
        · simp [e]
  rw [key, Nat.zero_testBit, Bool.false_or]
  simp
theorem pcl_eqv {n : Nat} {r : Nat → Nat} (hr : Rk r) : Eqv n (pcl r n) where
  lt := fun i _ => lt_of_bits fun j hj => by rw [pcl_bit, Bool.and_eq_true, decide_eq_true_iff] at hj; exact hj.1
  self := fun i hi => by rw [pcl_bit, decide_eq_true hi, decide_eq_true (.inl rfl)]; rfl
  same := fun i j hi h => by
    rw [pcl_bit, Bool.and_eq_true, decide_eq_true_iff, decide_eq_true_iff] at h
    refine Nat.eq_of_testBit_eq fun k => ?_
    rw [pcl_bit, pcl_bit]
    congr 1
    rw [Bool.eq_iff_iff, decide_eq_true_iff, decide_eq_true_iff]
    rcases h.2 with rfl | hij
    · exact Iff.rfl
    · constructor
      · rintro (rfl | hik)
        · exact .inr (par_symm hij)
        · exact .inr (par_trans hr (par_symm hij) hik)
      · rintro (rfl | hjk)
        · exact .inr hij
        · exact .inr (par_trans hr hij hjk)
theorem pcl_T {n : Nat} {r : Nat → Nat} : ∀ i j, i < n → j < n → (pcl r n i).testBit j = (decide (i = j) || parP r i j) := fun i j _ hj => by
  rw [pcl_bit, decide_eq_true hj, Bool.true_and, Bool.eq_iff_iff, decide_eq_true_iff, Bool.or_eq_true, decide_eq_true_iff]
/-- A class has its elements' rank. -/
theorem pcl_rk {n : Nat} {r : Nat → Nat} (hn : n ≤ 8) (hr : Rk r) {i : Nat} (hi : i < n) : r (pcl r n i) = r (2 ^ i) := by
  have hE := pcl_eqv (n := n) hr
  have key : ∀ (N t : Nat), pop t ≤ N → subB t (pcl r n i) = true → r (2 ^ i ||| t) = r (2 ^ i) := by
    intro N
    induction N with
    | zero =>
      intro t h0 hs
      have : t = 0 := (pop_pos t (lt256 hn (sub_lt hs (hE.lt i hi)))).1 (by omega)
      rw [this, Nat.or_zero]
    | succ N ih =>
      intro t hN hs
      by_cases e0 : t = 0
      · rw [e0, Nat.or_zero]
      · obtain ⟨x, hx⟩ := exists_bit e0
        have h8 := lt256 hn (sub_lt hs (hE.lt i hi))
        have h1 := pop_rm' h8 hx
        have hxc := subB_iff.1 hs x hx
        rw [pcl_bit, Bool.and_eq_true, decide_eq_true_iff, decide_eq_true_iff] at hxc
        have h3 := ih (rm t x) (by omega) (subB_iff.2 fun y hy => by rw [rm_bit, Bool.and_eq_true] at hy; exact subB_iff.1 hs y hy.1)
        have h4 : r (2 ^ i ||| 2 ^ x) = r (2 ^ i) := by
          rcases hxc.2 with rfl | h
          · rw [Nat.or_self]
          · exact (par_iff.1 h).1
        have h5 := hr.sub (2 ^ i ||| rm t x) (2 ^ i ||| 2 ^ x)
        have e1 : (2 ^ i ||| rm t x) ||| (2 ^ i ||| 2 ^ x) = 2 ^ i ||| t := Nat.eq_of_testBit_eq fun y => by
          simp only [Nat.testBit_or, rm_bit, Nat.testBit_two_pow]
          by_cases ey : x = y
          · subst ey; simp [hx]
          · cases decide (i = y) <;> simp [ey]
        have h6 := hr.mono (2 ^ i) ((2 ^ i ||| rm t x) &&& (2 ^ i ||| 2 ^ x)) (subB_iff.2 fun y hy => by rw [Nat.testBit_and, Nat.testBit_or, Nat.testBit_or, hy]; rfl)
        have h7 := hr.mono (2 ^ i) (2 ^ i ||| t) (subB_iff.2 fun y hy => by rw [Nat.testBit_or, hy]; rfl)
        rw [e1] at h5
        omega
  have h1 := key _ _ (Nat.le_refl _) (sub_refl (pcl r n i))
  have e : 2 ^ i ||| pcl r n i = pcl r n i := Nat.eq_of_testBit_eq fun y => by
    rw [Nat.testBit_or, Nat.testBit_two_pow]
    by_cases ey : i = y
    · subst ey; simp [hE.self i hi]
    · simp [ey]
  rw [e] at h1
  exact h1
/-- What goes: loops, and all but the least of parallel ones. -/
def goneP (r : Nat → Nat) (L : List Nat) : Nat := L.foldl (fun g c => if 0 < r c then dif (g ||| c) (2 ^ tz c) else g ||| c) 0
theorem gone_fold {r : Nat → Nat} {j : Nat} : ∀ (L : List Nat) (g : Nat), (∀ c ∈ L, c.testBit j = false ∧ c < 256 ∧ 0 < c) → (L.foldl (fun g c => if 0 < r c then dif (g ||| c) (2 ^ tz c) else g ||| c) g).testBit j = g.testBit j
  | [], g, _ => rfl
  | c :: L, g, h => by
    obtain ⟨h1, h2, h3⟩ := h c List.mem_cons_self
    rw [List.foldl_cons, gone_fold L _ fun d hd => h d (List.mem_cons_of_mem _ hd)]
    by_cases hc : 0 < r c
    · rw [if_pos hc, dif_bit, Nat.testBit_or, h1, Bool.or_false, Nat.testBit_two_pow]
      have : tz c ≠ j := fun e => by
        have := tz_bit c h2 h3
        rw [e, h1] at this
        cases this
      simp [this]
    · rw [if_neg hc, Nat.testBit_or, h1, Bool.or_false]
theorem gone_bit {n : Nat} {r : Nat → Nat} (hn : n ≤ 8) (hr : Rk r) {i : Nat} (hi : i < n) : (goneP r (eqL n (pcl r n))).testBit i = (decide (r (2 ^ i) = 0) || decide (tz (pcl r n i) ≠ i)) := by
  have hE := pcl_eqv (n := n) hr
  have hmem : pcl r n i ∈ eqL n (pcl r n) := (mem_eqL hE).2 ⟨i, hi, rfl⟩
  have hprop : ∀ c ∈ eqL n (pcl r n), c < 256 ∧ 0 < c := fun c hc => by
    obtain ⟨k, hk, rfl⟩ := (mem_eqL hE).1 hc
    refine ⟨lt256 hn (hE.lt k hk), Nat.pos_of_ne_zero fun e => ?_⟩
    have := hE.self k hk
    rw [e, Nat.zero_testBit] at this
    cases this
  obtain ⟨A, B, hAB⟩ := List.append_of_mem hmem
  have hnd : (eqL n (pcl r n)).Nodup := (eq_fam n _).up.imp (fun h => Nat.ne_of_lt h)
  have hout : ∀ c ∈ eqL n (pcl r n), c ≠ pcl r n i → c.testBit i = false := fun c hc hne => Bool.eq_false_iff.2 fun hb => hne (by
    obtain ⟨k, hk, rfl⟩ := (mem_eqL hE).1 hc
    exact hE.same k i hk hb)
  have hnotB : ∀ c ∈ B, c ≠ pcl r n i := fun c hc e => by
    rw [hAB, List.nodup_append] at hnd
    exact (List.nodup_cons.1 hnd.2.1).1 (e ▸ hc)
  unfold goneP
  rw [hAB, List.foldl_append, List.foldl_cons, gone_fold B _ fun c hc => by
    have hc2 : c ∈ eqL n (pcl r n) := by rw [hAB]; exact List.mem_append_right _ (List.mem_cons_of_mem _ hc)
    exact ⟨hout c hc2 (hnotB c hc), hprop c hc2⟩]
  rw [pcl_rk hn hr hi]
  have hself := hE.self i hi
  by_cases hz : 0 < r (2 ^ i)
  · rw [if_pos hz, dif_bit, Nat.testBit_or, hself, Bool.or_true, Bool.true_and, Nat.testBit_two_pow]
    have : ¬ r (2 ^ i) = 0 := by omega
    by_cases e : tz (pcl r n i) = i <;> simp [this, e]
  · rw [if_neg hz, Nat.testBit_or, hself, Bool.or_true]
    have : r (2 ^ i) = 0 := by omega
    simp [this]
/-- Where no two are parallel and there is no loop, nothing goes, and each class is one element. -/
theorem simple_none {n : Nat} {r : Nat → Nat} (hn : n ≤ 8) (hr : Rk r) (h1 : ∀ i, i < n → r (2 ^ i) = 1) (h2 : ∀ i j, i < n → j < n → i ≠ j → parP r i j = false) : goneP r (eqL n (pcl r n)) = 0 ∧ (eqL n (pcl r n)).length = n := by
  have hE := pcl_eqv (n := n) hr
  have hone : ∀ i, i < n → pcl r n i = 2 ^ i := fun i hi => Nat.eq_of_testBit_eq fun j => by
    rw [pcl_bit, Nat.testBit_two_pow]
    by_cases hj : j < n
    · by_cases e : i = j
      · subst e; simp [hi]
      · rw [decide_eq_true hj, Bool.true_and, decide_eq_false e]
        refine decide_eq_false fun c => ?_
        rcases c with c | c
        · exact e c
        · rw [h2 i j hi hj e] at c
          cases c
    · have : i ≠ j := by omega
      simp [hj, this]
  constructor
  · refine Nat.eq_of_testBit_eq fun j => ?_
    rw [Nat.zero_testBit]
    by_cases hj : j < n
    · rw [gone_bit hn hr hj, hone j hj, h1 j hj]
      have ht : tz (2 ^ j) = j := by
        have : ∀ j, j < 8 → tz (2 ^ j) = j := by decide
        exact this j (by omega)
      simp [ht]
    · have hlt : goneP r (eqL n (pcl r n)) < 2 ^ n := by
        have key : ∀ (L : List Nat) (g : Nat), g < 2 ^ n → (∀ c ∈ L, c < 2 ^ n) → L.foldl (fun g c => if 0 < r c then dif (g ||| c) (2 ^ tz c) else g ||| c) g < 2 ^ n := fun L => by
          induction L with
          | nil => intro g hg _; exact hg
          | cons c L ih =>
            intro g hg hc
            rw [List.foldl_cons]
            have hgc : g ||| c < 2 ^ n := Nat.or_lt_two_pow hg (hc c List.mem_cons_self)
            refine ih _ ?_ fun d hd => hc d (List.mem_cons_of_mem _ hd)
            split
            · exact difn_lt hgc
            · exact hgc
        exact key _ 0 (Nat.two_pow_pos n) (eq_fam n _).lt
      exact Nat.testBit_lt_two_pow (Nat.lt_of_lt_of_le hlt (Nat.pow_le_pow_right (by decide) (by omega)))
  · have hnd : (eqL n (pcl r n)).Nodup := (eq_fam n _).up.imp (fun h => Nat.ne_of_lt h)
    have hnd2 : ((List.range n).map fun i => 2 ^ i).Nodup := by
      refine List.pairwise_map.2 (List.Pairwise.imp (fun h e => h (Nat.pow_right_inj (by decide) |>.1 e)) List.nodup_range)
    have hp := (List.perm_ext_iff_of_nodup hnd hnd2).2 fun s => by
      rw [mem_eqL hE, List.mem_map]
      constructor
      · rintro ⟨i, hi, rfl⟩
        exact ⟨i, List.mem_range.2 hi, (hone i hi).symm⟩
      · rintro ⟨i, hi, rfl⟩
        exact ⟨i, List.mem_range.1 hi, hone i (List.mem_range.1 hi)⟩
    rw [hp.length_eq]
    simp
/-- What is left behind Simple has neither loops nor parallel ones. -/
theorem simple_left {n : Nat} {l : List Nat} (hn : n ≤ 8) (hb : Bas l) : (∀ i, i < pop (dif (2 ^ n - 1) (goneP (rk l) (eqL n (pcl (rk l) n)))) → rk (minL n l (goneP (rk l) (eqL n (pcl (rk l) n))) 0) (2 ^ i) = 1) ∧ ∀ i j, i < pop (dif (2 ^ n - 1) (goneP (rk l) (eqL n (pcl (rk l) n)))) → j < pop (dif (2 ^ n - 1) (goneP (rk l) (eqL n (pcl (rk l) n)))) → i ≠ j → parP (rk (minL n l (goneP (rk l) (eqL n (pcl (rk l) n))) 0)) i j = false := by
  have hE := pcl_eqv (n := n) hb.rk
  obtain ⟨K, hK⟩ : ∃ K, dif (2 ^ n - 1) (goneP (rk l) (eqL n (pcl (rk l) n))) = K := ⟨_, rfl⟩
  have hKb : ∀ j, K.testBit j = true → j < n ∧ rk l (2 ^ j) = 1 ∧ tz (pcl (rk l) n j) = j := fun j hj => by
    rw [← hK, dif_bit, Bool.and_eq_true, Bool.not_eq_true', Nat.testBit_two_pow_sub_one, decide_eq_true_iff] at hj
    have h1 := hj.2
    rw [gone_bit hn hb.rk hj.1, Bool.or_eq_false_iff, decide_eq_false_iff_not, decide_eq_false_iff_not] at h1
    have h2 := hb.rk.le (2 ^ j)
    have h3 := pop_pow j
    exact ⟨hj.1, by omega, Classical.byContradiction h1.2⟩
  have hK8 : K < 256 := by rw [← hK]; exact kept_lt hn _
  have hone : ∀ i, i < pop K → ∃ e, (els K)[i]? = some e ∧ K.testBit e = true ∧ old (els K) (2 ^ i) = 2 ^ e := fun i hi => by
    have hl : (els K).length = pop K := els_len
    have hil : i < (els K).length := by omega
    refine ⟨(els K)[i], List.getElem?_eq_getElem hil, (mem_els8 hK8).1 (List.getElem_mem _), Nat.eq_of_testBit_eq fun j => ?_⟩
    rw [Bool.eq_iff_iff, old_bit, Nat.testBit_two_pow, decide_eq_true_iff]
    constructor
    · rintro ⟨k, hk, hb2⟩
      rw [Nat.testBit_two_pow, decide_eq_true_iff] at hb2
      subst hb2
      rw [List.getElem?_eq_getElem hil] at hk
      exact Option.some.inj hk
    · intro e
      exact ⟨i, by rw [List.getElem?_eq_getElem hil, e], by simp⟩
  have hrk : ∀ t, t < 2 ^ pop K → rk (minL n l (goneP (rk l) (eqL n (pcl (rk l) n))) 0) t = rk l (old (els K) t) := fun t ht => by
    rw [min_rk hn hb _ _ (by rw [hK]; exact ht)]
    unfold minR
    rw [hK, Nat.or_zero]
    have h0 := hb.rk.le 0
    have e : pop 0 = 0 := by decide
    omega
  rw [hK]
  constructor
  · intro i hi
    obtain ⟨e, e1, e2, e3⟩ := hone i hi
    rw [hrk _ (Nat.pow_lt_pow_right (by decide) hi), e3]
    exact (hKb e e2).2.1
  · intro i j hi hj hij
    obtain ⟨e, e1, e2, e3⟩ := hone i hi
    obtain ⟨f, f1, f2, f3⟩ := hone j hj
    refine Bool.eq_false_iff.2 fun hp => ?_
    rw [par_iff, hrk _ (Nat.or_lt_two_pow (Nat.pow_lt_pow_right (by decide) hi) (Nat.pow_lt_pow_right (by decide) hj)), hrk _ (Nat.pow_lt_pow_right (by decide) hi), hrk _ (Nat.pow_lt_pow_right (by decide) hj), old_or, e3, f3] at hp
    obtain ⟨k1, k2, k3⟩ := hKb e e2
    obtain ⟨m1, m2, m3⟩ := hKb f f2
    have hcl : pcl (rk l) n e = pcl (rk l) n f := hE.same e f k1 (by rw [pcl_bit, decide_eq_true m1, decide_eq_true (.inr (par_iff.2 hp))]; rfl)
    have hef : e = f := by rw [← k3, ← m3, hcl]
    subst hef
    have hl : (els K).length = pop K := els_len
    have h1 : (els K)[i]? = (els K)[j]? := by rw [e1, f1]
    have hnd : (els K).Nodup := by unfold els; exact List.nodup_range.sublist List.filter_sublist
    exact hij ((List.getElem?_inj (by omega) hnd).1 h1)
end Go.Proofs.Ytcncaaeofcmefaa

namespace Go.Proofs.Ytcncaaeofcmefaa

theorem pop_two : ∀ n, n ≤ 8 → ∀ s, s < 256 → pop s = pop (s % 2 ^ n) + pop (s / 2 ^ n) := by decide +kernel
theorem rm_mod {n s i : Nat} : rm s i % 2 ^ n = rm (s % 2 ^ n) i := Nat.eq_of_testBit_eq fun j => by
  rw [Nat.testBit_mod_two_pow, rm_bit, rm_bit, Nat.testBit_mod_two_pow, Bool.and_assoc]
theorem rm_div {n s i : Nat} (hi : i < n) : rm s i / 2 ^ n = s / 2 ^ n := Nat.eq_of_testBit_eq fun j => by
  rw [Nat.testBit_div_two_pow, rm_bit, Nat.testBit_div_two_pow]
  have : i ≠ j + n := by omega
  simp [this]
theorem rm_mod' {n s i : Nat} : rm s (n + i) % 2 ^ n = s % 2 ^ n := Nat.eq_of_testBit_eq fun j => by
  rw [Nat.testBit_mod_two_pow, rm_bit, Nat.testBit_mod_two_pow]
  by_cases hj : j < n
  · have : n + i ≠ j := by omega
    simp [this]
  · simp [hj]
theorem rm_div' {n s i : Nat} : rm s (n + i) / 2 ^ n = rm (s / 2 ^ n) i := Nat.eq_of_testBit_eq fun j => by
  rw [Nat.testBit_div_two_pow, rm_bit, rm_bit, Nat.testBit_div_two_pow]
  have : decide (n + i ≠ j + n) = decide (i ≠ j) := by
    rw [Bool.eq_iff_iff, decide_eq_true_iff, decide_eq_true_iff]
    omega
  rw [this]
/-- The sum's ranks. -/
def sumR (n : Nat) (r q : Nat → Nat) (s : Nat) : Nat := r (s % 2 ^ n) + q (s / 2 ^ n)
theorem mod_or (n s t : Nat) : (s ||| t) % 2 ^ n = s % 2 ^ n ||| t % 2 ^ n := Nat.eq_of_testBit_eq fun j => by
  simp only [Nat.testBit_mod_two_pow, Nat.testBit_or]
  cases decide (j < n) <;> simp
theorem mod_and (n s t : Nat) : (s &&& t) % 2 ^ n = s % 2 ^ n &&& t % 2 ^ n := Nat.eq_of_testBit_eq fun j => by
  simp only [Nat.testBit_mod_two_pow, Nat.testBit_and]
  cases decide (j < n) <;> simp
theorem div_or (n s t : Nat) : (s ||| t) / 2 ^ n = s / 2 ^ n ||| t / 2 ^ n := Nat.eq_of_testBit_eq fun j => by simp only [Nat.testBit_div_two_pow, Nat.testBit_or]
theorem div_and (n s t : Nat) : (s &&& t) / 2 ^ n = s / 2 ^ n &&& t / 2 ^ n := Nat.eq_of_testBit_eq fun j => by simp only [Nat.testBit_div_two_pow, Nat.testBit_and]
theorem mod_ltn (n s : Nat) : s % 2 ^ n < 2 ^ n := Nat.mod_lt _ (Nat.two_pow_pos n)
theorem div_ltn {n k s : Nat} (h : s < 2 ^ (n + k)) : s / 2 ^ n < 2 ^ k := by
  rw [Nat.pow_add] at h
  exact Nat.div_lt_of_lt_mul h
theorem sum_rkOn {n k : Nat} {r q : Nat → Nat} (hnk : n + k ≤ 8) (hr : RkOn n r) (hq : RkOn k q) : RkOn (n + k) (sumR n r q) where
  le := fun s hs => by
    have h1 := hr.le _ (mod_ltn n s)
    have h2 := hq.le _ (div_ltn hs)
    have h3 := pop_two n (by omega) s (lt256 hnk hs)
    show r (s % 2 ^ n) + q (s / 2 ^ n) ≤ pop s
    omega
  mono := fun s t hs ht h => by
    have h1 := hr.mono _ _ (mod_ltn n s) (mod_ltn n t) (subB_iff.2 fun j hj => by
      rw [Nat.testBit_mod_two_pow, Bool.and_eq_true] at hj ⊢
      exact ⟨hj.1, subB_iff.1 h j hj.2⟩)
    have h2 := hq.mono _ _ (div_ltn hs) (div_ltn ht) (subB_iff.2 fun j hj => by
      rw [Nat.testBit_div_two_pow] at hj ⊢
      exact subB_iff.1 h _ hj)
    show r (s % 2 ^ n) + q (s / 2 ^ n) ≤ r (t % 2 ^ n) + q (t / 2 ^ n)
    omega
  sub := fun s t hs ht => by
    have h1 := hr.sub _ _ (mod_ltn n s) (mod_ltn n t)
    have h2 := hq.sub _ _ (div_ltn hs) (div_ltn ht)
    show r ((s ||| t) % 2 ^ n) + q ((s ||| t) / 2 ^ n) + (r ((s &&& t) % 2 ^ n) + q ((s &&& t) / 2 ^ n)) ≤ r (s % 2 ^ n) + q (s / 2 ^ n) + (r (t % 2 ^ n) + q (t / 2 ^ n))
    rw [mod_or, mod_and, div_or, div_and]
    omega
/-- A set is independent in the sum just if both its parts are. -/
theorem sum_ind {n k s : Nat} {r q : Nat → Nat} (hnk : n + k ≤ 8) (hr : RkOn n r) (hq : RkOn k q) (hs : s < 2 ^ (n + k)) : sumR n r q s = pop s ↔ r (s % 2 ^ n) = pop (s % 2 ^ n) ∧ q (s / 2 ^ n) = pop (s / 2 ^ n) := by
  have h1 := hr.le _ (mod_ltn n s)
  have h2 := hq.le _ (div_ltn hs)
  have h3 := pop_two n (by omega) s (lt256 hnk hs)
  unfold sumR
  omega
def sumL (n : Nat) (l : List Nat) (k : Nat) (l' : List Nat) : List Nat := basR (n + k) (sumR n (rk l) (rk l'))
theorem sum_fam (n : Nat) (l : List Nat) (k : Nat) (l' : List Nat) : Fam (n + k) (sumL n l k l') := basR_fam _ _
theorem sum_bas {n k : Nat} {l l' : List Nat} (hnk : n + k ≤ 8) (hb : Bas l) (hb' : Bas l') : Bas (sumL n l k l') := (sum_rkOn hnk (hb.rkOn n) (hb'.rkOn k)).bas hnk
theorem sum_rk {n k s : Nat} {l l' : List Nat} (hnk : n + k ≤ 8) (hb : Bas l) (hb' : Bas l') (hs : s < 2 ^ (n + k)) : rk (sumL n l k l') s = sumR n (rk l) (rk l') s := (sum_rkOn hnk (hb.rkOn n) (hb'.rkOn k)).rk_eq hnk hs
theorem rm_ltN {n s i : Nat} (hs : s < 2 ^ n) : rm s i < 2 ^ n := sub_lt (subB_iff.2 fun j hj => by rw [rm_bit, Bool.and_eq_true] at hj; exact hj.1) hs
/-- Its circuits are both ones'. -/
theorem sum_cir {n k c : Nat} {l l' : List Nat} (hnk : n + k ≤ 8) (hb : Bas l) (hb' : Bas l') (hc : c < 2 ^ (n + k)) : cirB (rk (sumL n l k l')) c = true ↔ (c / 2 ^ n = 0 ∧ cirB (rk l) (c % 2 ^ n) = true) ∨ (c % 2 ^ n = 0 ∧ cirB (rk l') (c / 2 ^ n) = true) := by
  have hr := hb.rkOn n
  have hq := hb'.rkOn k
  have c8 := lt256 hnk hc
  have m8 : c % 2 ^ n < 256 := lt256 (by omega) (mod_ltn n c)
  have d8 : c / 2 ^ n < 256 := lt256 (by omega) (div_ltn hc)
  have ind : ∀ s, s < 2 ^ (n + k) → (rk (sumL n l k l') s = pop s ↔ rk l (s % 2 ^ n) = pop (s % 2 ^ n) ∧ rk l' (s / 2 ^ n) = pop (s / 2 ^ n)) := fun s hs => by rw [sum_rk hnk hb hb' hs, sum_ind hnk hr hq hs]
  have zero : ∀ {L : List Nat}, Bas L → rk L 0 = pop 0 := fun hL => by
    have h1 := hL.rk.le 0
    have e : pop 0 = 0 := by decide
    omega
  have bitm : ∀ i, i < n → (c % 2 ^ n).testBit i = c.testBit i := fun i hi => by rw [Nat.testBit_mod_two_pow, decide_eq_true hi, Bool.true_and]
  have bitd : ∀ i, (c / 2 ^ n).testBit i = c.testBit (n + i) := fun i => by rw [Nat.testBit_div_two_pow, Nat.add_comm]
  rw [cir_iff c8, cir_iff m8, cir_iff d8]
  constructor
  · rintro ⟨h1, h2⟩
    rw [Ne, ind c hc] at h2
    by_cases hm : rk l (c % 2 ^ n) = pop (c % 2 ^ n)
    · have hd : rk l' (c / 2 ^ n) ≠ pop (c / 2 ^ n) := fun e => h2 ⟨hm, e⟩
      refine .inr ⟨Classical.byContradiction fun h0 => ?_, fun i hi => ?_, hd⟩
      · obtain ⟨i, hi⟩ := exists_bit h0
        have hin : i < n := bit_lt (mod_ltn n c) hi
        have h3 := h1 i (by rw [← bitm i hin]; exact hi)
        rw [ind _ (rm_ltN hc), rm_div hin] at h3
        exact hd h3.2
      · have h3 := h1 (n + i) (by rw [← bitd]; exact hi)
        rw [ind _ (rm_ltN hc), rm_div'] at h3
        exact h3.2
    · refine .inl ⟨Classical.byContradiction fun h0 => ?_, fun i hi => ?_, hm⟩
      · obtain ⟨i, hi⟩ := exists_bit h0
        have h3 := h1 (n + i) (by rw [← bitd]; exact hi)
        rw [ind _ (rm_ltN hc), rm_mod'] at h3
        exact hm h3.1
      · have hin : i < n := bit_lt (mod_ltn n c) hi
        have h3 := h1 i (by rw [← bitm i hin]; exact hi)
        rw [ind _ (rm_ltN hc), rm_mod] at h3
        exact h3.1
  · rintro (⟨h0, h1, h2⟩ | ⟨h0, h1, h2⟩)
    · refine ⟨fun i hi => ?_, fun e => h2 ((ind c hc).1 e).1⟩
      have hin : i < n := Classical.byContradiction fun hn' => by
        have : (c / 2 ^ n).testBit (i - n) = true := by rw [bitd, show n + (i - n) = i by omega]; exact hi
        rw [h0, Nat.zero_testBit] at this
        cases this
      rw [ind _ (rm_ltN hc), rm_mod, rm_div hin, h0]
      exact ⟨h1 i (by rw [bitm i hin]; exact hi), zero hb'⟩
    · refine ⟨fun i hi => ?_, fun e => h2 ((ind c hc).1 e).2⟩
      have hin : ¬ i < n := fun hin => by
        have : (c % 2 ^ n).testBit i = true := by rw [bitm i hin]; exact hi
        rw [h0, Nat.zero_testBit] at this
        cases this
      obtain ⟨j, rfl⟩ : ∃ j, i = n + j := ⟨i - n, by omega⟩
      rw [ind _ (rm_ltN hc), rm_mod', rm_div', h0]
      exact ⟨zero hb, h1 j (by rw [bitd]; exact hi)⟩
/-- The sum's classes: those of the one, and those of the other one, behind it. -/
theorem sum_tg {n k i j : Nat} {l l' : List Nat} (hnk : n + k ≤ 8) (hb : Bas l) (hb' : Bas l') : tg (cirL (n + k) (sumL n l k l')) i j = true ↔ (i < n ∧ j < n ∧ tg (cirL n l) i j = true) ∨ (n ≤ i ∧ n ≤ j ∧ tg (cirL k l') (i - n) (j - n) = true) := by
  rw [tg_iff, tg_iff, tg_iff]
  constructor
  · rintro ⟨c, c1, c2, c3, c4⟩
    rcases (sum_cir hnk hb hb' c1).1 c2 with ⟨h0, h1⟩ | ⟨h0, h1⟩
    · have hc : c = c % 2 ^ n := by
        have := Nat.div_add_mod c (2 ^ n)
        rw [h0, Nat.mul_zero, Nat.zero_add] at this
        exact this.symm
      have hlt := mod_ltn n c
      rw [← hc] at h1 hlt
      exact .inl ⟨bit_lt hlt c3, bit_lt hlt c4, c, hlt, h1, c3, c4⟩
    · have hge : ∀ x, c.testBit x = true → n ≤ x := fun x hx => Classical.byContradiction fun hn' => by
        have : (c % 2 ^ n).testBit x = true := by rw [Nat.testBit_mod_two_pow, hx, decide_eq_true (by omega)]; rfl
        rw [h0, Nat.zero_testBit] at this
        cases this
      have g3 := hge i c3
      have g4 := hge j c4
      exact .inr ⟨g3, g4, c / 2 ^ n, div_ltn c1, h1, by rw [Nat.testBit_div_two_pow, show (i - n) + n = i by omega]; exact c3, by rw [Nat.testBit_div_two_pow, show (j - n) + n = j by omega]; exact c4⟩
  · rintro (⟨_, _, c, c1, c2, c3, c4⟩ | ⟨g3, g4, c, c1, c2, c3, c4⟩)
    · have hlt : c < 2 ^ (n + k) := Nat.lt_of_lt_of_le c1 (Nat.pow_le_pow_right (by decide) (by omega))
      exact ⟨c, hlt, (sum_cir hnk hb hb' hlt).2 (.inl ⟨Nat.div_eq_of_lt c1, by rw [Nat.mod_eq_of_lt c1]; exact c2⟩), c3, c4⟩
    · have hlt : c * 2 ^ n < 2 ^ (n + k) := by rw [Nat.pow_add, Nat.mul_comm]; exact Nat.mul_lt_mul_of_pos_left c1 (Nat.two_pow_pos n)
      have hd : c * 2 ^ n / 2 ^ n = c := Nat.mul_div_cancel _ (Nat.two_pow_pos n)
      have hbit : ∀ x, n ≤ x → (c * 2 ^ n).testBit x = c.testBit (x - n) := fun x hx => by
        have h1 : (c * 2 ^ n / 2 ^ n).testBit (x - n) = (c * 2 ^ n).testBit ((x - n) + n) := Nat.testBit_div_two_pow ..
        rw [hd, show (x - n) + n = x by omega] at h1
        exact h1.symm
      exact ⟨c * 2 ^ n, hlt, (sum_cir hnk hb hb' hlt).2 (.inr ⟨Nat.mul_mod_left _ _, by rw [hd]; exact c2⟩), by rw [hbit i g3]; exact c3, by rw [hbit j g4]; exact c4⟩
theorem sum_cls_low {n k i : Nat} {l l' : List Nat} (hnk : n + k ≤ 8) (hb : Bas l) (hb' : Bas l') (hi : i < n) : cls (cirL (n + k) (sumL n l k l')) (n + k) i = cls (cirL n l) n i := Nat.eq_of_testBit_eq fun j => by
  rw [cls_bit, cls_bit, Bool.eq_iff_iff, Bool.and_eq_true, Bool.and_eq_true, decide_eq_true_iff, decide_eq_true_iff, decide_eq_true_iff, decide_eq_true_iff, sum_tg hnk hb hb']
  constructor
  · rintro ⟨h1, rfl | ⟨_, h2, h3⟩ | ⟨h2, _⟩⟩
    · exact ⟨hi, .inl rfl⟩
    · exact ⟨h2, .inr h3⟩
    · omega
  · rintro ⟨h1, rfl | h2⟩
    · exact ⟨by omega, .inl rfl⟩
    · exact ⟨by omega, .inr (.inl ⟨hi, h1, h2⟩)⟩
theorem sum_cls_high {n k i : Nat} {l l' : List Nat} (hnk : n + k ≤ 8) (hb : Bas l) (hb' : Bas l') (hi : i < k) : cls (cirL (n + k) (sumL n l k l')) (n + k) (n + i) = cls (cirL k l') k i * 2 ^ n := Nat.eq_of_testBit_eq fun j => by
  have hbit : (cls (cirL k l') k i * 2 ^ n).testBit j = (decide (n ≤ j) && (cls (cirL k l') k i).testBit (j - n)) := by
    rw [Nat.testBit_mul_two_pow]
  rw [hbit, cls_bit, cls_bit, Bool.eq_iff_iff]
  simp only [Bool.and_eq_true, decide_eq_true_iff]
  rw [sum_tg hnk hb hb']
  constructor
  · rintro ⟨h1, rfl | ⟨h2, _⟩ | ⟨_, h2, h3⟩⟩
    · exact ⟨by omega, by omega, .inl (by omega)⟩
    · omega
    · rw [show n + i - n = i by omega] at h3
      exact ⟨h2, by omega, .inr h3⟩
  · rintro ⟨h1, h2, h3 | h3⟩
    · exact ⟨by omega, .inl (by omega)⟩
    · exact ⟨by omega, .inr (.inr ⟨by omega, h1, by rw [show n + i - n = i by omega]; exact h3⟩)⟩
/-- Both ones' components, put in order, are the sum's. -/
theorem sum_comps {n k : Nat} {l l' L : List Nat} (hnk : n + k ≤ 8) (hb : Bas l) (hb' : Bas l') (h1 : L.Perm (eqL n (cls (cirL n l) n) ++ (eqL k (cls (cirL k l') k)).map (· * 2 ^ n))) (h2 : L.Pairwise (· ≤ ·)) : L = eqL (n + k) (cls (cirL (n + k) (sumL n l k l')) (n + k)) := by
  have hE := cls_eqv (n := n) (by omega) hb
  have hE' := cls_eqv (n := k) (by omega) hb'
  have hS := cls_eqv (n := n + k) hnk (sum_bas hnk hb hb')
  have nd1 : (eqL n (cls (cirL n l) n)).Nodup := (eq_fam n _).up.imp (fun h => Nat.ne_of_lt h)
  have nd2 : ((eqL k (cls (cirL k l') k)).map (· * 2 ^ n)).Nodup := List.pairwise_map.2 ((eq_fam k _).up.imp fun h e => by
    have := Nat.eq_of_mul_eq_mul_right (Nat.two_pow_pos n) e
    omega)
  have nd : (eqL n (cls (cirL n l) n) ++ (eqL k (cls (cirL k l') k)).map (· * 2 ^ n)).Nodup := by
    rw [List.nodup_append]
    refine ⟨nd1, nd2, fun a ha b hbm e => ?_⟩
    obtain ⟨i, hi, rfl⟩ := (mem_eqL hE).1 ha
    obtain ⟨c, hc, rfl⟩ := List.mem_map.1 hbm
    obtain ⟨j, hj, rfl⟩ := (mem_eqL hE').1 hc
    have h3 := hE.self i hi
    rw [e, Nat.testBit_mul_two_pow] at h3
    have : ¬ n ≤ i := by omega
    simp [this] at h3
  have hL : L.Nodup := h1.nodup_iff.2 nd
  have h3 : L.Pairwise (· < ·) := List.Pairwise.imp₂ (fun a b h4 h5 => Nat.lt_of_le_of_ne h4 h5) h2 hL
  refine sorted_ext h3 (eq_fam _ _).up fun x => ?_
  rw [h1.mem_iff, List.mem_append, List.mem_map, mem_eqL hE, mem_eqL hS]
  constructor
  · rintro (⟨i, hi, rfl⟩ | ⟨c, hc, rfl⟩)
    · exact ⟨i, by omega, sum_cls_low hnk hb hb' hi⟩
    · obtain ⟨j, hj, rfl⟩ := (mem_eqL hE').1 hc
      exact ⟨n + j, by omega, sum_cls_high hnk hb hb' hj⟩
  · rintro ⟨i, hi, rfl⟩
    by_cases hin : i < n
    · exact .inl ⟨i, hin, (sum_cls_low hnk hb hb' hin).symm⟩
    · obtain ⟨j, rfl⟩ : ∃ j, i = n + j := ⟨i - n, by omega⟩
      have hj : j < k := by omega
      exact .inr ⟨_, (mem_eqL hE').2 ⟨j, hj, rfl⟩, (sum_cls_high hnk hb hb' hj).symm⟩
end Go.Proofs.Ytcncaaeofcmefaa

namespace Go.Proofs.Ytcncaaeofcmefaa

theorem flip_cpl {n b e i : Nat} (hb : b < 2 ^ n) (he : e < n) (hi : i < n) : (2 ^ n - 1 - b) ^^^ 2 ^ e ^^^ 2 ^ i = 2 ^ n - 1 - (b ^^^ 2 ^ e ^^^ 2 ^ i) := Nat.eq_of_testBit_eq fun j => by
  rw [flip_bit, flip_bit, cpl_bit hb, cpl_bit (flip_lt (flip_lt hb he) hi), flip_bit, flip_bit]
  by_cases hj : j < n
  · simp [hj]
  · have h1 : e ≠ j := by omega
    have h2 : i ≠ j := by omega
    simp [hj, h1, h2]
theorem act_cmp {n : Nat} {l : List Nat} {b e : Nat} (hf : ∀ s ∈ l, s < 2 ^ n) (hb : b < 2 ^ n) (he : e < n) : actB (cmp n l) (2 ^ n - 1 - b) e = actB l b e := by
  rw [Bool.eq_iff_iff, act_iff, act_iff]
  refine forall_congr' fun i => forall_congr' fun hi => not_congr ?_
  rw [flip_cpl hb he (by omega), mem_cmp hf, cpl_cpl (flip_lt (flip_lt hb he) (by omega))]
  simp [cpl_lt]
theorem actI_cmp {n : Nat} {l : List Nat} {b : Nat} (hf : ∀ s ∈ l, s < 2 ^ n) (hb : b < 2 ^ n) : actI (cmp n l) (2 ^ n - 1 - b) n = actO l b n := Nat.eq_of_testBit_eq fun j => by
  rw [actI_bit, actO_bit]
  by_cases h : j < n
  · rw [act_cmp hf hb h, cpl_bit hb]; simp [h]
  · simp [h]
theorem actO_cmp {n : Nat} {l : List Nat} {b : Nat} (hf : ∀ s ∈ l, s < 2 ^ n) (hb : b < 2 ^ n) : actO (cmp n l) (2 ^ n - 1 - b) n = actI l b n := Nat.eq_of_testBit_eq fun j => by
  rw [actI_bit, actO_bit]
  by_cases h : j < n
  · rw [act_cmp hf hb h, cpl_bit hb]; simp [h]
  · simp [h]
/-- the Dual's is turned over -/
theorem wt_cmp {n : Nat} {l : List Nat} (hf : ∀ s ∈ l, s < 2 ^ n) (g : Nat → Nat → Int) : wt n (cmp n l) g = wt n l fun i j => g j i := by
  have h1 : wt n (cmp n l) g = tal (fun b => g (pop (actI (cmp n l) (2 ^ n - 1 - b) n)) (pop (actO (cmp n l) (2 ^ n - 1 - b) n))) l.reverse := by
    unfold wt
    rw [show tal (fun b => g (pop (actI (cmp n l) b n)) (pop (actO (cmp n l) b n))) (cmp n l) = tal (fun b => g (pop (actI (cmp n l) b n)) (pop (actO (cmp n l) b n))) (l.reverse.map fun s => 2 ^ n - 1 - s) from rfl, tal_map]
  rw [h1, tal_perm _ (List.reverse_perm l)]
  unfold wt
  exact tal_congr fun b hb => by rw [actI_cmp hf (hf b hb), actO_cmp hf (hf b hb)]

theorem dz_mul (c : Int) : ∀ (a b : Nat) (g : Nat → Nat → Int), dz (fun i j => c * g i j) a b = c * dz g a b
  | 0, 0, g => by simp [dz]
  | 0, b + 1, g => by
    rw [dz.eq_2, dz.eq_2, dz_mul c 0 b (fun i j => g i (j + 1)), dz_mul c 0 b g, Int.mul_sub]
  | a + 1, b, g => by
    rw [dz.eq_3, dz.eq_3, dz_mul c a b (fun i j => g (i + 1) j), dz_mul c a b g, Int.mul_sub]
theorem dz_pow (x y : Int) : ∀ a b : Nat, dz (fun i j => x ^ i * y ^ j) a b = (x - 1) ^ a * (y - 1) ^ b
  | 0, 0 => by simp [dz]
  | 0, b + 1 => by
    have h : (fun i j => x ^ i * y ^ (j + 1)) = fun i j => y * (x ^ i * y ^ j) := by
      funext i j
      rw [Int.pow_succ, Int.mul_comm y, Int.mul_assoc]
    rw [dz.eq_2, h, dz_mul, dz_pow x y 0 b, Int.pow_succ (y - 1) b]
    simp only [Int.pow_zero, Int.one_mul]
    rw [Int.mul_sub, Int.mul_one, Int.mul_comm]
  | a + 1, b => by
    have h : (fun i j => x ^ (i + 1) * y ^ j) = fun i j => x * (x ^ i * y ^ j) := by
      funext i j
      rw [Int.pow_succ, Int.mul_comm (x ^ i) x, Int.mul_assoc]
    rw [dz.eq_3, h, dz_mul, dz_pow x y a b, Int.pow_succ (x - 1) a, Int.mul_comm ((x - 1) ^ a) (x - 1), Int.mul_assoc, Int.sub_mul, Int.one_mul]
/-- the value at a point -/
def pvZ (n : Nat) (l : List Nat) (x y : Int) : Int := wt n l fun i j => x ^ i * y ^ j
theorem pv_sum {n : Nat} {l : List Nat} (hn : n ≤ 8) (hf : Fam n l) (hb : Bas l) (x y : Int) : pvZ n l x y = tal (fun s => (x - 1) ^ (rk l (2 ^ n - 1) - rk l s) * (y - 1) ^ (pop s - rk l s)) (List.range (2 ^ n)) := by
  unfold pvZ
  rw [wt_cz n l hn hf hb]
  unfold cz
  exact tal_congr fun s _ => dz_pow x y _ _
theorem tal_cnt (p : Nat → Bool) : ∀ l : List Nat, tal (fun s => if p s = true then 1 else 0) l = ((l.filter p).length : Int)
  | [] => rfl
  | a :: l => by
    simp only [tal, tal_cnt p l, List.filter_cons]
    cases h : p a
    · simp
    · simp; omega
theorem pv_11 (n : Nat) (l : List Nat) : pvZ n l 1 1 = l.length := by
  unfold pvZ wt
  rw [tal_congr (G := fun _ => 1) (fun b _ => by show (1 : Int) ^ _ * 1 ^ _ = 1; rw [Int.one_pow, Int.one_pow]; rfl), tal_const, Int.one_mul]
theorem zero_pow' (k : Nat) : (0 : Int) ^ k = if k = 0 then 1 else 0 := by
  cases k with
  | zero => rfl
  | succ k => rw [Int.pow_succ, Int.mul_zero]; rfl
theorem pv_21 {n : Nat} {l : List Nat} (hn : n ≤ 8) (hf : Fam n l) (hb : Bas l) : pvZ n l 2 1 = (((List.range (2 ^ n)).filter fun s => rk l s == pop s).length : Int) := by
  rw [pv_sum hn hf hb, ← tal_cnt]
  refine tal_congr fun s _ => ?_
  have := hb.rk.le s
  rw [show (2 : Int) - 1 = 1 from rfl, show (1 : Int) - 1 = 0 from rfl, Int.one_pow, Int.one_mul, zero_pow']
  by_cases h : rk l s = pop s
  · rw [if_pos (by omega), if_pos (by simp [h])]
  · rw [if_neg (by omega), if_neg (by simp [h])]
theorem pv_12 {n : Nat} {l : List Nat} (hn : n ≤ 8) (hf : Fam n l) (hb : Bas l) : pvZ n l 1 2 = (((List.range (2 ^ n)).filter fun s => rk l s == rk l (2 ^ n - 1)).length : Int) := by
  rw [pv_sum hn hf hb, ← tal_cnt]
  refine tal_congr fun s hs => ?_
  have := hb.rk.mono s _ (full_sub (List.mem_range.1 hs))
  rw [show (2 : Int) - 1 = 1 from rfl, show (1 : Int) - 1 = 0 from rfl, Int.one_pow, Int.mul_one, zero_pow']
  by_cases h : rk l s = rk l (2 ^ n - 1)
  · rw [if_pos (by omega), if_pos (by simp [h])]
  · rw [if_neg (by omega), if_neg (by simp [h])]
theorem pv_22 {n : Nat} {l : List Nat} (hn : n ≤ 8) (hf : Fam n l) (hb : Bas l) : pvZ n l 2 2 = (2 ^ n : Nat) := by
  rw [pv_sum hn hf hb, tal_congr (G := fun _ => 1), tal_const]
  · simp
  · intro s _
    rw [show (2 : Int) - 1 = 1 from rfl, Int.one_pow, Int.one_pow]; rfl

/-- the sets without e, and with it -/
theorem shf_oldT {k c : Nat} (hc : c < 2 ^ pop k) : shf (els k) (old (els k) c) = c := Nat.eq_of_testBit_eq fun i => by
  rw [Bool.eq_iff_iff, shf_bit]
  constructor
  · rintro ⟨x, h1, h2⟩
    obtain ⟨j, h3, h4⟩ := old_bit.1 h2
    rw [up_inj (els_up k) h1 h3]; exact h4
  · intro h
    have hi := bit_n hc h
    rw [← els_len] at hi
    exact ⟨(els k)[i], List.getElem?_eq_getElem hi, old_bit.2 ⟨i, List.getElem?_eq_getElem hi, h⟩⟩
theorem keptE_pop {n e : Nat} (hn : n ≤ 8) (he : e < n) : pop (dif (2 ^ n - 1) (2 ^ e)) + 1 = n := by
  have h1 := pop_rm (2 ^ n - 1) (lt256 hn (full_lt n)) e (by omega) (by rw [full_bit]; simpa using he)
  have h2 := popB_full n hn
  rw [h2] at h1
  have h3 : dif (2 ^ n - 1) (2 ^ e) = rm (2 ^ n - 1) e := rfl
  rw [h3]
  omega
theorem old_noE {n e : Nat} (hn : n ≤ 8) (t : Nat) : (old (els (dif (2 ^ n - 1) (2 ^ e))) t).testBit e = false := by
  have h := old_sub (kept_lt hn (2 ^ e)) t
  cases hb : (old (els (dif (2 ^ n - 1) (2 ^ e))) t).testBit e
  · rfl
  · have := subB_iff.1 h e hb
    rw [dif_bit, Nat.testBit_two_pow] at this
    simp at this
theorem rangeE_at {n e : Nat} (hn : n ≤ 8) (he : e < n) : (List.range (2 ^ n)).Perm ((List.range (2 ^ (n - 1))).map (old (els (dif (2 ^ n - 1) (2 ^ e)))) ++ (List.range (2 ^ (n - 1))).map fun t => old (els (dif (2 ^ n - 1) (2 ^ e))) t ||| 2 ^ e) := by
  have hp := keptE_pop hn he
  have hp' : n - 1 = pop (dif (2 ^ n - 1) (2 ^ e)) := by omega
  rw [hp']
  have hk := kept_lt hn (2 ^ e)
  have inj : ∀ a, a < 2 ^ pop (dif (2 ^ n - 1) (2 ^ e)) → ∀ b, b < 2 ^ pop (dif (2 ^ n - 1) (2 ^ e)) → old (els (dif (2 ^ n - 1) (2 ^ e))) a = old (els (dif (2 ^ n - 1) (2 ^ e))) b → a = b := fun a ha b hb h => by
    rw [← shf_oldT ha, ← shf_oldT hb, h]
  refine (List.perm_ext_iff_of_nodup List.nodup_range ?_).2 fun s => ?_
  · rw [List.nodup_append]
    refine ⟨?_, ?_, ?_⟩
    · refine List.pairwise_map.2 (List.Pairwise.imp_of_mem (fun {q r} hq hr hqr e' => hqr ?_) List.nodup_range)
      exact inj q (List.mem_range.1 hq) r (List.mem_range.1 hr) e'
    · refine List.pairwise_map.2 (List.Pairwise.imp_of_mem (fun {q r} hq hr hqr e' => hqr ?_) List.nodup_range)
      refine inj q (List.mem_range.1 hq) r (List.mem_range.1 hr) (Nat.eq_of_testBit_eq fun j => ?_)
      have h1 := congrArg (fun x => x.testBit j) e'
      simp only [or_bit] at h1
      by_cases hj : e = j
      · subst hj
        rw [old_noE hn, old_noE hn]
      · simpa [hj] using h1
    · intro a ha b hb hab
      rw [List.mem_map] at ha hb
      obtain ⟨x, _, rfl⟩ := ha
      obtain ⟨y, _, rfl⟩ := hb
      have h1 := congrArg (fun x => x.testBit e) hab
      simp only [or_bit] at h1
      rw [old_noE hn] at h1
      simp at h1
  · rw [List.mem_range, List.mem_append, List.mem_map, List.mem_map]
    constructor
    · intro hs
      cases hb : s.testBit e
      · refine Or.inl ⟨shf (els (dif (2 ^ n - 1) (2 ^ e))) s, List.mem_range.2 (shf_lt s), ?_⟩
        rw [old_shf hk]
        refine Nat.eq_of_testBit_eq fun j => ?_
        rw [Nat.testBit_and, dif_bit, full_bit, Nat.testBit_two_pow]
        by_cases hj : e = j
        · subst hj; simp [hb]
        · cases hsj : s.testBit j
          · simp
          · simp [hj, bit_n hs hsj]
      · refine Or.inr ⟨shf (els (dif (2 ^ n - 1) (2 ^ e))) s, List.mem_range.2 (shf_lt s), ?_⟩
        rw [old_shf hk]
        refine Nat.eq_of_testBit_eq fun j => ?_
        rw [or_bit, Nat.testBit_and, dif_bit, full_bit, Nat.testBit_two_pow]
        by_cases hj : e = j
        · subst hj; simp [hb]
        · cases hsj : s.testBit j
          · simp [hj]
          · simp [hj, bit_n hs hsj]
    · rintro (⟨t, _, rfl⟩ | ⟨t, _, rfl⟩)
      · exact old_ltn hn _ t
      · exact ad_lt (old_ltn hn _ t) he
theorem cz_at {n e : Nat} (hn : n ≤ 8) (he : e < n) (r : Nat → Nat) (g : Nat → Nat → Int) :
    cz n r g = tal (fun t => dz g (r (2 ^ n - 1) - r (old (els (dif (2 ^ n - 1) (2 ^ e))) t)) (pop t - r (old (els (dif (2 ^ n - 1) (2 ^ e))) t)) + dz g (r (2 ^ n - 1) - r (old (els (dif (2 ^ n - 1) (2 ^ e))) t ||| 2 ^ e)) (pop t + 1 - r (old (els (dif (2 ^ n - 1) (2 ^ e))) t ||| 2 ^ e))) (List.range (2 ^ (n - 1))) := by
  have hp := keptE_pop hn he
  unfold cz
  rw [tal_perm _ (rangeE_at hn he), tal_append, tal_map, tal_map, tal_add]
  congr 1
  · refine tal_congr fun t ht => ?_
    have ht := List.mem_range.1 ht
    rw [els_pop (kept_lt hn _) (by rw [show pop (dif (2 ^ n - 1) (2 ^ e)) = n - 1 by omega]; exact ht)]
  · refine tal_congr fun t ht => ?_
    have ht := List.mem_range.1 ht
    rw [pop_ad _ (lt256 hn (old_ltn hn _ t)) e (by omega) (old_noE hn t), els_pop (kept_lt hn _) (by rw [show pop (dif (2 ^ n - 1) (2 ^ e)) = n - 1 by omega]; exact ht)]
theorem min_fam' {n e : Nat} (hn : n ≤ 8) (he : e < n) (l : List Nat) (b : Nat) : Fam (n - 1) (minL n l (2 ^ e) b) := by
  have h := min_fam n l (2 ^ e) b
  have hp := keptE_pop hn he
  rwa [show pop (dif (2 ^ n - 1) (2 ^ e)) = n - 1 by omega] at h
theorem min_rk' {n e : Nat} {l : List Nat} (hn : n ≤ 8) (he : e < n) (hb : Bas l) (b : Nat) {t : Nat} (ht : t < 2 ^ (n - 1)) : rk (minL n l (2 ^ e) b) t = rk l (old (els (dif (2 ^ n - 1) (2 ^ e))) t ||| b) - rk l b := by
  have hp := keptE_pop hn he
  rw [min_rk hn hb _ _ (by rw [show pop (dif (2 ^ n - 1) (2 ^ e)) = n - 1 by omega]; exact ht)]
  rfl
theorem old_fullE {n e : Nat} (hn : n ≤ 8) (he : e < n) : old (els (dif (2 ^ n - 1) (2 ^ e))) (2 ^ (n - 1) - 1) = dif (2 ^ n - 1) (2 ^ e) := by
  have hp := keptE_pop hn he
  have := old_full (kept_lt hn (2 ^ e))
  rwa [show pop (dif (2 ^ n - 1) (2 ^ e)) = n - 1 by omega] at this
theorem dif_ad {n e : Nat} (he : e < n) : dif (2 ^ n - 1) (2 ^ e) ||| 2 ^ e = 2 ^ n - 1 := by
  have : (2 ^ n - 1).testBit e = true := by rw [full_bit]; simpa using he
  exact ad_rm this
/-- a loop -/
theorem wt_del {n e : Nat} {l : List Nat} (hn : n ≤ 8) (he : e < n) (hf : Fam n l) (hb : Bas l) (h0 : rk l (2 ^ e) = 0) (g : Nat → Nat → Int) : wt n l g = wt (n - 1) (minL n l (2 ^ e) 0) fun i j => g i (j + 1) := by
  have hr := hb.rk
  have hz := hr.zero
  have hadd : ∀ s, rk l (s ||| 2 ^ e) = rk l s := fun s => hr.add (s := 0) (by unfold subB; simp) (by rw [Nat.zero_or, h0, hz])
  rw [wt_cz n l hn hf hb, wt_cz (n - 1) _ (by omega) (min_fam' hn he l 0) (min_bas hn hb _ _), cz_at hn he]
  unfold cz
  refine tal_congr fun t ht => ?_
  have ht := List.mem_range.1 ht
  rw [min_rk' hn he hb 0 ht, min_rk' hn he hb 0 (full_lt _), old_fullE hn he, hz, Nat.or_zero, Nat.or_zero, Nat.sub_zero, Nat.sub_zero, ← dz_out, hadd]
  have hk : rk l (dif (2 ^ n - 1) (2 ^ e)) = rk l (2 ^ n - 1) := by rw [← hadd, dif_ad he]
  have hle := hr.le (old (els (dif (2 ^ n - 1) (2 ^ e))) t)
  rw [els_pop (kept_lt hn _) (by have := keptE_pop hn he; rw [show pop (dif (2 ^ n - 1) (2 ^ e)) = n - 1 by omega]; exact ht)] at hle
  rw [hk, show pop t + 1 - rk l (old (els (dif (2 ^ n - 1) (2 ^ e))) t) = pop t - rk l (old (els (dif (2 ^ n - 1) (2 ^ e))) t) + 1 by omega]
/-- a bridge -/
theorem wt_con {n e : Nat} {l : List Nat} (hn : n ≤ 8) (he : e < n) (hf : Fam n l) (hb : Bas l) (h0 : rk l (dif (2 ^ n - 1) (2 ^ e)) < rk l (2 ^ n - 1)) (g : Nat → Nat → Int) : wt n l g = wt (n - 1) (minL n l (2 ^ e) (2 ^ e)) fun i j => g (i + 1) j := by
  have hr := hb.rk
  have hz := hr.zero
  have hadd : ∀ t, rk l (old (els (dif (2 ^ n - 1) (2 ^ e))) t ||| 2 ^ e) = rk l (old (els (dif (2 ^ n - 1) (2 ^ e))) t) + 1 := fun t => by
    have a1 := hr.step (old (els (dif (2 ^ n - 1) (2 ^ e))) t) e
    have a2 := hr.mono _ _ (sub_or (old (els (dif (2 ^ n - 1) (2 ^ e))) t) (2 ^ e))
    by_cases h : rk l (old (els (dif (2 ^ n - 1) (2 ^ e))) t ||| 2 ^ e) = rk l (old (els (dif (2 ^ n - 1) (2 ^ e))) t)
    · have := hr.add (old_sub (kept_lt hn (2 ^ e)) t) h
      rw [dif_ad he] at this
      omega
    · omega
  have h1 : rk l (2 ^ e) = 1 := by
    have := hadd 0
    rw [old_zero, Nat.zero_or, hz] at this
    exact this
  rw [wt_cz n l hn hf hb, wt_cz (n - 1) _ (by omega) (min_fam' hn he l _) (min_bas hn hb _ _), cz_at hn he]
  unfold cz
  refine tal_congr fun t ht => ?_
  have ht := List.mem_range.1 ht
  rw [min_rk' hn he hb _ ht, min_rk' hn he hb _ (full_lt _), old_fullE hn he, dif_ad he, h1, hadd, ← dz_in]
  have hm := hr.mono _ _ (old_sub (kept_lt hn (2 ^ e)) t)
  rw [Int.add_comm]
  congr 2 <;> omega
/-- neither -/
theorem wt_dc {n e : Nat} {l : List Nat} (hn : n ≤ 8) (he : e < n) (hf : Fam n l) (hb : Bas l) (h0 : rk l (2 ^ e) ≠ 0) (h1 : ¬ rk l (dif (2 ^ n - 1) (2 ^ e)) < rk l (2 ^ n - 1)) (g : Nat → Nat → Int) : wt n l g = wt (n - 1) (minL n l (2 ^ e) 0) g + wt (n - 1) (minL n l (2 ^ e) (2 ^ e)) g := by
  have hr := hb.rk
  have hz := hr.zero
  have h2 : rk l (2 ^ e) = 1 := by
    have := hr.step 0 e
    rw [Nat.zero_or, hz] at this
    omega
  have h3 : rk l (dif (2 ^ n - 1) (2 ^ e)) = rk l (2 ^ n - 1) := by
    have := hr.mono _ _ (full_sub (kept_ltn n (2 ^ e)))
    omega
  rw [wt_cz n l hn hf hb, wt_cz (n - 1) _ (by omega) (min_fam' hn he l _) (min_bas hn hb _ _), wt_cz (n - 1) _ (by omega) (min_fam' hn he l _) (min_bas hn hb _ _), cz_at hn he, tal_add]
  unfold cz
  congr 1
  · refine tal_congr fun t ht => ?_
    have ht := List.mem_range.1 ht
    rw [min_rk' hn he hb 0 ht, min_rk' hn he hb 0 (full_lt _), old_fullE hn he, hz, Nat.or_zero, Nat.or_zero, Nat.sub_zero, Nat.sub_zero, h3]
  · refine tal_congr fun t ht => ?_
    have ht := List.mem_range.1 ht
    have hg := min_ge hr (old (els (dif (2 ^ n - 1) (2 ^ e))) t) (2 ^ e)
    rw [min_rk' hn he hb _ ht, min_rk' hn he hb _ (full_lt _), old_fullE hn he, dif_ad he, h2]
    rw [h2] at hg
    congr 1 <;> omega

theorem dz_add : ∀ (a b : Nat) (g h : Nat → Nat → Int), dz (fun i j => g i j + h i j) a b = dz g a b + dz h a b
  | 0, 0, g, h => by simp [dz]
  | 0, b + 1, g, h => by
    rw [dz.eq_2, dz.eq_2, dz.eq_2, dz_add 0 b (fun i j => g i (j + 1)) (fun i j => h i (j + 1)), dz_add 0 b g h]; omega
  | a + 1, b, g, h => by
    rw [dz.eq_3, dz.eq_3, dz.eq_3, dz_add a b (fun i j => g (i + 1) j) (fun i j => h (i + 1) j), dz_add a b g h]; omega
theorem dz_none : ∀ (a b : Nat), dz (fun _ _ => 0) a b = 0
  | 0, 0 => by simp [dz]
  | 0, b + 1 => by rw [dz.eq_2, dz_none 0 b]; rfl
  | a + 1, b => by rw [dz.eq_3, dz_none a b]; rfl
theorem dz_tal (h : Nat → Nat → Nat → Int) (a b : Nat) : ∀ L : List Nat, dz (fun i j => tal (fun s => h s i j) L) a b = tal (fun s => dz (h s) a b) L
  | [] => dz_none a b
  | x :: L => by
    simp only [tal]
    rw [dz_add, dz_tal h a b L]
theorem dz_two : ∀ (a1 b1 a2 b2 : Nat) (g : Nat → Nat → Int), dz g (a1 + a2) (b1 + b2) = dz (fun i j => dz (fun i' j' => g (i + i') (j + j')) a2 b2) a1 b1
  | 0, 0, a2, b2, g => by simp [dz]
  | 0, b1 + 1, a2, b2, g => by
    have h1 := dz_out g (0 + a2) (b1 + b2)
    have h2 := dz_two 0 b1 a2 b2 (fun i j => g i (j + 1))
    have h3 := dz_two 0 b1 a2 b2 g
    rw [dz.eq_2]
    have h4 : (fun i j => dz (fun i' j' => g (i + i') (j + 1 + j')) a2 b2) = fun i j => dz (fun i' j' => g (i + i') (j + j' + 1)) a2 b2 := by
      funext i j
      congr 1
      funext i' j'
      rw [Nat.add_right_comm]
    rw [h4]
    have h2' : dz (fun i j => g i (j + 1)) (0 + a2) (b1 + b2) = dz (fun i j => dz (fun i' j' => g (i + i') (j + j' + 1)) a2 b2) 0 b1 := h2
    rw [show b1 + 1 + b2 = b1 + b2 + 1 by omega]
    omega
  | a1 + 1, b1, a2, b2, g => by
    have h2 := dz_two a1 b1 a2 b2 (fun i j => g (i + 1) j)
    have h3 := dz_two a1 b1 a2 b2 g
    rw [dz.eq_3, show a1 + 1 + a2 = a1 + a2 + 1 by omega, dz.eq_3]
    have h4 : (fun i j => dz (fun i' j' => g (i + 1 + i') (j + j')) a2 b2) = fun i j => dz (fun i' j' => g (i + i' + 1) (j + j')) a2 b2 := by
      funext i j
      congr 1
      funext i' j'
      rw [Nat.add_right_comm]
    rw [h4]
    have h2' : dz (fun i j => g (i + 1) j) (a1 + a2) (b1 + b2) = dz (fun i j => dz (fun i' j' => g (i + i' + 1) (j + j')) a2 b2) a1 b1 := h2
    omega
theorem tal_mulR (F : Nat → Int) (A : Nat) : ∀ B : Nat, tal F (List.range (A * B)) = tal (fun t => tal (fun s => F (A * t + s)) (List.range A)) (List.range B)
  | 0 => by simp [tal]
  | B + 1 => by
    have h1 : List.range (B + 1) = List.range B ++ [B] := List.range_succ
    rw [Nat.mul_succ, List.range_add, tal_append, tal_map, tal_mulR F A B, h1, tal_append]
    simp [tal]
theorem tal_swapT (H : Nat → Nat → Int) (L : List Nat) : ∀ l : List Nat, tal (fun f => tal (fun g => H f g) L) l = tal (fun g => tal (fun f => H f g) l) L
  | [] => by
    simp only [tal]
    induction L with
    | nil => rfl
    | cons a L ih => simp only [tal, ← ih]; rfl
  | x :: l => by
    simp only [tal]
    rw [tal_swapT H L l, ← tal_add]
/-- sums -/
theorem wt_sum {n k : Nat} {l l' : List Nat} (hnk : n + k ≤ 8) (hf : Fam n l) (hb : Bas l) (hf' : Fam k l') (hb' : Bas l') (g : Nat → Nat → Int) : wt (n + k) (sumL n l k l') g = wt n l fun i j => wt k l' fun i' j' => g (i + i') (j + j') := by
  have h1 := wt_cz (n + k) _ hnk (sum_fam n l k l') (sum_bas hnk hb hb') g
  have h2 : (fun i j => wt k l' fun i' j' => g (i + i') (j + j')) = fun i j => cz k (rk l') fun i' j' => g (i + i') (j + j') := by
    funext i j
    exact wt_cz k l' (by omega) hf' hb' _
  rw [h1, h2, wt_cz n l (by omega) hf hb]
  unfold cz
  rw [Nat.pow_add, tal_mulR, ← tal_swapT]
  refine tal_congr fun s hs => ?_
  rw [dz_tal]
  refine tal_congr fun t ht => ?_
  have hs := List.mem_range.1 hs
  have ht := List.mem_range.1 ht
  have hlt : 2 ^ n * t + s < 2 ^ (n + k) := by
    rw [Nat.pow_add]
    calc 2 ^ n * t + s < 2 ^ n * t + 2 ^ n := by omega
      _ = 2 ^ n * (t + 1) := by rw [Nat.mul_succ]
      _ ≤ 2 ^ n * 2 ^ k := Nat.mul_le_mul_left _ ht
  have em : (2 ^ n * t + s) % 2 ^ n = s := by rw [Nat.mul_add_mod]; exact Nat.mod_eq_of_lt hs
  have ed : (2 ^ n * t + s) / 2 ^ n = t := by rw [Nat.mul_add_div (Nat.two_pow_pos n), Nat.div_eq_of_lt hs, Nat.add_zero]
  have e1 : rk (sumL n l k l') (2 ^ n * t + s) = rk l s + rk l' t := by
    rw [sum_rk hnk hb hb' hlt]; unfold sumR; rw [em, ed]
  have fl := full_lt (n + k)
  have e2 : rk (sumL n l k l') (2 ^ n * 2 ^ k - 1) = rk l (2 ^ n - 1) + rk l' (2 ^ k - 1) := by
    rw [← Nat.pow_add, sum_rk hnk hb hb' fl]
    unfold sumR
    have hk0 := Nat.one_le_two_pow (n := k)
    have hn0 := Nat.one_le_two_pow (n := n)
    have e3 : 2 ^ (n + k) - 1 = 2 ^ n * (2 ^ k - 1) + (2 ^ n - 1) := by
      rw [Nat.pow_add, Nat.mul_sub, Nat.mul_one]
      have : 2 ^ n * 1 ≤ 2 ^ n * 2 ^ k := Nat.mul_le_mul_left _ hk0
      omega
    have f1 := full_lt n
    rw [e3, Nat.mul_add_mod, Nat.mod_eq_of_lt f1, Nat.mul_add_div (Nat.two_pow_pos n), Nat.div_eq_of_lt f1, Nat.add_zero]
  have e4 : pop (2 ^ n * t + s) = pop s + pop t := by
    rw [pop_two n (by omega) _ (lt256 hnk hlt), em, ed]
  have m1 := hb.rk.mono s _ (full_sub hs)
  have m2 := hb'.rk.mono t _ (full_sub ht)
  have p1 := hb.rk.le s
  have p2 := hb'.rk.le t
  rw [e1, e2, e4, ← dz_two]
  congr 1 <;> omega
end Go.Proofs.Ytcncaaeofcmefaa

namespace Go.Proofs.Ytcncaaeofcmefaa

/-- how many of the first k bases have so many active elements -/
def tcn (n : Nat) (l : List Nat) (k i j : Nat) : Nat := ((l.take k).filter fun b => pop (actI l b n) == i && pop (actO l b n) == j).length
def ttN (n : Nat) (l : List Nat) (i j : Nat) : Nat := (l.filter fun b => pop (actI l b n) == i && pop (actO l b n) == j).length
theorem tcn_zero (n : Nat) (l : List Nat) (i j : Nat) : tcn n l 0 i j = 0 := rfl
theorem tcn_full (n : Nat) (l : List Nat) (i j : Nat) : tcn n l l.length i j = ttN n l i j := by unfold tcn ttN; rw [List.take_length]
theorem tcn_step {n : Nat} {l : List Nat} {k : Nat} (hk : k < l.length) (i j : Nat) : tcn n l (k + 1) i j = if pop (actI l (l.getD k 0) n) = i ∧ pop (actO l (l.getD k 0) n) = j then tcn n l k i j + 1 else tcn n l k i j := by
  unfold tcn
  have e : l.getD k 0 = l[k] := by simp [List.getD, hk]
  rw [List.take_succ_eq_append_getElem hk, List.filter_append, List.length_append, e, List.filter_cons]
  by_cases h : pop (actI l l[k] n) = i ∧ pop (actO l l[k] n) = j
  · rw [if_pos h, if_pos (by simp [h.1, h.2])]; rfl
  · rw [if_neg h, if_neg (by simp; exact fun h1 h2 => h ⟨h1, h2⟩)]; rfl
theorem tcn_le (n : Nat) (l : List Nat) (k i j : Nat) : tcn n l k i j ≤ l.length :=
  Nat.le_trans (List.length_filter_le _ _) (by rw [List.length_take]; omega)
theorem ttN_le (n : Nat) (l : List Nat) (i j : Nat) : ttN n l i j ≤ l.length := List.length_filter_le _ _
theorem tt_wt (n : Nat) (l : List Nat) (i j : Nat) : (ttN n l i j : Int) = wt n l fun a b => if a = i ∧ b = j then 1 else 0 := by
  unfold ttN wt
  have : ∀ k : List Nat, ((k.filter fun b => pop (actI l b n) == i && pop (actO l b n) == j).length : Int) = tal (fun b => if pop (actI l b n) = i ∧ pop (actO l b n) = j then 1 else 0) k := fun k => by
    induction k with
    | nil => rfl
    | cons a k ih =>
      simp only [tal, List.filter_cons]
      by_cases h : pop (actI l a n) = i ∧ pop (actO l a n) = j
      · rw [if_pos h, if_pos (by simp [h.1, h.2]), List.length_cons, ← ih]; omega
      · rw [if_neg h, if_neg (by simp; exact fun h1 h2 => h ⟨h1, h2⟩), ih]; omega
  exact this l
theorem actI_pop {n : Nat} {l : List Nat} (hf : Fam n l) (hb : Bas l) {b : Nat} (hbl : b ∈ l) : pop (actI l b n) ≤ rk l (2 ^ n - 1) := by
  rw [bas_top hf hb hbl]
  exact pop_sub (actI_sub l b n)
theorem actO_pop {n : Nat} {l : List Nat} (hn : n ≤ 8) (hf : Fam n l) (hb : Bas l) {b : Nat} (hbl : b ∈ l) : pop (actO l b n) + rk l (2 ^ n - 1) ≤ n := by
  rw [bas_top hf hb hbl]
  have h1 := pop_or_and (actO l b n) b
  rw [actO_out, show pop 0 = 0 from rfl] at h1
  have h2 := pop_sub (full_sub (Nat.or_lt_two_pow (actO_lt l b n) (hf.lt b hbl)))
  rw [popB_full n hn] at h2
  omega
theorem rank_n {n : Nat} {l : List Nat} (hn : n ≤ 8) (hb : Bas l) : rk l (2 ^ n - 1) ≤ n := by
  have := hb.rk.le (2 ^ n - 1)
  rwa [popB_full n hn] at this
theorem fam_lenT {n : Nat} {l : List Nat} (hn : n ≤ 8) (hf : Fam n l) : l.length ≤ 256 := by
  have h1 : l.Sublist (List.range (2 ^ n)) := by
    have h2 : (List.range (2 ^ n)).filter (fun s => memB s l) = l := by
      refine sorted_ext (List.pairwise_lt_range.filter _) hf.up fun s => ?_
      rw [List.mem_filter, List.mem_range]
      unfold memB
      simp
      exact hf.lt s
    rw [← h2]
    exact List.filter_sublist
  have := h1.length_le
  rw [List.length_range] at this
  exact Nat.le_trans this (Nat.pow_le_pow_right (by omega) hn : 2 ^ n ≤ 2 ^ 8)
end Go.Proofs.Ytcncaaeofcmefaa

namespace Go.Proofs.Ytcncaaeofcmefaa

theorem tt_zero {n : Nat} {l : List Nat} (hn : n ≤ 8) (hf : Fam n l) (hb : Bas l) {i j : Nat} (h : rk l (2 ^ n - 1) < i ∨ n - rk l (2 ^ n - 1) < j) : ttN n l i j = 0 := by
  unfold ttN
  rw [List.length_eq_zero_iff, List.filter_eq_nil_iff]
  intro b hbl
  have h1 := actI_pop hf hb hbl
  have h2 := actO_pop hn hf hb hbl
  simp
  intro e
  omega
/-- the coefficient, nought beyond the table -/
def atZ (N M : Nat) (f : Nat → Nat → Int) (i j : Int) : Int := if 0 ≤ i ∧ 0 ≤ j ∧ i < N ∧ j < M then f i.toNat j.toNat else 0
theorem at_nat {n : Nat} {l : List Nat} (hn : n ≤ 8) (hf : Fam n l) (hb : Bas l) (i j : Nat) : atZ (rk l (2 ^ n - 1) + 1) (n - rk l (2 ^ n - 1) + 1) (fun i j => (ttN n l i j : Int)) i j = ttN n l i j := by
  unfold atZ
  split
  · simp
  · rename_i h
    rw [tt_zero hn hf hb (by omega)]; rfl
theorem at_neg1 (N M : Nat) (f : Nat → Nat → Int) (j : Int) : atZ N M f (-1) j = 0 := by unfold atZ; rw [if_neg (by omega)]
theorem at_neg2 (N M : Nat) (f : Nat → Nat → Int) (i : Int) : atZ N M f i (-1) = 0 := by unfold atZ; rw [if_neg (by omega)]
/-- what a coefficient is, by the minors -/
theorem tt_loop {n e : Nat} {l : List Nat} (hn : n ≤ 8) (he : e < n) (hf : Fam n l) (hb : Bas l) (h0 : rk l (2 ^ e) = 0) (p q : Nat) : (ttN n l p q : Int) = if q = 0 then 0 else ttN (n - 1) (minL n l (2 ^ e) 0) p (q - 1) := by
  rw [tt_wt, wt_del hn he hf hb h0]
  cases q with
  | zero =>
    rw [if_pos rfl]
    unfold wt
    rw [tal_congr (G := fun _ => 0) (fun b _ => by dsimp only; rw [if_neg (by omega)]), tal_const, Int.zero_mul]; try rfl
  | succ q =>
    rw [if_neg (by omega), Nat.add_sub_cancel, tt_wt]
    congr 1
    funext i j
    simp
theorem tt_bridge {n e : Nat} {l : List Nat} (hn : n ≤ 8) (he : e < n) (hf : Fam n l) (hb : Bas l) (h0 : rk l (dif (2 ^ n - 1) (2 ^ e)) < rk l (2 ^ n - 1)) (p q : Nat) : (ttN n l p q : Int) = if p = 0 then 0 else ttN (n - 1) (minL n l (2 ^ e) (2 ^ e)) (p - 1) q := by
  rw [tt_wt, wt_con hn he hf hb h0]
  cases p with
  | zero =>
    rw [if_pos rfl]
    unfold wt
    rw [tal_congr (G := fun _ => 0) (fun b _ => by dsimp only; rw [if_neg (by omega)]), tal_const, Int.zero_mul]; try rfl
  | succ p =>
    rw [if_neg (by omega), Nat.add_sub_cancel, tt_wt]
    congr 1
    funext i j
    simp
theorem tt_both {n e : Nat} {l : List Nat} (hn : n ≤ 8) (he : e < n) (hf : Fam n l) (hb : Bas l) (h0 : rk l (2 ^ e) ≠ 0) (h1 : ¬ rk l (dif (2 ^ n - 1) (2 ^ e)) < rk l (2 ^ n - 1)) (p q : Nat) : (ttN n l p q : Int) = ttN (n - 1) (minL n l (2 ^ e) 0) p q + ttN (n - 1) (minL n l (2 ^ e) (2 ^ e)) p q := by
  rw [tt_wt, wt_dc hn he hf hb h0 h1, ← tt_wt, ← tt_wt]
theorem tal_pickT (F : Nat → Int) {a n : Nat} (h : a < n) : tal (fun i => if a = i then F i else 0) (List.range n) = F a := by
  induction n with
  | zero => omega
  | succ n ih =>
    have e1 : tal (fun i => if a = i then F i else 0) (List.range (n + 1)) = tal (fun i => if a = i then F i else 0) (List.range n) + (if a = n then F n else 0) := by
      rw [List.range_succ, tal_append]; simp [tal]
    rw [e1]
    by_cases e : a = n
    · subst e
      rw [tal_congr (G := fun _ => 0) (fun i hi => by rw [if_neg (by have := List.mem_range.1 hi; omega)]), tal_const, if_pos rfl]
      omega
    · rw [ih (by omega), if_neg e]; omega
theorem tal_pickO (F : Nat → Int) {a n : Nat} (h : ¬ a < n) : tal (fun i => if a = i then F i else 0) (List.range n) = 0 := by
  rw [tal_congr (G := fun _ => 0) (fun i hi => by rw [if_neg (by have := List.mem_range.1 hi; omega)]), tal_const, Int.zero_mul]
/-- the product of two -/
def prodZ (f h : Nat → Nat → Int) (p q c d : Nat) : Int := tal (fun c => tal (fun d => f c d * h (p - c) (q - d)) (List.range (q + 1))) (List.range c) + tal (fun d => f c d * h (p - c) (q - d)) (List.range d)
theorem tt_sum {n k : Nat} {l l' : List Nat} (hnk : n + k ≤ 8) (hf : Fam n l) (hb : Bas l) (hf' : Fam k l') (hb' : Bas l') (p q : Nat) : (ttN (n + k) (sumL n l k l') p q : Int) = tal (fun c => tal (fun d => (ttN n l c d : Int) * ttN k l' (p - c) (q - d)) (List.range (q + 1))) (List.range (p + 1)) := by
  rw [tt_wt, wt_sum hnk hf hb hf' hb']
  have h1 : ∀ i j, (wt k l' fun i' j' => if i + i' = p ∧ j + j' = q then 1 else 0) = if i ≤ p ∧ j ≤ q then (ttN k l' (p - i) (q - j) : Int) else 0 := fun i j => by
    by_cases h : i ≤ p ∧ j ≤ q
    · rw [if_pos h, tt_wt]
      congr 1
      funext a b
      have : (i + a = p ∧ j + b = q) ↔ (a = p - i ∧ b = q - j) := by omega
      simp only [this]
    · rw [if_neg h]
      unfold wt
      rw [tal_congr (G := fun _ => 0) (fun b _ => by dsimp only; rw [if_neg (by omega)]), tal_const, Int.zero_mul]; try rfl
  simp only [h1]
  have h2 : ∀ c ∈ List.range (p + 1), tal (fun d => (ttN n l c d : Int) * ttN k l' (p - c) (q - d)) (List.range (q + 1)) = tal (fun b => if pop (actI l b n) = c then (if pop (actO l b n) ≤ q then (ttN k l' (p - c) (q - pop (actO l b n)) : Int) else 0) else 0) l := fun c _ => by
    rw [tal_congr (G := fun d => tal (fun b => if pop (actO l b n) = d then (if pop (actI l b n) = c then (ttN k l' (p - c) (q - d) : Int) else 0) else 0) l) (fun d _ => by
      rw [tt_wt]
      unfold wt
      rw [Int.mul_comm, ← tal_mul]
      refine tal_congr fun b _ => ?_
      by_cases a1 : pop (actI l b n) = c <;> by_cases a2 : pop (actO l b n) = d <;> simp [a1, a2]), tal_swapT]
    refine tal_congr fun b _ => ?_
    by_cases hq : pop (actO l b n) < q + 1
    · rw [tal_pickT (fun d => if pop (actI l b n) = c then (ttN k l' (p - c) (q - d) : Int) else 0) hq]
      by_cases a1 : pop (actI l b n) = c
      · rw [if_pos a1, if_pos a1, if_pos (by omega)]
      · rw [if_neg a1, if_neg a1]
    · rw [tal_pickO _ hq]
      by_cases a1 : pop (actI l b n) = c
      · rw [if_pos a1, if_neg (by omega)]
      · rw [if_neg a1]
  rw [tal_congr h2, tal_swapT]
  unfold wt
  refine tal_congr fun b _ => ?_
  dsimp only
  by_cases hp : pop (actI l b n) < p + 1
  · rw [tal_pickT (fun c => if pop (actO l b n) ≤ q then (ttN k l' (p - c) (q - pop (actO l b n)) : Int) else 0) hp]
    by_cases a2 : pop (actO l b n) ≤ q
    · rw [if_pos ⟨by omega, a2⟩, if_pos a2]
    · rw [if_neg (fun h => a2 h.2), if_neg a2]
  · rw [tal_pickO _ hp, if_neg (by omega)]
end Go.Proofs.Ytcncaaeofcmefaa

namespace Go.Proofs.Ytcncaaeofcmefaa

/-- The word with another letter at one place. -/
def updF (f : Nat → Nat) (n x : Nat) : Nat → Nat := fun i => if i = n then x else f i
/-- The sum over all words of n letters, the i-th out of A i; behind them noughts. -/
def itr (A : Nat → List Nat) : Nat → ((Nat → Nat) → Int) → Int
  | 0, F => F fun _ => 0
  | n + 1, F => tal (fun x => itr A n fun f => F (updF f n x)) (A n)
theorem itr_congr {A : Nat → List Nat} : ∀ {n : Nat} {F G : (Nat → Nat) → Int}, (∀ f, (∀ i, i < n → f i ∈ A i) → (∀ i, n ≤ i → f i = 0) → F f = G f) → itr A n F = itr A n G
  | 0, F, G, h => h _ (fun i hi => by omega) fun _ _ => rfl
  | n + 1, F, G, h => by
    refine tal_congr fun x hx => itr_congr fun f h1 h2 => h _ (fun i hi => ?_) fun i hi => ?_
    · unfold updF
      by_cases e : i = n
      · subst e; rw [if_pos rfl]; exact hx
      · rw [if_neg e]; exact h1 i (by omega)
    · unfold updF
      rw [if_neg (by omega)]
      exact h2 i (by omega)
theorem itr_same {A B : Nat → List Nat} : ∀ {n : Nat} {F : (Nat → Nat) → Int}, (∀ i, i < n → A i = B i) → itr A n F = itr B n F
  | 0, F, h => rfl
  | n + 1, F, h => by
    show tal _ _ = tal _ _
    rw [h n (by omega)]
    exact tal_congr fun x _ => itr_same fun i hi => h i (by omega)
theorem itr_tal {A : Nat → List Nat} (L : List Nat) : ∀ {n : Nat} {F : (Nat → Nat) → Nat → Int}, itr A n (fun f => tal (F f) L) = tal (fun s => itr A n fun f => F f s) L
  | 0, F => rfl
  | n + 1, F => by
    show tal _ _ = _
    rw [tal_congr (fun x _ => itr_tal L (F := fun f => F (updF f n x)))]
    exact tal_swapT _ _ _
theorem itr_mul {A : Nat → List Nat} (c : Int) : ∀ {n : Nat} {F : (Nat → Nat) → Int}, itr A n (fun f => c * F f) = c * itr A n F
  | 0, F => rfl
  | n + 1, F => by
    show tal _ _ = c * tal _ _
    rw [← tal_mul]
    exact tal_congr fun x _ => itr_mul c
theorem itr_one {A : Nat → List Nat} {k : Nat} : ∀ {n : Nat}, (∀ i, i < n → (A i).length = k) → itr A n (fun _ => 1) = (k : Int) ^ n
  | 0, _ => rfl
  | n + 1, h => by
    show tal _ _ = _
    rw [tal_congr (G := fun _ => (k : Int) ^ n) fun x _ => itr_one fun i hi => h i (by omega), tal_const, h n (by omega), Int.pow_succ]
/-- Letter by letter something else. -/
def apF (σ : Nat → Nat → Nat) (n : Nat) (f : Nat → Nat) : Nat → Nat := fun i => if i < n then σ i (f i) else f i
theorem itr_perm {A : Nat → List Nat} {σ : Nat → Nat → Nat} : ∀ {n : Nat} {F : (Nat → Nat) → Int}, (∀ i, i < n → ((A i).map (σ i)).Perm (A i)) → itr A n (fun f => F (apF σ n f)) = itr A n F
  | 0, F, _ => by
    show F _ = F _
    congr 1
  | n + 1, F, h => by
    have e : ∀ (f : Nat → Nat) (x : Nat), apF σ (n + 1) (updF f n x) = updF (apF σ n f) n (σ n x) := fun f x => by
      funext i
      unfold apF updF
      by_cases e : i = n
      · subst e; simp
      · by_cases hi : i < n
        · simp [e, hi, Nat.lt_succ_of_lt hi]
        · have : ¬ i < n + 1 := by omega
          simp [e, hi, this]
    show tal (fun x => itr A n fun f => F (apF σ (n + 1) (updF f n x))) (A n) = tal (fun x => itr A n fun f => F (updF f n x)) (A n)
    rw [tal_congr (G := fun x => itr A n fun f => F (updF f n (σ n x))) fun x _ => ?_]
    · rw [← tal_map (fun x => itr A n fun f => F (updF f n x)) (σ n)]
      exact tal_perm _ (h n (by omega))
    · rw [← itr_perm (A := A) (n := n) (F := fun f => F (updF f n (σ n x))) fun i hi => h i (by omega)]
      exact itr_congr fun f _ _ => by rw [e]
theorem turn_perm {k t : Nat} (hk : 0 < k) : ((List.range k).map fun x => (x + t) % k).Perm (List.range k) := by
  refine (List.perm_ext_iff_of_nodup ?_ List.nodup_range).2 fun x => ?_
  · refine List.pairwise_map.2 (List.Pairwise.imp_of_mem (fun {q r} hq hr hqr e' => hqr ?_) List.nodup_range)
    have h1 := List.mem_range.1 hq
    have h2 := List.mem_range.1 hr
    have e2 : (q + t) % k = (r + t) % k := e'
    have h3 : (q + t - (r + t) : Int) % (k : Int) = 0 := by
      have := Int.emod_emod_of_dvd
      have e3 : ((q + t : Nat) : Int) % (k : Int) = ((r + t : Nat) : Int) % (k : Int) := by rw [← Int.natCast_emod, ← Int.natCast_emod, e2]
      have e4 := Int.emod_eq_emod_iff_emod_sub_eq_zero.1 e3
      simpa using e4
    obtain ⟨c, hc⟩ := Int.dvd_of_emod_eq_zero h3
    have hc0 : c = 0 := by
      rcases Int.lt_trichotomy c 0 with h | h | h
      · have : (k : Int) * c ≤ (k : Int) * (-1) := Int.mul_le_mul_of_nonneg_left (by omega) (by omega)
        omega
      · exact h
      · have : (k : Int) * 1 ≤ (k : Int) * c := Int.mul_le_mul_of_nonneg_left (by omega) (by omega)
        omega
    subst hc0
    omega
  · rw [List.mem_map, List.mem_range]
    constructor
    · rintro ⟨y, hy, rfl⟩
      exact Nat.mod_lt _ hk
    · intro hx
      refine ⟨(x + (k - t % k)) % k, List.mem_range.2 (Nat.mod_lt _ hk), ?_⟩
      have h1 := Nat.mod_lt t hk
      have h2 := Nat.mod_add_div t k
      show ((x + (k - t % k)) % k + t) % k = x
      rw [Nat.mod_add_mod, show x + (k - t % k) + t = x + k * (t / k + 1) by rw [Nat.mul_add, Nat.mul_one]; omega, Nat.add_mul_mod_self_left, Nat.mod_eq_of_lt hx]
/-- The digits of a code. -/
def digF (k n c : Nat) : Nat → Nat := fun i => if i < n then c / k ^ i % k else 0
theorem itr_code (k : Nat) : ∀ {n : Nat} {F : (Nat → Nat) → Int}, itr (fun _ => List.range k) n F = tal (fun c => F (digF k n c)) (List.range (k ^ n))
  | 0, F => by
    show F _ = tal _ [0]
    show _ = F _ + 0
    rw [Int.add_zero]
    congr 1
  | n + 1, F => by
    rw [Nat.pow_succ, tal_mulR]
    show tal _ _ = _
    refine tal_congr fun t ht => ?_
    have ht' := List.mem_range.1 ht
    rw [itr_code k]
    refine tal_congr fun s hs => ?_
    have hs' := List.mem_range.1 hs
    congr 1
    funext i
    unfold updF digF
    by_cases e : i = n
    · subst e
      rw [if_pos rfl, if_pos (by omega), Nat.mul_add_div (by omega), Nat.div_eq_of_lt hs', Nat.add_zero, Nat.mod_eq_of_lt ht']
    · rw [if_neg e]
      by_cases hi : i < n
      · rw [if_pos hi, if_pos (by omega)]
        obtain ⟨d, rfl⟩ : ∃ d, n = i + (d + 1) := ⟨n - i - 1, by omega⟩
        rw [Nat.pow_add, Nat.mul_assoc, Nat.mul_add_div (Nat.pow_pos (by omega)), Nat.pow_succ, Nat.mul_comm (k ^ d) k, Nat.mul_assoc, Nat.mul_add_mod]
      · rw [if_neg hi, if_neg (by omega)]
/-- A set of whatever is asked. -/
theorem set_of (p : Nat → Bool) : ∀ n, ∃ d, d < 2 ^ n ∧ ∀ j, j < n → d.testBit j = p j
  | 0 => ⟨0, by decide, fun j hj => by omega⟩
  | n + 1 => by
    obtain ⟨d, hd, h⟩ := set_of p n
    have hp : 2 ^ n < 2 ^ (n + 1) := Nat.pow_lt_pow_right (by omega) (by omega)
    have h0 : d.testBit n = false := Nat.testBit_lt_two_pow hd
    cases e : p n
    · refine ⟨d, by omega, fun j hj => ?_⟩
      by_cases ej : j = n
      · subst ej; rw [h0, e]
      · exact h j (by omega)
    · refine ⟨d ||| 2 ^ n, Nat.or_lt_two_pow (by omega) hp, fun j hj => ?_⟩
      rw [or_bit]
      by_cases ej : j = n
      · subst ej; simp [e]
      · rw [show decide (n = j) = false by simp; omega, Bool.or_false]
        exact h j (by omega)
end Go.Proofs.Ytcncaaeofcmefaa

namespace Go.Proofs.Ytcncaaeofcmefaa

def ea (E : List (Nat × Nat)) (j : Nat) : Nat := (E.getD j (0, 0)).1
def eb (E : List (Nat × Nat)) (j : Nat) : Nat := (E.getD j (0, 0)).2
/-- u and v hang together by edges of s. -/
inductive Conn (E : List (Nat × Nat)) (s : Nat) : Nat → Nat → Prop
  | refl (u : Nat) : Conn E s u u
  | fwd {u : Nat} (j : Nat) (hj : s.testBit j = true) (h : Conn E s u (ea E j)) : Conn E s u (eb E j)
  | bwd {u : Nat} (j : Nat) (hj : s.testBit j = true) (h : Conn E s u (eb E j)) : Conn E s u (ea E j)
variable {E : List (Nat × Nat)}
theorem Conn.trans {s u v x : Nat} (h1 : Conn E s u v) (h2 : Conn E s v x) : Conn E s u x := by
  induction h2 with
  | refl => exact h1
  | fwd j hj _ ih => exact .fwd j hj ih
  | bwd j hj _ ih => exact .bwd j hj ih
theorem Conn.symm {s u v : Nat} (h : Conn E s u v) : Conn E s v u := by
  induction h with
  | refl => exact .refl _
  | fwd j hj _ ih => exact (Conn.bwd j hj (.refl _)).trans ih
  | bwd j hj _ ih => exact (Conn.fwd j hj (.refl _)).trans ih
theorem Conn.drop {s t u v : Nat} (hd : ∀ j, t.testBit j = true → Conn E s (ea E j) (eb E j)) (h : Conn E t u v) : Conn E s u v := by
  induction h with
  | refl => exact .refl _
  | fwd j hj _ ih => exact ih.trans (hd j hj)
  | bwd j hj _ ih => exact ih.trans (hd j hj).symm
theorem Conn.edge {s j : Nat} (hj : s.testBit j = true) : Conn E s (ea E j) (eb E j) := .fwd j hj (.refl _)
theorem Conn.mono {s t u v : Nat} (hst : subB s t = true) (h : Conn E s u v) : Conn E t u v := h.drop fun j hj => .edge (subB_iff.1 hst j hj)
theorem Conn.one {s i u v : Nat} (h : Conn E (s ||| 2 ^ i) u v) : Conn E s u v ∨ (Conn E s u (ea E i) ∧ Conn E s (eb E i) v) ∨ (Conn E s u (eb E i) ∧ Conn E s (ea E i) v) := by
  induction h with
  | refl => exact .inl (.refl _)
  | fwd j hj _ ih =>
    rw [or_bit] at hj
    by_cases hs : s.testBit j = true
    · rcases ih with h | ⟨h, k⟩ | ⟨h, k⟩
      · exact .inl (.fwd j hs h)
      · exact .inr (.inl ⟨h, .fwd j hs k⟩)
      · exact .inr (.inr ⟨h, .fwd j hs k⟩)
    · have e : i = j := by simpa [Bool.eq_false_iff.2 hs] using hj
      subst e
      rcases ih with h | ⟨h, k⟩ | ⟨h, k⟩
      · exact .inr (.inl ⟨h, .refl _⟩)
      · exact .inr (.inl ⟨h, .refl _⟩)
      · exact .inl h
  | bwd j hj _ ih =>
    rw [or_bit] at hj
    by_cases hs : s.testBit j = true
    · rcases ih with h | ⟨h, k⟩ | ⟨h, k⟩
      · exact .inl (.bwd j hs h)
      · exact .inr (.inl ⟨h, .bwd j hs k⟩)
      · exact .inr (.inr ⟨h, .bwd j hs k⟩)
    · have e : i = j := by simpa [Bool.eq_false_iff.2 hs] using hj
      subst e
      rcases ih with h | ⟨h, k⟩ | ⟨h, k⟩
      · exact .inr (.inr ⟨h, .refl _⟩)
      · exact .inl h
      · exact .inr (.inr ⟨h, .refl _⟩)
theorem ad_sub (s i : Nat) : subB s (s ||| 2 ^ i) = true := sub_or _ _
theorem ad_self (s i : Nat) : (s ||| 2 ^ i).testBit i = true := by rw [or_bit]; simp
/-- An edge hangs on a set of edges: its ends do. -/
def depG (E : List (Nat × Nat)) (s i : Nat) : Prop := Conn E s (ea E i) (eb E i)
theorem depG_dep (E : List (Nat × Nat)) (n : Nat) : Dep n (depG E) where
  self := fun s i _ _ h => .edge h
  mono := fun s t i _ _ _ hst h => h.mono hst
  trans := fun s i j _ _ _ h1 h2 => h2.drop fun k hk => by
    rw [or_bit] at hk
    by_cases hs : s.testBit k = true
    · exact .edge hs
    · have e : j = k := by simpa [Bool.eq_false_iff.2 hs] using hk
      subst e
      exact h1
  exch := fun s i j _ _ _ h1 h2 => by
    rcases h2.one with h | ⟨h, k⟩ | ⟨h, k⟩
    · exact absurd h h1
    · exact ((h.mono (ad_sub s j)).symm.trans (.edge (ad_self s j))).trans (k.mono (ad_sub s j)).symm
    · exact ((k.mono (ad_sub s j)).trans (Conn.edge (ad_self s j)).symm).trans (h.mono (ad_sub s j))

/-- The parts of the vertices, by the edges of s below k: those of one part have the same number. -/
def parts (E : List (Nat × Nat)) (s : Nat) : Nat → List Nat
  | 0 => List.range 7
  | k + 1 => if s.testBit k = true then (parts E s k).map fun x => if x = (parts E s k).getD (eb E k) 0 then (parts E s k).getD (ea E k) 0 else x else parts E s k
def ringAt (E : List (Nat × Nat)) (s k : Nat) : Bool := s.testBit k && (parts E s k).getD (ea E k) 0 == (parts E s k).getD (eb E k) 0
def ringB (E : List (Nat × Nat)) (s : Nat) : Bool := (List.range E.length).any (ringAt E s)
theorem parts_len (E : List (Nat × Nat)) (s : Nat) : ∀ k, (parts E s k).length = 7
  | 0 => by unfold parts; simp
  | k + 1 => by
    unfold parts
    split
    · rw [List.length_map, parts_len E s k]
    · exact parts_len E s k
theorem map_getD {l : List Nat} {u : Nat} (f : Nat → Nat) (h : u < l.length) : (l.map f).getD u 0 = f (l.getD u 0) := by
  simp [List.getD, h]
theorem conn_zero {u v : Nat} (h : Conn E 0 u v) : u = v := by
  induction h with
  | refl => rfl
  | fwd j hj _ _ => simp at hj
  | bwd j hj _ _ => simp at hj
theorem parts_conn {n : Nat} (hE : ∀ j, j < n → ea E j < 7 ∧ eb E j < 7) (s : Nat) : ∀ k, k ≤ n → ∀ u v, u < 7 → v < 7 → ((parts E s k).getD u 0 = (parts E s k).getD v 0 ↔ Conn E (lo s k) u v)
  | 0, _, u, v, hu, hv => by
    unfold parts
    rw [lo_zero]
    simp only [List.getD, List.getElem?_range hu, List.getElem?_range hv, Option.getD_some]
    exact ⟨fun e => e ▸ .refl _, conn_zero⟩
  | k + 1, hk, u, v, hu, hv => by
    have ih := parts_conn hE s k (by omega)
    have hl := parts_len E s k
    by_cases hb : s.testBit k = true
    · unfold parts
      rw [if_pos hb, lo_hit hb, map_getD _ (by omega), map_getD _ (by omega)]
      obtain ⟨ha7, hb7⟩ := hE k (by omega)
      have iab := ih _ _ ha7 hb7
      have iub := ih u _ hu hb7
      have ivb := ih v _ hv hb7
      have iua := ih u _ hu ha7
      have iva := ih v _ hv ha7
      have iuv := ih u v hu hv
      have hm : ∀ {x y}, Conn E (lo s k) x y → Conn E (lo s k ||| 2 ^ k) x y := fun h => h.mono (ad_sub _ _)
      have hed : Conn E (lo s k ||| 2 ^ k) (ea E k) (eb E k) := .edge (ad_self _ _)
      by_cases cu : (parts E s k).getD u 0 = (parts E s k).getD (eb E k) 0 <;> by_cases cv : (parts E s k).getD v 0 = (parts E s k).getD (eb E k) 0
      · rw [if_pos cu, if_pos cv]
        exact ⟨fun _ => hm (iuv.1 (cu.trans cv.symm)), fun _ => rfl⟩
      · rw [if_pos cu, if_neg cv]
        constructor
        · intro e
          exact ((hm (iub.1 cu)).trans hed.symm).trans (hm (iva.1 e.symm)).symm
        · intro h
          rcases h.one with h | ⟨h, g⟩ | ⟨h, g⟩
          · exact absurd ((iuv.2 h).symm.trans cu) cv
          · exact absurd (ivb.2 g.symm) cv
          · exact (iva.2 g.symm).symm
      · rw [if_neg cu, if_pos cv]
        constructor
        · intro e
          exact ((hm (iua.1 e)).trans hed).trans (hm (ivb.1 cv)).symm
        · intro h
          rcases h.one with h | ⟨h, g⟩ | ⟨h, g⟩
          · exact absurd ((iuv.2 h).trans cv) cu
          · exact iua.2 h
          · exact absurd (iub.2 h) cu
      · rw [if_neg cu, if_neg cv]
        constructor
        · intro e
          exact hm (iuv.1 e)
        · intro h
          rcases h.one with h | ⟨h, g⟩ | ⟨h, g⟩
          · exact iuv.2 h
          · exact absurd (ivb.2 g.symm) cv
          · exact absurd (iub.2 h) cu
    · unfold parts
      rw [if_neg hb, lo_miss (by simpa using hb)]
      exact ih u v hu hv
theorem ring_iff (hn : E.length ≤ 8) (hE : ∀ j, j < E.length → ea E j < 7 ∧ eb E j < 7) {s : Nat} (hs : s < 2 ^ E.length) : (!ringB E s) = (depR E.length (depG E) s == pop s) := by
  rw [Bool.eq_iff_iff, beq_iff_eq, Dep.ind hn hs]
  unfold ringB ringAt
  rw [Bool.not_eq_true', List.any_eq_false]
  constructor
  · intro h i hi hb hd
    have := h i (List.mem_range.2 hi)
    simp only [hb, Bool.true_and, beq_iff_eq] at this
    exact this ((parts_conn hE s i (by omega) _ _ (hE i hi).1 (hE i hi).2).2 hd)
  · intro h i hi c
    rw [List.mem_range] at hi
    rw [Bool.and_eq_true, beq_iff_eq] at c
    exact h i hi c.1 ((parts_conn hE s i (by omega) _ _ (hE i hi).1 (hE i hi).2).1 c.2)
end Go.Proofs.Ytcncaaeofcmefaa

namespace Go.Proofs.Ytcncaaeofcmefaa

/-- Names after the first k edges of a turn. -/
def relaxTo (E : List (Nat × Nat)) (s : Nat) (f : Nat → Nat) : Nat → Nat → Nat
  | 0 => f
  | k + 1 => fun v => if s.testBit k = true then (if v = ea E k ∨ v = eb E k then min (relaxTo E s f k (ea E k)) (relaxTo E s f k (eb E k)) else relaxTo E s f k v) else relaxTo E s f k v
/-- Names after some turns. -/
def turnTo (E : List (Nat × Nat)) (s : Nat) : Nat → Nat → Nat
  | 0 => fun v => v
  | t + 1 => relaxTo E s (turnTo E s t) E.length
def isleTo (f : Nat → Nat) (k : Nat) : Nat := ((List.range k).filter fun i => f i == i).length
def isleN (n : Nat) (E : List (Nat × Nat)) (s : Nat) : Nat := isleTo (turnTo E s n) n
theorem isleTo_succ (f : Nat → Nat) (k : Nat) : isleTo f (k + 1) = isleTo f k + if f k = k then 1 else 0 := by
  unfold isleTo
  rw [List.range_succ, List.filter_append, List.length_append]
  by_cases h : f k = k <;> simp [h]
theorem isleTo_le (f : Nat → Nat) (k : Nat) : isleTo f k ≤ k := by
  have := List.length_filter_le (fun i => f i == i) (List.range k)
  rwa [List.length_range] at this
end Go.Proofs.Ytcncaaeofcmefaa

namespace Go.Proofs.Ytcncaaeofcmefaa

variable {E : List (Nat × Nat)} {s : Nat}
theorem relax_step (f : Nat → Nat) (k v : Nat) : relaxTo E s f (k + 1) v ≤ relaxTo E s f k v := by
  show (if s.testBit k = true then (if v = ea E k ∨ v = eb E k then min (relaxTo E s f k (ea E k)) (relaxTo E s f k (eb E k)) else relaxTo E s f k v) else relaxTo E s f k v) ≤ _
  split
  · split
    · rename_i h
      rcases h with h | h
      · rw [h]; exact Nat.min_le_left _ _
      · rw [h]; exact Nat.min_le_right _ _
    · exact Nat.le_refl _
  · exact Nat.le_refl _
theorem relax_down (f : Nat → Nat) (v : Nat) {j : Nat} : ∀ k, j ≤ k → relaxTo E s f k v ≤ relaxTo E s f j v
  | 0, h => by obtain rfl : j = 0 := by omega
               exact Nat.le_refl _
  | k + 1, h => by
    by_cases e : j = k + 1
    · rw [e]; exact Nat.le_refl _
    · exact Nat.le_trans (relax_step f k v) (relax_down f v k (by omega))
theorem relax_edge (f : Nat → Nat) {j k : Nat} (hj : s.testBit j = true) (hk : j < k) : relaxTo E s f k (ea E j) ≤ f (eb E j) ∧ relaxTo E s f k (eb E j) ≤ f (ea E j) := by
  have h1 : ∀ v, v = ea E j ∨ v = eb E j → relaxTo E s f (j + 1) v = min (relaxTo E s f j (ea E j)) (relaxTo E s f j (eb E j)) := fun v hv => by
    show (if s.testBit j = true then (if v = ea E j ∨ v = eb E j then min (relaxTo E s f j (ea E j)) (relaxTo E s f j (eb E j)) else relaxTo E s f j v) else relaxTo E s f j v) = _
    rw [if_pos hj, if_pos hv]
  have d1 := relax_down (E := E) (s := s) f (ea E j) k (show j + 1 ≤ k from hk)
  have d2 := relax_down (E := E) (s := s) f (eb E j) k (show j + 1 ≤ k from hk)
  rw [h1 _ (.inl rfl)] at d1
  rw [h1 _ (.inr rfl)] at d2
  have d3 : relaxTo E s f j (eb E j) ≤ f (eb E j) := relax_down f _ j (Nat.zero_le _)
  have d4 : relaxTo E s f j (ea E j) ≤ f (ea E j) := relax_down f _ j (Nat.zero_le _)
  exact ⟨Nat.le_trans d1 (Nat.le_trans (Nat.min_le_right _ _) d3), Nat.le_trans d2 (Nat.le_trans (Nat.min_le_left _ _) d4)⟩
theorem relax_conn {f : Nat → Nat} (hf : ∀ v, Conn E s v (f v)) : ∀ k v, Conn E s v (relaxTo E s f k v)
  | 0, v => hf v
  | k + 1, v => by
    have ih := relax_conn hf k
    show Conn E s v (if s.testBit k = true then (if v = ea E k ∨ v = eb E k then min (relaxTo E s f k (ea E k)) (relaxTo E s f k (eb E k)) else relaxTo E s f k v) else relaxTo E s f k v)
    split
    · rename_i hb
      split
      · rename_i h
        have h1 : ∀ x, x = relaxTo E s f k (ea E k) ∨ x = relaxTo E s f k (eb E k) → Conn E s v x := fun x hx => by
          rcases h with h | h <;> rcases hx with hx | hx <;> rw [h, hx]
          · exact ih _
          · exact (Conn.edge hb).trans (ih _)
          · exact (Conn.edge hb).symm.trans (ih _)
          · exact ih _
        rcases Nat.le_total (relaxTo E s f k (ea E k)) (relaxTo E s f k (eb E k)) with h2 | h2
        · rw [Nat.min_eq_left h2]; exact h1 _ (.inl rfl)
        · rw [Nat.min_eq_right h2]; exact h1 _ (.inr rfl)
      · exact ih v
    · exact ih v
theorem turn_conn : ∀ t v, Conn E s v (turnTo E s t v)
  | 0, v => .refl v
  | t + 1, v => relax_conn (turn_conn t) _ v
theorem turn_step (t v : Nat) : turnTo E s (t + 1) v ≤ turnTo E s t v := relax_down _ v _ (Nat.zero_le _)
/-- How many below n are such. -/
def cnP (P : Nat → Bool) (n : Nat) : Nat := ((List.range n).filter P).length
theorem cnP_succ (P : Nat → Bool) (n : Nat) : cnP P (n + 1) = cnP P n + if P n = true then 1 else 0 := by
  unfold cnP
  rw [List.range_succ, List.filter_append, List.length_append]
  by_cases h : P n = true <;> simp [h]
theorem cnP_le (P : Nat → Bool) (n : Nat) : cnP P n ≤ n := by
  have := List.length_filter_le P (List.range n)
  rwa [List.length_range] at this
theorem cnP_mono {P Q : Nat → Bool} : ∀ {n : Nat}, (∀ v, v < n → P v = true → Q v = true) → cnP P n ≤ cnP Q n
  | 0, _ => Nat.le_refl _
  | n + 1, h => by
    have ih := cnP_mono (n := n) fun v hv => h v (by omega)
    rw [cnP_succ, cnP_succ]
    have := h n (by omega)
    by_cases h1 : P n = true
    · rw [if_pos h1, if_pos (this h1)]; omega
    · rw [if_neg h1]; omega
theorem cnP_more {P Q : Nat → Bool} {x : Nat} (hx : Q x = true) (hx' : ¬ P x = true) : ∀ {n : Nat}, x < n → (∀ v, v < n → P v = true → Q v = true) → cnP P n + 1 ≤ cnP Q n
  | 0, h, _ => by omega
  | n + 1, hn, h => by
    rw [cnP_succ, cnP_succ]
    by_cases e : x = n
    · subst e
      have := cnP_mono (n := x) fun v hv => h v (by omega)
      rw [if_neg hx', if_pos hx]
      omega
    · have ih := cnP_more hx hx' (n := n) (by omega) fun v hv => h v (by omega)
      have := h n (by omega)
      by_cases h1 : P n = true
      · rw [if_pos h1, if_pos (this h1)]; omega
      · rw [if_neg h1]; omega
theorem cnP_congr {P Q : Nat → Bool} {n : Nat} (h : ∀ v, v < n → P v = Q v) : cnP P n = cnP Q n := Nat.le_antisymm (cnP_mono fun v hv e => by rw [← h v hv]; exact e) (cnP_mono fun v hv e => by rw [h v hv]; exact e)
/-- One less. -/
theorem cnP_less {P Q : Nat → Bool} {x : Nat} (hx : P x = true) : ∀ {n : Nat}, x < n → (∀ v, v < n → Q v = (P v && v != x)) → cnP Q n + 1 = cnP P n
  | 0, h, _ => by omega
  | n + 1, hn, h => by
    rw [cnP_succ, cnP_succ]
    by_cases e : x = n
    · subst e
      have h1 : cnP Q x = cnP P x := cnP_congr fun v hv => by rw [h v (by omega)]; have : (v != x) = true := by rw [bne_iff_ne]; omega
                                                              rw [this, Bool.and_true]
      have h2 : ¬ Q x = true := by rw [h x (by omega)]; simp
      rw [if_neg h2, if_pos hx, h1]
    · have ih := cnP_less hx (n := n) (by omega) fun v hv => h v (by omega)
      have h1 : Q n = P n := by rw [h n (by omega)]; have : (n != x) = true := by rw [bne_iff_ne]; omega
                                rw [this, Bool.and_true]
      rw [h1]
      omega
variable {n : Nat}
/-- After n turns every name is no more than what hangs together with it. -/
theorem turn_least (hE : ∀ j, j < E.length → ea E j < n ∧ eb E j < n) (hs : s < 2 ^ E.length) {u v : Nat} (hu : u < n) (h : Conn E s u v) : turnTo E s n v ≤ u := by
  have hbit : ∀ j, s.testBit j = true → j < E.length := fun j hj => by
    refine Nat.lt_of_not_le fun hle => ?_
    rw [Nat.testBit_lt_two_pow (Nat.lt_of_lt_of_le hs (Nat.pow_le_pow_right (by omega) hle))] at hj
    cases hj
  have key : ∀ t, (∀ v, Conn E s u v → turnTo E s t v ≤ u) ∨ t + 1 ≤ cnP (fun v => decide (turnTo E s t v ≤ u)) n := by
    intro t
    induction t with
    | zero =>
      refine .inr ?_
      have h1 := cnP_more (P := fun _ => false) (Q := fun v => decide (turnTo E s 0 v ≤ u)) (x := u) (by simp [turnTo]) (by simp) (n := n) hu fun v _ e => by cases e
      omega
    | succ t ih =>
      rcases ih with ih | ih
      · exact .inl fun v hv => Nat.le_trans (turn_step t v) (ih v hv)
      · by_cases hc : ∃ x, x < n ∧ turnTo E s (t + 1) x ≤ u ∧ ¬ turnTo E s t x ≤ u
        · obtain ⟨x, hx, h1, h2⟩ := hc
          have h3 := cnP_more (P := fun v => decide (turnTo E s t v ≤ u)) (Q := fun v => decide (turnTo E s (t + 1) v ≤ u)) (x := x) (by simpa using h1) (by simpa using h2) (n := n) hx fun v _ e => by
            have e' : turnTo E s t v ≤ u := by simpa using e
            simpa using Nat.le_trans (turn_step t v) e'
          exact .inr (by omega)
        · refine .inl fun v hv => ?_
          have h5 : ∀ x, x < n → turnTo E s (t + 1) x ≤ u → turnTo E s t x ≤ u := fun x hx h1 => Decidable.byContradiction fun h2 => hc ⟨x, hx, h1, h2⟩
          have h6 : turnTo E s t v ≤ u := by
            clear h
            induction hv with
            | refl =>
              have h7 : ∀ t, turnTo E s t u ≤ u := fun t => by
                induction t with
                | zero => exact Nat.le_refl _
                | succ t ih => exact Nat.le_trans (turn_step t u) ih
              exact h7 t
            | fwd j hj _ ih => exact h5 _ (hE j (hbit j hj)).2 (Nat.le_trans (relax_edge _ hj (hbit j hj)).2 ih)
            | bwd j hj _ ih => exact h5 _ (hE j (hbit j hj)).1 (Nat.le_trans (relax_edge _ hj (hbit j hj)).1 ih)
          exact Nat.le_trans (turn_step t v) h6
  rcases key n with k | k
  · exact k v h
  · have := cnP_le (fun v => decide (turnTo E s n v ≤ u)) n
    omega
theorem turn_lt (hE : ∀ j, j < E.length → ea E j < n ∧ eb E j < n) (hs : s < 2 ^ E.length) {v : Nat} (hv : v < n) : turnTo E s n v ≤ v := turn_least hE hs hv (.refl v)
theorem isle_cn (s : Nat) : isleN n E s = cnP (fun v => turnTo E s n v == v) n := rfl
/-- A name stays just if nothing less hangs together with it. -/
theorem turn_fix (hE : ∀ j, j < E.length → ea E j < n ∧ eb E j < n) (hs : s < 2 ^ E.length) {v : Nat} (hv : v < n) : turnTo E s n v = v ↔ ∀ u, u < n → Conn E s u v → v ≤ u := by
  constructor
  · intro h u hu hc
    have := turn_least hE hs hu hc
    omega
  · intro h
    have h1 := turn_lt hE hs hv
    have h2 := h _ (Nat.lt_of_le_of_lt h1 hv) (turn_conn (E := E) (s := s) n v).symm
    omega
theorem turn_idem (hE : ∀ j, j < E.length → ea E j < n ∧ eb E j < n) (hs : s < 2 ^ E.length) {v : Nat} (hv : v < n) : turnTo E s n (turnTo E s n v) = turnTo E s n v :=
  (turn_fix hE hs (Nat.lt_of_le_of_lt (turn_lt hE hs hv) hv)).2 fun _ hu hc => turn_least hE hs hu (hc.trans (turn_conn (E := E) (s := s) n v).symm)
theorem turn_eq (hE : ∀ j, j < E.length → ea E j < n ∧ eb E j < n) (hs : s < 2 ^ E.length) {u v : Nat} (hu : u < n) (hv : v < n) (h : Conn E s u v) : turnTo E s n u = turnTo E s n v :=
  Nat.le_antisymm (turn_least hE hs (Nat.lt_of_le_of_lt (turn_lt hE hs hv) hv) ((turn_conn (E := E) (s := s) n v).symm.trans h.symm)) (turn_least hE hs (Nat.lt_of_le_of_lt (turn_lt hE hs hu) hu) ((turn_conn (E := E) (s := s) n u).symm.trans h))
theorem isle_add (hE : ∀ j, j < E.length → ea E j < n ∧ eb E j < n) (hs : s < 2 ^ E.length) {i : Nat} (hi : i < E.length) : isleN n E s = isleN n E (s ||| 2 ^ i) + (open Classical in if depG E s i then 0 else 1) := by
  have hs' : s ||| 2 ^ i < 2 ^ E.length := Nat.or_lt_two_pow hs (Nat.pow_lt_pow_right (by omega) hi)
  obtain ⟨ha, hb⟩ := hE i hi
  by_cases hd : depG E s i
  · rw [if_pos hd, Nat.add_zero, isle_cn, isle_cn]
    refine cnP_congr fun v hv => ?_
    have h1 : ∀ u, Conn E s u v ↔ Conn E (s ||| 2 ^ i) u v := fun u => ⟨fun h => h.mono (ad_sub s i), fun h => h.drop fun j hj => by
      rw [or_bit] at hj
      by_cases h2 : s.testBit j = true
      · exact .edge h2
      · have e : i = j := by simpa [Bool.eq_false_iff.2 h2] using hj
        subst e
        exact hd⟩
    rw [Bool.eq_iff_iff, beq_iff_eq, beq_iff_eq, turn_fix hE hs hv, turn_fix hE hs' hv]
    exact ⟨fun h u hu hc => h u hu ((h1 u).2 hc), fun h u hu hc => h u hu ((h1 u).1 hc)⟩
  · rw [if_neg hd, isle_cn, isle_cn]
    obtain ⟨A, hA⟩ : ∃ A, turnTo E s n (ea E i) = A := ⟨_, rfl⟩
    obtain ⟨B, hB⟩ : ∃ B, turnTo E s n (eb E i) = B := ⟨_, rfl⟩
    have cA : Conn E s (ea E i) A := hA ▸ turn_conn n _
    have cB : Conn E s (eb E i) B := hB ▸ turn_conn n _
    have lA : A < n := by have := turn_lt hE hs ha; omega
    have lB : B < n := by have := turn_lt hE hs hb; omega
    have iA : turnTo E s n A = A := by rw [← hA]; exact turn_idem hE hs ha
    have iB : turnTo E s n B = B := by rw [← hB]; exact turn_idem hE hs hb
    have hne : A ≠ B := fun e => hd (cA.trans (e ▸ cB.symm))
    have cAB : Conn E (s ||| 2 ^ i) A B := (cA.mono (ad_sub s i)).symm.trans ((Conn.edge (ad_self s i)).trans (cB.mono (ad_sub s i)))
    obtain ⟨M, hM⟩ : ∃ M, M = max A B := ⟨_, rfl⟩
    have hMfix : turnTo E s n M = M := by
      rcases Nat.le_total A B with h | h
      · rw [hM, Nat.max_eq_right h]; exact iB
      · rw [hM, Nat.max_eq_left h]; exact iA
    refine (cnP_less (P := fun v => turnTo E s n v == v) (Q := fun v => turnTo E (s ||| 2 ^ i) n v == v) (x := M) (by simpa using hMfix) (n := n) (by rw [hM]; omega) fun v hv => ?_).symm
    show (turnTo E (s ||| 2 ^ i) n v == v) = ((turnTo E s n v == v) && v != M)
    rw [Bool.eq_iff_iff, Bool.and_eq_true, beq_iff_eq, beq_iff_eq, bne_iff_ne]
    constructor
    · intro h
      have h' := (turn_fix hE hs' hv).1 h
      refine ⟨(turn_fix hE hs hv).2 fun u hu hc => h' u hu (hc.mono (ad_sub s i)), fun e => ?_⟩
      rcases Nat.lt_or_gt_of_ne hne with hl | hl
      · have e1 : v = B := by omega
        have := h' A lA (e1 ▸ cAB)
        omega
      · have e1 : v = A := by omega
        have := h' B lB (e1 ▸ cAB.symm)
        omega
    · rintro ⟨h, hvM⟩
      refine (turn_fix hE hs' hv).2 fun u hu hc => ?_
      rcases hc.one with h1 | ⟨h1, h2⟩ | ⟨h1, h2⟩
      · exact (turn_fix hE hs hv).1 h u hu h1
      · have e1 : v = B := by rw [← h, ← hB]; exact (turn_eq hE hs hb hv h2).symm
        have e2 : A ≤ u := by rw [← hA]; exact turn_least hE hs hu h1
        omega
      · have e1 : v = A := by rw [← h, ← hA]; exact (turn_eq hE hs ha hv h2).symm
        have e2 : B ≤ u := by rw [← hB]; exact turn_least hE hs hu h1
        omega
theorem turn_none : ∀ t v, turnTo E 0 t v = v
  | 0, _ => rfl
  | t + 1, v => by
    have h1 : ∀ k, relaxTo E 0 (turnTo E 0 t) k v = v := fun k => by
      induction k with
      | zero => exact turn_none t v
      | succ k ih =>
        show (if (0 : Nat).testBit k = true then _ else relaxTo E 0 (turnTo E 0 t) k v) = v
        rw [if_neg (by simp), ih]
    exact h1 _
theorem isle_none : isleN n E 0 = n := by
  rw [isle_cn]
  have : ∀ n, cnP (fun v => turnTo E 0 n v == v) n = n ∧ ∀ k, cnP (fun v => turnTo E 0 n v == v) k = k := fun n => by
    have h : ∀ k, cnP (fun v => turnTo E 0 n v == v) k = k := fun k => by
      induction k with
      | zero => rfl
      | succ k ih => rw [cnP_succ, ih, if_pos (by simp [turn_none])]
    exact ⟨h n, h⟩
  exact (this n).1
theorem isle_rank (hE : ∀ j, j < E.length → ea E j < n ∧ eb E j < n) (hs : s < 2 ^ E.length) : n - isleN n E s = depR E.length (depG E) s := by
  have key : ∀ k, k ≤ E.length → isleN n E (lo s k) + depR E.length (depG E) (lo s k) = n := by
    intro k
    induction k with
    | zero =>
      intro _
      rw [lo_zero, isle_none]
      have h0 : depR E.length (depG E) 0 = 0 := by
        have : ∀ k, depTo (depG E) 0 k = 0 := fun k => by
          induction k with
          | zero => rfl
          | succ k ih => unfold depTo; simp [ih]
        exact this _
      rw [h0, Nat.add_zero]
    | succ k ih =>
      intro hk
      have ih := ih (by omega)
      by_cases hb : s.testBit k = true
      · rw [lo_hit hb, (depG_dep E E.length).step (lo_ltn hs k) (show k < E.length by omega)]
        have := isle_add hE (lo_ltn hs k) (show k < E.length by omega)
        by_cases hd : depG E (lo s k) k
        · rw [if_pos hd] at this ⊢; omega
        · rw [if_neg hd] at this ⊢; omega
      · rw [lo_miss (by simpa using hb)]
        exact ih
  have := key E.length (Nat.le_refl _)
  rw [lo_all hs] at this
  omega
theorem isle_basR (hE : ∀ j, j < E.length → ea E j < n ∧ eb E j < n) : (basR E.length fun s => n - isleN n E s) = basR E.length (depR E.length (depG E)) := by
  unfold basR
  refine List.filter_congr fun s hs => ?_
  dsimp only
  rw [isle_rank hE (List.mem_range.1 hs), isle_rank hE (Nat.sub_lt (Nat.two_pow_pos _) (by decide))]
end Go.Proofs.Ytcncaaeofcmefaa

namespace Go.Proofs.Ytcncaaeofcmefaa

/-- A sum of multiples of the first k rows. -/
def lcS (k : Nat) (g : Nat → Nat → Int) (x : Nat → Int) (r : Nat) : Int := sm k fun i => x i * g i r
/-- Not nought modulo p. -/
def nzB (p v : Int) : Bool := v % p != 0
theorem nzB_iff {p v : Int} : nzB p v = true ↔ ¬ Em p v 0 := by unfold nzB; rw [bne_iff_ne, Em.zero]
theorem nzB_em {p v u : Int} (h : Em p v u) : nzB p v = nzB p u := by
  rw [Bool.eq_iff_iff, nzB_iff, nzB_iff]
  exact ⟨fun a b => a (h.trans b), fun a b => a (h.symm.trans b)⟩
/-- At how many places of S, below n, it is not nought. -/
def wtS (p : Int) (n : Nat) (S : Nat → Bool) (v : Nat → Int) : Nat := cnP (fun r => S r && nzB p (v r)) n
theorem cnP_sm (P : Nat → Bool) : ∀ n, (cnP P n : Int) = sm n fun r => if P r = true then 1 else 0
  | 0 => rfl
  | n + 1 => by
    rw [cnP_succ]
    show _ = sm n _ + _
    rw [← cnP_sm P n]
    by_cases h : P n = true <;> simp [h]
theorem wtS_cg {p : Int} {n : Nat} {S : Nat → Bool} {v u : Nat → Int} (h : ∀ r, r < n → Em p (v r) (u r)) : wtS p n S v = wtS p n S u := cnP_congr fun r hr => by rw [nzB_em (h r hr)]
theorem lcS_add (k : Nat) (g : Nat → Nat → Int) (x y : Nat → Int) (c : Int) (r : Nat) : lcS k g (fun i => x i + c * y i) r = lcS k g x r + c * lcS k g y r := by
  unfold lcS
  rw [← sm_mul, ← sm_add]
  refine sm_congr fun i _ => ?_
  rw [Int.add_mul, Int.mul_assoc]
theorem lcS_sub (k : Nat) (g : Nat → Nat → Int) (x y : Nat → Int) (r : Nat) : lcS k g (fun i => x i - y i) r = lcS k g x r - lcS k g y r := by
  have := lcS_add k g x y (-1) r
  rw [show (fun i => x i + -1 * y i) = fun i => x i - y i from funext fun i => by omega] at this
  rw [this]
  omega
theorem lcS_em {p : Int} {k : Nat} {g : Nat → Nat → Int} {x y : Nat → Int} {r : Nat} (h : ∀ i, i < k → Em p (x i) (y i)) : Em p (lcS k g x r) (lcS k g y r) := Em.sm fun i hi => (h i hi).mul (Em.refl _)
/-- Rounded up. -/
def upN (a b : Nat) : Nat := if a / b * b < a then a / b + 1 else a / b
theorem upN_le {a b q : Nat} (hb : 0 < b) : upN a b ≤ q ↔ a ≤ q * b := by
  have h1 := Nat.div_mul_le_self a b
  have h2 := Nat.lt_succ_iff.1 (Nat.lt_succ_self (a / b))
  have h3 : a < (a / b + 1) * b := by
    have := Nat.lt_mul_div_succ a hb
    rw [Nat.mul_comm]
    exact this
  unfold upN
  split
  · rename_i h
    constructor
    · intro h4
      exact Nat.le_trans (Nat.le_of_lt h3) (Nat.mul_le_mul_right b h4)
    · intro h4
      apply Classical.byContradiction
      intro h5
      have := Nat.mul_le_mul_right b (show q ≤ a / b by omega)
      omega
  · rename_i h
    constructor
    · intro h4
      exact Nat.le_trans (by omega) (Nat.mul_le_mul_right b h4)
    · intro h4
      apply Classical.byContradiction
      intro h5
      have := Nat.mul_le_mul_right b (show q + 1 ≤ a / b by omega)
      rw [Nat.succ_mul] at this
      omega
theorem upN_eq {a b c d : Nat} (hb : 0 < b) (hd : 0 < d) (h : ∀ q, a ≤ q * b ↔ c ≤ q * d) : upN a b = upN c d :=
  Nat.le_antisymm ((upN_le hb).2 ((h _).2 ((upN_le hd).1 (Nat.le_refl _)))) ((upN_le hd).2 ((h _).1 ((upN_le hb).1 (Nat.le_refl _))))
theorem upN_mono {a c b : Nat} (hb : 0 < b) (h : a ≤ c) : upN a b ≤ upN c b := (upN_le hb).2 (Nat.le_trans h ((upN_le hb).1 (Nat.le_refl _)))
theorem upN_one (a : Nat) : upN a 1 = a := by unfold upN; simp
theorem upN_up {a b c : Nat} (hb : 0 < b) (hc : 0 < c) : upN (upN a b) c = upN a (b * c) := Nat.le_antisymm
  ((upN_le hc).2 ((upN_le hb).2 (by
    have := (upN_le (Nat.mul_pos hb hc)).1 (Nat.le_refl (upN a (b * c)))
    rw [Nat.mul_assoc, Nat.mul_comm c b]
    exact this)))
  ((upN_le (Nat.mul_pos hb hc)).2 (by
    have := (upN_le hb).1 ((upN_le hc).1 (Nat.le_refl (upN (upN a b) c)))
    rwa [Nat.mul_assoc, Nat.mul_comm c b] at this))
/-- What GRIESMER adds up. -/
def usN (d P : Nat) : Nat → Nat
  | 0 => 0
  | m + 1 => usN d P m + upN d (P ^ m)
theorem usN_mono {a c P : Nat} (hP : 0 < P) (h : a ≤ c) : ∀ m, usN a P m ≤ usN c P m
  | 0 => Nat.le_refl _
  | m + 1 => Nat.add_le_add (usN_mono hP h m) (upN_mono (Nat.pow_pos hP) h)
theorem usN_succ (d : Nat) {P : Nat} (hP : 0 < P) : ∀ m, usN d P (m + 1) = d + usN (upN d P) P m
  | 0 => by show 0 + upN d (P ^ 0) = d + 0; rw [Nat.pow_zero, upN_one]; omega
  | m + 1 => by
    show usN d P (m + 1) + upN d (P ^ (m + 1)) = d + (usN (upN d P) P m + upN (upN d P) (P ^ m))
    rw [usN_succ d hP m, upN_up hP (Nat.pow_pos hP), Nat.pow_succ, Nat.mul_comm (P ^ m)]
    omega
theorem ex_least {Q : Nat → Prop} (h : ∃ n, Q n) : ∃ n, Q n ∧ ∀ m, Q m → n ≤ m := by
  obtain ⟨n, hn⟩ := h
  induction n using Nat.strongRecOn with
  | _ n ih =>
    by_cases hx : ∃ m, m < n ∧ Q m
    · obtain ⟨m, h1, h2⟩ := hx
      exact ih m h1 h2
    · exact ⟨n, hn, fun m hm => Nat.le_of_not_lt fun hlt => hx ⟨m, hlt, hm⟩⟩
theorem sm_leC {s t : Nat → Int} : ∀ {n : Nat}, (∀ i, i < n → s i ≤ t i) → sm n s ≤ sm n t
  | 0, _ => Int.le_refl _
  | n + 1, h => Int.add_le_add (sm_leC fun i hi => h i (by omega)) (h n (by omega))
theorem sm_const (c : Int) : ∀ n : Nat, (sm n fun _ => c) = n * c
  | 0 => by show (0 : Int) = (0 : Nat) * c; simp
  | n + 1 => by
    show sm n (fun _ => c) + c = _
    rw [sm_const c n, Int.natCast_succ, Int.add_mul, Int.one_mul]
theorem sm_less {s : Nat → Int} {i0 n : Nat} (hi : i0 < n) (h0 : s i0 ≤ 0) (h1 : ∀ i, i < n → s i ≤ 1) : sm n s ≤ n - 1 := by
  have h2 := sm_leC (n := n) (s := s) (t := fun i => if i = i0 then 0 else 1) fun i hi => by
    by_cases e : i = i0
    · subst e; rw [if_pos rfl]; exact h0
    · rw [if_neg e]; exact h1 i hi
  have h3 := sm_put (fun _ => 1) 0 hi
  rw [sm_const] at h3
  omega
variable {P : Nat}
/-- Some multiple of w takes v away. -/
theorem hit_one (hp : isP (P : Int)) {v w : Int} (hw : ¬ Em P w 0) : ∃ l : Nat, l < P ∧ Em (P : Int) (v + (l : Int) * w) 0 := by
  obtain ⟨e, he⟩ := Em.inv hp hw
  have hP : 0 < (P : Int) := by have := isP_pos hp; omega
  have h0 := Int.emod_nonneg (-v * e) (by omega : (P : Int) ≠ 0)
  have h1 := Int.emod_lt_of_pos (-v * e) hP
  refine ⟨((-v * e) % P).toNat, by omega, ?_⟩
  rw [Int.toNat_of_nonneg h0]
  have h2 : Em (P : Int) ((-v * e) % P * w) (-v * e * w) := (Em.mod _).mul (Em.refl _)
  have h3 : Em (P : Int) (-v * e * w) (-v * 1) := by rw [Int.mul_assoc]; exact (Em.refl _).mul he
  have h4 := (Em.refl (p := (P : Int)) v).add (h2.trans h3)
  refine h4.trans (Em.of ?_)
  omega
/-- GRIESMER: for coefficients that are nought outside of J. -/
theorem gries (hp : isP (P : Int)) {k n : Nat} {g : Nat → Nat → Int} : ∀ (m : Nat) (J S : Nat → Bool) (d : Nat), cnP J k = m → (∀ x : Nat → Int, (∀ i, i < k → J i = false → Em P (x i) 0) → (∃ i, i < k ∧ ¬ Em P (x i) 0) → d ≤ wtS P n S (lcS k g x)) → usN d P m ≤ cnP S n
  | 0, J, S, d, _, _ => Nat.zero_le _
  | m + 1, J, S, d, hJ, h => by
    have hP2 := isP_pos hp
    have hP0 : 0 < P := by omega
    have hex : ∃ j, j < k ∧ J j = true := by
      apply Classical.byContradiction
      intro hn
      have : cnP J k = cnP (fun _ => false) k := cnP_congr fun v hv => by
        rcases hb : J v with _ | _
        · rfl
        · exact absurd ⟨v, hv, hb⟩ hn
      rw [this] at hJ
      have h0 : cnP (fun _ => false) k = 0 := by unfold cnP; simp
      omega
    obtain ⟨j1, hj1, hJ1⟩ := hex
    obtain ⟨d0, ⟨x0, a1, a2, a3⟩, hmin⟩ := ex_least (Q := fun q => ∃ x : Nat → Int, (∀ i, i < k → J i = false → Em P (x i) 0) ∧ (∃ i, i < k ∧ ¬ Em P (x i) 0) ∧ wtS P n S (lcS k g x) = q) ⟨_, fun i => if i = j1 then 1 else 0, fun i _ hi => by
      show Em (P : Int) (if i = j1 then 1 else 0) 0
      rw [if_neg (fun e => by rw [e, hJ1] at hi; cases hi)]
      exact Em.refl _, ⟨j1, hj1, by show ¬ Em (P : Int) (if j1 = j1 then 1 else 0) 0; rw [if_pos rfl]; exact one_ne hp⟩, rfl⟩
    have hd : d ≤ d0 := by rw [← a3]; exact h x0 a1 a2
    obtain ⟨j, hj, hxj⟩ := a2
    have hJj : J j = true := by
      rcases hb : J j with _ | _
      · exact absurd (a1 j hj hb) hxj
      · rfl
    obtain ⟨w0, hw0⟩ : ∃ w0, lcS k g x0 = w0 := ⟨_, rfl⟩
    have hT : cnP (fun r => S r && !nzB P (w0 r)) n + d0 = cnP S n := by
      rw [← a3, hw0]
      unfold wtS
      have e : ∀ n, cnP (fun r => S r && !nzB P (w0 r)) n + cnP (fun r => S r && nzB P (w0 r)) n = cnP S n := fun n => by
        induction n with
        | zero => rfl
        | succ n ih =>
          rw [cnP_succ, cnP_succ, cnP_succ, ← ih]
          rcases S n with _ | _ <;> rcases nzB P (w0 n) with _ | _ <;> simp <;> omega
      exact e n
    have ih := gries hp m (fun i => J i && i != j) (fun r => S r && !nzB P (w0 r)) (upN d0 P) (by
      have := cnP_less hJj hj (Q := fun i => J i && i != j) fun v _ => rfl
      rw [hJ] at this
      exact Nat.succ.inj this) fun y y1 y2 => by
        obtain ⟨v, hv⟩ : ∃ v, lcS k g y = v := ⟨_, rfl⟩
        rw [hv]
        refine (upN_le hP0).2 ?_
        have hyj : Em (P : Int) (y j) 0 := y1 j hj (by simp)
        have low : ∀ l : Nat, l < P → d0 ≤ wtS P n S fun r => v r + (l : Int) * w0 r := fun l hl => by
          have := hmin _ ⟨fun i => y i + (l : Int) * x0 i, fun i hi hJi => by
            have := (y1 i hi (by simp [hJi])).add ((Em.refl (p := (P : Int)) (l : Int)).mul (a1 i hi hJi))
            simpa using this, ?_, rfl⟩
          · refine Nat.le_trans this (Nat.le_of_eq (wtS_cg fun r _ => Em.of ?_))
            rw [lcS_add, hv, hw0]
          · by_cases hl0 : Em (P : Int) (l : Int) 0
            · obtain ⟨i, hi, hyi⟩ := y2
              refine ⟨i, hi, fun c => hyi ?_⟩
              have := c.sub (hl0.mul (Em.refl (x0 i)))
              have h5 : Em (P : Int) (y i) (y i + (l : Int) * x0 i - (l : Int) * x0 i) := Em.of (by omega)
              exact h5.trans (this.trans (Em.of (by simp)))
            · refine ⟨j, hj, fun c => ?_⟩
              have h2 := c.sub hyj
              obtain ⟨e, he⟩ := Em.inv hp hl0
              refine hxj ?_
              have h3 := (Em.refl (p := (P : Int)) e).mul h2
              have h4 : Em (P : Int) (e * (y j + (l : Int) * x0 j - y j)) (1 * x0 j) := by
                rw [show e * (y j + (l : Int) * x0 j - y j) = e * (l : Int) * x0 j by rw [Int.mul_assoc]; congr 1; omega]
                exact he.mul (Em.refl _)
              have h5 := h4.symm.trans h3
              simpa using h5
        have hsum : (P : Int) * d0 ≤ sm P fun l => (wtS P n S fun r => v r + (l : Int) * w0 r : Nat) := by
          rw [← sm_const]
          exact sm_leC fun l hl => Int.ofNat_le.2 (low l hl)
        have hup : (sm P fun l => ((wtS P n S fun r => v r + (l : Int) * w0 r : Nat) : Int)) ≤ (P : Int) * (wtS P n (fun r => S r && !nzB P (w0 r)) v : Nat) + ((P : Int) - 1) * (wtS P n S w0 : Nat) := by
          unfold wtS
          rw [sm_congr (t := fun l => sm n fun r => if (S r && nzB P (v r + (l : Int) * w0 r)) = true then 1 else 0) fun l _ => cnP_sm _ _]
          rw [sm_swap, cnP_sm, cnP_sm, ← sm_mul, ← sm_mul, ← sm_add]
          refine sm_leC fun r hr => ?_
          by_cases hS : S r = true
          rotate_left
          · have hS' : S r = false := by simpa using hS
            simp only [hS', Bool.false_and, Bool.false_eq_true, if_false]
            rw [sm_const]
            simp
          · simp only [hS, Bool.true_and]
            by_cases hz : nzB P (w0 r) = true
            rotate_left
            · have hz' : nzB P (w0 r) = false := by simpa using hz
              simp only [hz', Bool.not_false, Bool.true_and, Bool.false_eq_true, if_false]
              have hw : Em (P : Int) (w0 r) 0 := Classical.byContradiction fun c => hz (nzB_iff.2 c)
              rw [sm_congr (t := fun _ => if nzB P (v r) = true then 1 else 0) fun l _ => by
                rw [nzB_em (u := v r)]
                have := (Em.refl (p := (P : Int)) (v r)).add (Em.mul0' (a := (l : Int)) hw)
                simpa using this]
              rw [sm_const]
              omega
            · simp only [hz, Bool.not_true, Bool.false_and, Bool.false_eq_true, if_false, if_true]
              obtain ⟨l, hl, hlz⟩ := hit_one hp (v := v r) (nzB_iff.1 hz)
              have := sm_less (s := fun l : Nat => if nzB P (v r + (l : Int) * w0 r) = true then 1 else 0) hl (by
                show (if nzB P (v r + (l : Int) * w0 r) = true then (1 : Int) else 0) ≤ 0
                rw [if_neg fun c => nzB_iff.1 c hlz]
                exact Int.le_refl _) fun i _ => by
                  show (if nzB P (v r + (i : Int) * w0 r) = true then (1 : Int) else 0) ≤ 1
                  split <;> omega
              omega
        have hd0 : wtS P n S w0 = d0 := by rw [← hw0]; exact a3
        rw [hd0] at hup
        have h9 := Int.le_trans hsum hup
        rw [Int.sub_mul, Int.one_mul] at h9
        have h10 : (d0 : Int) ≤ (P : Int) * (wtS P n (fun r => S r && !nzB P (w0 r)) v : Nat) := by omega
        rw [Nat.mul_comm]
        exact Int.ofNat_le.1 (by rw [Int.natCast_mul]; exact h10)
    have h1 := usN_mono hP0 hd (m + 1)
    rw [usN_succ d0 hP0] at h1
    omega
end Go.Proofs.Ytcncaaeofcmefaa

namespace Go.Proofs.Ytcncaaeofcmefaa

/-- Number r of word c. -/
def wrdF (P k : Nat) (g : Nat → Nat → Int) (c r : Nat) : Nat := (lcS k g (fun i => (digF P k c i : Nat)) r % (P : Int)).toNat
/-- Its weight. -/
def wgtF (P k n : Nat) (g : Nat → Nat → Int) (c : Nat) : Nat := cnP (fun r => wrdF P k g c r != 0) n
theorem code_of {P : Nat} (hP : 0 < P) (f : Nat → Nat) (hf : ∀ i, f i < P) : ∀ k, ∃ c, c < P ^ k ∧ ∀ i, i < k → c / P ^ i % P = f i
  | 0 => ⟨0, by simp, fun i hi => by omega⟩
  | k + 1 => by
    obtain ⟨c, h1, h2⟩ := code_of hP f hf k
    have hk := Nat.pow_pos (n := k) hP
    refine ⟨c + P ^ k * f k, ?_, fun i hi => ?_⟩
    · have h3 := Nat.mul_le_mul_left (P ^ k) (show f k + 1 ≤ P by have := hf k; omega)
      rw [Nat.pow_succ]
      rw [Nat.mul_add] at h3
      omega
    · by_cases e : i = k
      · subst e
        rw [Nat.add_mul_div_left _ _ hk, Nat.div_eq_of_lt h1, Nat.zero_add, Nat.mod_eq_of_lt (hf i)]
      · have hi' : i < k := by omega
        have h4 : P ^ k * f k = P ^ i * (P * (P ^ (k - i - 1) * f k)) := by
          rw [← Nat.mul_assoc, ← Nat.mul_assoc, ← Nat.pow_succ, ← Nat.pow_add]
          congr 2
          omega
        rw [h4, Nat.add_mul_div_left _ _ (Nat.pow_pos hP), Nat.add_mul_mod_self_left]
        exact h2 i hi'
theorem dig_inj {P : Nat} (hP : 0 < P) : ∀ (k c e : Nat), c < P ^ k → e < P ^ k → (∀ i, i < k → c / P ^ i % P = e / P ^ i % P) → c = e
  | 0, c, e, hc, he, _ => by rw [Nat.pow_zero] at hc he; omega
  | k + 1, c, e, hc, he, h => by
    have h0 := h 0 (by omega)
    rw [Nat.pow_zero, Nat.div_one, Nat.div_one] at h0
    have key : ∀ x : Nat, x < P ^ (k + 1) → x / P < P ^ k := fun x hx => by
      rw [Nat.div_lt_iff_lt_mul hP, ← Nat.pow_succ]
      exact hx
    have h1 := dig_inj hP k (c / P) (e / P) (key c hc) (key e he) fun i hi => by
      have := h (i + 1) (by omega)
      rwa [Nat.pow_succ, Nat.mul_comm, ← Nat.div_div_eq_div_mul, ← Nat.div_div_eq_div_mul] at this
    rw [← Nat.div_add_mod c P, ← Nat.div_add_mod e P, h0, h1]
variable {P k n d : Nat} {g : Nat → Nat → Int} {b : Nat → Nat}
theorem pos_P (hp : isP (P : Int)) : 0 < P := by have := isP_pos hp; omega
theorem wrd_em (hp : isP (P : Int)) (c r : Nat) : Em (P : Int) (wrdF P k g c r : Nat) (lcS k g (fun i => (digF P k c i : Nat)) r) := by
  unfold wrdF
  have := pos_P hp
  rw [Int.toNat_of_nonneg (Int.emod_nonneg _ (by omega))]
  exact Em.mod _
theorem wrd_lt (hp : isP (P : Int)) (c r : Nat) : wrdF P k g c r < P := by
  unfold wrdF
  have := pos_P hp
  have h0 := Int.emod_nonneg (lcS k g (fun i => (digF P k c i : Nat)) r) (by omega : (P : Int) ≠ 0)
  have h1 := Int.emod_lt_of_pos (lcS k g (fun i => (digF P k c i : Nat)) r) (by omega : 0 < (P : Int))
  omega
theorem wrd_nz (hp : isP (P : Int)) (c r : Nat) : (wrdF P k g c r != 0) = nzB P (lcS k g (fun i => (digF P k c i : Nat)) r) := by
  rw [← nzB_em (wrd_em hp c r), Bool.eq_iff_iff, nzB_iff, bne_iff_ne]
  have h1 := wrd_lt (k := k) (g := g) hp c r
  constructor
  · intro h e
    have := Em.eq e ⟨by omega, by omega⟩ ⟨by omega, by have := pos_P hp; omega⟩
    omega
  · intro h e
    exact h (Em.of (by omega))
theorem wgt_is (hp : isP (P : Int)) (c : Nat) : wgtF P k n g c = wtS P n (fun _ => true) (lcS k g fun i => (digF P k c i : Nat)) := cnP_congr fun r _ => by rw [wrd_nz hp, Bool.true_and]
theorem cnP_one {Q : Nat → Bool} {r : Nat} (hr : r < n) (h : Q r = true) : 1 ≤ cnP Q n := by
  have := cnP_less (P := Q) (Q := fun v => Q v && v != r) h hr fun v _ => rfl
  omega
/-- Distances in words as distances of all coefficients. -/
theorem min_d (hp : isP (P : Int)) (hR : Rref P n k g b) (hd : ∀ c, c < P ^ k → wgtF P k n g c = 0 ∨ d ≤ wgtF P k n g c) (x : Nat → Int) (hx : ∃ i, i < k ∧ ¬ Em P (x i) 0) : d ≤ wtS P n (fun _ => true) (lcS k g x) := by
  have hP := pos_P hp
  have hz : (P : Int) ≠ 0 := by omega
  obtain ⟨c, hc, hcd⟩ := code_of hP (fun i => (x i % (P : Int)).toNat) (fun i => by
    have h0 := Int.emod_nonneg (x i) hz
    have h1 := Int.emod_lt_of_pos (x i) (by omega : 0 < (P : Int))
    omega) k
  have hem : ∀ i, i < k → Em (P : Int) (digF P k c i : Nat) (x i) := fun i hi => by
    unfold digF
    rw [if_pos hi, hcd i hi, Int.toNat_of_nonneg (Int.emod_nonneg _ hz)]
    exact Em.mod _
  have e1 : wgtF P k n g c = wtS P n (fun _ => true) (lcS k g x) := by
    rw [wgt_is hp]
    exact wtS_cg fun r _ => lcS_em hem
  rw [← e1]
  rcases hd c hc with h | h
  · exfalso
    obtain ⟨i, hi, hxi⟩ := hx
    have h1 : lcS k g x (b i) = x i := hR.at_ x hi
    have h2 : 1 ≤ wtS P n (fun _ => true) (lcS k g x) := cnP_one (hR.lt i hi) (by rw [h1, nzB_iff.2 hxi]; rfl)
    omega
  · exact h
/-- Other codes are other words. -/
theorem word_apart (hp : isP (P : Int)) (h : ∀ x : Nat → Int, (∃ i, i < k ∧ ¬ Em P (x i) 0) → d ≤ wtS P n (fun _ => true) (lcS k g x)) {c e : Nat} (hc : c < P ^ k) (he : e < P ^ k) (hne : c ≠ e) : d ≤ cnP (fun r => wrdF P k g c r != wrdF P k g e r) n := by
  have hP := pos_P hp
  have hex : ∃ i, i < k ∧ c / P ^ i % P ≠ e / P ^ i % P := Classical.byContradiction fun hn => hne (dig_inj hP k c e hc he fun i hi => Classical.byContradiction fun h2 => hn ⟨i, hi, h2⟩)
  obtain ⟨i, hi, hne2⟩ := hex
  have h1 := h (fun i => (digF P k c i : Nat) - (digF P k e i : Nat)) ⟨i, hi, fun em => hne2 (by
    have h2 := em.add (Em.refl (p := (P : Int)) (digF P k e i : Nat))
    rw [Int.sub_add_cancel, Int.zero_add] at h2
    have h3 : ∀ c, digF P k c i = c / P ^ i % P := fun c => if_pos hi
    rw [h3, h3] at h2
    have := Em.eq h2 ⟨by omega, Int.ofNat_lt.2 (Nat.mod_lt _ hP)⟩ ⟨by omega, Int.ofNat_lt.2 (Nat.mod_lt _ hP)⟩
    omega)⟩
  refine Nat.le_trans h1 (Nat.le_of_eq (cnP_congr fun r _ => ?_))
  rw [Bool.true_and, lcS_sub, nzB_em ((wrd_em hp c r).sub (wrd_em hp e r)).symm, Bool.eq_iff_iff, nzB_iff, bne_iff_ne]
  have l1 := wrd_lt (k := k) (g := g) hp c r
  have l2 := wrd_lt (k := k) (g := g) hp e r
  constructor
  · intro h4 e4
    exact h4 (Em.of (by omega))
  · intro h4 e4
    have h2 := e4.add (Em.refl (p := (P : Int)) (wrdF P k g e r : Nat))
    rw [Int.sub_add_cancel, Int.zero_add] at h2
    have := Em.eq h2 ⟨by omega, by omega⟩ ⟨by omega, by omega⟩
    omega
theorem tal_mono {F G : Nat → Int} : ∀ {l : List Nat}, (∀ x ∈ l, F x ≤ G x) → tal F l ≤ tal G l
  | [], _ => Int.le_refl _
  | x :: _, h => Int.add_le_add (h x (List.mem_cons_self ..)) (tal_mono fun y hy => h y (List.mem_cons_of_mem _ hy))
theorem itr_mono {A : Nat → List Nat} : ∀ {n : Nat} {F G : (Nat → Nat) → Int}, (∀ f, F f ≤ G f) → itr A n F ≤ itr A n G
  | 0, _, _, h => h _
  | _ + 1, _, _, h => tal_mono fun _ _ => itr_mono fun _ => h _
theorem itr_addC {A : Nat → List Nat} : ∀ {n : Nat} {F G : (Nat → Nat) → Int}, itr A n (fun f => F f + G f) = itr A n F + itr A n G
  | 0, _, _ => rfl
  | n + 1, F, G => by
    show tal _ _ = tal _ _ + tal _ _
    rw [← tal_add]
    exact tal_congr fun x _ => itr_addC
/-- Of n, k. -/
def chN : Nat → Nat → Nat
  | _, 0 => 1
  | 0, _ + 1 => 0
  | n + 1, k + 1 => chN n (k + 1) + chN n k
/-- How many words of n letters have the weight i. -/
def hmN (P n i : Nat) : Int := itr (fun _ => List.range P) n fun f => if cnP (fun r => f r != 0) n = i then 1 else 0
theorem hm_letter {f : Nat → Nat} {x : Nat} : cnP (fun r => updF f n x r != 0) (n + 1) = cnP (fun r => f r != 0) n + if x = 0 then 0 else 1 := by
  rw [cnP_succ]
  congr 1
  · exact cnP_congr fun r hr => by unfold updF; rw [if_neg (by omega)]
  · unfold updF
    rw [if_pos rfl]
    by_cases h : x = 0 <;> simp [h]
theorem hm_is (hP : 0 < P) : ∀ (n i : Nat), hmN P n i = chN n i * ((P : Int) - 1) ^ i
  | 0, 0 => by simp [hmN, itr, cnP, chN]
  | 0, i + 1 => by simp [hmN, itr, cnP, chN]
  | n + 1, 0 => by
    have h := hm_is hP n 0
    have e : hmN P (n + 1) 0 = hmN P n 0 := by
      unfold hmN
      show tal (fun x => itr _ n fun f => if cnP (fun r => updF f n x r != 0) (n + 1) = 0 then 1 else 0) (List.range P) = _
      obtain ⟨q, rfl⟩ : ∃ q, P = q + 1 := ⟨P - 1, by omega⟩
      generalize (fun _ : Nat => List.range (q + 1)) = LL
      rw [List.range_succ_eq_map]
      show _ + tal _ _ = _
      rw [tal_map, tal_congr (G := fun _ => 0) fun x _ => ?_, tal_zero, Int.add_zero]
      · refine itr_congr fun f _ _ => ?_
        rw [hm_letter, if_pos rfl, Nat.add_zero]
      · rw [itr_congr (G := fun _ => 0 * 1) fun f _ _ => ?_, itr_mul, Int.zero_mul]
        rw [hm_letter, if_neg (Nat.succ_ne_zero x), if_neg (Nat.succ_ne_zero _)]
        rfl
    rw [e, h]
    rcases n with _ | n <;> rfl
  | n + 1, i + 1 => by
    have h1 := hm_is hP n (i + 1)
    have h2 := hm_is hP n i
    have e : hmN P (n + 1) (i + 1) = hmN P n (i + 1) + ((P : Int) - 1) * hmN P n i := by
      unfold hmN
      show tal (fun x => itr _ n fun f => if cnP (fun r => updF f n x r != 0) (n + 1) = i + 1 then 1 else 0) (List.range P) = _
      obtain ⟨q, rfl⟩ : ∃ q, P = q + 1 := ⟨P - 1, by omega⟩
      generalize (fun _ : Nat => List.range (q + 1)) = LL
      rw [List.range_succ_eq_map]
      show _ + tal _ _ = _
      rw [tal_map, tal_congr (G := fun _ => itr LL n fun f => if cnP (fun r => f r != 0) n = i then 1 else 0) fun x _ => ?_, tal_const, List.length_range]
      · rw [show ((q + 1 : Nat) : Int) - 1 = (q : Int) by omega]
        rw [Int.mul_comm (q : Int)]
        congr 1
        refine itr_congr fun f _ _ => ?_
        rw [hm_letter, if_pos rfl, Nat.add_zero]
      · refine itr_congr fun f _ _ => ?_
        rw [hm_letter, if_neg (Nat.succ_ne_zero x)]
        simp
    rw [e, h1, h2]
    show _ = ((chN n (i + 1) + chN n i : Nat) : Int) * _
    rw [Int.natCast_add, Int.add_mul]
    congr 1
    rw [Int.pow_succ, Int.mul_left_comm, Int.mul_comm ((P : Int) - 1)]
/-- How many are as near as t. -/
def balN (P n : Nat) : Nat → Int
  | 0 => 0
  | t + 1 => balN P n t + chN n t * ((P : Int) - 1) ^ t
theorem near_is (hP : 0 < P) (n : Nat) : ∀ t, (itr (fun _ => List.range P) n fun f => if cnP (fun r => f r != 0) n < t then 1 else 0) = balN P n t
  | 0 => by
    rw [itr_congr (G := fun _ => 0 * 1) fun f _ _ => by rw [if_neg (Nat.not_lt_zero _)]; rfl, itr_mul, Int.zero_mul]
    rfl
  | t + 1 => by
    show _ = balN P n t + _
    rw [← near_is hP n t, ← hm_is hP, hmN, ← itr_addC]
    refine itr_congr fun f _ _ => ?_
    by_cases h1 : cnP (fun r => f r != 0) n < t
    · rw [if_pos h1, if_pos (by omega), if_neg (by omega)]
      rfl
    · by_cases h2 : cnP (fun r => f r != 0) n = t
      · rw [if_neg h1, if_pos (by omega), if_pos h2]
        rfl
      · rw [if_neg h1, if_neg (by omega), if_neg h2]
        rfl
/-- Seen from another word. -/
theorem near_word (hP : 0 < P) (n t : Nat) (W : Nat → Nat) (hW : ∀ r, W r < P) : (itr (fun _ => List.range P) n fun f => if cnP (fun r => f r != W r) n < t then 1 else 0) = balN P n t := by
  rw [← near_is hP n t, ← itr_perm (A := fun _ => List.range P) (n := n) (σ := fun r a => (a + (P - W r)) % P) (F := fun f => if cnP (fun r => f r != 0) n < t then 1 else 0) fun i _ => turn_perm hP]
  refine itr_congr fun f hf _ => ?_
  have e : cnP (fun r => f r != W r) n = cnP (fun r => apF (fun r a => (a + (P - W r)) % P) n f r != 0) n := cnP_congr fun r hr => by
    unfold apF
    rw [if_pos hr, Bool.eq_iff_iff, bne_iff_ne, bne_iff_ne]
    have h1 := List.mem_range.1 (hf r hr)
    have h2 := hW r
    constructor
    · intro h3 h4
      have h5 := Nat.dvd_of_mod_eq_zero h4
      obtain ⟨q, hq⟩ := h5
      rcases q with _ | _ | q
      · omega
      · omega
      · have := Nat.mul_le_mul_left P (show 2 ≤ q + 1 + 1 by omega)
        omega
    · intro h3 h4
      rw [h4] at h3
      exact h3 (by show (W r + (P - W r)) % P = 0; rw [show W r + (P - W r) = P by omega, Nat.mod_self])
  rw [e]
theorem tal_one {F : Nat → Int} : ∀ {l : List Nat}, l.Nodup → (∀ x ∈ l, F x = 0 ∨ F x = 1) → (∀ x ∈ l, ∀ y ∈ l, F x = 1 → F y = 1 → x = y) → tal F l ≤ 1
  | [], _, _, _ => by show (0 : Int) ≤ 1; decide
  | x :: l, hn, h1, h2 => by
    have hn' := List.nodup_cons.1 hn
    show F x + tal F l ≤ 1
    rcases h1 x (List.mem_cons_self ..) with h | h
    · have := tal_one hn'.2 (fun y hy => h1 y (List.mem_cons_of_mem _ hy)) fun y hy z hz => h2 y (List.mem_cons_of_mem _ hy) z (List.mem_cons_of_mem _ hz)
      omega
    · rw [tal_congr (G := fun _ => 0) fun y hy => ?_, tal_zero, h]
      · decide
      · rcases h1 y (List.mem_cons_of_mem _ hy) with h3 | h3
        · exact h3
        · have := h2 x (List.mem_cons_self ..) y (List.mem_cons_of_mem _ hy) h h3
          subst this
          exact absurd hy hn'.1
theorem cnP_tri (A B C : Nat → Nat) : ∀ n, cnP (fun r => A r != C r) n ≤ cnP (fun r => B r != A r) n + cnP (fun r => B r != C r) n
  | 0 => Nat.le_refl _
  | n + 1 => by
    have ih := cnP_tri A B C n
    rw [cnP_succ, cnP_succ, cnP_succ]
    have e : ∀ x y : Nat, (if (x != y) = true then 1 else 0) = if x = y then 0 else 1 := fun x y => by
      by_cases h : x = y <;> simp [h]
    rw [e, e, e]
    split <;> split <;> split <;> omega
/-- HAMMING. -/
theorem hamming (hp : isP (P : Int)) (h : ∀ x : Nat → Int, (∃ i, i < k ∧ ¬ Em P (x i) 0) → d ≤ wtS P n (fun _ => true) (lcS k g x)) (hd : 1 ≤ d) : balN P n ((d - 1) / 2 + 1) * (P : Int) ^ k ≤ (P : Int) ^ n := by
  have hP := pos_P hp
  have h1 : tal (fun c => itr (fun _ => List.range P) n fun f => if cnP (fun r => f r != wrdF P k g c r) n < (d - 1) / 2 + 1 then 1 else 0) (List.range (P ^ k)) = balN P n ((d - 1) / 2 + 1) * (P : Int) ^ k := by
    rw [tal_congr (G := fun _ => balN P n ((d - 1) / 2 + 1)) fun c _ => near_word hP n _ _ fun r => wrd_lt hp c r, tal_const, List.length_range, Int.natCast_pow, Int.mul_comm]
  rw [← h1, ← itr_tal, ← itr_one (A := fun _ => List.range P) (n := n) (k := P) fun i _ => List.length_range]
  refine itr_mono fun f => ?_
  refine tal_one List.nodup_range (fun c _ => by split <;> simp) fun c hc e he h2 h3 => ?_
  apply Classical.byContradiction
  intro hne
  have h4 := word_apart hp h (List.mem_range.1 hc) (List.mem_range.1 he) hne
  have h5 := cnP_tri (wrdF P k g c) f (wrdF P k g e) n
  have h6 : cnP (fun r => f r != wrdF P k g c r) n < (d - 1) / 2 + 1 := Classical.byContradiction fun x => by rw [if_neg x] at h2; cases h2
  have h7 : cnP (fun r => f r != wrdF P k g e r) n < (d - 1) / 2 + 1 := Classical.byContradiction fun x => by rw [if_neg x] at h3; cases h3
  omega
end Go.Proofs.Ytcncaaeofcmefaa
