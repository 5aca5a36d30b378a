/- Plain mathematics: sums and unions along the elements of a set. -/
import Derived.Test.YtkebhhpfnalbfaaDoorPlainGale
namespace Go.Proofs.YtkebhhpfnalbfaaDoor

def lsum (F : Nat → Int) (l : List Nat) : Int := l.foldl (fun s x => s + F x) 0
theorem lsum_snoc (F : Nat → Int) (l : List Nat) (x : Nat) : lsum F (l ++ [x]) = lsum F l + F x := by unfold lsum; rw [List.foldl_append]; rfl
theorem foldl_add (F : Nat → Int) : ∀ (l : List Nat) (a : Int), l.foldl (fun s x => s + F x) a = a + l.foldl (fun s x => s + F x) 0
  | [], a => by simp
  | x :: l, a => by
    rw [List.foldl_cons, List.foldl_cons, foldl_add F l (a + F x), foldl_add F l (0 + F x)]
    omega
theorem lsum_cons (F : Nat → Int) (x : Nat) (l : List Nat) : lsum F (x :: l) = F x + lsum F l := by
  unfold lsum
  rw [List.foldl_cons, foldl_add]
  omega
theorem lsum_filter (F : Nat → Int) (s : Nat) : ∀ l : List Nat, lsum F (l.filter fun x => s.testBit x) = wSum F s l
  | [] => rfl
  | x :: l => by
    unfold wSum
    cases e : s.testBit x with
    | true => rw [List.filter_cons_of_pos (by simpa using e), lsum_cons, lsum_filter F s l]; simp
    | false => rw [List.filter_cons_of_neg (by simp [e]), lsum_filter F s l]; simp
theorem weiTo_up (F : Nat → Int) {s n : Nat} (hs : s < 2 ^ n) : ∀ d, weiTo F s (n + d) = weiTo F s n
  | 0 => rfl
  | d + 1 => by
    have : s.testBit (n + d) = false := Nat.testBit_lt_two_pow (Nat.lt_of_lt_of_le hs (Nat.pow_le_pow_right (by omega) (by omega)))
    show weiTo F s (n + d) + (if s.testBit (n + d) = true then F (n + d) else 0) = _
    rw [weiTo_up F hs d, this]
    simp
theorem lsum_els (F : Nat → Int) {s n : Nat} (hn : n ≤ 8) (hs : s < 2 ^ n) : lsum F (els s) = weiTo F s n := by
  unfold els
  rw [lsum_filter, wSum_range]
  have := weiTo_up F hs (8 - n)
  rw [show n + (8 - n) = 8 by omega] at this
  exact this
theorem lsum_le {F : Nat → Int} (h : ∀ i, -1000 ≤ F i ∧ F i ≤ 1000) : ∀ (k : Nat) (l : List Nat), l.length = k → -(1000 * (k : Int)) ≤ lsum F l ∧ lsum F l ≤ 1000 * (k : Int)
  | 0, l, hl => by
    obtain rfl : l = [] := List.length_eq_zero_iff.1 hl
    simp [lsum]
  | k + 1, l, hl => by
    rcases snoc_cases (p := l) with rfl | ⟨q, x, rfl⟩
    · simp at hl
    · have ih := lsum_le h k q (by simpa using hl)
      have hx := h x
      rw [lsum_snoc]
      omega
/-- The images of a list's elements, as a set. -/
def orL (p : List Nat) (l : List Nat) : Nat := l.foldl (fun u i => u ||| 2 ^ p.getD i 0) 0
theorem orL_snoc (p l : List Nat) (x : Nat) : orL p (l ++ [x]) = orL p l ||| 2 ^ p.getD x 0 := by unfold orL; rw [List.foldl_append]; rfl
theorem orL_bit (p : List Nat) (j : Nat) : ∀ (k : Nat) (l : List Nat), l.length = k → ((orL p l).testBit j = true ↔ ∃ i ∈ l, p.getD i 0 = j)
  | 0, l, hl => by
    obtain rfl : l = [] := List.length_eq_zero_iff.1 hl
    simp [orL]
  | k + 1, l, hl => by
    rcases snoc_cases (p := l) with rfl | ⟨q, x, rfl⟩
    · simp at hl
    · rw [orL_snoc, or_bit, Bool.or_eq_true, orL_bit p j k q (by simpa using hl)]
      constructor
      · rintro (⟨i, h1, h2⟩ | h)
        · exact ⟨i, by simp [h1], h2⟩
        · exact ⟨x, by simp, by simpa using h⟩
      · rintro ⟨i, h1, h2⟩
        rw [List.mem_append, List.mem_singleton] at h1
        rcases h1 with h1 | rfl
        · exact .inl ⟨i, h1, h2⟩
        · exact .inr (by simpa using h2)
theorem orL_els {p : List Nat} {s n : Nat} (hn : n ≤ 8) (hp : p.length = n) (hs : s < 2 ^ n) : orL p (els s) = image p s := Nat.eq_of_testBit_eq fun j => by
  rw [Bool.eq_iff_iff, orL_bit p j _ (els s) rfl, image_has]
  constructor
  · rintro ⟨i, h1, h2⟩
    have := (mem_els (lt256 hn hs)).1 h1
    exact ⟨i, by rw [hp]; exact bit_n hs this, this, h2⟩
  · rintro ⟨i, h1, h2, h3⟩
    exact ⟨i, (mem_els (lt256 hn hs)).2 h2, h3⟩
theorem orL_lt {p : List Nat} (h : ∀ i, p.getD i 0 < 8) (l : List Nat) : orL p l < 256 := lt_of_bits (n := 8) fun j hj => by
  obtain ⟨i, _, rfl⟩ := (orL_bit p j _ l rfl).1 hj
  exact h i
theorem gr_len (r : Nat → Nat) : ∀ (o : List Nat) (s : Nat), o.Nodup → (∀ x ∈ o, s.testBit x = false) → s < 256 → (∀ x ∈ o, x < 8) → (gr r s o).length + pop s = pop (grS r s o)
  | [], s, _, _, _, _ => by
    have : pop (grS r s []) = pop s := rfl
    rw [this]
    simp [gr]
  | x :: o, s, hd, hx, hs, h8 => by
    have p := pop_ad s hs x (h8 x (by simp)) (hx x (by simp))
    rw [List.nodup_cons] at hd
    rw [grS_cons]
    unfold gr
    by_cases hi : r (s ||| 2 ^ x) = pop (s ||| 2 ^ x)
    · rw [if_pos hi, if_pos hi]
      have ih := gr_len r o (s ||| 2 ^ x) hd.2 (fun y hy => by
        rw [or_bit, hx y (by simp [hy])]
        have : ¬ x = y := fun e => hd.1 (e ▸ hy)
        simp [this]) (or_lt hs (pow_lt256 (h8 x (by simp)))) (fun y hy => h8 y (by simp [hy]))
      rw [List.length_cons]
      omega
    · rw [if_neg hi, if_neg hi]
      exact gr_len r o s hd.2 (fun y hy => hx y (by simp [hy])) hs (fun y hy => h8 y (by simp [hy]))
theorem cut_rk {r : Nat → Nat} (h : Rk r) (k : Nat) : Rk (fun s => min k (r s)) := by
  refine ⟨fun s => ?_, fun s t hst => ?_, fun s i => ?_, fun s t => ?_⟩
  · have := h.le s; omega
  · have := h.mono s t hst; omega
  · have := h.step s i; omega
  · have h1 := h.sub s t
    have h2 := h.mono s (s ||| t) (sub_or s t)
    have h3 := h.mono t (s ||| t) (by rw [Nat.or_comm]; exact sub_or t s)
    have h4 := h.mono (s &&& t) s (subB_iff.2 fun i hi => by rw [Nat.testBit_and] at hi; simp at hi; exact hi.1)
    have h5 := h.mono (s &&& t) t (subB_iff.2 fun i hi => by rw [Nat.testBit_and] at hi; simp at hi; exact hi.2)
    omega
/-- RADO, EDMONDS: of each size no independent set weighs more than the step of this size. -/
theorem step_heavy {n : Nat} {l : List Nat} (hn : n ≤ 8) (hf : Fam n l) (hb : Bas l) {w : Nat → Int} {o : List Nat} (ho : ByW n w o) {s : Nat} (hs : s < 2 ^ n) (hi : rk l s = pop s) : pop s ≤ (gr (rk l) 0 o).length ∧ (0 :: gr (rk l) 0 o).getD (pop s) 0 < 2 ^ n ∧ weiTo w s n ≤ weiTo w ((0 :: gr (rk l) 0 o).getD (pop s) 0) n := by
  have h8 : ∀ x ∈ o, x < 8 := fun x hx => Nat.lt_of_lt_of_le (ho.beg.lt x hx) hn
  have hg := gr_bas hn hf hb ho.beg ho.all
  have hg1 := (bas_mem hn hf hb (hf.lt _ hg)).1 hg
  have hle : pop s ≤ pop (grS (rk l) 0 o) := by
    have := hb.rk.mono _ _ (full_sub hs)
    omega
  have hL := gr_len (rk l) o 0 ho.beg.once (fun x _ => by simp) (by decide) h8
  have p0 : pop 0 = 0 := by decide
  have hat := gr_at (rk l) hb.rk.le (pop s) o 0 (by omega) hle ho.beg.once (fun x _ => by simp) (by decide) h8
  rw [p0, Nat.sub_zero] at hat
  have R := cut_rk hb.rk (pop s)
  obtain ⟨g1, g2, g3⟩ := gr_span R _ o rfl h8
  have e : setL o = 2 ^ n - 1 := Nat.eq_of_testBit_eq fun j => by
    rw [setL_has, full_bit, Bool.eq_iff_iff, decide_eq_true_eq, decide_eq_true_eq]
    exact ⟨fun h => ho.beg.lt j h, fun h => ho.all j h⟩
  rw [e] at g1 g3
  have hlt := sub_lt g1 (full_lt n)
  have hfull : pop s ≤ rk l (2 ^ n - 1) := by rw [← hi]; exact hb.rk.mono _ _ (full_sub hs)
  refine ⟨by omega, by rw [hat]; exact hlt, ?_⟩
  rw [hat]
  have hsz : pop s = pop (grS (fun s' => min (pop s) (rk l s')) 0 o) := by omega
  have hi2 : min (pop s) (rk l s) = pop s := by omega
  have hv := gr_heavy R hn ho.beg ho.all w ho.desc hs hi2 hsz hlt
  rwa [wSum_order w s ho.beg ho.all, wSum_order w _ ho.beg ho.all] at hv
end Go.Proofs.YtkebhhpfnalbfaaDoor
