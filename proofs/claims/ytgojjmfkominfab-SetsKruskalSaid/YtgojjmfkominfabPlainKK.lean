/- Plain mathematics: KRUSKAL, KATONA for sets of up to eight elements, by the element that most sets have. -/
import Derived.Test.YtgojjmfkominfabPlainPicks
namespace Go.Proofs.Ytgojjmfkominfab

/-- How many sets are of a kind. -/
def card (F : Nat → Bool) : Nat := (List.range 256).countP F
/-- The shadow's kind. -/
def sha (F : Nat → Bool) (s : Nat) : Bool := (List.range 8).any fun i => !s.testBit i && F (s + 2 ^ i)
/-- How many the first m sets of k elements have in their shadow: byte m of a number. -/
def shT : Nat → Nat
  | 0 => 0
  | 1 => 18519084246547628288
  | 2 => 216525375585586314524302257231756116430765730715765863518113332658688
  | 3 => 20431294022552586393731702996436826074515717174768661032525802459373953551417626650021466905427088372684310851693632746415301643989222144
  | 4 => 212170687538198973065232255561094576902810830039657197272682616870450069037818245326084997669817136360245504090010813518938106115274937578602493110731272877141727644156928
  | 5 => 51078235056211578478788060067650356730931276718563197426111944946136912652793906091842858370759163336454015911176718750048614568264533248
  | 6 => 1515677627485839633819902112980675859442597723804064686951095822124544
  | 7 => 518534074103883433728
  | 8 => 2048
  | _ => 0
def sh (k m : Nat) : Nat := (shT k >>> (8 * m)) % 256
def binT : Nat → Nat → Nat
  | _, 0 => 1
  | 0, _ + 1 => 0
  | n + 1, k + 1 => binT n k + binT n (k + 1)

theorem card_le {F G : Nat → Bool} (h : ∀ s, s < 256 → F s = true → G s = true) : card F ≤ card G := by
  unfold card
  exact List.countP_mono_left fun s hs hF => h s (by simpa using hs) hF
theorem card_congr {F G : Nat → Bool} (h : ∀ s, s < 256 → F s = G s) : card F = card G :=
  Nat.le_antisymm (card_le fun s hs hF => by rw [← h s hs]; exact hF) (card_le fun s hs hF => by rw [h s hs]; exact hF)

theorem with_map : ∀ e : Nat, e < 8 → (List.range 256).filter (fun s => s.testBit e) = ((List.range 256).filter fun s => !s.testBit e).map (· + 2 ^ e) := by decide +kernel
theorem countP_part (p q : Nat → Bool) : ∀ l : List Nat, l.countP p = (l.filter q).countP p + (l.filter fun s => !q s).countP p
  | [] => rfl
  | a :: l => by
    have := countP_part p q l
    cases hq : q a <;> simp [List.countP_cons, hq] <;> omega
/-- Sets with e, and without. -/
theorem card_split (F : Nat → Bool) {e : Nat} (he : e < 8) : card F = card (fun s => !s.testBit e && F s) + card (fun s => !s.testBit e && F (s + 2 ^ e)) := by
  unfold card
  rw [countP_part F (fun s => s.testBit e) (List.range 256), with_map e he, List.countP_map, Nat.add_comm]
  rw [List.countP_filter, List.countP_filter]
  congr 1
  · exact List.countP_congr fun s _ => by simp [Bool.and_comm]
  · exact List.countP_congr fun s _ => by simp [Function.comp, Bool.and_comm]

def with0 (F : Nat → Bool) (e s : Nat) : Bool := !s.testBit e && F s
def with1 (F : Nat → Bool) (e s : Nat) : Bool := !s.testBit e && F (s + 2 ^ e)

theorem up_bits : ∀ i : Nat, i < 8 → ∀ s : Nat, s < 256 → s.testBit i = false → s + 2 ^ i < 256 ∧ pop (s + 2 ^ i) = pop s + 1 ∧ ∀ j : Nat, j < 8 → (s + 2 ^ i).testBit j = (s.testBit j || i == j) := by decide +kernel

theorem or_l {a b : Bool} (h : false = (a || b)) : a = false := by cases a <;> simp_all
theorem or_r {a b : Bool} (h : false = (a || b)) : b = false := by cases a <;> simp_all
theorem sha_low {F : Nat → Bool} {e s : Nat} (he : e < 8) (hs : s < 256) : (sha (with0 F e) s = true → s.testBit e = false ∧ sha F s = true) ∧ (with1 F e s = true → s.testBit e = false ∧ sha F s = true) := by
  constructor
  · intro h
    obtain ⟨i, hi, h2⟩ := List.any_eq_true.1 h
    simp only [List.mem_range] at hi
    simp only [with0, Bool.and_eq_true, Bool.not_eq_true'] at h2
    have hb := (up_bits i hi s hs h2.1).2.2 e he
    rw [h2.2.1] at hb
    have : s.testBit e = false := or_l hb
    exact ⟨this, List.any_eq_true.2 ⟨i, by simpa using hi, by simp [h2.1, h2.2.2]⟩⟩
  · intro h
    simp only [with1, Bool.and_eq_true, Bool.not_eq_true'] at h
    exact ⟨h.1, List.any_eq_true.2 ⟨e, by simpa using he, by simp [h.1, h.2]⟩⟩
theorem sha_high {F : Nat → Bool} {e s : Nat} (he : e < 8) (hs : s < 256) (h : sha (with1 F e) s = true) : s.testBit e = false ∧ sha F (s + 2 ^ e) = true := by
  obtain ⟨i, hi, h2⟩ := List.any_eq_true.1 h
  simp only [List.mem_range] at hi
  simp only [with1, Bool.and_eq_true, Bool.not_eq_true'] at h2
  have hb := (up_bits i hi s hs h2.1).2.2 e he
  rw [h2.2.1] at hb
  have h0 : s.testBit e = false := or_l hb
  have hie : (i == e) = false := or_r hb
  have hb2 := (up_bits e he s hs h0).2.2 i hi
  rw [h2.1] at hb2
  refine ⟨h0, List.any_eq_true.2 ⟨i, by simpa using hi, ?_⟩⟩
  have hei : (e == i) = false := by rw [beq_eq_false_iff_ne] at hie ⊢; exact fun h => hie h.symm
  rw [hei] at hb2
  rw [hb2, show s + 2 ^ e + 2 ^ i = s + 2 ^ i + 2 ^ e by omega, h2.2.2]; rfl
theorem sha_split (F : Nat → Bool) {e : Nat} (he : e < 8) : max (card (sha (with0 F e))) (card (with1 F e)) + card (sha (with1 F e)) ≤ card (sha F) := by
  rw [card_split (sha F) he]
  refine Nat.add_le_add (Nat.max_le.2 ⟨card_le fun s hs h => ?_, card_le fun s hs h => ?_⟩) (card_le fun s hs h => ?_)
  · have := (sha_low he hs).1 h; simp [this.1, this.2]
  · have := (sha_low he hs).2 h; simp [this.1, this.2]
  · have := sha_high he hs h; simp [this.1, this.2]

/-- Sums of a list. -/
def total (f : Nat → Nat) (l : List Nat) : Nat := (l.map f).sum
theorem total_cons (f : Nat → Nat) (a : Nat) (l : List Nat) : total f (a :: l) = f a + total f l := by simp [total]
theorem total_bound {f : Nat → Nat} {c : Nat} : ∀ {l : List Nat}, (∀ e ∈ l, f e ≤ c) → total f l ≤ l.length * c
  | [], _ => by simp [total]
  | a :: l, h => by
    rw [total_cons, List.length_cons, Nat.add_mul, Nat.one_mul]
    have := total_bound (l := l) fun e he => h e (by simp [he])
    have := h a (by simp)
    omega
/-- Counting pairs of elements and sets both ways. -/
theorem total_countP (p : Nat → Nat → Bool) : ∀ (l m : List Nat), total (fun e => m.countP fun s => p e s) l = total (fun s => l.countP fun e => p e s) m
  | l, [] => by
    induction l with
    | nil => rfl
    | cons a l ih => rw [total_cons, ih]; rfl
  | l, a :: m => by
    have ih := total_countP p l m
    rw [total_cons, ← ih]
    clear ih
    induction l with
    | nil => rfl
    | cons b l ih2 =>
      rw [total_cons, total_cons, ih2]
      simp only [List.countP_cons]
      omega
theorem total_const {f : Nat → Nat} {p : Nat → Bool} {c : Nat} : ∀ {l : List Nat}, (∀ s ∈ l, f s = if p s = true then c else 0) → total f l = l.countP p * c
  | [], _ => by simp [total]
  | a :: l, h => by
    rw [total_cons, total_const (l := l) fun s hs => h s (by simp [hs]), h a (by simp), List.countP_cons]
    cases p a <;> simp [Nat.add_mul]
    omega
theorem els_countP : ∀ G : Nat, G < 256 → ∀ s : Nat, s < 256 → subB s G = true → (els G).countP (fun e => s.testBit e) = pop s := by decide +kernel

/-- Families of k-sets of a ground. -/
structure KFam (G k : Nat) (F : Nat → Bool) : Prop where
  sub : ∀ s, s < 256 → F s = true → subB s G = true ∧ pop s = k
theorem deg_eq (F : Nat → Bool) {e : Nat} (he : e < 8) : card (with1 F e) = card fun s => F s && s.testBit e := by
  have h1 := card_split F he
  have h2 : card F = card (fun s => !s.testBit e && F s) + card (fun s => F s && s.testBit e) := by
    unfold card
    rw [countP_part F (fun s => s.testBit e) (List.range 256), Nat.add_comm, List.countP_filter, List.countP_filter]
    congr 1
    exact List.countP_congr fun s _ => by simp [Bool.and_comm]
  unfold with1
  omega
theorem exists_deg {G k : Nat} {F : Nat → Bool} (hG : G < 256) (h0 : 0 < pop G) (h : KFam G k F) : ∃ e, e ∈ els G ∧ k * card F ≤ pop G * card (with1 F e) := by
  refine Classical.byContradiction fun hno => ?_
  have hno' : ∀ e ∈ els G, pop G * card (with1 F e) ≤ k * card F - 1 := fun e he => by
    have : ¬ k * card F ≤ pop G * card (with1 F e) := fun h => hno ⟨e, he, h⟩
    omega
  have hs : total (fun e => card fun s => F s && s.testBit e) (els G) = card F * k := by
    unfold card
    rw [total_countP (fun e s => F s && s.testBit e) (els G) (List.range 256)]
    refine total_const fun s hs => ?_
    simp only [List.mem_range] at hs
    cases hF : F s
    · simp
    · have := h.sub s hs hF
      simp [els_countP G hG s hs this.1, this.2]
  have hd : total (fun e => pop G * card (with1 F e)) (els G) ≤ (els G).length * (k * card F - 1) := total_bound hno'
  have hm : ∀ l : List Nat, (∀ e ∈ l, e < 8) → total (fun e => pop G * card (with1 F e)) l = pop G * total (fun e => card fun s => F s && s.testBit e) l := by
    intro l
    induction l with
    | nil => intro _; simp [total]
    | cons a l ih =>
      intro hl
      rw [total_cons, total_cons, ih fun e he => hl e (by simp [he]), deg_eq F (hl a (by simp)), Nat.mul_add]
  rw [hm _ fun e he => by simpa using (List.mem_filter.1 he).1, hs, ← pop_els] at hd
  have := Nat.le_of_mul_le_mul_left hd h0
  rw [Nat.mul_comm] at this
  have hpos : 0 < k * card F := by
    rcases Nat.eq_zero_or_pos (k * card F) with hz | hz
    · exfalso
      rw [hz] at hno
      obtain ⟨e, he⟩ : ∃ e, e ∈ els G := by
        cases hq : els G with
        | nil => rw [pop_els, hq] at h0; simp at h0
        | cons a l => exact ⟨a, by simp⟩
      exact hno ⟨e, he, Nat.zero_le _⟩
    · exact hz
  omega
theorem sh_step : ∀ g : Nat, g < 8 → ∀ k : Nat, k < 8 → ∀ m0 : Nat, m0 < binT g (k + 1) + 1 → ∀ m1 : Nat, m1 < binT g k + 1 → (k + 1) * (m0 + m1) ≤ (g + 1) * m1 → sh (k + 1) (m0 + m1) ≤ max (sh (k + 1) m0) m1 + sh k m1 := by decide +kernel
theorem sh_zero : ∀ k : Nat, sh k 0 = 0 := by
  intro k
  match k with
  | 0 | 1 | 2 | 3 | 4 | 5 | 6 | 7 | 8 => decide +kernel
  | _ + 9 => rfl
theorem sh_nought (m : Nat) : sh 0 m = 0 := by simp [sh, shT]
theorem bin_over : ∀ g : Nat, g < 9 → ∀ k : Nat, g < k → binT g k = 0
  | 0, _, k + 1, _ => rfl
  | g + 1, hg, k + 1, h => by
    show binT g k + binT g (k + 1) = 0
    rw [bin_over g (by omega) k (by omega), bin_over g (by omega) (k + 1) (by omega)]
theorem less_facts : ∀ G : Nat, G < 256 → ∀ e : Nat, e < 8 → G.testBit e = true → rm G e < 256 ∧ pop G = pop (rm G e) + 1 := by decide +kernel
theorem pop_up {e s : Nat} (he : e < 8) (hs : s < 256) (h : s.testBit e = false) : s + 2 ^ e < 256 ∧ pop (s + 2 ^ e) = pop s + 1 := ⟨(up_bits e he s hs h).1, (up_bits e he s hs h).2.1⟩

theorem kfam0 {G k e : Nat} {F : Nat → Bool} (h : KFam G k F) : KFam (rm G e) k (with0 F e) := ⟨fun s hs hF => by
  simp only [with0, Bool.and_eq_true, Bool.not_eq_true'] at hF
  have := h.sub s hs hF.2
  exact ⟨sub_rm this.1 hF.1, this.2⟩⟩
theorem kfam1 {G k e : Nat} {F : Nat → Bool} (he : e < 8) (h : KFam G (k + 1) F) : KFam (rm G e) k (with1 F e) := ⟨fun s hs hF => by
  simp only [with1, Bool.and_eq_true, Bool.not_eq_true'] at hF
  have hp := pop_up he hs hF.1
  have := h.sub _ hp.1 hF.2
  refine ⟨sub_rm (subB_iff.2 fun j hj => ?_) hF.1, by omega⟩
  have hj8 : j < 8 := by
    have := (mem_els hs).2 hj
    simpa using (List.mem_filter.1 this).1
  refine subB_iff.1 this.1 j ?_
  rw [(up_bits e he s hs hF.1).2.2 j hj8, hj]; rfl⟩

/-- KRUSKAL, KATONA. -/
theorem kk : ∀ (g G k : Nat) (F : Nat → Bool), G < 256 → pop G = g → KFam G k F → card F ≤ binT g k ∧ sh k (card F) ≤ card (sha F)
  | 0, G, k, F, hG, hg, h => by
    have hG0 : G = 0 := (pop_pos G hG).1 hg
    subst hG0
    have h0 : ∀ s, s < 256 → F s = true → s = 0 ∧ k = 0 := fun s hs hF => by
      have := h.sub s hs hF
      have e : s = 0 := by
        refine Classical.byContradiction fun hne => ?_
        obtain ⟨i, hi⟩ := Nat.exists_testBit_of_ne_zero hne
        have := subB_iff.1 this.1 i hi
        simp at this
      subst e
      exact ⟨rfl, by have := this.2; rw [show pop 0 = 0 from by decide +kernel] at this; omega⟩
    cases k with
    | zero =>
      refine ⟨?_, by rw [sh_nought]; exact Nat.zero_le _⟩
      have : card F ≤ card fun s => s == 0 := card_le fun s hs hF => by simp [(h0 s hs hF).1]
      have e1 : (card fun s => s == 0) = 1 := by decide +kernel
      rw [e1] at this
      exact this
    | succ k =>
      have e0 : card F = 0 := by
        have : card F ≤ card fun _ => false := card_le fun s hs hF => by have := (h0 s hs hF).2; omega
        have e1 : (card fun _ => false) = 0 := by decide +kernel
        omega
      rw [e0, sh_zero]
      exact ⟨Nat.zero_le _, Nat.zero_le _⟩
  | g + 1, G, 0, F, hG, hg, h => by
    refine ⟨?_, by rw [sh_nought]; exact Nat.zero_le _⟩
    have : card F ≤ card fun s => s == 0 := card_le fun s hs hF => by
      have := (pop_pos s hs).1 (h.sub s hs hF).2
      simp [this]
    have e1 : (card fun s => s == 0) = 1 := by decide +kernel
    rw [e1] at this
    simpa [binT] using this
  | g + 1, G, k + 1, F, hG, hg, h => by
    obtain ⟨e, he, hdeg⟩ := exists_deg hG (by omega) h
    have he8 : e < 8 := by simpa using (List.mem_filter.1 he).1
    have hb := (mem_els hG).1 he
    obtain ⟨hl, hp⟩ := less_facts G hG e he8 hb
    obtain ⟨a1, a2⟩ := kk g (rm G e) (k + 1) (with0 F e) hl (by omega) (kfam0 h)
    obtain ⟨b1, b2⟩ := kk g (rm G e) k (with1 F e) hl (by omega) (kfam1 he8 h)
    have hc : card F = card (with0 F e) + card (with1 F e) := card_split F he8
    have hs := sha_split F he8
    have hg9 : g < 8 := by have := pop_le G hG; omega
    rw [hg, hc] at hdeg
    refine ⟨by rw [hc]; show _ ≤ binT g k + binT g (k + 1); omega, ?_⟩
    by_cases hk : k < 8
    · have := sh_step g hg9 k hk (card (with0 F e)) (by omega) (card (with1 F e)) (by omega) hdeg
      rw [hc]
      have m1 : max (sh (k + 1) (card (with0 F e))) (card (with1 F e)) ≤ max (card (sha (with0 F e))) (card (with1 F e)) := by omega
      omega
    · have z1 : binT g (k + 1) = 0 := bin_over g (by omega) _ (by omega)
      have z2 : binT g k = 0 := bin_over g (by omega) _ (by omega)
      rw [hc, show card (with0 F e) + card (with1 F e) = 0 by omega, sh_zero]
      exact Nat.zero_le _
end Go.Proofs.Ytgojjmfkominfab
