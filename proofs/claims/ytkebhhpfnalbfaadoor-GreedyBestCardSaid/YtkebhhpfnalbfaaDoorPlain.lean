/- Plain mathematics of sets as numbers from 0 to 255: no word of the program. -/
namespace Go.Proofs.YtkebhhpfnalbfaaDoor

def pop (s : Nat) : Nat := ((List.range 8).filter fun i => s.testBit i).length
def tz (s : Nat) : Nat := ((List.range 8).find? fun i => s.testBit i).getD 8
def wl (s : Nat) : Nat := s &&& (s - 1)
def tab : List Int := [0, 1, 56, 2, 57, 49, 28, 3, 61, 58, 42, 50, 38, 29, 17, 4, 62, 47, 59, 36, 45, 43, 51, 22, 53, 39, 33, 30, 24, 18, 12, 5, 63, 55, 48, 27, 60, 41, 37, 16, 46, 35, 44, 21, 52, 32, 23, 11, 54, 26, 40, 15, 34, 20, 31, 10, 25, 14, 19, 9, 13, 8, 7, 6]

/-- The elements of a set, rising. -/
def els (s : Nat) : List Nat := (List.range 8).filter fun i => s.testBit i
theorem els_step : ∀ s : Nat, s < 256 → 0 < s → els s = tz s :: els (wl s) := by decide +kernel
theorem els_zero : els 0 = [] := by decide +kernel
theorem wl_lt : ∀ s : Nat, s < 256 → 0 < s → wl s < s := by decide +kernel
theorem tz_lt : ∀ s : Nat, s < 256 → 0 < s → tz s < 8 := by decide +kernel
theorem pop_le : ∀ s : Nat, s < 256 → pop s ≤ 8 := by decide +kernel
theorem pop_els (s : Nat) : pop s = (els s).length := rfl
theorem pop_pos : ∀ s : Nat, s < 256 → (pop s = 0 ↔ s = 0) := by decide +kernel
theorem els_inj_fact : ∀ s : Nat, s < 256 → (els s).foldr (fun i t => 2 ^ i + t) 0 = s := by decide +kernel
theorem els_inj (s t : Nat) (hs : s < 256) (ht : t < 256) (h : els s = els t) : s = t := by
  rw [← els_inj_fact s hs, ← els_inj_fact t ht, h]

/-- GALE'S order of lists. -/
def galeL : List Nat → List Nat → Bool
  | [], _ => true
  | _ :: _, [] => false
  | x :: xs, y :: ys => decide (x ≤ y) && galeL xs ys
theorem galeL_anti : ∀ (x y : List Nat), x.length = y.length → galeL x y = true → galeL y x = true → x = y
  | [], [], _, _, _ => rfl
  | [], _ :: _, h, _, _ => by simp at h
  | _ :: _, [], h, _, _ => by simp at h
  | a :: x, b :: y, h, h1, h2 => by
    simp [galeL] at h1 h2 h
    rw [galeL_anti x y h h1.2 h2.2, Nat.le_antisymm h1.1 h2.1]
theorem galeL_trans : ∀ (x y z : List Nat), x.length = y.length → y.length = z.length → galeL x y = true → galeL y z = true → galeL x z = true
  | [], _, _, _, _, _, _ => by simp [galeL]
  | _ :: _, [], _, h, _, _, _ => by simp at h
  | _ :: _, _ :: _, [], _, h, _, _ => by simp at h
  | a :: x, b :: y, c :: z, h, h', h1, h2 => by
    simp [galeL] at h1 h2 h h' ⊢
    exact ⟨Nat.le_trans h1.1 h2.1, galeL_trans x y z h h' h1.2 h2.2⟩

/-- What Below answers: whether, and the error's number. -/
def belowR (a b : Int) : Bool × Int :=
  if 0 ≤ a ∧ a ≤ 255 ∧ 0 ≤ b ∧ b ≤ 255 then
    if pop a.toNat = pop b.toNat then (galeL (els a.toNat) (els b.toNat), 0) else (false, 3)
  else (false, 1)
theorem belowR_bad (a b : Int) (h : (belowR a b).2 ≠ 0) : (belowR a b).1 = false := by
  unfold belowR at *; split <;> (try split) <;> simp_all
theorem belowR_range (a b : Int) : (belowR a b).2 = 0 ∨ (belowR a b).2 = 1 ∨ (belowR a b).2 = 3 := by
  unfold belowR; split <;> (try split) <;> simp
theorem belowR_ok {a b : Int} (h : (belowR a b).2 = 0) : 0 ≤ a ∧ a ≤ 255 ∧ 0 ≤ b ∧ b ≤ 255 ∧ pop a.toNat = pop b.toNat ∧ (belowR a b).1 = galeL (els a.toNat) (els b.toNat) := by
  unfold belowR at *
  split at h
  · rename_i g
    split at h
    · rename_i g2
      simp [g, g2]
    · simp at h
  · simp at h
theorem belowR_mk {a b : Int} (h : 0 ≤ a ∧ a ≤ 255 ∧ 0 ≤ b ∧ b ≤ 255) (h2 : pop a.toNat = pop b.toNat) : belowR a b = (galeL (els a.toNat) (els b.toNat), 0) := by
  unfold belowR; rw [if_pos h, if_pos h2]
theorem belowR_sym {a b : Int} (h : (belowR a b).2 = 0) : (belowR b a).2 = 0 := by
  obtain ⟨h1, h2, h3, h4, h5, _⟩ := belowR_ok h
  rw [belowR_mk ⟨h3, h4, h1, h2⟩ h5.symm]
theorem belowR_anti {a b : Int} (h : (belowR a b).2 = 0) (h1 : (belowR a b).1 = true) (h2 : (belowR b a).1 = true) : a = b := by
  obtain ⟨g1, g2, g3, g4, g5, g6⟩ := belowR_ok h
  obtain ⟨_, _, _, _, _, k6⟩ := belowR_ok (belowR_sym h)
  rw [g6] at h1; rw [k6] at h2
  have := els_inj a.toNat b.toNat (by omega) (by omega) (galeL_anti _ _ (by rw [← pop_els, ← pop_els, g5]) h1 h2)
  omega
theorem belowR_tr {a b c : Int} (h : (belowR a b).2 = 0) (h' : (belowR b c).2 = 0) : (belowR a c).2 = 0 ∧ ((belowR a b).1 = true → (belowR b c).1 = true → (belowR a c).1 = true) := by
  obtain ⟨g1, g2, g3, g4, g5, g6⟩ := belowR_ok h
  obtain ⟨k1, k2, k3, k4, k5, k6⟩ := belowR_ok h'
  rw [belowR_mk ⟨g1, g2, k3, k4⟩ (g5.trans k5), g6, k6]
  exact ⟨rfl, fun h1 h2 => galeL_trans _ _ _ (by rw [← pop_els, ← pop_els, g5]) (by rw [← pop_els, ← pop_els, k5]) h1 h2⟩

/-- Is x in l? -/
def memB (x : Nat) (l : List Nat) : Bool := decide (x ∈ l)
/-- Is a within b? -/
def subB (a b : Nat) : Bool := a &&& b == a
/-- Do both have an element? -/
def meetB (s x : Nat) : Bool := s &&& x != 0
theorem subB_iff {a b : Nat} : subB a b = true ↔ ∀ i, a.testBit i = true → b.testBit i = true := by
  unfold subB
  rw [beq_iff_eq]
  constructor
  · intro h i hi
    have := congrArg (fun x => x.testBit i) h
    simp [hi] at this
    exact this
  · intro h
    apply Nat.eq_of_testBit_eq
    intro i
    have := h i
    simp
    cases ha : a.testBit i <;> simp_all
theorem subB_xor (a b : Nat) : subB a b = (a ^^^ (a &&& b) == 0) := by
  rw [Bool.eq_iff_iff, subB_iff, beq_iff_eq]
  constructor
  · intro h
    apply Nat.eq_of_testBit_eq
    intro i
    have := h i
    simp
    cases ha : a.testBit i <;> simp_all
  · intro h i hi
    have := congrArg (fun x => x.testBit i) h
    simp [hi] at this
    exact this

/-- Another set within s; another one around it. -/
def otherIn (s x : Nat) : Bool := x != s && subB x s
def otherOut (s x : Nat) : Bool := x != s && subB s x
/-- Does s meet all of l without one of its elements? -/
def spareB (l : List Nat) (s : Nat) : Bool := (els s).any fun i => l.all (meetB (s ^^^ (s &&& 2 ^ i)))
def blockB (l : List Nat) (s : Nat) : Bool := l.all (meetB s) && !spareB l s
/-- Does s come of t by leaving out one element? -/
def downB (t s : Nat) : Bool := (els t).any fun i => t ^^^ (t &&& 2 ^ i) == s
end Go.Proofs.YtkebhhpfnalbfaaDoor
