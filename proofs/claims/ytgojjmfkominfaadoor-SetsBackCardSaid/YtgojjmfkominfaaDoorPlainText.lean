/- Plain mathematics: the text of a set. -/
import Derived.Test.YtgojjmfkominfaaDoorPlain
namespace Go.Proofs.YtgojjmfkominfaaDoor

/-- An element's digit. -/
def dig (i : Nat) : UInt8 := UInt8.ofNat (48 + i)
def digS (i : Nat) : ByteArray := ⟨#[dig i]⟩
/-- The text of elements, a blank between two. -/
def txt : List Nat → List UInt8
  | [] => []
  | [x] => [dig x]
  | x :: y :: l => dig x :: 32 :: txt (y :: l)
def joinT (acc : List UInt8) (r : List Nat) : List UInt8 := if r = [] then acc else if acc = [] then txt r else acc ++ 32 :: txt r
theorem joinT_nil (acc : List UInt8) : joinT acc [] = acc := by simp [joinT]
theorem joinT_first (x : Nat) (l : List Nat) : joinT [] (x :: l) = joinT [dig x] l := by
  cases l <;> simp [joinT, txt]
theorem joinT_more (acc : List UInt8) (h : acc ≠ []) (x : Nat) (l : List Nat) : joinT acc (x :: l) = joinT (acc ++ [32] ++ [dig x]) l := by
  cases l <;> simp [joinT, txt, h]

/-- What Read answers, from byte i on: the set, the error's number, where. -/
def rd (i s next : Nat) : List UInt8 → Int × Int × Int
  | [] => if 0 < i ∧ i % 2 = 0 then (0, 4, i) else (s, 0, 0)
  | c :: l =>
    if i % 2 = 1 then if c.toNat ≠ 32 ∨ next = 8 then (0, 4, i) else rd (i + 1) s next l
    else if c.toNat < 48 + next ∨ 56 ≤ c.toNat then (0, 4, i) else rd (i + 1) (s ||| 2 ^ (c.toNat - 48)) (c.toNat - 48 + 1) l
def rdT (t : ByteArray) : Int × Int × Int := rd 0 0 0 t.data.toList
theorem or_lt {s e : Nat} (hs : s < 256) (he : e < 8) : s ||| 2 ^ e < 256 :=
  Nat.or_lt_two_pow (n := 8) (by omega) (Nat.pow_lt_pow_right (by omega) he)

theorem txt_snoc : ∀ (l : List Nat) (e : Nat), l ≠ [] → txt (l ++ [e]) = txt l ++ [32] ++ [dig e]
  | [], _, h => absurd rfl h
  | [x], e, _ => by simp [txt]
  | x :: y :: l, e, _ => by
    have := txt_snoc (y :: l) e (by simp)
    simp only [List.cons_append] at this ⊢
    rw [txt, this, txt]
    simp
theorem els_or : ∀ e : Nat, e < 8 → ∀ s : Nat, s < 2 ^ e → els (s ||| 2 ^ e) = els s ++ [e] := by decide +kernel
theorem or_lt' {e s : Nat} (h : s < 2 ^ e) : s ||| 2 ^ e < 2 ^ (e + 1) := Nat.or_lt_two_pow (by rw [Nat.pow_succ]; omega) (Nat.pow_lt_pow_right (by omega) (by omega))
theorem or_ne (s e : Nat) : s ||| 2 ^ e ≠ 0 := fun h => by
  have := congrArg (fun x => x.testBit e) h
  simp at this
theorem dig_of {c : UInt8} {e : Nat} (h : c.toNat = 48 + e) : dig e = c := by
  unfold dig; rw [← h]; simp
theorem byte_32 {c : UInt8} (h : c.toNat = 32) : c = 32 := by
  have : c = UInt8.ofNat c.toNat := by simp
  rw [this, h]; rfl
theorem els_ne {s : Nat} (hs : s < 256) (h : s ≠ 0) : els s ≠ [] := by
  rw [els_step s hs (by omega)]; simp

theorem rd_inv : ∀ (l : List UInt8) (i s nx : Nat), s < 2 ^ nx → nx ≤ 8 → (0 < i → s ≠ 0) → (i = 0 → s = 0 ∧ nx = 0) → (rd i s nx l).2.1 = 0 →
    ∃ a : Nat, (rd i s nx l).1 = a ∧ a < 256 ∧ txt (els a) = txt (els s) ++ (if 0 < i ∧ i % 2 = 0 then [32] else []) ++ l
  | [], i, s, nx, hs, hn, h1, h0, hc => by
    have p8 : (2 : Nat) ^ nx ≤ 256 := (Nat.pow_le_pow_right (by omega) hn : 2 ^ nx ≤ 2 ^ 8)
    unfold rd at hc ⊢
    by_cases h : 0 < i ∧ i % 2 = 0
    · rw [if_pos h] at hc; simp at hc
    · rw [if_neg h, if_neg h]
      exact ⟨s, rfl, by omega, by simp⟩
  | c :: l, i, s, nx, hs, hn, h1, h0, hc => by
    have p8 : (2 : Nat) ^ nx ≤ 256 := (Nat.pow_le_pow_right (by omega) hn : 2 ^ nx ≤ 2 ^ 8)
    unfold rd at hc ⊢
    by_cases hodd : i % 2 = 1
    · rw [if_pos hodd] at hc ⊢
      by_cases hb : c.toNat ≠ 32 ∨ nx = 8
      · rw [if_pos hb] at hc; simp at hc
      · rw [if_neg hb] at hc ⊢
        obtain ⟨a, e1, e2, e3⟩ := rd_inv l (i + 1) s nx hs hn (fun _ => h1 (by omega)) (by omega) hc
        refine ⟨a, e1, e2, ?_⟩
        rw [e3, if_pos (by omega), if_neg (by omega), byte_32 (by omega : c.toNat = 32)]
        simp
    · rw [if_neg hodd] at hc ⊢
      by_cases hb : c.toNat < 48 + nx ∨ 56 ≤ c.toNat
      · rw [if_pos hb] at hc; simp at hc
      · rw [if_neg hb] at hc ⊢
        obtain ⟨e, he⟩ : ∃ e, c.toNat = 48 + e := ⟨c.toNat - 48, by omega⟩
        rw [he, show 48 + e - 48 = e by omega] at hc ⊢
        have hse : s < 2 ^ e := Nat.lt_of_lt_of_le hs (Nat.pow_le_pow_right (by omega) (by omega))
        obtain ⟨a, e1, e2, e3⟩ := rd_inv l (i + 1) (s ||| 2 ^ e) (e + 1) (or_lt' hse) (by omega) (fun _ => or_ne s e) (by omega) hc
        refine ⟨a, e1, e2, ?_⟩
        rw [e3, if_neg (by omega), els_or e (by omega) s hse]
        by_cases hi : i = 0
        · obtain ⟨rfl, rfl⟩ := h0 hi
          subst hi
          rw [els_zero, ← dig_of he]
          simp [txt]
        · rw [txt_snoc _ _ (els_ne (by omega) (h1 (by omega))), if_pos (by omega), ← dig_of he]
          simp
theorem read_back {t : ByteArray} (h : (rdT t).2.1 = 0) : ∃ a : Nat, (rdT t).1 = a ∧ a < 256 ∧ (⟨(txt (els a)).toArray⟩ : ByteArray) = t := by
  obtain ⟨a, h1, h2, h3⟩ := rd_inv t.data.toList 0 0 0 (by simp) (by omega) (by omega) (by simp) h
  refine ⟨a, h1, h2, ?_⟩
  rw [h3, els_zero]
  simp [txt]
theorem write_read : ∀ s : Nat, s < 256 → rdT ⟨(txt (els s)).toArray⟩ = ((s : Int), 0, 0) := by decide +kernel
end Go.Proofs.YtgojjmfkominfaaDoor
