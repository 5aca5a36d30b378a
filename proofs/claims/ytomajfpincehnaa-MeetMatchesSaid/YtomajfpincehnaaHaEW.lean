/- hall.least. -/
import Derived.Test.YtomajfpincehnaaHaCQ
import Derived.Test.YtomajfpincehnaaIsIndQ
namespace Go.Proofs.Ytomajfpincehnaa
open Go.RowKit Go.Shelf
attribute [local go_sem] Oper.semAt_some

/-- The world when four blocks are laid. -/
def boxH (w : World) (u t v : Value) : World := (((w.alloc (.cells #[u] 28)).alloc (.cells #[t] 3)).alloc (.cells #[v] 28)).alloc (.cells #[.int .i64 0] 3)
theorem boxH_is (w : World) (u t v : Value) : Below w.heap.size w (boxH w u t v) ∧ (boxH w u t v).heap.size = w.heap.size + 4 ∧ (boxH w u t v).heap[w.heap.size]? = some (.cells #[u] 28 (0, 0)) ∧ (boxH w u t v).heap[w.heap.size + 1]? = some (.cells #[t] 3 (0, 0)) ∧ (boxH w u t v).heap[w.heap.size + 2]? = some (.cells #[v] 28 (0, 0)) ∧ (boxH w u t v).heap[w.heap.size + 3]? = some (.cells #[.int .i64 0] 3 (0, 0)) := by
  unfold boxH
  refine ⟨((((Below.refl _ w).alloc (Nat.le_refl _) _).alloc (by simp) _).alloc (by simp; omega) _).alloc (by simp; omega) _, by simp, ?_, ?_, ?_, ?_⟩
  · rw [Below.heap_alloc _ _ _ (by simp; omega), Below.heap_alloc _ _ _ (by simp; omega), Below.heap_alloc _ _ _ (by simp)]
    exact World.alloc_heap_new w _
  · rw [Below.heap_alloc _ _ _ (by simp), Below.heap_alloc _ _ _ (by simp)]
    have := World.alloc_heap_new (w.alloc (.cells #[u] 28)) (.cells #[t] 3)
    simpa using this
  · rw [Below.heap_alloc _ _ _ (by simp)]
    have := World.alloc_heap_new ((w.alloc (.cells #[u] 28)).alloc (.cells #[t] 3)) (.cells #[v] 28)
    simpa using this
  · have := World.alloc_heap_new (((w.alloc (.cells #[u] 28)).alloc (.cells #[t] 3)).alloc (.cells #[v] 28)) (.cells #[.int .i64 0] 3)
    simpa using this
/-- The element, as a set of its own; or the empty set. -/
def leaV : Option Nat → Nat
  | some i => bt i
  | none => 0
theorem el_in {n c : Nat} (hc : c < 256) (hn : c < 2 ^ n) (x : El c) : x.1 < n := by
  have := (mem_els hc).1 x.2
  refine Classical.byContradiction fun hx => ?_
  rw [Nat.testBit_lt_two_pow (Nat.lt_of_lt_of_le hn (Nat.pow_le_pow_right (by decide) (by omega)))] at this
  cases this
end Go.Proofs.Ytomajfpincehnaa

namespace Go.Proofs.Ytomajfpincehnaa
open Go.RowKit

theorem wpList_snocH {B : Nat} {w : World} {l : List Nat} {v : Value} {b : Nat} {ad : Addr} {ops : Array Oper} {rest : List Oper} {o : Oper} {a : Act} {Q : Exit → Act → World → Prop} (hgd : o.guard = none) (s x : Operand)
    (ho : o.op = .call { callee := .builtin .append, args := #[s, x], argTypes := #[28, 28] }) (hs : a.eval s = v) (hx : a.eval x = .slice (some ad) 1 1) (h : Own B w v l) (hc : w.cell? ad = some (.int .i64 b)) (hl : l.length ≤ 256) (hB : B ≤ w.heap.size)
    (hK : ∀ v' w', Own B w' v' (l ++ [b]) → w.grownBy w' v.ownBlock → wpList Try.prog ops Q rest (a.put o.dst v') w') : wpList Try.prog ops Q (o :: rest) a w := by
  obtain ⟨i0, hi, hz0, hz1, hz2⟩ := info_parts Try.infoInt
  refine wpList_plain hgd fun K hk => ?_
  obtain ⟨v', w', hrun, r1, r2, r3⟩ := run_append_own (P := Try.prog) w B 28 o.type 3 i0 (.int .i64 0) 1 8 Try.underlying28 hi hz0 hz1 hz2 rfl (by decide) v l.length (V l) h ad 1 1 [.int .i64 b] rfl
      (fun j u hu => by
        have hj : j < 1 := (List.getElem?_eq_some_iff.1 hu).1
        obtain rfl : j = 0 := by omega
        simp only [List.getElem?_cons_zero] at hu
        rw [← hu, ← hc]
        simp [Addr.add])
      (by intro u hu; simp at hu; subst hu; rfl) (by unfold maxLen; omega) (by omega) hB
  unfold Oper.wp
  simp [execOp, ho, resolve, invoke, builtin, hs, hx, hrun, Result.andThen]
  exact hk _ _ (hK v' w' (Own.snoc r1) r2)
/-- What is answered of a list that stands. -/
def StaE (w : World) (o : Option (List Nat)) (e : Ending) (w' : World) : Prop := ((∀ L, o = some L → ∃ v, e = .returned (.tuple #[v, .int .i64 0]) ∧ Own w.heap.size w' v L) ∧ (o = none → e = .returned (.tuple #[.slice none 0 0, .int .i64 5]))) ∧ Below w.heap.size w w'
theorem dropN {l : List Nat} {k : Nat} (hk : k < l.length) : l.drop k = l.getD k 0 :: l.drop (k + 1) := by
  rw [List.drop_eq_getElem_cons hk, List.getD_eq_getElem?_getD, List.getElem?_eq_getElem hk]
  rfl
theorem ints_drop {w : World} {b off cap : Nat} {l : List Nat} {j : Nat} (h : Ints w (.slice (some ⟨b, off, none⟩) l.length cap) (N l)) (hj : j ≤ l.length) : Ints w (.slice (some ⟨b, off + j, none⟩) (l.length - j) (cap - j)) (N (l.drop j)) := by
  have hN : ∀ q : List Nat, (N q).length = q.length := fun q => by simp [N]
  obtain ⟨a, c, e, h1, h2⟩ := h.nats
  obtain ⟨rfl, rfl⟩ : some ⟨b, off, none⟩ = a ∧ cap = c := by simpa using e
  refine ⟨_, cap - j, by rw [hN, List.length_drop], by rw [hN, List.length_drop]; omega, fun hp => ⟨b, off + j, rfl, ?_, fun i hi => ?_⟩⟩
  · rw [hN, List.length_drop] at hp
    obtain ⟨b', off', e', h3, _⟩ := h2 (by omega)
    obtain ⟨rfl, rfl⟩ : b = b' ∧ off = off' := by simpa using e'
    exact h3
  · rw [hN, List.length_drop] at hp hi
    obtain ⟨b', off', e', _, h3⟩ := h2 (by omega)
    obtain ⟨rfl, rfl⟩ : b = b' ∧ off = off' := by simpa using e'
    have := h3 (j + i) (by omega)
    rw [Nat.add_assoc, this]
    simp [N, List.getD_eq_getElem?_getD, hi]
    rw [List.getElem?_eq_getElem (by omega)]
    rfl
theorem ints_none {w : World} {b off cap : Nat} {l : List Nat} {j : Nat} (_h : Ints w (.slice (some ⟨b, off, none⟩) l.length cap) (N l)) (hj : l.length ≤ j) : Ints w (.slice (some ⟨b, off, none⟩) 0 0) (N (l.drop j)) := by
  have hN : ∀ q : List Nat, (N q).length = q.length := fun q => by simp [N]
  refine ⟨_, 0, by rw [hN, List.length_drop, Nat.sub_eq_zero_of_le hj], by rw [hN, List.length_drop]; omega, fun hp => ?_⟩
  rw [hN, List.length_drop] at hp
  omega
theorem sta_go {r : Nat → Nat} {t : Nat} {l acc : List Nat} {k : Nat} {S : Option (List Nat)} (hk : k < l.length) (h : S = (staF r t (l.drop k)).map (acc ++ ·)) :
    (leaF r t (l.getD k 0) (l.drop (k + 1)) = none → S = none) ∧ ∀ i, leaF r t (l.getD k 0) (l.drop (k + 1)) = some i → S = (staF r (t ||| bt i) (l.drop (k + 1))).map ((acc ++ [i]) ++ ·) := by
  rw [dropN hk, staF] at h
  constructor
  · intro e
    rw [e] at h
    exact h
  · intro i e
    rw [e] at h
    rw [h, Option.map_map]
    congr 1
    funext L
    show acc ++ i :: L = acc ++ [i] ++ L
    simp
theorem lea_in {n : Nat} {r : Nat → Nat} {t s : Nat} {l : List Nat} {i : Nat} (hn : n ≤ 8) (hs : s < 2 ^ n) (h : leaF r t s l = some i) : i < n ∧ s.testBit i = true ∧ t.testBit i = false ∧ r (t ||| bt i) = pop (t ||| bt i) ∧ barF r (t ||| bt i) l = none := by
  unfold leaF at h
  have h1 := List.mem_of_find?_eq_some h
  have h2 := List.find?_some h
  have h3 := (mem_els (lt256 hn (sub_lt (dif_subl s t) hs))).1 h1
  rw [dif_bit] at h3
  simp at h3
  unfold leaB at h2
  rw [Bool.and_eq_true, beq_iff_eq, Option.isNone_iff_eq_none] at h2
  refine ⟨?_, h3.1, h3.2, h2.1, h2.2⟩
  refine Classical.byContradiction fun hx => ?_
  rw [Nat.testBit_lt_two_pow (Nat.lt_of_lt_of_le hs (Nat.pow_le_pow_right (by decide) (by omega)))] at h3
  cases h3.1
theorem bt_size : ∀ i : Nat, i < 8 → pop (bt i - 1) = i ∧ bt i - 1 < 256 ∧ 1 ≤ bt i ∧ bt i < 256 := by decide +kernel
end Go.Proofs.Ytomajfpincehnaa
