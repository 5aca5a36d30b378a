/- From what Family answers to families, and back; literal slices. -/
import Derived.Test.YtjnifcfcigcngaaOwnQ
import Derived.Test.YtjnifcfcigcngaaPlainAll
namespace Go.Proofs.Ytjnifcfcigcngaa
open Go.RowKit

theorem rises_fam {T : Int} : ∀ (zs : List Int) (last : Int), risesB T last zs = true → -1 ≤ last → ∃ l : List Nat, zs = N l ∧ l.Pairwise (· < ·) ∧ ∀ s ∈ l, last < (s : Int) ∧ (s : Int) < T
  | [], _, _, _ => ⟨[], rfl, List.Pairwise.nil, by simp⟩
  | z :: zs, last, h, hl => by
    simp only [risesB, Bool.and_eq_true, decide_eq_true_eq] at h
    obtain ⟨l, rfl, h2, h3⟩ := rises_fam zs z h.2 (by omega)
    refine ⟨z.toNat :: l, ?_, ?_, ?_⟩
    · simp only [N, List.map_cons]; congr 1; omega
    · rw [List.pairwise_cons]; exact ⟨fun s hs => by have := h3 s hs; omega, h2⟩
    · intro s hs
      rw [List.mem_cons] at hs
      rcases hs with rfl | hs
      · omega
      · have := h3 s hs; omega
theorem fam_rises {T : Int} : ∀ (l : List Nat) (last : Int), l.Pairwise (· < ·) → (∀ s ∈ l, last < (s : Int) ∧ (s : Int) < T) → risesB T last (N l) = true
  | [], _, _, _ => rfl
  | s :: l, last, hp, h => by
    rw [List.pairwise_cons] at hp
    have h1 := h s (by simp)
    show (decide (last < (s : Int)) && decide ((s : Int) < T) && risesB T s (N l)) = true
    rw [fam_rises l s hp.2 fun t ht => ⟨by have := hp.1 t ht; omega, (h t (by simp [ht])).2⟩]
    simp [h1.1, h1.2]
theorem fam_of {n : Int} {zs : List Int} (h : famR n zs = 0) : ∃ (m : Nat) (l : List Nat), n = m ∧ m ≤ 8 ∧ zs = N l ∧ Fam m l := by
  unfold famR at h
  split at h
  · rename_i g
    obtain ⟨l, h1, h2, h3⟩ := rises_fam zs (-1) g.2.2 (by omega)
    refine ⟨n.toNat, l, by omega, by omega, h1, h2, fun s hs => ?_⟩
    have := (h3 s hs).2
    have e : ((2 ^ n.toNat : Nat) : Int) = (2 : Int) ^ n.toNat := by simp
    omega
  · simp at h
theorem fam_mk {m : Nat} {l : List Nat} (hm : m ≤ 8) (h : Fam m l) : famR m (N l) = 0 := by
  unfold famR
  rw [if_pos]
  refine ⟨by omega, by omega, fam_rises l _ h.up fun s hs => ⟨by omega, ?_⟩⟩
  have := h.lt s hs
  have e : ((2 ^ m : Nat) : Int) = (2 : Int) ^ m := by simp
  simp only [Int.toNat_natCast]
  omega

theorem Ints.lit1 (w : World) (a : Int) : Ints (w.alloc (.cells #[.int .i64 a] 3)) (.slice (some ⟨w.heap.size, 0, none⟩) 1 1) [a] :=
  ⟨_, 1, rfl, by simp, fun _ => ⟨w.heap.size, 0, rfl, by simp, fun i hi => by
    have : i = 0 := by simpa using hi
    subst this
    rw [World.cell?_alloc_at _ _ _ _ rfl]; rfl⟩⟩
theorem Ints.lit2 (w : World) (a b : Int) : Ints (w.alloc (.cells #[.int .i64 a, .int .i64 b] 3)) (.slice (some ⟨w.heap.size, 0, none⟩) 2 2) [a, b] :=
  ⟨_, 2, rfl, by simp, fun _ => ⟨w.heap.size, 0, rfl, by simp, fun i hi => by
    rw [World.cell?_alloc_at _ _ _ _ rfl]
    match i, hi with
    | 0, _ => rfl
    | 1, _ => rfl⟩⟩
theorem Ints.lit3 (w : World) (a b c : Int) : Ints (w.alloc (.cells #[.int .i64 a, .int .i64 b, .int .i64 c] 3)) (.slice (some ⟨w.heap.size, 0, none⟩) 3 3) [a, b, c] :=
  ⟨_, 3, rfl, by simp, fun _ => ⟨w.heap.size, 0, rfl, by simp, fun i hi => by
    rw [World.cell?_alloc_at _ _ _ _ rfl]
    match i, hi with
    | 0, _ => rfl
    | 1, _ => rfl
    | 2, _ => rfl⟩⟩
theorem below_alloc (w : World) (o : Obj) : Below w.heap.size w (w.alloc o) := (Below.refl _ _).alloc (Nat.le_refl _) o
end Go.Proofs.Ytjnifcfcigcngaa
