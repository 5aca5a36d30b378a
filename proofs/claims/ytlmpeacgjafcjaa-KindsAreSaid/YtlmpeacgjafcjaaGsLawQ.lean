/- The law rotakeep.GreedySwap. -/
import Derived.Test.YtlmpeacgjafcjaaGrLQ
import Derived.Test.YtlmpeacgjafcjaaThoseQ
import Derived.Test.YtlmpeacgjafcjaaPickNQ
namespace Go.Proofs.Ytlmpeacgjafcjaa
open Go.RowKit

/-- What of x is within c, of whatever number. -/
theorem and_within (x : Int) {c : Nat} (hc : c < 256) : ∃ y : Nat, bits .and .i64 x (c : Int) = (y : Int) ∧ subB y c = true := by
  refine ⟨(BitVec.ofInt 64 x).toNat &&& c, ?_, subB_iff.2 fun i hi => by rw [Nat.testBit_and] at hi; simp at hi; exact hi.2⟩
  have hlt : (BitVec.ofInt 64 x).toNat &&& c < 9223372036854775808 := Nat.lt_of_le_of_lt Nat.and_le_right (by omega)
  show IntKind.i64.wrap ((BitVec.ofInt 64 x &&& BitVec.ofInt 64 (c : Int)).toNat : Int) = _
  rw [BitVec.toNat_and, ofInt_i64 c (by omega), wrap_i64_nat _ hlt]
/-- There is a swap. -/
theorem swap_is {m : Nat} {l : List Nat} (hm : m ≤ 8) (hf : Fam m l) (hb : Bas l) {a b x : Nat} (ha : a ∈ l) (hbb : b ∈ l) (hx : subB x (dif a b) = true) : ∃ y ys, (List.range (2 ^ m)).filter (swapB l a b x) = y :: ys ∧ swapB l a b x y = true ∧ y < 2 ^ m := by
  obtain ⟨y, h1, _, h2, h3⟩ := greene hm hf hb ha hbb hx
  have hm1 : y ∈ (List.range (2 ^ m)).filter (swapB l a b x) := by
    rw [List.mem_filter, List.mem_range]
    refine ⟨sub_lt h1 (difn_lt (hf.lt b hbb)), ?_⟩
    unfold swapB memB
    simp [h1, h2, h3]
  cases e : (List.range (2 ^ m)).filter (swapB l a b x) with
  | nil => rw [e] at hm1; simp at hm1
  | cons z zs =>
    have hz : z ∈ (List.range (2 ^ m)).filter (swapB l a b x) := by rw [e]; simp
    rw [List.mem_filter, List.mem_range] at hz
    exact ⟨z, zs, rfl, hz.2, hz.1⟩
/-- What a ladder is. -/
theorem lad_facts {l : List Nat} (hb : Bas l) {a b : Nat} (ha : a ∈ l) (hbb : b ∈ l) : (ladder l a b).length = pop (dif a b) + 1 ∧ (ladder l a b).getD 0 0 = a ∧ (ladder l a b).getD (pop (dif a b)) 0 = b ∧ (∀ j, j < (ladder l a b).length → (ladder l a b).getD j 0 ∈ l) ∧ (∀ j, j + 1 < (ladder l a b).length → pop (dif ((ladder l a b).getD (j + 1) 0) ((ladder l a b).getD j 0)) = 1) := by
  obtain ⟨h1, h2, h3⟩ := lad_rungs hb hbb (pop (dif a b)) a ha rfl
  have hl := ladder_len (l := l) a b
  refine ⟨hl, ?_, ?_, fun j hj => ?_, h3⟩
  · unfold ladder
    cases pop (dif a b) <;> rfl
  · have h4 : (ladder l a b).getLast? = some b := h1
    rw [List.getLast?_eq_getElem?, hl] at h4
    simp only [List.getD, Nat.add_sub_cancel] at h4 ⊢
    rw [h4]
    rfl
  · refine h2 _ ?_
    show (ladder l a b).getD j 0 ∈ ladder l a b
    simp only [List.getD, List.getElem?_eq_getElem hj, Option.getD_some]
    exact List.getElem_mem _
end Go.Proofs.Ytlmpeacgjafcjaa
