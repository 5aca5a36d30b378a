/- The law rotakeep.GreedySwap. -/
import Derived.Test.YtioaonmlnikbdaaGrLQ
import Derived.Test.YtioaonmlnikbdaaThoseQ
import Derived.Test.YtioaonmlnikbdaaEqQ
import Derived.Test.YtioaonmlnikbdaaCplW
import Derived.Test.YtioaonmlnikbdaaFlAW
import Derived.Test.YtioaonmlnikbdaaWithoutQ
import Derived.Deep.RegionHeld3
import Derived.Test.YtioaonmlnikbdaaDelConQ
import Derived.Deep.CutRange
namespace Go.Proofs.Ytioaonmlnikbdaa
open Go.RowKit

/-- What Pick picks. -/
def pickN (p : Int) (n : Nat) : Nat := ((if p < 0 then -(p + 1) else p) % (n : Int)).toNat
theorem pickN_lt (p : Int) {n : Nat} (hn : 0 < n) : pickN p n < n := by
  unfold pickN
  have := Int.emod_nonneg (if p < 0 then -(p + 1) else p) (show (n : Int) ≠ 0 by omega)
  have := Int.emod_lt_of_pos (if p < 0 then -(p + 1) else p) (show (0 : Int) < n by omega)
  omega
theorem PickG_any (p : Int) (n : Nat) (w : World) (h1 : -9223372036854775808 ≤ p) (h2 : p ≤ 9223372036854775807) (hn : 0 < n) (hn2 : n ≤ 256) :
    Calls Try.prog 14 #[.int .i64 p, .int .i64 n] w fun e w' => e = .returned (.int .i64 (pickN p n)) ∧ w' = w := by
  have hz : ((n : Int) == 0) = false := by rw [beq_eq_false_iff_ne]; omega
  have PN : Hid (pickN p n = ((if p < 0 then -(p + 1) else p) % (n : Int)).toNat) := rfl
  by_cases hp : p < 0
  · rw [if_pos hp] at PN
    generalize pickN p n = r at *
    go_enter Try.func14, Try.ntmps14
    go_wp2
    go_ret
    refine ⟨ret_int ?_, rfl⟩
    rw [PN.out]
    have e : -((p + 1).tmod (n : Int)) = (-(p + 1)) % (n : Int) := by rw [← Int.neg_tmod, Int.tmod_eq_emod_of_nonneg (by omega)]
    have := Int.emod_nonneg (-(p + 1)) (show (n : Int) ≠ 0 by omega)
    omega
  · rw [if_neg hp] at PN
    generalize pickN p n = r at *
    go_enter Try.func14, Try.ntmps14
    go_wp2
    go_ret
    refine ⟨ret_int ?_, rfl⟩
    rw [PN.out]
    have := Int.emod_nonneg p (show (n : Int) ≠ 0 by omega)
    omega
/-- What of x is within c, of whatever number. -/
theorem and_within (x : Int) {c : Nat} (hc : c < 256) : ∃ y : Nat, bits .and .i64 x (c : Int) = (y : Int) ∧ subB y c = true := by
  refine ⟨(BitVec.ofInt 64 x).toNat &&& c, ?_, subB_iff.2 fun i hi => by rw [Nat.testBit_and] at hi; simp at hi; exact hi.2⟩
  have hlt : (BitVec.ofInt 64 x).toNat &&& c < 9223372036854775808 := Nat.lt_of_le_of_lt Nat.and_le_right (by omega)
  show IntKind.i64.wrap ((BitVec.ofInt 64 x &&& BitVec.ofInt 64 (c : Int)).toNat : Int) = _
  rw [BitVec.toNat_and, ofInt_i64 c (by omega), wrap_i64_nat _ hlt]
theorem two_swap : (List.range (2 ^ 4)).filter (swapB twoL 3 12 1) = 4 :: ((List.range (2 ^ 4)).filter (swapB twoL 3 12 1)).tail := by decide +kernel
/-- There is a swap. -/
theorem swap_is {m : Nat} {l : List Nat} (hm : m ≤ 8) (hf : Fam m l) (hb : Bas l) {a b x : Nat} (ha : a ∈ l) (hbb : b ∈ l) (hx : subB x (dif a b) = true) : ∃ y ys, (List.range (2 ^ m)).filter (swapB l a b x) = y :: ys ∧ swapB l a b x y = true ∧ y < 2 ^ m := by
  obtain ⟨y, h1, _, h2, h3⟩ := greene hm hf hb ha hbb hx
  have hm1 : y ∈ (List.range (2 ^ m)).filter (swapB l a b x) := by
    rw [List.mem_filter, List.mem_range]
    refine ⟨sub_lt h1 (difn_lt (hf.lt b hbb)), ?_⟩
    unfold swapB memB
    simp [h1, h2, h3]
  cases e : (List.range (2 ^ m)).filter (swapB l a b x) with
  | nil => rw [e] at hm1; simp at hm1
  | cons z zs =>
    have hz : z ∈ (List.range (2 ^ m)).filter (swapB l a b x) := by rw [e]; simp
    rw [List.mem_filter, List.mem_range] at hz
    exact ⟨z, zs, rfl, hz.2, hz.1⟩
/-- What a ladder is. -/
theorem lad_facts {l : List Nat} (hb : Bas l) {a b : Nat} (ha : a ∈ l) (hbb : b ∈ l) : (ladder l a b).length = pop (dif a b) + 1 ∧ (ladder l a b).getD 0 0 = a ∧ (ladder l a b).getD (pop (dif a b)) 0 = b ∧ (∀ j, j < (ladder l a b).length → (ladder l a b).getD j 0 ∈ l) ∧ (∀ j, j + 1 < (ladder l a b).length → pop (dif ((ladder l a b).getD (j + 1) 0) ((ladder l a b).getD j 0)) = 1) := by
  obtain ⟨h1, h2, h3⟩ := lad_rungs hb hbb (pop (dif a b)) a ha rfl
  have hl := ladder_len (l := l) a b
  refine ⟨hl, ?_, ?_, fun j hj => ?_, h3⟩
  · unfold ladder
    cases pop (dif a b) <;> rfl
  · have h4 : (ladder l a b).getLast? = some b := h1
    rw [List.getLast?_eq_getElem?, hl] at h4
    simp only [List.getD, Nat.add_sub_cancel] at h4 ⊢
    rw [h4]
    rfl
  · refine h2 _ ?_
    show (ladder l a b).getD j 0 ∈ ladder l a b
    simp only [List.getD, List.getElem?_eq_getElem hj, Option.getD_some]
    exact List.getElem_mem _
end Go.Proofs.Ytioaonmlnikbdaa

namespace Go.Proofs.Ytioaonmlnikbdaa
open Go.RowKit

end Go.Proofs.Ytioaonmlnikbdaa

namespace Go.Proofs.Ytioaonmlnikbdaa
open Go.RowKit

theorem two_dual : cmp 4 twoL = twoL := by decide +kernel
theorem setR_cases (m : Nat) (s : Int) : setR m s = 1 ∨ ∃ k : Nat, s = k ∧ k < 2 ^ m := by
  unfold setR
  have e : ((2 ^ m : Nat) : Int) = (2 : Int) ^ m := by simp
  by_cases h : 0 ≤ s ∧ s < (2 : Int) ^ m
  · obtain ⟨k, rfl⟩ := Int.eq_ofNat_of_zero_le h.1
    exact .inr ⟨k, rfl, by omega⟩
  · refine .inl (if_neg fun h2 => h ?_)
    rw [Int.toNat_natCast] at h2
    exact ⟨h2.2.2.1, h2.2.2.2⟩
theorem All_nat (n : Nat) (w : World) (hn : n ≤ 8) : Calls Try.prog 16 #[.int .i64 n] w fun e w' => e = .returned (.int .i64 (2 ^ n - 1 : Nat)) ∧ w' = w := by
  obtain ⟨T, HT, hT2, hT, hT0⟩ : ∃ T : Nat, Hid (T = 2 ^ n) ∧ T ≤ 256 ∧ wrap64 (2 ^ n) = (T : Int) ∧ 1 ≤ T := ⟨2 ^ n, rfl, (pow_wrap _ hn).2, (pow_wrap _ hn).1, Nat.one_le_two_pow⟩
  rw [← HT.out]
  have hti : (T : Int) - 1 = ((T - 1 : Nat) : Int) := by omega
  go_enter Try.func16, Try.ntmps16
  go_wp2
  go_ret
  exact ⟨rfl, rfl⟩
theorem cmp_getD {n : Nat} {l : List Nat} (hf : Fam n l) {k : Nat} (hk : k < l.length) : (cmp n l).getD k 0 < 2 ^ n ∧ l.getD (l.length - 1 - k) 0 = dif (2 ^ n - 1) ((cmp n l).getD k 0) := by
  have h1 : l.length - 1 - k < l.length := by omega
  have e : (cmp n l).getD k 0 = 2 ^ n - 1 - l.getD (l.length - 1 - k) 0 := by
    unfold cmp
    simp only [List.getD, List.getElem?_map, List.getElem?_reverse hk, List.getElem?_eq_getElem h1, Option.map_some, Option.getD_some]
  have h2 : l.getD (l.length - 1 - k) 0 < 2 ^ n := by
    simp only [List.getD, List.getElem?_eq_getElem h1, Option.getD_some]
    exact hf.lt _ (List.getElem_mem _)
  rw [e]
  refine ⟨cpl_lt, ?_⟩
  rw [dif_cpl cpl_lt, cpl_cpl h2]
theorem box_back {w w1 : World} {B : Nat} {x y : Value} (hx : w.cell? ⟨B, 0, none⟩ = some x ∧ w.cell? ⟨B, 1, none⟩ = some y) (hb : Below w.heap.size w w1) (hB : B < w.heap.size) : w1.cell? ⟨B, 0, none⟩ = some x ∧ w1.cell? ⟨B, 1, none⟩ = some y :=
  ⟨(hb.cell (p := ⟨B, 0, none⟩) hB).trans hx.1, (hb.cell (p := ⟨B, 1, none⟩) hB).trans hx.2⟩

end Go.Proofs.Ytioaonmlnikbdaa
