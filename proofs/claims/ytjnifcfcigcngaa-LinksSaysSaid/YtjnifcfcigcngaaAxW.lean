/- axioms.family, for whatever function answers as p does by the ranks; sets.Check. -/
import Derived.Test.YtjnifcfcigcngaaBasW
import Derived.Test.YtjnifcfcigcngaaSieveQ
import Derived.Test.YtjnifcfcigcngaaRanksWQ
namespace Go.Proofs.Ytjnifcfcigcngaa
open Go.RowKit

/-- What sets.Check answers. -/
def setR (n s : Int) : Int := if 0 ≤ n ∧ n ≤ 8 ∧ 0 ≤ s ∧ s < 2 ^ n.toNat then 0 else 1
theorem setsCheck_any (n s : Int) (w : World) : Calls Try.prog 36 #[.int .i64 n, .int .i64 s] w fun e w' => e = .returned (.int .i64 (setR n s)) ∧ w' = w := by
  by_cases hn : 0 ≤ n ∧ n ≤ 8
  · obtain ⟨m, rfl⟩ := Int.eq_ofNat_of_zero_le hn.1
    have hm : m ≤ 8 := by omega
    obtain ⟨T, HT, hT2, hT⟩ : ∃ T : Nat, Hid (T = 2 ^ m) ∧ T ≤ 256 ∧ wrap64 (2 ^ m) = (T : Int) := ⟨2 ^ m, rfl, (pow_wrap _ hm).2, (pow_wrap _ hm).1⟩
    have E : Hid (setR m s = if 0 ≤ s ∧ s < T then 0 else 1) := by
      show _ = _
      unfold setR
      have e : ((2 ^ m : Nat) : Int) = (2 : Int) ^ m := by simp
      rw [HT.out, e]
      simp only [Int.toNat_natCast, hn, true_and]
    obtain ⟨q, HQ⟩ : ∃ q, Hid (setR m s = q) := ⟨_, rfl⟩
    rw [HQ.out]
    have E2 : Hid (q = if 0 ≤ s ∧ s < T then 0 else 1) := HQ.out.symm.trans E.out
    clear E HQ hn
    by_cases h1 : 0 ≤ s
    · by_cases h2 : s < T
      · have h2' : ¬ (T : Int) ≤ s := by omega
        go_enter Try.func36, Try.ntmps36
        go_wp2_with fail
        refine (isGround_yes _ _ (by omega) (by omega)).mono ?_
        rintro e w' ⟨rfl, rfl⟩
        go_wp2_with fail
        go_ret
        exact ⟨ret_int (by rw [E2.out, if_pos ⟨h1, h2⟩]), rfl⟩
      · have h2' : (T : Int) ≤ s := by omega
        go_enter Try.func36, Try.ntmps36
        go_wp2_with fail
        refine (isGround_yes _ _ (by omega) (by omega)).mono ?_
        rintro e w' ⟨rfl, rfl⟩
        go_wp2_with fail
        go_ret
        exact ⟨ret_int (by rw [E2.out, if_neg (by omega)]), rfl⟩
    · have h1' : s < 0 := by omega
      go_enter Try.func36, Try.ntmps36
      go_wp2_with fail
      refine (isGround_yes _ _ (by omega) (by omega)).mono ?_
      rintro e w' ⟨rfl, rfl⟩
      go_wp2_with fail
      go_ret
      exact ⟨ret_int (by rw [E2.out, if_neg (by omega)]), rfl⟩
  · have E : setR n s = 1 := by unfold setR; rw [if_neg (by omega)]
    rw [E]
    go_enter Try.func36, Try.ntmps36
    go_wp2_with fail
    refine (isGround_no _ _ (by omega)).mono ?_
    rintro e w' ⟨rfl, rfl⟩
    go_wp2_with fail
    go_ret
    exact ⟨rfl, rfl⟩

/-- A function of package axioms that answers as p does by r. -/
def ByRank (g T : Nat) (r : Nat → Nat) (p : Nat → Bool) : Prop := ∀ (v : Value) (s : Nat) (w : World), s < T → RkAt w v T r → Calls Try.prog g #[v, .int .i64 s] w fun e w' => e = .returned (.bool (p s)) ∧ Below w.heap.size w w'
end Go.Proofs.Ytjnifcfcigcngaa

namespace Go.Proofs.Ytjnifcfcigcngaa
open Go.RowKit

theorem rk_small {m : Nat} {l : List Nat} (hm : m ≤ 8) (hf : Fam m l) : ∀ i, rk l i ≤ 8 := rk_le8 l (hf.lt256 hm)
/-- A literal slice. -/
theorem litsAt (w : World) (l : List Nat) (h : l.length ≤ 17592186044416 := by decide) : Ints (w.alloc (.cells (V l).toArray 3)) (.slice (some ⟨w.heap.size, 0, none⟩) l.length l.length) (N l) := by
  refine ⟨_, _, by rw [N_len], by rw [N_len]; exact h, fun _ => ⟨w.heap.size, 0, rfl, by simp, fun i hi => ?_⟩⟩
  rw [N_len] at hi
  rw [World.cell?_alloc_at _ _ _ _ rfl, N_getD, Nat.zero_add]
  simp [V, hi, List.getD]







end Go.Proofs.Ytjnifcfcigcngaa
