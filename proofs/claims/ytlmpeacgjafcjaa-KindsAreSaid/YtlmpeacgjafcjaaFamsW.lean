/- axioms.ranks. -/
import Derived.Deep.QuietTactic
import Derived.BigQuiet
import Derived.Deep.RegionWith
import Derived.Deep.OwnRows
import Derived.Test.YtlmpeacgjafcjaaQBelW
import Derived.Test.YtlmpeacgjafcjaaBasQ
import Derived.Test.YtlmpeacgjafcjaaSieveQ
namespace Go.Proofs.Ytlmpeacgjafcjaa
open Go.RowKit

/-- m is a matroid's value: n and a slice that holds bs. -/
def Mat (w : World) (m : Value) (n : Int) (zs : List Int) : Prop := ∃ v, m = .agg #[.int .i64 n, v] ∧ Ints w v zs
theorem Mat.below {w w' : World} {m : Value} {n : Int} {zs : List Int} (h : Mat w m n zs) (hb : Below w.heap.size w w') : Mat w' m n zs := by
  obtain ⟨v, rfl, hv⟩ := h
  exact ⟨v, rfl, hv.below hb⟩

/-- A block of T numbers. -/
structure Tbl (g : Nat) (w : World) (T : Nat) (f : Nat → Nat) : Prop where
  cell : ∀ i, i < T → w.cell? ⟨g, i, none⟩ = some (.int .i64 (f i : Nat))
  frozen : ∀ i, w.frozen? ⟨g, i, none⟩ = false
  size : g < w.heap.size
theorem Tbl.set {g : Nat} {w : World} {T : Nat} {f f' : Nat → Nat} (h : Tbl g w T f) (j x : Nat) (hj : j < T) (hf : ∀ i, i < T → f' i = if j = i then x else f i) : Tbl g (w.setCell ⟨g, j, none⟩ (.int .i64 (x : Nat))) T f' := by
  refine ⟨fun i hi => ?_, fun i => (World.frozen?_setCell _ _ _ _).trans (h.frozen i), by simpa using h.size⟩
  rw [hf i hi]
  by_cases e : j = i
  · subst e
    rw [World.cell?_setCell_same _ _ _ (h.cell j hj)]; simp
  · rw [World.cell?_setCell_other _ _ _ _ (by simp), h.cell i hi]
    simp [e]
theorem Tbl.congr {g : Nat} {w : World} {T : Nat} {f f' : Nat → Nat} (h : Tbl g w T f) (hf : ∀ i, i < T → f' i = f i) : Tbl g w T f' := ⟨fun i hi => by rw [hf i hi]; exact h.cell i hi, h.frozen, h.size⟩
theorem Tbl.drewN {g : Nat} {w : World} {T : Nat} {f : Nat → Nat} (h : Tbl g w T f) (n : Nat) : Tbl g (w.drewN n) T f := ⟨h.cell, h.frozen, h.size⟩
theorem Tbl.drew {g : Nat} {w : World} {T : Nat} {f : Nat → Nat} (h : Tbl g w T f) : Tbl g w.drew T f := ⟨h.cell, h.frozen, h.size⟩
theorem Tbl.new (w : World) (T : Nat) : Tbl w.heap.size (w.alloc (.cells (madeCells #[.int .i64 0] T) 3)) T (fun _ => 0) := by
  refine ⟨fun i hi => ?_, fun i => World.frozen?_alloc_at _ _ _ _ rfl, by simp⟩
  rw [World.cell?_alloc_at _ _ _ _ rfl]
  simp [madeCells, hi, Nat.mod_one]
theorem Tbl.rkAt {g : Nat} {w : World} {T cap : Nat} {f : Nat → Nat} (h : Tbl g w T f) : RkAt w (.slice (some ⟨g, 0, none⟩) T cap) T f := ⟨g, 0, cap, rfl, h.size, fun i hi => by rw [Nat.zero_add]; exact h.cell i hi⟩
/-- The rank by the first k bases. -/
def rkTo (l : List Nat) (k s : Nat) : Nat := rk (l.take k) s
theorem rkTo_succ {l : List Nat} {k : Nat} (h : k < l.length) (s : Nat) : rkTo l (k + 1) s = max (rkTo l k s) (pop (s &&& l.getD k 0)) := by
  unfold rkTo rk
  rw [take_snoc h, List.foldl_append]
  rfl
theorem rk_le8 (l : List Nat) (hl : ∀ s ∈ l, s < 256) (s : Nat) : rk l s ≤ 8 := by
  rcases fold_at (fun b => pop (s &&& b)) l 0 with g | ⟨b, hb, g⟩
  · unfold rk; omega
  · have := pop_le (s &&& b) (by rw [Nat.and_comm]; exact and_lt (hl b hb))
    unfold rk
    omega

end Go.Proofs.Ytlmpeacgjafcjaa

namespace Go.Proofs.Ytlmpeacgjafcjaa
open Go.RowKit

/-- What sets.Check answers. -/
def setR (n s : Int) : Int := if 0 ≤ n ∧ n ≤ 8 ∧ 0 ≤ s ∧ s < 2 ^ n.toNat then 0 else 1
theorem setsCheck_any (n s : Int) (w : World) : Calls Try.prog 40 #[.int .i64 n, .int .i64 s] w fun e w' => e = .returned (.int .i64 (setR n s)) ∧ w' = w := by
  by_cases hn : 0 ≤ n ∧ n ≤ 8
  · obtain ⟨m, rfl⟩ := Int.eq_ofNat_of_zero_le hn.1
    have hm : m ≤ 8 := by omega
    obtain ⟨T, HT, hT2, hT⟩ : ∃ T : Nat, Hid (T = 2 ^ m) ∧ T ≤ 256 ∧ wrap64 (2 ^ m) = (T : Int) := ⟨2 ^ m, rfl, (pow_wrap _ hm).2, (pow_wrap _ hm).1⟩
    have E : Hid (setR m s = if 0 ≤ s ∧ s < T then 0 else 1) := by
      show _ = _
      unfold setR
      have e : ((2 ^ m : Nat) : Int) = (2 : Int) ^ m := by simp
      rw [HT.out, e]
      simp only [Int.toNat_natCast, hn, true_and]
    obtain ⟨q, HQ⟩ : ∃ q, Hid (setR m s = q) := ⟨_, rfl⟩
    rw [HQ.out]
    have E2 : Hid (q = if 0 ≤ s ∧ s < T then 0 else 1) := HQ.out.symm.trans E.out
    clear E HQ hn
    by_cases h1 : 0 ≤ s
    · by_cases h2 : s < T
      · have h2' : ¬ (T : Int) ≤ s := by omega
        go_enter Try.func40, Try.ntmps40
        go_wp2_with fail
        refine (isGround_yes _ _ (by omega) (by omega)).mono ?_
        rintro e w' ⟨rfl, rfl⟩
        go_wp2_with fail
        go_ret
        exact ⟨ret_int (by rw [E2.out, if_pos ⟨h1, h2⟩]), rfl⟩
      · have h2' : (T : Int) ≤ s := by omega
        go_enter Try.func40, Try.ntmps40
        go_wp2_with fail
        refine (isGround_yes _ _ (by omega) (by omega)).mono ?_
        rintro e w' ⟨rfl, rfl⟩
        go_wp2_with fail
        go_ret
        exact ⟨ret_int (by rw [E2.out, if_neg (by omega)]), rfl⟩
    · have h1' : s < 0 := by omega
      go_enter Try.func40, Try.ntmps40
      go_wp2_with fail
      refine (isGround_yes _ _ (by omega) (by omega)).mono ?_
      rintro e w' ⟨rfl, rfl⟩
      go_wp2_with fail
      go_ret
      exact ⟨ret_int (by rw [E2.out, if_neg (by omega)]), rfl⟩
  · have E : setR n s = 1 := by unfold setR; rw [if_neg (by omega)]
    rw [E]
    go_enter Try.func40, Try.ntmps40
    go_wp2_with fail
    refine (isGround_no _ _ (by omega)).mono ?_
    rintro e w' ⟨rfl, rfl⟩
    go_wp2_with fail
    go_ret
    exact ⟨rfl, rfl⟩

/-- A function of package axioms that answers as p does by r. -/
def ByRank (g T : Nat) (r : Nat → Nat) (p : Nat → Bool) : Prop := ∀ (v : Value) (s : Nat) (w : World), s < T → RkAt w v T r → Calls Try.prog g #[v, .int .i64 s] w fun e w' => e = .returned (.bool (p s)) ∧ Below w.heap.size w w'
theorem Sieve_at (n T g : Nat) (hT : T = 2 ^ n) (cs : Array Value) (p : Nat → Bool) (w : World) (hn : n ≤ 8) (eg : Enters g) (hg : AnswersTo w.heap.size w g cs T p) :
    Calls Try.prog 33 #[.int .i64 n, .func (.func g) #[] cs] w fun e w' => ∃ r, e = .returned r ∧ Own w.heap.size w' r ((List.range T).filter p) ∧ Below w.heap.size w w' := by
  subst hT
  exact Sieve_any n g cs p w hn eg hg
end Go.Proofs.Ytlmpeacgjafcjaa
