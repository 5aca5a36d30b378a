/- Contracts of package sets and of the document's helpers in one form for every input: the error's number, and the list where there is none. -/
import Derived.Test.YtkebhhpfnalbfabDoorOk
import Derived.Test.YtkebhhpfnalbfabDoorBelow
import Derived.Test.YtkebhhpfnalbfabDoorRefShad
namespace Go.Proofs.YtkebhhpfnalbfabDoor
open Go.RowKit

/-- r is what a call hands back beside the error e: the list that f tells, if there is no error; else nothing. -/
def Told (w : World) (r : Value) (e : Int) (l : List Nat) : Prop := (e = 0 → Ints w r (N l)) ∧ (e ≠ 0 → r = .slice none 0 0)
theorem Told.below {w w' : World} {r : Value} {e : Int} {l : List Nat} (h : Told w r e l) (hb : Below w.heap.size w w') : Told w' r e l := ⟨fun he => (h.1 he).below hb, h.2⟩
theorem Told.form {w : World} {r : Value} {e : Int} {l : List Nat} (h : Told w r e l) : ∃ a n cap, r = .slice a n cap := by
  by_cases he : e = 0
  · obtain ⟨a, cap, h1, _⟩ := (h.1 he).nats; exact ⟨a, _, cap, h1⟩
  · exact ⟨none, 0, 0, h.2 he⟩

theorem list_any (w : World) (u v : Value) (e : Int) (l : List Nat) (h1 : Told w u e l) (h2 : Told w v e l) :
    Calls Tryd.prog 9 #[u, .int .i64 e, v, .int .i64 e] w fun r w' => r = .returned (.bool true) ∧ Below w.heap.size w w' := by
  by_cases he : e = 0
  · subst he
    exact list_good w u v (N l) (h1.1 rfl) (h2.1 rfl)
  · exact (list_bad w u e (h1.2 he) (by rw [bne_iff_ne]; exact he) v).mono fun _ _ ⟨a, b⟩ => ⟨a, by rw [b]; exact Below.refl _ _⟩

def chE (n k : Int) : Int := if 0 ≤ n ∧ n ≤ 8 ∧ 0 ≤ k ∧ k ≤ n then 0 else 1
theorem Choose_any (n k : Int) (w : World) :
    Calls Tryd.prog 4 #[.int .i64 n, .int .i64 k] w fun e w' => ∃ r, e = .returned (.tuple #[r, .int .i64 (chE n k)]) ∧ Told w' r (chE n k) (chs n.toNat k.toNat) ∧ Below w.heap.size w w' := by
  unfold chE
  by_cases h : 0 ≤ n ∧ n ≤ 8 ∧ 0 ≤ k ∧ k ≤ n
  · rw [if_pos h]
    obtain ⟨m, rfl⟩ := Int.eq_ofNat_of_zero_le h.1
    obtain ⟨c, rfl⟩ := Int.eq_ofNat_of_zero_le h.2.2.1
    exact (Choose_ok (m := m) (c := c) (by omega) (by omega) w).mono fun _ _ ⟨r, h1, h2, h3⟩ => ⟨r, h1, ⟨fun _ => h2, fun h => absurd rfl h⟩, h3⟩
  · rw [if_neg h]
    exact (Choose_bad n k w h).mono fun _ _ ⟨h1, h2⟩ => ⟨_, h1, ⟨fun h => absurd h (by decide), fun _ => rfl⟩, h2⟩
theorem famR_01 (n : Int) (zs : List Int) : famR n zs = 0 ∨ famR n zs = 1 := by unfold famR; split <;> simp
/-- The sets of a list of numbers. -/
def natsOf (zs : List Int) : List Nat := zs.map Int.toNat
theorem natsOf_N (l : List Nat) : natsOf (N l) = l := by simp [natsOf, N, Function.comp_def]

theorem Least_any (n : Int) (v : Value) (zs : List Int) (w : World) (h : Ints w v zs) :
    Calls Tryd.prog 18 #[.int .i64 n, v] w fun e w' => ∃ r, e = .returned (.tuple #[r, .int .i64 (famR n zs)]) ∧ Told w' r (famR n zs) (lst (natsOf zs)) ∧ Below w.heap.size w w' := by
  by_cases hf : famR n zs = 0
  · obtain ⟨m, l, rfl, hm, rfl, hF⟩ := fam_of hf
    rw [hf, natsOf_N]
    exact (Least_ok hm hF  h).mono fun _ _ ⟨r, h1, h2, h3⟩ => ⟨r, h1, ⟨fun _ => h2, fun h => absurd rfl h⟩, h3⟩
  · have h1 : famR n zs = 1 := (famR_01 n zs).resolve_left hf
    have := Least_bad n v zs w h hf
    rw [h1] at hf ⊢
    exact this.mono fun _ _ ⟨h1, h2⟩ => ⟨_, h1, ⟨fun h => absurd h (by decide), fun _ => rfl⟩, by rw [h2]; exact Below.refl _ _⟩
theorem Most_any (n : Int) (v : Value) (zs : List Int) (w : World) (h : Ints w v zs) :
    Calls Tryd.prog 19 #[.int .i64 n, v] w fun e w' => ∃ r, e = .returned (.tuple #[r, .int .i64 (famR n zs)]) ∧ Told w' r (famR n zs) (mst (natsOf zs)) ∧ Below w.heap.size w w' := by
  by_cases hf : famR n zs = 0
  · obtain ⟨m, l, rfl, hm, rfl, hF⟩ := fam_of hf
    rw [hf, natsOf_N]
    exact (Most_ok hm hF  h).mono fun _ _ ⟨r, h1, h2, h3⟩ => ⟨r, h1, ⟨fun _ => h2, fun h => absurd rfl h⟩, h3⟩
  · have h1 : famR n zs = 1 := (famR_01 n zs).resolve_left hf
    have := Most_bad n v zs w h hf
    rw [h1] at hf ⊢
    exact this.mono fun _ _ ⟨h1, h2⟩ => ⟨_, h1, ⟨fun h => absurd h (by decide), fun _ => rfl⟩, by rw [h2]; exact Below.refl _ _⟩
theorem Shadow_any (n : Int) (v : Value) (zs : List Int) (w : World) (hw : Tabbed w) (h : Ints w v zs) :
    Calls Tryd.prog 20 #[.int .i64 n, v] w fun e w' => ∃ r, e = .returned (.tuple #[r, .int .i64 (famR n zs)]) ∧ Told w' r (famR n zs) (shd n.toNat (natsOf zs)) ∧ Below w.heap.size w w' := by
  by_cases hf : famR n zs = 0
  · obtain ⟨m, l, rfl, hm, rfl, hF⟩ := fam_of hf
    rw [hf, natsOf_N, Int.toNat_natCast]
    exact (Shadow_ok hm hF hw h).mono fun _ _ ⟨r, h1, h2, h3⟩ => ⟨r, h1, ⟨fun _ => h2, fun h => absurd rfl h⟩, h3⟩
  · have h1 : famR n zs = 1 := (famR_01 n zs).resolve_left hf
    have := Shadow_bad n v zs w h hf
    rw [h1] at hf ⊢
    exact this.mono fun _ _ ⟨h1, h2⟩ => ⟨_, h1, ⟨fun h => absurd h (by decide), fun _ => rfl⟩, by rw [h2]; exact Below.refl _ _⟩
theorem Blocker_any (n : Int) (v : Value) (zs : List Int) (w : World) (hw : Tabbed w) (h : Ints w v zs) :
    Calls Tryd.prog 21 #[.int .i64 n, v] w fun e w' => ∃ r, e = .returned (.tuple #[r, .int .i64 (famR n zs)]) ∧ Told w' r (famR n zs) (blk n.toNat (natsOf zs)) ∧ Below w.heap.size w w' := by
  by_cases hf : famR n zs = 0
  · obtain ⟨m, l, rfl, hm, rfl, hF⟩ := fam_of hf
    rw [hf, natsOf_N, Int.toNat_natCast]
    exact (Blocker_ok hm hF hw h).mono fun _ _ ⟨r, h1, h2, h3⟩ => ⟨r, h1, ⟨fun _ => h2, fun h => absurd rfl h⟩, h3⟩
  · have h1 : famR n zs = 1 := (famR_01 n zs).resolve_left hf
    have := Blocker_bad n v zs w h hf
    rw [h1] at hf ⊢
    exact this.mono fun _ _ ⟨h1, h2⟩ => ⟨_, h1, ⟨fun h => absurd h (by decide), fun _ => rfl⟩, h2⟩
theorem bad_any (ok : Bool) (e : Int) (w : World) : Calls Tryd.prog 5 #[.bool ok, .int .i64 e] w fun r w' => r = .returned (.int .i64 (if ok = true then 0 else e)) ∧ w' = w := by
  cases ok
  · exact bad_no e w
  · exact bad_yes e w
end Go.Proofs.YtkebhhpfnalbfabDoor
