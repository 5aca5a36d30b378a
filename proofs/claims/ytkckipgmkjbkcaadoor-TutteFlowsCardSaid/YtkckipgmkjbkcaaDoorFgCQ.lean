/- rotakeep.TutteFlows: its closure, its numbers. -/
import Derived.Test.YtkckipgmkjbkcaaDoorFgAQ
import Derived.Test.YtkckipgmkjbkcaaDoorFgBQ
import Derived.Test.YtkckipgmkjbkcaaDoorFlEQ
import Derived.Test.YtkckipgmkjbkcaaDoorPickNQ
import Derived.Test.YtkckipgmkjbkcaaDoorMkToQ
namespace Go.Proofs.YtkckipgmkjbkcaaDoor
open Go.RowKit Go.Lib

theorem box_keepG {w w' : World} {b : Nat} {o : Obj} (h : w.heap[b]? = some o) (hb : Below w.heap.size w w') : w'.heap[b]? = some o := (hb.block b (Array.getElem?_eq_some_iff.1 h).1).trans h
theorem fg_lit (w : World) (a b : Int) (t : TypeId) : Ints (w.alloc (.cells #[.int .i64 a, .int .i64 b] t)) (.slice (some ⟨w.heap.size, 0, none⟩) 2 2) [a, b] :=
  ⟨_, 2, rfl, by simp, fun _ => ⟨w.heap.size, 0, rfl, by simp, fun i hi => by
    rw [World.cell?_alloc_at _ _ _ _ rfl]
    match i, hi with
    | 0, _ => rfl
    | 1, _ => rfl⟩⟩
theorem fg_edge (w : World) : EdgesI (w.alloc (.cells #[.int .i64 0, .int .i64 0] 30)) (.slice (some ⟨w.heap.size, 0, none⟩) 1 1) [(0, 0)] :=
  ⟨_, 1, rfl, by simp, fun _ => ⟨w.heap.size, 0, rfl, by simp, fun i hi => by
    obtain rfl : i = 0 := by simpa using hi
    rw [World.cell?_alloc_at _ _ _ _ rfl, World.cell?_alloc_at _ _ _ _ rfl]
    exact ⟨rfl, rfl⟩⟩⟩
theorem fg_one : graphR 1 [(0, 0)] = 0 := by decide
theorem fg_rk : flR [(0, 0)] = 1 := by decide +kernel
theorem fg_pol : (List.range 2).map (flC [(0, 0)]) = [-1, 1] := by decide +kernel
/-- The edges' numbers of a code. -/
def fgX (p m c : Nat) : Nat → Nat := apF (fun _ => (· + 1)) m (digF p m c)
theorem fgX_at {p m c j : Nat} (hj : j < m) : fgX p m c j = c / p ^ j % p + 1 := by
  unfold fgX apF digF
  rw [if_pos hj, if_pos hj]
theorem fgX_le {p m c j : Nat} (hp : 0 < p) (hj : j < m) : fgX p m c j ≤ p := by
  rw [fgX_at hj]
  have := Nat.mod_lt (c / p ^ j) hp
  omega
theorem bd_bound {E : List (Nat × Nat)} {p : Nat} {u : Nat → Nat} (v : Nat) : ∀ j, (∀ i, i < j → u i ≤ p) → -((p * j : Nat) : Int) ≤ bdZ E j (fun i => (u i : Int)) v ∧ bdZ E j (fun i => (u i : Int)) v ≤ ((p * j : Nat) : Int)
  | 0, _ => by unfold bdZ; simp [tal]
  | j + 1, h => by
    have ih := bd_bound (E := E) v j fun i hi => h i (by omega)
    have h1 := h j (by omega)
    rw [bd_succ, Nat.mul_succ]
    unfold dlZ
    by_cases a : ea E j = v <;> by_cases b : eb E j = v <;> simp [a, b] <;> omega
/-- How many codes below c are flows. -/
noncomputable def fgC (E : List (Nat × Nat)) (n q m c : Nat) : Int := tal (fun c => if conB E n q m (fgX (q - 1) m c) = true then 1 else 0) (List.range c)
theorem fgC_step (E : List (Nat × Nat)) (n q m c : Nat) : fgC E n q m (c + 1) = fgC E n q m c + if conB E n q m (fgX (q - 1) m c) = true then 1 else 0 := by
  unfold fgC
  rw [tal_range]
theorem fgC_le (E : List (Nat × Nat)) (n q m : Nat) : ∀ c, 0 ≤ fgC E n q m c ∧ fgC E n q m c ≤ c
  | 0 => by unfold fgC; simp [tal]
  | c + 1 => by
    have := fgC_le E n q m c
    rw [fgC_step]
    split <;> omega
theorem con_any (E : List (Nat × Nat)) (n q m : Nat) (u : Nat → Nat) : (((List.range n).map (bdZ E m fun i => (u i : Int))).any fun z => !decide ((q : Int) ∣ z)) = !conB E n q m u := by
  rw [Bool.eq_iff_iff]
  unfold conB
  rw [List.any_eq_true, Bool.not_eq_true', decide_eq_false_iff_not]
  constructor
  · rintro ⟨z, hz, h1⟩ h2
    obtain ⟨v, hv, rfl⟩ := List.mem_map.1 hz
    simp at h1
    exact h1 (h2 v (List.mem_range.1 hv))
  · intro h
    apply Classical.byContradiction
    intro hn
    refine h fun v hv => ?_
    apply Classical.byContradiction
    intro h3
    exact hn ⟨_, List.mem_map.2 ⟨v, List.mem_range.2 hv, rfl⟩, by simpa using h3⟩
theorem clo_ok (z : Int) (q b : Nat) (w : World) (hq : 0 < q) (hc : w.cell? ⟨b, 0, none⟩ = some (.int .i64 q)) :
    Calls Tryd.prog 9 (#[.int .i64 z] ++ #[.pointer (some ⟨b, 0, none⟩)]) w fun e w' => e = .returned (.bool (!decide ((q : Int) ∣ z))) ∧ Below w.heap.size w w' := by
  have hqz : ((q : Int) == 0) = false := by rw [beq_eq_false_iff_ne]; omega
  have hq0 : ¬ (q : Int) = 0 := by omega
  by_cases h : (q : Int) ∣ z
  · have h1 : z.tmod (q : Int) = 0 := Int.tmod_eq_zero_of_dvd h
    have hd : decide ((q : Int) ∣ z) = true := by simpa using h
    rw [hd]
    clear h hd
    go_enter Tryd.func9, Tryd.ntmps9
    go_wp2_with fail
    go_ret
    exact ⟨rfl, Below.refl _ _⟩
  · have h1 : ¬ z.tmod (q : Int) = 0 := fun e => h (Int.dvd_of_tmod_eq_zero e)
    have h2 : (z.tmod (q : Int) != 0) = true := by rw [bne_iff_ne]; exact h1
    have hd : decide ((q : Int) ∣ z) = false := by simpa using h
    rw [hd]
    clear h hd
    go_enter Tryd.func9, Tryd.ntmps9
    go_wp2_with fail
    go_ret
    exact ⟨rfl, Below.refl _ _⟩
end Go.Proofs.YtkckipgmkjbkcaaDoor
