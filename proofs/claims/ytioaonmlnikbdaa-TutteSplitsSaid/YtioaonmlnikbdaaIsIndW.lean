/- A region that draws its order, whose operations read, or call what keeps all that lay: one walk of the text's order serves every order. -/
import Derived.Deep.QuietTactic
import Derived.BigQuiet
import Derived.Test.YtioaonmlnikbdaaIndQ
namespace Go.Proofs.Ytioaonmlnikbdaa
open Go.RowKit

/-- The worlds in which all that lay in w lies as it lay. -/
structure Later (w : World) where
  now : World
  kept : Below w.heap.size w now
theorem Later.on {w : World} (x : Later w) {w' : World} (h : Below x.now.heap.size x.now w') : ∃ y : Later w, w' = y.now := ⟨⟨w', x.kept.trans (h.mono x.kept.size)⟩, rfl⟩
instance (w : World) : Nonempty (Later w) := ⟨⟨w, Below.refl _ _⟩⟩
theorem region_later {P : Program} {id : Nat} {Q : Exit → Act → World → Prop} {a : Act} {w : World} {l : List Oper} (hm : P.follows .mixedOrders = true) (hB : Region.lexB .any l.toArray = true)
    (h : wpQuiet P l.toArray (fun w' => ∃ x : Later w, w' = x.now) (fun a' => ∀ w', (∃ x : Later w, w' = x.now) → Q .normal a' w') l a) : (Code.region id l.toArray true).wp P Q a w :=
  wp_region_quiet (C := fun w' => ∃ x : Later w, w' = x.now) hm hB ⟨⟨_, (Below.refl _ _).drew⟩, rfl⟩ (by simpa using h)
end Go.Proofs.Ytioaonmlnikbdaa

namespace Go.Proofs.Ytioaonmlnikbdaa
open Go.RowKit Go.Shelf
attribute [local go_sem] Oper.semAt_some

/-- What closure has reckoned when some have come. -/
def cloTo (r : Nat → Nat) (s : Nat) (l : List Nat) : Nat := l.foldl (fun a i => if r (s ||| 2 ^ i) = r s then a ||| 2 ^ i else a) s
theorem cloTo_snoc (r : Nat → Nat) (s : Nat) (l : List Nat) (i : Nat) : cloTo r s (l ++ [i]) = if r (s ||| bt i) = r s then cloTo r s l ||| bt i else cloTo r s l := by
  unfold cloTo bt
  rw [List.foldl_append]
  rfl
theorem cloTo_lt (r : Nat → Nat) (s : Nat) (hs : s < 256) : ∀ (l : List Nat), (∀ i ∈ l, i < 8) → cloTo r s l < 256 := fun l hl => by
  refine lt_of_bits (n := 8) fun j hj => ?_
  unfold cloTo at hj
  rw [fold_bit (fun i => r (s ||| 2 ^ i) = r s)] at hj
  simp only [Bool.or_eq_true, Bool.and_eq_true, decide_eq_true_eq] at hj
  rcases hj with hj | hj
  · exact bit8 hs hj
  · exact hl j hj.1

end Go.Proofs.Ytioaonmlnikbdaa

namespace Go.Proofs.Ytioaonmlnikbdaa
open Go.RowKit

end Go.Proofs.Ytioaonmlnikbdaa

namespace Go.Proofs.Ytioaonmlnikbdaa
open Go.RowKit Go.Shelf
attribute [local go_sem] Oper.semAt_some

set_option maxHeartbeats 1000000 in
theorem isInd_q (v : Value) (T : Nat) (r : Nat → Nat) (s : Nat) (w : World) (hT : T ≤ 256) (hs : s < T) (h : RkAt w v T r) :
    Calls Try.prog 37 #[v, .int .i64 s] w fun e w' => e = .returned (.bool (r s == pop s)) ∧ ∃ k, w' = w.drewN k := by
  obtain ⟨b, off, cap, rfl, h1, h2⟩ := h
  have hc := h2 s hs
  have HS := hid (fun w' => size_any s w' (by omega))
  clear h2
  go_enter Try.func37, Try.ntmps37
  go_wp2_with fail
  go_quiet ((go_at_call 45; refine (HS.out _).mono ?_; rintro e w' ⟨rfl, rfl⟩; exact ⟨rfl, _, rfl⟩))
  go_wp2_with fail
  go_ret
  exact ⟨ret_bool (by rw [Bool.eq_iff_iff, beq_iff_eq, beq_iff_eq]; omega), _, rfl⟩
end Go.Proofs.Ytioaonmlnikbdaa
