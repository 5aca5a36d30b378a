/- kinds.keepsTo, crossesOne, and the function values of Transversal and Laminar. -/
import Derived.Test.YtgkkemlemnlchaaKHallQ
import Derived.Test.YtgkkemlemnlchaaQBelQ
namespace Go.Proofs.Ytgkkemlemnlchaa
open Go.RowKit

theorem keep_drop {l : List Nat} {ms : List Int} {s k : Nat} (hk : k < l.length) : ((List.range l.length).drop k).all (fun i => decide ((pop (s &&& l.getD i 0) : Int) ≤ ms.getD i 0)) = (decide ((pop (s &&& l.getD k 0) : Int) ≤ ms.getD k 0) && ((List.range l.length).drop (k + 1)).all fun i => decide ((pop (s &&& l.getD i 0) : Int) ≤ ms.getD i 0)) := by
  rw [List.drop_eq_getElem_cons (by simpa using hk), List.all_cons, List.getElem_range]

theorem TransQ_ok (s b : Nat) (v : Value) (l : List Nat) (w : World) (hs : s < 256) (hl : ∀ s ∈ l, s < 256) (hb : w.cell? ⟨b, 0, none⟩ = some v) (h : Ints w v (N l)) :
    Calls Try.prog 22 #[.int .i64 s, .pointer (some ⟨b, 0, none⟩)] w fun e w' => e = .returned (.bool (hallTo l s s)) ∧ Below w.heap.size w w' := by
  have CG := hid (canGive_any v l s w hs hl h)
  obtain ⟨a, cap, rfl, _, _⟩ := h.nats
  clear h
  go_enter Try.func22, Try.ntmps22
  go_wp2_with fail
  refine CG.out.mono ?_
  rintro e w' ⟨rfl, hw'⟩
  subst hw'
  go_wp2_with fail
  go_ret
  exact ⟨rfl, Below.refl _ _⟩
end Go.Proofs.Ytgkkemlemnlchaa
