/- The contract of sets.Shadow. -/
import Derived.Test.YtkebhhpfnalbfabDoorBlock
import Derived.Test.YtkebhhpfnalbfabDoorShad2
namespace Go.Proofs.YtkebhhpfnalbfabDoor
open Go.RowKit

theorem Shadow_bad (n : Int) (v : Value) (zs : List Int) (w : World) (h : Ints w v zs) (hf : famR n zs ≠ 0) :
    Calls Tryd.prog 20 #[.int .i64 n, v] w fun e w' => e = .returned (.tuple #[.slice none 0 0, .int .i64 1]) ∧ w' = w := by
  obtain ⟨a, cap, hv, h1⟩ := family_err n v zs w h hf
  have HI := hid h
  have H1 := hid h1
  clear h h1 hf
  subst hv
  go_enter Tryd.func20, Tryd.ntmps20
  go_wp2_with fail
  refine (family_any _ _ zs _ HI.out).mono ?_
  rw [H1.out]
  rintro e w' ⟨rfl, rfl⟩
  go_wp2_with fail
  go_ret2
  exact ⟨rfl, rfl⟩

theorem Shadow_good (n : Nat) (v : Value) (l : List Nat) (w : World) (_ : Tabbed w) (hn : n ≤ 8) (_ : ∀ s ∈ l, s < 256) (h : Ints w v (N l)) (hf : famR n (N l) = 0) :
    Calls Tryd.prog 20 #[.int .i64 n, v] w fun e w' => ∃ r, e = .returned (.tuple #[r, .int .i64 0]) ∧ Own w.heap.size w' r ((List.range (2 ^ n)).filter fun s => l.any fun t => downB t s) ∧ Below w.heap.size w w' := Shadow_fam n v l w hn (fam_nat hf) h
end Go.Proofs.YtkebhhpfnalbfabDoor
