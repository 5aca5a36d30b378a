/- minors.Dual. -/
import Derived.Test.YtimciginbiobmaaEqQ
import Derived.Test.YtimciginbiobmaaCplW
import Derived.Test.YtimciginbiobmaaWithoutW
import Derived.Deep.RegionHeld3
import Derived.Test.YtimciginbiobmaaPlainAll
namespace Go.Proofs.Ytimciginbiobmaa
open Go.RowKit

end Go.Proofs.Ytimciginbiobmaa

namespace Go.Proofs.Ytimciginbiobmaa
open Go.RowKit

theorem mInd_any (v : Value) (T : Nat) (r : Nat → Nat) (s : Nat) (w : World) (hT : T ≤ 256) (hs : s < T) (h : RkAt w v T r) :
    Calls Try.prog 107 #[v, .int .i64 s] w fun e w' => e = .returned (.bool (r s == pop s)) ∧ Below w.heap.size w w' := by
  obtain ⟨b, off, cap, rfl, h1, h2⟩ := h
  have hc := h2 s hs
  have HS := hid (fun w' => size_any s w' (by omega))
  clear h2
  go_enter Try.func107, Try.ntmps107
  go_wp2_with fail
  go_quiet ((go_at_call 94; refine (HS.out _).mono ?_; rintro e w' ⟨rfl, rfl⟩; exact ⟨rfl, _, rfl⟩))
  go_wp2_with fail
  go_ret
  exact ⟨ret_bool (by rw [Bool.eq_iff_iff, beq_iff_eq, beq_iff_eq]; omega), drewN_below _ _ _⟩
end Go.Proofs.Ytimciginbiobmaa

namespace Go.Proofs.Ytimciginbiobmaa
open Go.RowKit

theorem two_new (W : World) (x y : Value) (t : TypeId) {B : Nat} (h : W.heap.size = B) :
    Below W.heap.size W ((W.alloc (.cells #[x] t)).alloc (.cells #[y] t)).drew ∧ ((W.alloc (.cells #[x] t)).alloc (.cells #[y] t)).drew.cell? ⟨B, 0, none⟩ = some x ∧ ((W.alloc (.cells #[x] t)).alloc (.cells #[y] t)).drew.cell? ⟨B + 1, 0, none⟩ = some y ∧ ((W.alloc (.cells #[x] t)).alloc (.cells #[y] t)).drew.heap.size = B + 2 := by
  subst h
  refine ⟨(((Below.refl _ _).alloc (Nat.le_refl _) _).alloc (by simp) _).drew, ?_, ?_, ?_⟩
  · exact cellA _ (Boxed.new W t x).cell
  · have := (Boxed.new (W.alloc (.cells #[x] t)) t y).cell
    rw [World.size_alloc] at this
    exact this
  · show ((W.alloc (.cells #[x] t)).alloc (.cells #[y] t)).heap.size = _
    simp
end Go.Proofs.Ytimciginbiobmaa

namespace Go.Proofs.Ytimciginbiobmaa
open Go.RowKit

theorem back_box {w w1 : World} {B : Nat} {x y : Value} (hx : w.cell? ⟨B, 0, none⟩ = some x ∧ w.cell? ⟨B, 1, none⟩ = some y) (hb : Below w.heap.size w w1) (hB : B < w.heap.size) : w1.cell? ⟨B, 0, none⟩ = some x ∧ w1.cell? ⟨B, 1, none⟩ = some y :=
  ⟨(hb.cell (p := ⟨B, 0, none⟩) hB).trans hx.1, (hb.cell (p := ⟨B, 1, none⟩) hB).trans hx.2⟩
theorem uni_one : uniL 1 0 = [0] := by decide +kernel
end Go.Proofs.Ytimciginbiobmaa
