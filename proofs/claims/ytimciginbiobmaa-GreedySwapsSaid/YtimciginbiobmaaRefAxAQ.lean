/- The document's answers of chapter 2: rotaref.Free, Circuits, Flats, Hyperplanes, Closure. -/
import Derived.Deep.RegionWith
import Derived.Test.YtimciginbiobmaaRefLeastQ
import Derived.Test.YtimciginbiobmaaPlainAll
import Derived.Test.YtimciginbiobmaaAxQ
namespace Go.Proofs.Ytimciginbiobmaa
open Go.RowKit

set_option maxRecDepth 20000 in
set_option maxHeartbeats 800000 in
theorem Free1_any (s bx : Nat) (v : Value) (l : List Nat) (w : World) (hs : s < 256) (hl : ∀ s ∈ l, s < 256) (hbx : w.cell? ⟨bx, 1, none⟩ = some v) (h : Ints w v (N l)) :
    Calls Try.prog 110 #[.int .i64 s, .pointer (some ⟨bx, 0, none⟩)] w fun e w' => e = .returned (.bool (freeK l s)) ∧ w' = w := by
  obtain ⟨a, cap, rfl, hlen, hc⟩ := h.nats
  clear h
  unfold freeK
  generalize hp : (fun b => subB s b) = p
  have HP := hid (fun b => congrFun hp b)
  clear hp
  go_enter Try.func110, Try.ntmps110
  go_wp2_with fail
  go_loop [4] (fun i => ∃ k : Nat, k ≤ l.length ∧ i = .int .i64 k ∧ Hid (l.any p = (l.drop k).any p)) (fun i => l.length - (intOf i).toNat)
  case atStart => exact ⟨0, Nat.zero_le _, rfl, rfl⟩
  case round =>
    obtain ⟨k, hk, rfl, R⟩ := hrel
    by_cases hlt : k < l.length
    · obtain ⟨b, off, rfl, hb, hcell⟩ := hc (by omega)
      have hck := hcell k hlt
      have D := hid (any_drop (p := p) hlt)
      have hx := getD_lt hl k
      have PX := hid (HP.out (l.getD k 0))
      clear hcell hc HP
      generalize l.getD k 0 = x at *
      rcases hq : p x with _ | _
      · have HQ := hid hq
        clear hq
        go_wp2_with fail
        refine (Within_any s x _ hs hx).mono ?_
        rw [PX.out, HQ.out]
        rintro e w' ⟨rfl, rfl⟩
        go_wp2_with fail
        go_round
        case rel => exact ⟨k + 1, by omega, by go_num, by show l.any p = _; rw [R.out, D.out, HQ.out]; rfl⟩
        case measure => simp [intOf]; omega
      · have HQ := hid hq
        clear hq
        go_wp2_with fail
        refine (Within_any s x _ hs hx).mono ?_
        rw [PX.out, HQ.out]
        rintro e w' ⟨rfl, rfl⟩
        go_wp2_with fail
        go_ret
        exact ⟨ret_bool (by rw [R.out, D.out, HQ.out]; rfl), rfl⟩
    · go_wp2_with fail
      go_ret
      exact ⟨ret_bool (by rw [R.out, List.drop_of_length_le (by omega)]; rfl), rfl⟩
theorem Circ1_any (s bx : Nat) (v : Value) (l : List Nat) (w : World) (hbx : w.cell? ⟨bx, 0, none⟩ = some v) (h : Ints w v (N l)) :
    Calls Try.prog 102 #[.int .i64 s, .pointer (some ⟨bx, 0, none⟩)] w fun e w' => e = .returned (.bool (!memB s l)) ∧ w' = w := by
  obtain ⟨a, cap, hv, _, _⟩ := h.nats
  have HH := hid (Has_any v l s w h)
  clear h
  subst hv
  generalize memB s l = q at *
  go_enter Try.func102, Try.ntmps102
  go_wp2_with fail
  refine HH.out.mono ?_
  rintro e w' ⟨rfl, rfl⟩
  go_wp2_with fail
  go_ret
  exact ⟨rfl, rfl⟩
end Go.Proofs.Ytimciginbiobmaa
