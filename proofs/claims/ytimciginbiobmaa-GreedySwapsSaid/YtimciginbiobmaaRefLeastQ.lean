/- Contracts of rotaref.Least and rotaref.Most and of their closures. -/
import Derived.Test.YtimciginbiobmaaRefFamQ
import Derived.Test.YtimciginbiobmaaPlainAll
namespace Go.Proofs.Ytimciginbiobmaa
open Go.RowKit

set_option maxHeartbeats 800000 in
theorem Least1_any (s bx : Nat) (v : Value) (l : List Nat) (w : World) (hs : s < 256) (hl : ∀ s ∈ l, s < 256) (hbx : w.cell? ⟨bx, 0, none⟩ = some v) (h : Ints w v (N l)) :
    Calls Try.prog 111 #[.int .i64 s, .pointer (some ⟨bx, 0, none⟩)] w fun e w' => e = .returned (.bool (leastK l s)) ∧ w' = w := by
  obtain ⟨a, cap, hv, hlen, hc⟩ := h.nats
  have HI := hid h
  clear h
  subst hv
  rcases hm : memB s l with _ | _
  · have F : Hid (leastK l s = false) := by show leastK l s = false; unfold leastK; rw [hm]; rfl
    have HM := hid hm
    clear hm
    go_enter Try.func111, Try.ntmps111
    go_wp2_with fail
    refine (Has_any _ l s _ HI.out).mono ?_
    rw [HM.out]
    rintro e w1 ⟨rfl, rfl⟩
    go_wp2_with fail
    go_ret
    exact ⟨ret_bool F.out.symm, rfl⟩
  · have F : Hid (leastK l s = !l.any (otherIn s)) := by show leastK l s = _; unfold leastK; rw [hm]; rfl
    have HM := hid hm
    clear hm
    go_enter Try.func111, Try.ntmps111
    go_wp2_with fail
    refine (Has_any _ l s _ HI.out).mono ?_
    rw [HM.out]
    rintro e w1 ⟨rfl, rfl⟩
    go_wp2_with fail
    go_loop [4] (fun i => ∃ k : Nat, k ≤ l.length ∧ i = .int .i64 k ∧ Hid (l.any (otherIn s) = (l.drop k).any (otherIn s))) (fun i => l.length - (intOf i).toNat)
    case atStart => exact ⟨0, Nat.zero_le _, rfl, rfl⟩
    case round =>
      obtain ⟨k, hk, rfl, R⟩ := hrel
      by_cases hlt : k < l.length
      · obtain ⟨b, off, rfl, hb, hcell⟩ := hc (by omega)
        have hck := hcell k hlt
        have D := hid (any_drop (p := otherIn s) hlt)
        have hx := getD_lt hl k
        clear hcell hc
        generalize l.getD k 0 = x at hck D hx
        by_cases h1 : x = s
        · have h1' : ((x : Int) != (s : Int)) = false := by rw [h1]; simp
          have P1 : Hid (otherIn s x = false) := by show otherIn s x = false; simp [otherIn, h1]
          clear h1
          go_wp2_with fail
          go_round
          case rel => exact ⟨k + 1, by omega, by go_num, by show l.any (otherIn s) = _; rw [R.out, D.out, P1.out]; rfl⟩
          case measure => simp [intOf]; omega
        · have h1' : ((x : Int) != (s : Int)) = true := by rw [bne_iff_ne]; omega
          rcases hsub : subB x s with _ | _
          · have P1 : Hid (otherIn s x = false) := by show otherIn s x = false; simp [otherIn, hsub]
            go_wp2_with fail
            refine (Within_any _ _ _ hx hs).mono ?_
            rintro e w2 ⟨rfl, rfl⟩
            go_wp2_with fail
            go_round
            case rel => exact ⟨k + 1, by omega, by go_num, by show l.any (otherIn s) = _; rw [R.out, D.out, P1.out]; rfl⟩
            case measure => simp [intOf]; omega
          · have P1 : Hid (otherIn s x = true) := by show otherIn s x = true; simp [otherIn, hsub, h1]
            go_wp2_with fail
            refine (Within_any _ _ _ hx hs).mono ?_
            rintro e w2 ⟨rfl, rfl⟩
            go_wp2_with fail
            go_ret
            exact ⟨ret_bool (by rw [F.out, R.out, D.out, P1.out]; rfl), rfl⟩
      · go_wp2_with fail
        go_ret
        exact ⟨ret_bool (by rw [F.out, R.out, List.drop_of_length_le (by omega)]; rfl), rfl⟩

theorem Least_ref (n : Nat) (v : Value) (l : List Nat) (w : World) (hn : n ≤ 8) (hl : ∀ s ∈ l, s < 256) (h : Ints w v (N l)) :
    Calls Try.prog 101 #[.int .i64 n, v] w fun e w' => ∃ r, e = .returned r ∧ Own w.heap.size w' r ((List.range (2 ^ n)).filter (leastK l)) ∧ Below w.heap.size w w' := by
  have hmf : ∀ (fn : Fn) (first cap : Array Value) (w : World), (Instr.makeFunc fn first cap).run Try.prog w = .ok (.func fn first cap) w := fun _ _ _ _ => rfl
  obtain ⟨a, cap, hv, -⟩ := h.nats
  have HI := hid h
  clear h
  subst hv
  go_enter Try.func101, Try.ntmps101
  go_wp2_with fail
  refine (Those_any n 111 #[.pointer (some ⟨w.heap.size, 0, none⟩)] (leastK l) (w.alloc (.cells #[.slice a l.length cap] 32)) hn Try.call111 ?_).mono ?_
  · intro x hx w1 hb1 _
    refine (Least1_any x w.heap.size _ l w1 ?_ hl ((hb1.cell (p := ⟨w.heap.size, 0, none⟩) (by simp)).trans (by rw [World.cell?_alloc_at _ _ _ _ rfl]; rfl)) ((HI.out.below ((Below.refl _ _).alloc (Nat.le_refl _) _)).below hb1)).mono ?_
    · have := (pow_wrap n hn).2; omega
    · rintro e w2 ⟨rfl, rfl⟩; exact ⟨rfl, Below.refl _ _⟩
  · rintro e w2 ⟨r, rfl, ho, hb⟩
    have R1 := hid (ho.mono (B' := w.heap.size) (by simp))
    have R2 := hid (((Below.refl w.heap.size w).alloc (Nat.le_refl _) _).trans (hb.mono (by simp)))
    clear ho hb
    go_wp2_with fail
    go_ret
    exact ⟨_, rfl, R1.out, R2.out⟩

end Go.Proofs.Ytimciginbiobmaa
