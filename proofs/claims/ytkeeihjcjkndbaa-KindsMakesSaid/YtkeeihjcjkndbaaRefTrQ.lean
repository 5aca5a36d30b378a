/- rotaref.Transversal. -/
import Derived.Test.YtkeeihjcjkndbaaRefBigQ
namespace Go.Proofs.Ytkeeihjcjkndbaa
open Go.RowKit

set_option maxRecDepth 20000 in
set_option maxHeartbeats 1600000 in
theorem RTransQ_ok (s b : Nat) (v : Value) (l : List Nat) (w : World) (hs : s < 256) (hl : ∀ s ∈ l, s < 256) (hb : w.cell? ⟨b, 0, none⟩ = some v) (hbs : b < w.heap.size) (h : Ints w v (N l)) :
    Calls Try.prog 15 #[.int .i64 s, .pointer (some ⟨b, 0, none⟩)] w fun e w' => e = .returned (.bool (hallTo l s s)) ∧ Below w.heap.size w w' := by
  obtain ⟨a, cap, rfl, hlen, hc⟩ := h.nats
  have HL := hid hl
  clear h hl
  go_enter Try.func15, Try.ntmps15
  go_wp2_with fail
  go_loopw [4] (fun u wr => ∃ t : Nat, 1 ≤ t ∧ t ≤ s + 1 ∧ u = .int .i64 t ∧ Hid (hallTo l s (t - 1) = true) ∧ Hid (Below w.heap.size w wr)) (fun u _ => s + 1 - (intOf u).toNat)
  case atStart => exact ⟨1, by omega, by omega, rfl, hall_zero l s, Below.refl _ _⟩
  case round =>
    obtain ⟨t, ht1, hts, rfl, R, HW⟩ := hrel
    by_cases hlt : t ≤ s
    · have hli : (t : Int) ≤ (s : Int) := by omega
      have WI := hid (Within_any t s wr (by omega) hs)
      have D := hid (hall_succ l s (t - 1))
      rw [show t - 1 + 1 = t by omega, R.out, Bool.true_and] at D
      rcases hq : subB t s with _ | _
      · rw [hq] at WI D
        have D2 : Hid (hallTo l s t = true) := D.out
        go_wp2_with fail
        refine WI.out.mono ?_
        rintro e w' ⟨rfl, hw'⟩
        subst hw'
        go_wp2_with fail
        go_roundw
        case rel => exact ⟨t + 1, by omega, by omega, by go_num, D2, HW⟩
        case measure => simp [intOf]; omega
      · rw [hq] at WI D
        have hbx := fun W (hW : Below wr.heap.size wr W) => (hW.cell (p := ⟨b, 0, none⟩) (by have := HW.out.size; show b < _; omega)).trans ((HW.out.cell (p := ⟨b, 0, none⟩) hbs).trans hb)
        have hb1 := hbx wr (Below.refl _ _)
        go_wp2_with fail
        refine WI.out.mono ?_
        rintro e w' ⟨rfl, hw'⟩
        subst hw'
        go_wp2_with fail
        go_loop [5, 6] (fun u i => ∃ k : Nat, k ≤ l.length ∧ i = .int .i64 k ∧ u = .int .i64 (meets (l.take k) t : Nat)) (fun _ i => l.length - (intOf i).toNat)
        case atStart => exact ⟨0, Nat.zero_le _, rfl, rfl⟩
        case round =>
          obtain ⟨k, hk, rfl, rfl⟩ := hrel
          by_cases hlt2 : k < l.length
          · obtain ⟨bb, off, rfl, hbb, hcell⟩ := hc (by omega)
            have hck := (HW.out.cell (p := ⟨bb, off + k, none⟩) hbb).trans (hcell k hlt2)
            have DM := hid (meets_take (t := t) hlt2)
            have hx := getD_lt HL.out k
            have hle := meets_le (l.take k) t
            rw [List.length_take] at hle
            have hki : (k : Int) < (l.length : Int) := by omega
            clear hcell hc
            generalize l.getD k 0 = x at hck DM hx
            generalize meets (l.take k) t = y at *
            have hand : bits .and .i64 (x : Int) (t : Int) = ((x &&& t : Nat) : Int) := i64_and_nat x t (by omega) (by omega)
            by_cases h1 : x &&& t = 0
            · have h1' : (((x &&& t : Nat) : Int) != 0) = false := by rw [h1]; rfl
              go_wp2_with fail
              go_round
              case rel => exact ⟨k + 1, by omega, by go_num, by rw [DM.out]; simp [meetB, h1]⟩
              case measure => simp [intOf]; omega
            · have h1' : (((x &&& t : Nat) : Int) != 0) = true := by rw [bne_iff_ne]; omega
              go_wp2_with fail
              go_round
              case rel => exact ⟨k + 1, by omega, by go_num, by rw [DM.out]; simp [meetB, h1]⟩
              case measure => simp [intOf]; omega
          · have hk' : k = l.length := by omega
            subst hk'
            rw [List.take_length]
            rename World => w2
            have SZ := hid (Size_any t w2 (by omega))
            by_cases hm : meets l t < pop t
            · have hm' : ((meets l t : Nat) : Int) < ((pop t : Nat) : Int) := by omega
              have F : Hid (hallTo l s s = false) := by
                show _ = _
                rw [Bool.eq_false_iff]
                intro c
                unfold hallTo at c
                have := (List.all_eq_true.1 c) t (by rw [List.mem_range]; omega)
                rw [hq] at this
                simp at this
                omega
              generalize meets l t = x at *
              generalize pop t = y at *
              go_wp2_with fail
              refine SZ.out.mono ?_
              rintro e w3 ⟨rfl, hb3⟩
              have R3 := hid (HW.out.trans (hb3.mono HW.out.size))
              clear hb3
              go_wp2_with fail
              go_ret
              exact ⟨ret_bool F.out.symm, R3.out⟩
            · have hm' : ¬ ((meets l t : Nat) : Int) < ((pop t : Nat) : Int) := by omega
              have D2 : Hid (hallTo l s t = true) := by
                show _ = _
                rw [D.out, decide_eq_true (by omega : pop t ≤ meets l t)]
                rfl
              generalize meets l t = x at *
              generalize pop t = y at *
              go_wp2_with fail
              refine SZ.out.mono ?_
              rintro e w3 ⟨rfl, hb3⟩
              have R3 := hid (HW.out.trans (hb3.mono HW.out.size))
              clear hb3
              go_wp2_with fail
              go_roundw
              case rel => exact ⟨t + 1, by omega, by omega, by go_num, D2, R3⟩
              case measure => simp [intOf]; omega
    · have hli : ¬ (t : Int) ≤ (s : Int) := by omega
      have F : Hid (hallTo l s s = true) := by show _ = _; have := R.out; rwa [show t - 1 = s by omega] at this
      go_wp2_with fail
      go_ret
      exact ⟨ret_bool F.out.symm, HW.out⟩
end Go.Proofs.Ytkeeihjcjkndbaa
