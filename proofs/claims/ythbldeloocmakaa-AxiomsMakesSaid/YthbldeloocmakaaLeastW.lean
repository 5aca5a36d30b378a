/- Contracts of hasOtherWithin, hasOtherAround, canSpareOne. -/
import Derived.Test.YthbldeloocmakaaIntsQ
import Derived.Test.YthbldeloocmakaaSingW
namespace Go.Proofs.Ythbldeloocmakaa
open Go.RowKit

set_option maxHeartbeats 400000 in
theorem hasOtherAround_any (v : Value) (l : List Nat) (s : Nat) (w : World) (hs : s < 256) (hl : ∀ s ∈ l, s < 256) (h : Ints w v (N l)) :
    Calls Try.prog 99 #[v, .int .i64 s] w fun e w' => e = .returned (.bool (l.any (otherOut s))) ∧ w' = w := by
  obtain ⟨a, cap, rfl, hlen, hc⟩ := h.nats
  clear h
  go_enter Try.func99, Try.ntmps99
  go_wp2_with fail
  go_loop [9] (fun i => ∃ k : Nat, k ≤ l.length ∧ i = .int .i64 k ∧ Hid (l.any (otherOut s) = (l.drop k).any (otherOut s))) (fun i => l.length - (intOf i).toNat)
  case atStart => exact ⟨0, Nat.zero_le _, rfl, rfl⟩
  case round =>
    obtain ⟨k, hk, rfl, R⟩ := hrel
    by_cases hlt : k < l.length
    · obtain ⟨b, off, rfl, hb, hcell⟩ := hc (by omega)
      have hck := hcell k hlt
      have D := hid (any_drop (p := otherOut s) hlt)
      have hx := getD_lt hl k
      clear hcell hc
      generalize l.getD k 0 = x at hck D hx
      by_cases h1 : x = s
      · have h1' : ((x : Int) != (s : Int)) = false := by rw [h1]; simp
        have P1 : Hid (otherOut s x = false) := by show otherOut s x = false; simp [otherOut, h1]
        clear h1
        go_wp2_with fail
        go_round
        case rel => exact ⟨k + 1, by omega, by go_num, by show l.any (otherOut s) = _; rw [R.out, D.out, P1.out]; rfl⟩
        case measure => simp [intOf]; omega
      · have h1' : ((x : Int) != (s : Int)) = true := by rw [bne_iff_ne]; omega
        rcases hsub : subB s x with _ | _
        · have P1 : Hid (otherOut s x = false) := by show otherOut s x = false; simp [otherOut, hsub]
          go_wp2_with fail
          refine (within_any _ _ _ hs hx).mono ?_
          rintro e w' ⟨rfl, rfl⟩
          go_wp2_with fail
          go_round
          case rel => exact ⟨k + 1, by omega, by go_num, by show l.any (otherOut s) = _; rw [R.out, D.out, P1.out]; rfl⟩
          case measure => simp [intOf]; omega
        · have P1 : Hid (otherOut s x = true) := by show otherOut s x = true; simp [otherOut, hsub, h1]
          go_wp2_with fail
          refine (within_any _ _ _ hs hx).mono ?_
          rintro e w' ⟨rfl, rfl⟩
          go_wp2_with fail
          go_ret
          exact ⟨ret_bool (by rw [R.out, D.out, P1.out]; rfl), rfl⟩
    · go_wp2_with fail
      go_ret
      exact ⟨ret_bool (by rw [R.out, List.drop_of_length_le (by omega)]; rfl), rfl⟩
end Go.Proofs.Ythbldeloocmakaa

namespace Go.Proofs.Ythbldeloocmakaa
open Go.RowKit

theorem Most_bad (n : Int) (v : Value) (zs : List Int) (w : World) (h : Ints w v zs) (hf : famR n zs ≠ 0) :
    Calls Try.prog 72 #[.int .i64 n, v] w fun e w' => e = .returned (.tuple #[.slice none 0 0, .int .i64 1]) ∧ w' = w := by
  obtain ⟨a, cap, hv, h1⟩ := family_err n v zs w h hf
  have HI := hid h
  have H1 := hid h1
  clear h h1 hf
  subst hv
  go_enter Try.func72, Try.ntmps72
  go_wp2_with fail
  refine (family_any _ _ zs _ HI.out).mono ?_
  rw [H1.out]
  rintro e w' ⟨rfl, rfl⟩
  go_wp2_with fail
  go_ret2
  exact ⟨rfl, rfl⟩

set_option maxHeartbeats 800000 in
theorem Most_good (n : Int) (v : Value) (l : List Nat) (w : World) (hl : ∀ s ∈ l, s < 256) (h : Ints w v (N l)) (hf : famR n (N l) = 0) :
    Calls Try.prog 72 #[.int .i64 n, v] w fun e w' => ∃ r, e = .returned (.tuple #[r, .int .i64 0]) ∧ Own w.heap.size w' r (l.filter fun s => !l.any (otherOut s)) ∧ Below w.heap.size w w' := by
  obtain ⟨i0, hi, hz0, hz1, hz2⟩ := info_parts Try.infoInt
  obtain ⟨a, cap, hv, hlen, hc⟩ := h.nats
  have HI := hid h
  have H1 := hid hf
  clear h hf
  subst hv
  go_enter Try.func72, Try.ntmps72
  go_wp2_with fail
  refine (family_any _ _ (N l) _ HI.out).mono ?_
  rw [H1.out]
  rintro e w' ⟨rfl, rfl⟩
  go_wp2_with fail
  go_loopw [7, 18] (fun u i wr => ∃ k : Nat, k ≤ l.length ∧ i = .int .i64 k ∧ Own w'.heap.size wr u ((l.take k).filter fun s => !l.any (otherOut s)) ∧ Below w'.heap.size w' wr) (fun _ i _ => l.length - (intOf i).toNat)
  case atStart => exact ⟨0, Nat.zero_le _, rfl, Own.nil _ _, Below.refl _ _⟩
  case round =>
    obtain ⟨k, hk, rfl, hown, hnx⟩ := hrel
    have hsz := hnx.size
    by_cases hlt : k < l.length
    · obtain ⟨b, off, rfl, hb, hcell⟩ := hc (by omega)
      have hck : wr.cell? ⟨b, off + k, none⟩ = some (.int .i64 (l.getD k 0 : Nat)) := (hnx.cell (p := ⟨b, off + k, none⟩) hb).trans (hcell k hlt)
      have hx := getD_lt hl k
      have Hhit := hid (fun hp => filter_hit (p := fun s => !l.any (otherOut s)) hlt hp)
      have Hmiss := hid (fun hp => filter_miss (p := fun s => !l.any (otherOut s)) hlt hp)
      have hfl := filter_le (fun s => !l.any (otherOut s)) l k
      have HO := hid hown
      clear hcell hown
      generalize (l.take k).filter (fun s => !l.any (otherOut s)) = acc at *
      generalize l.getD k 0 = x at *
      rcases hq : l.any (otherOut x) with _ | _
      · have HQ := hid hq
        clear hq
        go_wp2_with fail
        refine (hasOtherAround_any _ l x _ hx hl (HI.out.below hnx)).mono ?_
        rw [HQ.out]
        rintro e w1 ⟨rfl, rfl⟩
        go_wp2_with (at_builtin; refine wpList_append_own _ rfl _ _ 22 rfl w'.heap.size 3 i0 (.int .i64 0) 1 8 Try.underlying22 hi hz0 hz1 hz2 rfl (by decide) _ _ _ rfl (HO.out.alloc _) ⟨w1.heap.size, 0, none⟩ 1 1 [.int .i64 (x : Nat)] rfl rfl ?c1 ?c2 ?c3 ?c4 ?c5 ?_)
        case c1 => exact cell_one_new _ _ _
        case c2 => intro u hu; simp at hu; subst hu; rfl
        case c3 => unfold maxLen; omega
        case c4 => omega
        case c5 => simp; omega
        intro v' w2 hown' hgrow _
        have R1 := hid (Own.snoc hown')
        have R2 := hid (Own.grown HO.out hnx hsz hgrow)
        clear hown' hgrow
        go_wp2_with fail
        go_roundw
        case rel => exact ⟨k + 1, by omega, by go_num, by rw [Hhit.out (by rw [HQ.out]; rfl)]; exact R1.out, R2.out⟩
        case measure => simp [intOf]; omega
      · have HQ := hid hq
        clear hq
        go_wp2_with fail
        refine (hasOtherAround_any _ l x _ hx hl (HI.out.below hnx)).mono ?_
        rw [HQ.out]
        rintro e w1 ⟨rfl, rfl⟩
        go_wp2_with fail
        go_roundw
        case rel => exact ⟨k + 1, by omega, by go_num, by rw [Hmiss.out (by rw [HQ.out]; rfl)]; exact HO.out, hnx⟩
        case measure => simp [intOf]; omega
    · have hk' : k = l.length := by omega
      go_wp2_with fail
      go_ret2
      exact ⟨_, rfl, by rw [hk', List.take_length] at hown; exact hown, hnx⟩
end Go.Proofs.Ythbldeloocmakaa
