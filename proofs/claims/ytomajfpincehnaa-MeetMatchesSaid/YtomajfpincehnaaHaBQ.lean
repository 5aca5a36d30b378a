/- hall.Check, hall.Lines, hall.Most. -/
import Derived.Test.YtomajfpincehnaaHaAQ
import Derived.Test.YtomajfpincehnaaPlainAll
import Derived.Test.YtomajfpincehnaaWholeQ
namespace Go.Proofs.Ytomajfpincehnaa
open Go.RowKit

theorem lis_good {n : Int} {zs : List Int} (h : lisR n zs = 0) : ∃ (m : Nat) (l : List Nat), n = m ∧ m ≤ 8 ∧ zs = N l ∧ l.length ≤ 8 ∧ ∀ x ∈ l, x < 2 ^ m := by
  unfold lisR at h
  by_cases hc : zs.all (fun s => setR n s == 0) = true ∧ 0 ≤ n ∧ n ≤ 8
  · rw [if_pos hc] at h
    obtain ⟨m, rfl⟩ := Int.eq_ofNat_of_zero_le hc.2.1
    obtain ⟨l, h1, h2⟩ := lis_nats hc.1
    by_cases h8 : 8 < zs.length
    · rw [if_pos h8] at h; cases h
    · subst h1
      rw [show (N l).length = l.length by simp [N]] at h8
      exact ⟨m, l, rfl, by omega, rfl, by omega, h2⟩
  · rw [if_neg hc] at h; cases h
theorem lis_ok {m : Nat} {l : List Nat} (hm : m ≤ 8) (hk : l.length ≤ 8) (hl : ∀ x ∈ l, x < 2 ^ m) : lisR m (N l) = 0 := by
  unfold lisR
  rw [if_pos, if_neg (by rw [show (N l).length = l.length by simp [N]]; omega)]
  refine ⟨?_, by omega, by omega⟩
  rw [List.all_eq_true]
  intro z hz
  obtain ⟨x, hx, rfl⟩ := List.mem_map.1 hz
  refine beq_iff_eq.2 ?_
  unfold setR
  rw [if_pos]
  refine ⟨by omega, by omega, by omega, ?_⟩
  rw [Int.toNat_natCast]
  have := hl x hx
  have e : ((2 ^ m : Nat) : Int) = (2 : Int) ^ m := by simp
  omega
theorem hcheck_any (n : Int) (v : Value) (zs : List Int) (w : World) (h : Ints w v zs) :
    Calls Try.prog 44 #[.int .i64 n, v] w fun e w' => e = .returned (.int .i64 (lisR n zs)) ∧ w' = w := by
  go_enter Try.func44, Try.ntmps44
  go_wp2_with fail
  refine (few_any n v zs _ h).mono ?_
  rintro e w' ⟨rfl, hw'⟩
  obtain rfl := hw'.symm
  go_wp2_with fail
  go_ret
  exact ⟨rfl, rfl⟩
set_option maxRecDepth 20000 in
set_option maxHeartbeats 2000000 in
theorem Lines_ok (m : Nat) (v : Value) (l : List Nat) (w : World) (hm : m ≤ 8) (hk8 : l.length ≤ 8) (hl : ∀ x ∈ l, x < 2 ^ m) (h : Ints w v (N l)) :
    Calls Try.prog 25 #[.int .i64 m, v] w fun e w' => e = .returned (.tuple #[.int .i64 (linF l (2 ^ l.length)).1, .int .i64 (linF l (2 ^ l.length)).2, .int .i64 0]) ∧ Below w.heap.size w w' := by
  have hl8 : ∀ x ∈ l, x < 256 := fun x hx => lt256 hm (hl x hx)
  have HC := hid (hcheck_any m v (N l) w h)
  have HU := hid (unions_ok v l w hk8 hl8 h)
  rw [lis_ok hm hk8 hl] at HC
  obtain ⟨a, cap, rfl, hlen, _⟩ := h.nats
  have HP : 2 ^ l.length ≤ 256 := Nat.pow_le_pow_right (by decide) (by omega : l.length ≤ 8)
  have HP0 : 0 < 2 ^ l.length := Nat.two_pow_pos _
  have HLF : Hid (∀ k, k ≤ 256 → (linF l k).1 < 256 ∧ (linF l k).2 < 256) := linF_lt hl8
  have HSV : Hid (∀ s, sevL l s < 256) := sev_lt (n := 8) hl8
  have HAT : Hid (∀ s, s < 2 ^ l.length → (unT l l.length).getD s 0 = sevL l s) := fun s hs => un_at hs
  have HDF : Hid (∀ k, dif (2 ^ l.length - 1) k < 2 ^ l.length) := fun k => sub_lt (dif_subl _ _) (by omega)
  have HST : Hid (∀ k, linF l (k + 1) = if pop k + pop (sevL l (dif (2 ^ l.length - 1) k)) < pop (linF l k).1 + pop (linF l k).2 then (k, sevL l (dif (2 ^ l.length - 1) k)) else linF l k) := fun k => rfl
  have HS0 : Hid (linF l 0 = (0, sevL l (2 ^ l.length - 1))) := rfl
  have HLN := hid (un_len l l.length)
  have WH := hid (fun w => wholeSet_any l.length w hk8)
  clear hl hl8 h
  generalize linF l = F at *
  generalize sevL l = f at *
  generalize 2 ^ l.length = P at *
  go_enter Try.func25, Try.ntmps25
  go_wp2_with fail
  refine HC.out.mono ?_
  rintro e w' ⟨rfl, hw'⟩
  obtain rfl := hw'.symm
  go_wp2_with fail
  refine HU.out.mono ?_
  rintro e W ⟨g, c, rfl, HO, HB⟩
  have HAC : Hid (∀ s, s < P → W.cell? ⟨g, s, none⟩ = some (.int .i64 (f s : Nat))) := fun s hs => by
    have := HO.at (i := s) (by rw [HLN.out]; exact hs)
    rw [HAT.out s hs] at this
    exact this
  clear HO
  have x0 := HAC.out (P - 1) (by omega)
  go_wp2_with fail
  refine (WH.out _).mono ?_
  rintro e w' ⟨rfl, hw'⟩
  obtain rfl := hw'.symm
  go_wp2_with fail
  go_loop [4, 5, 10, 11, 29] (fun r d _ _ i => ∃ k : Nat, k ≤ P ∧ i = .int .i64 k ∧ r = .int .i64 (F k).1 ∧ d = .int .i64 (F k).2) (fun _ _ _ _ i => P - (intOf i).toNat)
  case atStart => exact ⟨0, Nat.zero_le _, rfl, by rw [HS0.out]; rfl, by rw [HS0.out]⟩
  case round =>
    obtain ⟨k, hk, rfl, rfl, rfl⟩ := hrel
    by_cases hlt : k < P
    · have hki : (k : Int) < (P : Int) := by omega
      have HD := HDF.out k
      have hdn : bits .andNot .i64 ((P - 1 : Nat) : Int) (k : Int) = ((dif (P - 1) k : Nat) : Int) := i64_andNot_nat (P - 1) k (by omega) (by omega)
      have x1 := HAC.out (dif (P - 1) k) HD
      have ST1 : Hid ((F (k + 1)).1 = if pop k + pop (f (dif (P - 1) k)) < pop (F k).1 + pop (F k).2 then k else (F k).1) := by
        show _ = _
        rw [HST.out]
        split <;> rfl
      have ST2 : Hid ((F (k + 1)).2 = if pop k + pop (f (dif (P - 1) k)) < pop (F k).1 + pop (F k).2 then f (dif (P - 1) k) else (F k).2) := by
        show _ = _
        rw [HST.out]
        split <;> rfl
      obtain ⟨q1, q2⟩ := HLF.out k (by omega)
      have q3 := HSV.out (dif (P - 1) k)
      have S1 := hid (fun w => size_any k w (by omega))
      have S2 := hid (fun w => size_any (f (dif (P - 1) k)) w q3)
      have S3 := hid (fun w => size_any (F k).1 w q1)
      have S4 := hid (fun w => size_any (F k).2 w q2)
      have p1 := pop_le_8 k (by omega)
      have p2 := pop_le_8 _ q3
      have p3 := pop_le_8 _ q1
      have p4 := pop_le_8 _ q2
      generalize f (dif (P - 1) k) = y at *
      generalize dif (P - 1) k = D at *
      generalize (F k).1 = r at *
      generalize (F k).2 = d at *
      go_wp2_with fail
      refine (S1.out _).mono ?_
      rintro e w' ⟨rfl, hw'⟩
      obtain rfl := hw'.symm
      go_wp2_with fail
      refine (S2.out _).mono ?_
      rintro e w' ⟨rfl, hw'⟩
      obtain rfl := hw'.symm
      go_wp2_with fail
      refine (S3.out _).mono ?_
      rintro e w' ⟨rfl, hw'⟩
      obtain rfl := hw'.symm
      go_wp2_with fail
      refine (S4.out _).mono ?_
      rintro e w' ⟨rfl, hw'⟩
      obtain rfl := hw'.symm
      by_cases hless : pop k + pop y < pop r + pop d
      · have hli : (pop k : Int) + (pop y : Int) < (pop r : Int) + (pop d : Int) := by omega
        go_wp2_with fail
        go_round
        case rel => exact ⟨k + 1, by omega, by go_num, by rw [ST1.out, if_pos hless], by rw [ST2.out, if_pos hless]⟩
        case measure => simp [intOf]; omega
      · have hli : ¬ (pop k : Int) + (pop y : Int) < (pop r : Int) + (pop d : Int) := by omega
        go_wp2_with fail
        go_round
        case rel => exact ⟨k + 1, by omega, by go_num, by rw [ST1.out, if_neg hless], by rw [ST2.out, if_neg hless]⟩
        case measure => simp [intOf]; omega
    · obtain rfl : k = P := by omega
      go_wp2_with fail
      go_ret3
      exact ⟨rfl, HB⟩
theorem Lines_bad (n : Int) (v : Value) (zs : List Int) (w : World) (h : Ints w v zs) (hb : lisR n zs ≠ 0) :
    Calls Try.prog 25 #[.int .i64 n, v] w fun e w' => e = .returned (.tuple #[.int .i64 0, .int .i64 0, .int .i64 (lisR n zs)]) ∧ w' = w := by
  have HC := hid (hcheck_any n v zs w h)
  generalize lisR n zs = q at *
  go_enter Try.func25, Try.ntmps25
  go_wp2_with fail
  refine HC.out.mono ?_
  rintro e w' ⟨rfl, hw'⟩
  obtain rfl := hw'.symm
  go_wp2_with fail
  go_ret3
  exact ⟨rfl, rfl⟩
theorem Most_ok (m : Nat) (v : Value) (l : List Nat) (w : World) (hm : m ≤ 8) (hk8 : l.length ≤ 8) (hl : ∀ x ∈ l, x < 2 ^ m) (h : Ints w v (N l)) :
    Calls Try.prog 11 #[.int .i64 m, v] w fun e w' => e = .returned (.tuple #[.int .i64 (mostB l : Nat), .int .i64 0]) ∧ Below w.heap.size w w' := by
  have HL := hid (Lines_ok m v l w hm hk8 hl h)
  have HP : 2 ^ l.length ≤ 256 := Nat.pow_le_pow_right (by decide) (by omega : l.length ≤ 8)
  obtain ⟨q1, q2⟩ := linF_lt (fun x hx => lt256 hm (hl x hx)) (2 ^ l.length) HP
  have HM : Hid (mostB l = pop (linF l (2 ^ l.length)).1 + pop (linF l (2 ^ l.length)).2) := rfl
  have p1 := pop_le_8 _ q1
  have p2 := pop_le_8 _ q2
  generalize (linF l (2 ^ l.length)).1 = r at *
  generalize (linF l (2 ^ l.length)).2 = d at *
  go_enter Try.func11, Try.ntmps11
  go_wp2_with fail
  refine HL.out.mono ?_
  rintro e w1 ⟨rfl, HB⟩
  go_wp2_with fail
  refine (size_any r _ q1).mono ?_
  rintro e w' ⟨rfl, hw'⟩
  obtain rfl := hw'.symm
  go_wp2_with fail
  refine (size_any d _ q2).mono ?_
  rintro e w' ⟨rfl, hw'⟩
  obtain rfl := hw'.symm
  go_wp2_with fail
  go_ret2
  exact ⟨by rw [HM.out]; go_num, HB⟩
theorem Most_bad (n : Int) (v : Value) (zs : List Int) (w : World) (h : Ints w v zs) (hb : lisR n zs ≠ 0) :
    Calls Try.prog 11 #[.int .i64 n, v] w fun e w' => e = .returned (.tuple #[.int .i64 0, .int .i64 (lisR n zs)]) ∧ w' = w := by
  have HL := hid (Lines_bad n v zs w h hb)
  generalize lisR n zs = q at *
  go_enter Try.func11, Try.ntmps11
  go_wp2_with fail
  refine HL.out.mono ?_
  rintro e w' ⟨rfl, hw'⟩
  obtain rfl := hw'.symm
  go_wp2_with fail
  refine (size_any 0 _ (by decide)).mono ?_
  rintro e w' ⟨rfl, hw'⟩
  obtain rfl := hw'.symm
  go_wp2_with fail
  refine (size_any 0 _ (by decide)).mono ?_
  rintro e w' ⟨rfl, hw'⟩
  obtain rfl := hw'.symm
  go_wp2_with fail
  go_ret2
  exact ⟨by rw [show pop 0 = 0 by decide, show wrap64 (((0 : Nat) : Int) + ((0 : Nat) : Int)) = 0 by rw [IntWalk.wrap64_in _ (by omega)]; rfl]; rfl, rfl⟩
end Go.Proofs.Ytomajfpincehnaa
