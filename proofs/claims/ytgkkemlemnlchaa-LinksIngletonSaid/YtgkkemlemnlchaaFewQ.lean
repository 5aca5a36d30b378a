/- sets.CheckFew: up to eight sets. -/
import Derived.Test.YtgkkemlemnlchaaFamsQ
namespace Go.Proofs.Ytgkkemlemnlchaa
open Go.RowKit

/-- What is wrong with a list of sets. -/
def lisR (n : Int) (zs : List Int) : Int := if zs.all (fun s => setR n s == 0) = true ∧ 0 ≤ n ∧ n ≤ 8 then (if 8 < zs.length then 2 else 0) else 1
theorem setR_01 (n s : Int) : setR n s = 0 ∨ setR n s = 1 := by unfold setR; split <;> simp
theorem setR_n {n s : Int} (h : setR n s = 0) : 0 ≤ n ∧ n ≤ 8 ∧ 0 ≤ s ∧ s < 2 ^ n.toNat := by
  unfold setR at h
  split at h
  · assumption
  · cases h
theorem lis_nats {n : Nat} {zs : List Int} (h : zs.all (fun s => setR n s == 0) = true) : ∃ l : List Nat, zs = N l ∧ ∀ s ∈ l, s < 2 ^ n := by
  rw [List.all_eq_true] at h
  refine ⟨zs.map Int.toNat, ?_, ?_⟩
  · unfold N
    rw [List.map_map]
    refine ((List.map_congr_left (g := id) fun z hz => ?_).trans (List.map_id _)).symm
    have := setR_n (beq_iff_eq.1 (h z hz))
    show ((z.toNat : Nat) : Int) = z
    omega
  · intro s hs
    obtain ⟨z, hz, rfl⟩ := List.mem_map.1 hs
    have := setR_n (beq_iff_eq.1 (h z hz))
    rw [Int.toNat_natCast] at this
    have e : ((2 ^ n : Nat) : Int) = (2 : Int) ^ n := by simp
    omega
theorem allI_drop {p : Int → Bool} {zs : List Int} {k : Nat} (hk : k < zs.length) : (zs.drop k).all p = (p (zs.getD k 0) && (zs.drop (k + 1)).all p) := by
  rw [drop_getD hk, List.all_cons]

set_option maxRecDepth 20000 in
set_option maxHeartbeats 1600000 in
theorem few_any (n : Int) (v : Value) (zs : List Int) (w : World) (h : Ints w v zs) :
    Calls Try.prog 20 #[.int .i64 n, v] w fun e w' => e = .returned (.int .i64 (lisR n zs)) ∧ w' = w := by
  obtain ⟨a, cap, rfl, hlen, hc⟩ := h
  have CK := hid (fun s w' => setsCheck_any n s w')
  by_cases hn : 0 ≤ n ∧ n ≤ 8
  · obtain ⟨m, rfl⟩ := Int.eq_ofNat_of_zero_le hn.1
    have hm : m ≤ 8 := by omega
    have C0 := hid (fun w' => CK.out 0 w')
    have E0 : setR (m : Int) 0 = 0 := by
      unfold setR
      rw [if_pos]
      exact ⟨by omega, by omega, by omega, by rw [Int.toNat_natCast]; exact Int.pow_pos (by decide)⟩
    rw [E0] at C0
    have HF : Hid (lisR (m : Int) zs = if zs.all (fun s => setR m s == 0) = true then (if 8 < zs.length then 2 else 0) else 1) := by
      show _ = _
      unfold lisR
      simp only [hn, and_true]
    go_enter Try.func20, Try.ntmps20
    go_wp2_with fail
    refine (C0.out _).mono ?_
    rintro e w' ⟨rfl, hw'⟩
    obtain rfl := hw'.symm
    go_wp2_with fail
    go_loop [7, 8, 16] (fun _ _ i => ∃ k : Nat, k ≤ zs.length ∧ i = .int .i64 k ∧ Hid (zs.all (fun s => setR m s == 0) = (zs.drop k).all (fun s => setR m s == 0))) (fun _ _ i => zs.length - (intOf i).toNat)
    case atStart => exact ⟨0, Nat.zero_le _, rfl, rfl⟩
    case round =>
      obtain ⟨k, hk, rfl, R⟩ := hrel
      by_cases hlt : k < zs.length
      · obtain ⟨b, off, rfl, hb, hcell⟩ := hc (by omega)
        have hck := hcell k hlt
        have D := hid (allI_drop (p := fun s => setR m s == 0) hlt)
        have C1 := hid (fun w => CK.out (zs.getD k 0) w)
        have hki : (k : Int) < (zs.length : Int) := by omega
        clear hcell hc
        generalize zs.getD k 0 = x at *
        rcases setR_01 m x with h1 | h1
        · rw [h1] at C1 D
          go_wp2_with fail
          refine (C1.out _).mono ?_
          rintro e w' ⟨rfl, hw'⟩
          obtain rfl := hw'.symm
          go_wp2_with fail
          go_round
          case rel => exact ⟨k + 1, by omega, by go_num, by show _ = _; rw [R.out, D.out]; rfl⟩
          case measure => simp [intOf]; omega
        · rw [h1] at C1 D
          have F : Hid (lisR (m : Int) zs = 1) := by
            show _ = _
            rw [HF.out, if_neg]
            rw [R.out, D.out]
            simp
          go_wp2_with fail
          refine (C1.out _).mono ?_
          rintro e w' ⟨rfl, hw'⟩
          obtain rfl := hw'.symm
          go_wp2_with fail
          go_ret
          exact ⟨by rw [F.out] <;> rfl, rfl⟩
      · have hall : zs.all (fun s => setR m s == 0) = true := by rw [R.out, List.drop_of_length_le (by omega)]; rfl
        by_cases h8 : 8 < zs.length
        · have F : Hid (lisR (m : Int) zs = 2) := by show _ = _; rw [HF.out, if_pos hall, if_pos h8]
          have h8' : (8 : Int) < (zs.length : Int) := by omega
          go_wp2_with fail
          go_ret
          exact ⟨by rw [F.out] <;> rfl, rfl⟩
        · have F : Hid (lisR (m : Int) zs = 0) := by show _ = _; rw [HF.out, if_pos hall, if_neg h8]
          have h8' : ¬ (8 : Int) < (zs.length : Int) := by omega
          go_wp2_with fail
          go_ret
          exact ⟨by rw [F.out] <;> rfl, rfl⟩
  · have F : Hid (lisR n zs = 1) := by
      show _ = _
      unfold lisR
      rw [if_neg fun h => hn h.2]
    have C0 := hid (fun w' => CK.out 0 w')
    have E0 : setR n 0 = 1 := by
      unfold setR
      rw [if_neg fun h => hn ⟨h.1, h.2.1⟩]
    rw [E0] at C0
    go_enter Try.func20, Try.ntmps20
    go_wp2_with fail
    refine (C0.out _).mono ?_
    rintro e w' ⟨rfl, hw'⟩
    obtain rfl := hw'.symm
    go_wp2_with fail
    go_ret
    exact ⟨by rw [F.out] <;> rfl, rfl⟩
end Go.Proofs.Ytgkkemlemnlchaa
