/- rotaref.IsOrder; slices.Contains for whatever number. -/
import Derived.Test.YthlmnhcnpffjdaaGreatIsOrQ
import Derived.Test.YthlmnhcnpffjdaaGreatRefQ
import Derived.Test.YthlmnhcnpffjdaaGreatEqWQ
namespace Go.Proofs.YthlmnhcnpffjdaaGreat
open Go.RowKit

/-- Is x one of zs? -/
def memZ (x : Int) (zs : List Int) : Bool := decide (x ∈ zs)
theorem memZ_N (x : Nat) (l : List Nat) : memZ x (N l) = memB x l := by
  unfold memZ memB N
  rw [Bool.eq_iff_iff, decide_eq_true_eq, decide_eq_true_eq, List.mem_map]
  constructor
  · rintro ⟨y, h1, h2⟩
    have : y = x := Int.ofNat.inj h2
    exact this ▸ h1
  · exact fun h => ⟨x, h, rfl⟩
set_option maxRecDepth 20000 in
set_option maxHeartbeats 800000 in
theorem IndexZ_any (v : Value) (zs : List Int) (x : Int) (w : World) (h : Ints w v zs) :
    Calls Tryz.prog 53 #[v, .int .i64 x] w fun e w' => ∃ r : Int, e = .returned (.int .i64 r) ∧ decide (0 ≤ r) = memZ x zs ∧ w' = w := by
  obtain ⟨a, cap, rfl, hlen, hc⟩ := h
  go_enter Tryz.func53, Tryz.ntmps53
  go_wp2_with fail
  go_loop [8] (fun i => ∃ k : Nat, k ≤ zs.length ∧ i = .int .i64 k ∧ Hid (x ∈ zs ↔ x ∈ zs.drop k)) (fun i => zs.length - (intOf i).toNat)
  case atStart => exact ⟨0, Nat.zero_le _, rfl, Iff.rfl⟩
  case round =>
    obtain ⟨k, hk, rfl, R⟩ := hrel
    by_cases hlt : k < zs.length
    · obtain ⟨b, off, rfl, hb, hcell⟩ := hc (by omega)
      have hck := hcell k hlt
      have D : Hid (zs.drop k = zs.getD k 0 :: zs.drop (k + 1)) := by
        show zs.drop k = _
        rw [List.drop_eq_getElem_cons hlt]; simp [List.getD, hlt]
      have hki : (k : Int) < (zs.length : Int) := by omega
      clear hcell hc
      generalize zs.getD k 0 = y at *
      by_cases hxy : x = y
      · have hxy' : (x == y) = true := by rw [hxy]; simp
        have F : Hid (memZ x zs = true) := by
          show decide (x ∈ zs) = true
          rw [decide_eq_true_iff, R.out, D.out, hxy]; simp
        clear hxy
        go_wp2_with fail
        go_ret
        exact ⟨_, rfl, by rw [F.out]; simp, rfl⟩
      · have hxy' : (x == y) = false := by rw [beq_eq_false_iff_ne]; exact hxy
        have HX := hid hxy
        clear hxy
        go_wp2_with fail
        go_round
        case rel => exact ⟨k + 1, by omega, by go_num, by show x ∈ zs ↔ _; rw [R.out, D.out]; simp [HX.out]⟩
        case measure => simp [intOf]; omega
    · have F : Hid (memZ x zs = false) := by
        show decide (x ∈ zs) = false
        rw [decide_eq_false_iff_not, R.out, List.drop_of_length_le (by omega)]; simp
      go_wp2_with fail
      go_ret
      exact ⟨_, rfl, by rw [F.out]; simp, rfl⟩
theorem ContainsZ_any (v : Value) (zs : List Int) (x : Int) (w : World) (h : Ints w v zs) :
    Calls Tryz.prog 23 #[v, .int .i64 x] w fun e w' => e = .returned (.bool (memZ x zs)) ∧ w' = w := by
  have HI := hid (IndexZ_any v zs x w h)
  clear h
  go_enter Tryz.func23, Tryz.ntmps23
  go_wp2_with fail
  refine HI.out.mono ?_
  rintro e w1 ⟨r, rfl, hr, rfl⟩
  have HR := hid hr
  clear hr
  go_wp2_with fail
  go_ret
  exact ⟨ret_bool HR.out, rfl⟩
-- @IF rota/greedy.isBasis
def ordB (n : Nat) (zs : List Int) : Bool := ((List.range n).all fun i => memZ i zs) && decide (zs.length = n)
theorem perm_of : ∀ (n : Nat) (zs : List Int), (∀ i : Nat, i < n → (i : Int) ∈ zs) → zs.length = n → zs.Perm (N (List.range n))
  | 0, zs, _, h => by rw [List.length_eq_zero_iff.1 h]; exact List.Perm.nil
  | n + 1, zs, ha, hl => by
    have hm := ha n (by omega)
    have h1 := List.perm_cons_erase hm
    have h2 := perm_of n (zs.erase (n : Int)) (fun i hi => (List.mem_erase_of_ne (by omega)).2 (ha i (by omega))) (by rw [List.length_erase_of_mem hm, hl]; rfl)
    have h3 : N (List.range (n + 1)) = N (List.range n) ++ [(n : Int)] := by simp [N, List.range_succ]
    rw [h3]
    exact h1.trans ((h2.cons _).trans (List.perm_append_singleton _ _).symm)
theorem ord_of {n : Nat} {zs : List Int} (h : ordB n zs = true) : ∃ o : List Nat, zs = N o ∧ Beg n o ∧ o.length = n := by
  unfold ordB at h
  rw [Bool.and_eq_true, List.all_eq_true, decide_eq_true_iff] at h
  have hp := perm_of n zs (fun i hi => by have := h.1 i (List.mem_range.2 hi); unfold memZ at this; simpa using this) h.2
  have hmem : ∀ z ∈ zs, ∃ i : Nat, i < n ∧ z = (i : Int) := fun z hz => by
    have := hp.mem_iff.1 hz
    unfold N at this
    rw [List.mem_map] at this
    obtain ⟨i, hi, rfl⟩ := this
    exact ⟨i, List.mem_range.1 hi, rfl⟩
  have hpm := hp.map Int.toNat
  have e : (N (List.range n)).map Int.toNat = List.range n := by
    unfold N
    rw [List.map_map]
    conv => rhs; rw [← List.map_id (List.range n)]
    rfl
  rw [e] at hpm
  refine ⟨zs.map Int.toNat, ?_, ⟨fun x hx => ?_, ?_⟩, by simp [h.2]⟩
  · unfold N
    rw [List.map_map]
    conv => lhs; rw [← List.map_id zs]
    apply List.map_congr_left
    intro z hz
    obtain ⟨i, _, rfl⟩ := hmem z hz
    simp
  · exact List.mem_range.1 (hpm.mem_iff.1 hx)
  · exact hpm.nodup_iff.2 List.nodup_range
set_option maxRecDepth 20000 in
set_option maxHeartbeats 2000000 in
theorem RIsOrder_any (n : Nat) (v : Value) (zs : List Int) (w : World) (hn : n ≤ 8) (h : Ints w v zs) :
    Calls Tryz.prog 6 #[v, .int .i64 n] w fun e w' => e = .returned (.bool (ordB n zs)) ∧ w' = w := by
  have HI := hid h
  obtain ⟨a, cap, rfl, hl, hc⟩ := h
  have HE : Hid (ordB n zs = (((List.range n).all fun i => memZ i zs) && decide (zs.length = n))) := rfl
  generalize ordB n zs = Q at *
  go_enter Tryz.func6, Tryz.ntmps6
  go_wp2_with fail
  go_loop [5] (fun i => ∃ k : Nat, k ≤ n ∧ i = .int .i64 k ∧ Hid (((List.range k).all fun i => memZ i zs) = true)) (fun i => n - (intOf i).toNat)
  case atStart => exact ⟨0, Nat.zero_le _, rfl, by show _ = true; simp⟩
  case round =>
    obtain ⟨k, hk, rfl, R⟩ := hrel
    by_cases hlt : k < n
    · have hki : (k : Int) < (n : Int) := by omega
      have CT := hid (ContainsZ_any _ zs (k : Int) w HI.out)
      have R2 : Hid (((List.range (k + 1)).all fun i => memZ i zs) = memZ k zs) := by show _ = _; rw [List.range_succ, List.all_append, R.out]; simp
      have R3 : Hid (memZ k zs = false → ((List.range n).all fun i => memZ i zs) = false) := fun h => by
        rw [List.all_eq_false]
        exact ⟨k, List.mem_range.2 hlt, by rw [h]; simp⟩
      rcases hq : memZ (k : Int) zs with _ | _
      · have F := R3.out hq
        rw [F] at HE
        rw [hq] at CT
        have HZ : Hid (Q = false) := HE.out
        clear hq
        go_wp2_with fail
        refine CT.out.mono ?_
        rintro e w' ⟨rfl, hw'⟩
        obtain rfl := hw'.symm
        go_wp2_with fail
        go_ret
        exact ⟨by rw [HZ.out]; rfl, rfl⟩
      · rw [hq] at CT R2
        clear hq
        go_wp2_with fail
        refine CT.out.mono ?_
        rintro e w' ⟨rfl, hw'⟩
        obtain rfl := hw'.symm
        go_wp2_with fail
        go_round
        case rel => exact ⟨k + 1, by omega, by go_num, R2⟩
        case measure => simp [intOf]; omega
    · obtain rfl : k = n := by omega
      rw [R.out, Bool.true_and] at HE
      go_wp2_with fail
      go_ret
      refine ⟨?_, rfl⟩
      rw [HE.out]
      exact ret_bool (by first | rfl | (rw [Bool.eq_iff_iff]; simp; done) | (rw [Bool.eq_iff_iff]; simp; omega))
end Go.Proofs.YthlmnhcnpffjdaaGreat
