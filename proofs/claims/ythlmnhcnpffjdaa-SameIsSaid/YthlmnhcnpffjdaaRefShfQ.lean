/- rotaref.Shifted. -/
import Derived.Test.YthlmnhcnpffjdaaRefQ
import Derived.Test.YthlmnhcnpffjdaaPlainAll
namespace Go.Proofs.Ythlmnhcnpffjdaa
open Go.RowKit

/-- The elements below i that stay. -/
def keptL (g i : Nat) : List Nat := (List.range i).filter fun j => !g.testBit j
theorem keptL_hit {g i : Nat} (h : g.testBit i = false) : keptL g (i + 1) = keptL g i ++ [i] := by unfold keptL; rw [List.range_succ, List.filter_append]; simp [h]
theorem keptL_miss {g i : Nat} (h : g.testBit i = true) : keptL g (i + 1) = keptL g i := by unfold keptL; rw [List.range_succ, List.filter_append]; simp [h]
theorem keptL_len (g i : Nat) : (keptL g i).length ≤ i := by
  have := List.length_filter_le (fun j => !g.testBit j) (List.range i)
  rwa [List.length_range] at this
theorem keptL_all {n : Nat} (hn : n ≤ 8) (g : Nat) : keptL g n = els (dif (2 ^ n - 1) g) := by
  refine sorted_ext (List.Pairwise.sublist List.filter_sublist List.pairwise_lt_range) (els_up _) fun j => ?_
  rw [mem_els (kept_lt hn g), dif_bit, full_bit]
  unfold keptL
  rw [List.mem_filter, List.mem_range]
  simp
theorem shf_ltk (xs : List Nat) (s : Nat) : shf xs s < 2 ^ xs.length := lt_of_bits fun i hi => by
  rw [shf_bit] at hi
  obtain ⟨x, h1, _⟩ := hi
  exact (List.getElem?_eq_some_iff.1 h1).1
set_option maxRecDepth 20000 in
set_option maxHeartbeats 1600000 in
theorem Shifted_any (n g s : Nat) (w : World) (hn : n ≤ 8) (hg : g < 256) (hs : s < 256) :
    Calls Try.prog 25 #[.int .i64 n, .int .i64 g, .int .i64 s] w fun e w' => e = .returned (.int .i64 (shf (els (dif (2 ^ n - 1) g)) s : Nat)) ∧ w' = w := by
  rw [← keptL_all hn g]
  obtain ⟨res, HRES⟩ : ∃ res : Nat, Hid (shf (keptL g n) s = res) := ⟨_, rfl⟩
  rw [HRES.out]
  go_enter Try.func25, Try.ntmps25
  go_wp2_with fail
  go_loop [7, 8, 9] (fun o i k => ∃ j : Nat, j ≤ n ∧ o = .int .i64 (shf (keptL g j) s : Nat) ∧ i = .int .i64 j ∧ k = .int .i64 ((keptL g j).length : Nat)) (fun _ i _ => n - (intOf i).toNat)
  case atStart => exact ⟨0, Nat.zero_le _, rfl, rfl, rfl⟩
  case round =>
    obtain ⟨j, hj, rfl, rfl, rfl⟩ := hrel
    by_cases hlt : j < n
    · have HG := hid (In_any g j w hg (by omega))
      have HS := hid (In_any s j w hs (by omega))
      have hkl := keptL_len g j
      have hsl := shf_ltk (keptL g j) s
      have hpw : 2 ^ (keptL g j).length ≤ 256 := (Nat.pow_le_pow_right (by omega) (by omega) : 2 ^ (keptL g j).length ≤ 2 ^ 8)
      rcases hq : g.testBit j with _ | _
      · have HK := hid (keptL_hit hq)
        have SN := hid (shf_snoc (keptL g j) j s)
        rw [hq] at HG
        clear hq
        have hP := (pow_wrap (keptL g j).length (by omega)).1
        obtain ⟨P, HP⟩ : ∃ P : Nat, Hid (2 ^ (keptL g j).length = P) := ⟨_, rfl⟩
        rw [HP.out] at hpw hsl hP SN
        have LN : Hid ((keptL g j ++ [j]).length = (keptL g j).length + 1) := by show _ = _; simp
        have hor : bits .or .i64 (shf (keptL g j) s : Int) (P : Int) = ((shf (keptL g j) s ||| P : Nat) : Int) := i64_or_nat _ P (by omega) (by omega)
        rcases hq2 : s.testBit j with _ | _
        · rw [hq2] at HS SN
          clear hq2
          generalize hsh : shf (keptL g j) s = x at *
          have HX := hid hsh
          clear hsh
          generalize hkl2 : (keptL g j).length = kk at *
          have HKK := hid hkl2
          clear hkl2
          go_wp2_with fail
          refine HG.out.mono ?_
          rintro e w' ⟨rfl, rfl⟩
          go_wp2_with fail
          refine HS.out.mono ?_
          rintro e w' ⟨rfl, rfl⟩
          go_wp2_with fail
          go_round
          case rel => exact ⟨j + 1, by omega, by rw [HK.out, SN.out]; simp, by go_num, by rw [HK.out, LN.out]; go_num⟩
          case measure => simp [intOf]; omega
        · rw [hq2] at HS SN
          clear hq2
          generalize hsh : shf (keptL g j) s = x at *
          have HX := hid hsh
          clear hsh
          generalize hkl2 : (keptL g j).length = kk at *
          have HKK := hid hkl2
          clear hkl2
          go_wp2_with fail
          refine HG.out.mono ?_
          rintro e w' ⟨rfl, rfl⟩
          go_wp2_with fail
          refine HS.out.mono ?_
          rintro e w' ⟨rfl, rfl⟩
          go_wp2_with fail
          go_round
          case rel => exact ⟨j + 1, by omega, by rw [HK.out, SN.out]; simp, by go_num, by rw [HK.out, LN.out]; go_num⟩
          case measure => simp [intOf]; omega
      · have HK := hid (keptL_miss hq)
        rw [hq] at HG
        clear hq
        go_wp2_with fail
        refine HG.out.mono ?_
        rintro e w' ⟨rfl, rfl⟩
        go_wp2_with fail
        go_round
        case rel => exact ⟨j + 1, by omega, by rw [HK.out], by go_num, by rw [HK.out]⟩
        case measure => simp [intOf]; omega
    · obtain rfl : j = n := by omega
      go_wp2_with fail
      go_ret
      exact ⟨ret_int (by rw [HRES.out]), rfl⟩
end Go.Proofs.Ythlmnhcnpffjdaa
