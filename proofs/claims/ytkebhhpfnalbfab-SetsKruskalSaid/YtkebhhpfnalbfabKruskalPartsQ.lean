/- Contracts of slices.Sort over a list of the call's own, rotaref.Pick, rotakeep.shade. -/
import Derived.Test.YtkebhhpfnalbfabSortQ
import Derived.Test.YtkebhhpfnalbfabKK2Q
import Derived.Test.YtkebhhpfnalbfabRefShadowQ
import Derived.Lib.SlKeysI
import Derived.Shelf.Slices.In.SortNone
namespace Go.Proofs.Ytkebhhpfnalbfab
open Go.RowKit Go.Sort

theorem sortNone (p : Option Addr) (cap : Nat) (w : World) :
    Calls Try.prog 19 #[.slice p 0 cap] w fun e w' => e = .returned (.tuple #[]) ∧ w' = w := Any.slices_Sort_int_none Try.lays189 p cap w

theorem Sort_own {B : Nat} {w : World} {v : Value} {l : List Nat} (h : Own B w v l) (hl : l.length ≤ 17592186044416) :
    Calls Try.prog 19 #[v] w fun e w' => e = .returned (.tuple #[]) ∧ ∃ l' : List Nat, l'.Perm l ∧ l'.Pairwise (· ≤ ·) ∧ Own B w' v l' ∧ ∀ w0, Below B w0 w → B ≤ w.heap.size → Below B w0 w' := by
  obtain ⟨h0, h1⟩ := id h
  rcases h1 with ⟨rfl, hn⟩ | ⟨g, cap, cur, rfl, hbase, hheap, hc1, hc2, hc3, htake⟩
  · have hl0 : l = [] := List.length_eq_zero_iff.1 hn
    subst hl0
    refine (sortNone none 0 w).mono ?_
    rintro e w' ⟨rfl, rfl⟩
    exact ⟨rfl, [], List.Perm.refl _, List.Pairwise.nil, h, fun _ hb _ => hb⟩
  · have hV : V l = (N l).map encZ := by simp [V, N]
    have hlen : (N l).length = l.length := N_len l
    rw [Nat.mul_one, hV] at htake
    have hg : g < w.heap.size := (Array.getElem?_eq_some_iff.1 hheap).1
    have H := Try.slices_Sort_int g 0 cap (N l) w (Go.Proofs.holds_of_block_i hheap (by rw [hlen]; exact htake)) hg (by rw [hlen]; omega)
    rw [hlen] at H
    refine H.mono ?_
    rintro e w' ⟨rfl, n, os, rfl⟩
    have hperm : ((N l).mergeSort fun x y => decide (x ≤ y)).Perm (N l) := List.mergeSort_perm _ _
    have hpair : ((N l).mergeSort fun x y => decide (x ≤ y)).Pairwise fun a b => decide (a ≤ b) = true :=
      List.pairwise_mergeSort (fun a b c h1 h2 => by simp at *; omega) (fun a b => by simp; omega) _
    generalize ((N l).mergeSort fun x y => decide (x ≤ y)) = ts at *
    have hnn : ∀ z ∈ ts, 0 ≤ z := fun z hz => by
      have := hperm.mem_iff.1 hz
      simp only [N, List.mem_map] at this
      obtain ⟨a, _, rfl⟩ := this
      omega
    have hts : N (ts.map Int.toNat) = ts := by
      unfold N
      rw [List.map_map]
      conv => rhs; rw [← List.map_id ts]
      exact List.map_congr_left fun z hz => by have := hnn z hz; simp; omega
    have hlt : ts.length = (N l).length := hperm.length_eq
    refine ⟨rfl, ts.map Int.toNat, ?_, ?_, ?_, ?_⟩
    · have := hperm.map Int.toNat
      have e : (N l).map Int.toNat = l := by simp [N, Function.comp_def]
      rw [e] at this
      exact this
    · rw [List.pairwise_map]
      exact hpair.imp fun h => by simp at h; omega
    · have := Go.Proofs.ownsRow_sorted_i (n := n) (os := os) hlt hbase hheap (by omega) hc2 hc3
      unfold Own
      have e2 : V (ts.map Int.toNat) = ts.map encZ := by
        conv => rhs; rw [← hts]
        simp [V, N]
      rw [e2]
      simpa [hlen, hlt] using this
    · intro w0 hb hB
      exact hb.grown (Go.Proofs.grownBy_sorted_i _) hB (fun k hk => by cases hk; exact hbase)

theorem Pick_any (p : Int) (n : Nat) (w : World) (h1 : -9223372036854775808 ≤ p) (h2 : p ≤ 9223372036854775807) (hn : 0 < n) (hn2 : n ≤ 256) :
    Calls Try.prog 17 #[.int .i64 p, .int .i64 n] w fun e w' => ∃ r : Nat, e = .returned (.int .i64 r) ∧ r < n ∧ w' = w := by
  have hz : ((n : Int) == 0) = false := by rw [beq_eq_false_iff_ne]; omega
  by_cases hp : p < 0
  · go_enter Try.func17, Try.ntmps17
    go_wp2
    go_ret
    refine ⟨((-(p + 1)) % (n : Int)).toNat, ret_int ?_, ?_, rfl⟩
    · have e : -((p + 1).tmod (n : Int)) = (-(p + 1)) % (n : Int) := by rw [← Int.neg_tmod, Int.tmod_eq_emod_of_nonneg (by omega)]
      have := Int.emod_nonneg (-(p + 1)) (show (n : Int) ≠ 0 by omega)
      omega
    · have := Int.emod_nonneg (-(p + 1)) (show (n : Int) ≠ 0 by omega)
      have := Int.emod_lt_of_pos (-(p + 1)) (show (0 : Int) < n by omega)
      omega
  · go_enter Try.func17, Try.ntmps17
    go_wp2
    go_ret
    refine ⟨(p % (n : Int)).toNat, ret_int ?_, ?_, rfl⟩
    · have := Int.emod_nonneg p (show (n : Int) ≠ 0 by omega)
      omega
    · have := Int.emod_nonneg p (show (n : Int) ≠ 0 by omega)
      have := Int.emod_lt_of_pos p (show (0 : Int) < n by omega)
      omega

theorem range_prefix {s T : Nat} (h : s ≤ T) (p : Nat → Bool) : (List.range s).filter p <+: (List.range T).filter p := by
  refine List.IsPrefix.filter p ?_
  rw [List.prefix_iff_eq_take, List.length_range, List.take_range, Nat.min_eq_left h]
theorem prefix_take {l m : List Nat} (h : l <+: m) : m.take l.length = l := (List.prefix_iff_eq_take.1 h).symm

set_option maxHeartbeats 1600000 in
theorem shade_any (n k m : Nat) (w : World) (hn : n ≤ 8) (hk : k ≤ 8) (hm : m ≤ (chs n k).length) :
    Calls Try.prog 20 #[.int .i64 n, .int .i64 k, .int .i64 m] w fun e w' => ∃ r : Nat, e = .returned (.int .i64 r) ∧ r ≤ sh k m ∧ Below w.heap.size w w' := by
  obtain ⟨i0, hi, hz0, hz1, hz2⟩ := info_parts Try.infoInt
  obtain ⟨T, hT, HT, hT2⟩ := pow_T n hn
  have HP : Hid (∀ s, s ≤ T → (List.range s).filter (fun s => pop s == k) <+: chs n k) := fun s hs => range_prefix (by rw [← HT.out]; exact hs) _
  have HM := hid hm
  have SL := hid (shade_le hn hk hm)
  have hm256 : m ≤ 256 := by
    have h1 := range_le (fun s => pop s == k) (2 ^ n)
    have h2 := (pow_wrap n hn).2
    have h3 : (chs n k).length ≤ 2 ^ n := h1
    omega
  clear hm
  go_enter Try.func20, Try.ntmps20
  go_wp2_with fail
  go_loopw [7, 8] (fun u i wr => ∃ s : Nat, s ≤ T ∧ i = .int .i64 s ∧ Own w.heap.size wr u ((List.range s).filter fun s => pop s == k) ∧ Below w.heap.size w wr ∧ ((List.range s).filter fun s => pop s == k).length ≤ m) (fun _ i _ => T - (intOf i).toNat)
  case atStart => exact ⟨0, Nat.zero_le _, rfl, Own.nil _ _, Below.refl _ _, by simp⟩
  case round =>
    obtain ⟨s, hs, rfl, hown, hnx, hlm⟩ := hrel
    have hsz := hnx.size
    obtain ⟨ua, uc, hu⟩ := hown.form
    have HPs := hid (HP.out s hs)
    by_cases hlt : ((List.range s).filter fun s => pop s == k).length < m
    · have hsT : s < T := by
        rcases Nat.lt_or_ge s T with h | h
        · exact h
        · have e : s = 2 ^ n := by have := HT.out; omega
          subst e
          have := HM.out
          unfold chs at this
          omega
      have Hhit := hid (fun hp => range_hit (p := fun s => pop s == k) (k := s) hp)
      have Hmiss := hid (fun hp => range_miss (p := fun s => pop s == k) (k := s) hp)
      have HO := hid hown
      have hx : s < 256 := by omega
      clear hown
      generalize (List.range s).filter (fun s => pop s == k) = acc at *
      subst hu
      have hlt' : (acc.length : Int) < (m : Int) := by omega
      by_cases hq : pop s = k
      · have hq' : ((pop s : Int) == (k : Int)) = true := by rw [hq]; simp
        have HB : Hid ((pop s == k) = true) := by show (pop s == k) = true; simpa using hq
        clear hq
        go_wp2_with fail
        refine (Size_any s _ hx).mono ?_
        rintro e w1 ⟨rfl, hb1⟩
        have R1 := hid (HO.out.below hb1)
        have R2 := hnx.trans (hb1.mono hsz)
        have hs2 := hb1.size
        clear hb1
        go_wp2_with (at_builtin; refine wpList_append_own _ rfl _ _ 22 rfl w.heap.size 3 i0 (.int .i64 0) 1 8 Try.underlying22 hi hz0 hz1 hz2 rfl (by decide) _ _ _ rfl (R1.out.alloc _) ⟨w1.heap.size, 0, none⟩ 1 1 [.int .i64 (s : Nat)] rfl rfl ?c1 ?c2 ?c3 ?c4 ?c5 ?_)
        case c1 => exact cell_one_new _ _ _
        case c2 => intro u hu; simp at hu; subst hu; rfl
        case c3 => unfold maxLen; omega
        case c4 => omega
        case c5 => simp; omega
        intro v' w3 hown' hgrow _
        have R3 := hid (Own.snoc hown')
        have R4 := hid (Own.grown R1.out R2 (by omega) hgrow)
        clear hown' hgrow
        go_wp2_with fail
        go_roundw
        case rel => exact ⟨s + 1, by omega, by go_num, by rw [Hhit.out HB.out]; exact R3.out, R4.out, by rw [Hhit.out HB.out]; simp; omega⟩
        case measure => simp [intOf]; omega
      · have hq' : ((pop s : Int) == (k : Int)) = false := by rw [beq_eq_false_iff_ne]; omega
        have HB : Hid ((pop s == k) = false) := by show (pop s == k) = false; simpa using hq
        clear hq
        go_wp2_with fail
        refine (Size_any s _ hx).mono ?_
        rintro e w1 ⟨rfl, hb1⟩
        have R1 := hid (HO.out.below hb1)
        have R2 := hnx.trans (hb1.mono hsz)
        clear hb1
        go_wp2_with fail
        go_roundw
        case rel => exact ⟨s + 1, by omega, by go_num, by rw [Hmiss.out HB.out]; exact R1.out, R2, by rw [Hmiss.out HB.out]; omega⟩
        case measure => simp [intOf]; omega
    · have hEq : Hid ((chs n k).take m = (List.range s).filter fun s => pop s == k) := by
        show (chs n k).take m = _
        have := prefix_take HPs.out
        rwa [show ((List.range s).filter fun s => pop s == k).length = m by omega] at this
      have I1 := hid (hown.ints (by omega))
      rw [hEq.out] at SL
      clear hown
      generalize (List.range s).filter (fun s => pop s == k) = acc at *
      subst hu
      have hlt' : decide (acc.length < m) = false := by simpa using hlt
      have hlt2 : decide ((acc.length : Int) < (m : Int)) = false := by simp; omega
      go_wp2_with fail
      refine (Shadow_ref n _ acc _ hn I1.out).mono ?_
      rintro e w1 ⟨r, rfl, ho, hb1⟩
      obtain ⟨ra, rc, hr⟩ := ho.form
      subst hr
      have R2 := hnx.trans (hb1.mono hsz)
      clear ho hb1
      go_wp2_with fail
      go_ret
      exact ⟨_, rfl, SL.out, R2⟩
end Go.Proofs.Ytkebhhpfnalbfab
