/- The walk of the law SetsKruskal. -/
import Derived.Test.YtkebhhpfnalbfabKruskalPartsQ
import Derived.OpenShut
namespace Go.Proofs.Ytkebhhpfnalbfab
open Go.RowKit

theorem pair_fam : Fam 2 [3] := ⟨by simp, by simp⟩
theorem pair_shd : N (shd 2 [3]) = [1, 2] := by decide +kernel
theorem shadow_start {w : World} (hw : Tabbed w) :
    Calls Try.prog 11 #[.int .i64 2, .slice (some ⟨w.heap.size, 0, none⟩) 1 1] (w.alloc (.cells #[.int .i64 3] 3)) fun e w' => ∃ r, e = .returned (.tuple #[r, .int .i64 0]) ∧ Ints w' r [1, 2] ∧ Below w.heap.size w w' :=
  (Shadow_ok (m := 2) (by omega) pair_fam (hw.below (below_alloc w _)) (Ints.lit1 w 3)).mono fun _ _ ⟨r, h1, h2, h3⟩ => ⟨r, h1, pair_shd ▸ h2, (below_alloc w _).trans (h3.mono (by simp))⟩
theorem nodup_lt {l : List Nat} (h1 : l.Pairwise (· ≤ ·)) (h2 : l.Nodup) : l.Pairwise (· < ·) := by
  have := h1.and h2
  exact this.imp fun ⟨a, b⟩ => Nat.lt_of_le_of_ne a b

set_option maxHeartbeats 3200000 in
set_option maxRecDepth 100000 in
theorem kruskal_law (n k : Int) (v : Value) (zs : List Int) (w : World) (hw : Tabbed w) (h : Ints w v zs) (hwf : ∀ z ∈ zs, -9223372036854775808 ≤ z ∧ z ≤ 9223372036854775807) :
    Calls Try.prog 4 #[.int .i64 n, .int .i64 k, v] w fun e w' => e = .returned (.bool true) ∧ Below w.heap.size w w' := by
  obtain ⟨a, cap, hv, -⟩ := id h
  have HI := hid h
  have HW := hid hw
  have HWF := hid hwf
  clear h hw hwf
  subst hv
  go_enter Try.func4, Try.ntmps4
  go_wp2_with fail
  refine (shadow_start HW.out).mono ?_
  rintro e w1 ⟨r, rfl, hi, hb⟩
  go_wp2_with fail
  refine (Same_any _ _ [1, 2] [1, 2] _ (hi.below (below_alloc _ _)) (Ints.lit2 w1 1 2)).mono ?_
  rw [show decide ([1, 2] = ([1, 2] : List Int)) = true from rfl]
  rintro e w2 ⟨rfl, hb2⟩
  have b2 : Below w.heap.size w w2 := (hb.trans ((below_alloc w1 _).mono hb.size)).trans (hb2.mono (by have := hb.size; simp; omega))
  clear hb2 hi hb
  by_cases hc : 0 ≤ n ∧ n ≤ 8 ∧ 0 ≤ k ∧ k ≤ n
  · obtain ⟨m, rfl⟩ := Int.eq_ofNat_of_zero_le hc.1
    obtain ⟨c, rfl⟩ := Int.eq_ofNat_of_zero_le hc.2.2.1
    have hm : m ≤ 8 := by omega
    have hcm : c ≤ m := by omega
    clear hc
    go_wp2_with fail
    refine (Choose_ok hm hcm _).mono ?_
    rintro e w3 hg
    obtain ⟨xa, xc, rfl, I3, hb3⟩ := hg.go
    have b3 := b2.trans (hb3.mono b2.size)
    clear hg hb3 b2
    by_cases h0 : c = 0
    · subst h0
      clear I3
      go_wp2_with fail
      go_ret
      exact ⟨rfl, b3⟩
    · have h0' : ((c : Int) == 0) = false := by rw [beq_eq_false_iff_ne]; omega
      obtain ⟨xa', xc', hx, hxl, hxcell⟩ := I3.nats
      obtain ⟨rfl, -, rfl⟩ : xa = xa' ∧ True ∧ xc = xc' := by simpa using hx
      obtain ⟨pa, pcap, hp, hpl, hpcell⟩ := HI.out.below b3
      obtain ⟨rfl, -, rfl⟩ : a = pa ∧ True ∧ cap = pcap := by simpa using hp
      have hcl := chs_len m (by omega) c (by omega)
      have hpos : 0 < (chs m c).length := by rw [hcl.1]; exact hcl.2 hcm
      have h256 : (chs m c).length ≤ 256 := Nat.le_trans (range_le' _ _) (pow_wrap m hm).2
      have CH : Hid (∀ s ∈ chs m c, s < 2 ^ m ∧ pop s = c) := fun s hs => by
        simp only [chs, List.mem_filter, List.mem_range, beq_iff_eq] at hs
        exact hs
      have KL : Hid (∀ l : List Nat, l.Pairwise (· ≤ ·) → l.Nodup → (∀ s ∈ l, s ∈ chs m c) → Fam m l ∧ l.length ≤ (chs m c).length ∧ sh c l.length ≤ (shd m l).length) := fun l h1 h2 h3 => by
        have hF : Fam m l := ⟨nodup_lt h1 h2, fun s hs => (CH.out s (h3 s hs)).1⟩
        exact ⟨hF, kk_list hm (by omega) hF fun s hs => (CH.out s (h3 s hs)).2⟩
      have SH : Hid (∀ (q : Nat) (w : World), q ≤ (chs m c).length → Calls Try.prog 20 #[.int .i64 m, .int .i64 c, .int .i64 q] w fun e w' => ∃ r : Nat, e = .returned (.int .i64 r) ∧ r ≤ sh c q ∧ Below w.heap.size w w') := fun q w hq => shade_any m c q w hm (by omega) hq
      clear hx hp I3 hcl
      generalize chs m c = all at *
      obtain ⟨i0, hi, hz0, hz1, hz2⟩ := info_parts Try.infoInt
      go_wp2_with fail
      go_loopw [11, 50] (fun u i wr => ∃ (j : Nat) (acc : List Nat), j ≤ zs.length ∧ i = .int .i64 j ∧ Own w3.heap.size wr u acc ∧ Below w3.heap.size w3 wr ∧ acc.length ≤ j ∧ Hid (acc.Nodup ∧ ∀ s ∈ acc, s ∈ all)) (fun _ i _ => zs.length - (intOf i).toNat)
      case atStart => exact ⟨0, [], Nat.zero_le _, rfl, Own.nil _ _, Below.refl _ _, by simp, List.nodup_nil, by simp⟩
      case round =>
        obtain ⟨j, acc, hj, rfl, hown, hnx, hal, hA⟩ := hrel
        have hsz := hnx.size
        have HO := hid hown
        obtain ⟨ua, uc, hu⟩ := hown.form
        subst hu
        clear hown
        by_cases hlt : j < zs.length
        · obtain ⟨pb, poff, rfl, hpb, hpc⟩ := hpcell (by omega)
          obtain ⟨xb, xoff, rfl, hxb, hxc⟩ := hxcell hpos
          have hck : wr.cell? ⟨pb, poff + j, none⟩ = some (.int .i64 (zs.getD j 0)) := (hnx.cell (p := ⟨pb, poff + j, none⟩) hpb).trans (hpc j hlt)
          have hwz := HWF.out (zs.getD j 0) (by simp [List.getD, hlt])
          have HWZ := hid hwz
          have XC : Hid (∀ i, i < all.length → wr.cell? ⟨xb, xoff + i, none⟩ = some (.int .i64 (all.getD i 0 : Nat))) := fun i hi => (hnx.cell (p := ⟨xb, xoff + i, none⟩) hxb).trans (hxc i hi)
          clear hpc hpcell hxcell hxc hwz
          generalize zs.getD j 0 = z at *
          go_wp2_with fail
          refine (Pick_any z all.length _ HWZ.out.1 HWZ.out.2 hpos h256).mono ?_
          rintro e w4 ⟨q, rfl, hq, rfl⟩
          have hxq := XC.out q hq
          have hmem : all.getD q 0 ∈ all := by simp [List.getD, hq]
          have HMEM := hid hmem
          have hqi : (q : Int) < (all.length : Int) := by omega
          clear hmem
          generalize all.getD q 0 = s at *
          have CO := hid (Contains_any _ acc s _ (HO.out.ints (by omega)))
          rcases hcon : memB s acc with _ | _
          · have NW : Hid ((acc ++ [s]).Nodup ∧ ∀ t ∈ acc ++ [s], t ∈ all) := by
              have hns : s ∉ acc := by simpa [memB] using hcon
              refine ⟨?_, ?_⟩
              · rw [List.nodup_append]
                refine ⟨hA.out.1, by simp, ?_⟩
                intro a ha b hb
                simp at hb
                subst hb
                exact fun h => hns (h ▸ ha)
              · intro t ht
                rw [List.mem_append] at ht
                rcases ht with ht | ht
                · exact hA.out.2 t ht
                · simp at ht; subst ht; exact HMEM.out
            rw [hcon] at CO
            clear hcon
            go_wp2_with fail
            refine CO.out.mono ?_
            rintro e w5 ⟨rfl, rfl⟩
            go_wp2_with (at_builtin; refine wpList_append_own _ rfl _ _ 22 rfl w3.heap.size 3 i0 (.int .i64 0) 1 8 Try.underlying22 hi hz0 hz1 hz2 rfl (by decide) _ _ _ rfl (HO.out.alloc _) ⟨w5.heap.size, 0, none⟩ 1 1 [.int .i64 (s : Nat)] rfl rfl ?c1 ?c2 ?c3 ?c4 ?c5 ?_)
            case c1 => exact cell_one_new _ _ _
            case c2 => intro u hu; simp at hu; subst hu; rfl
            case c3 => unfold maxLen; omega
            case c4 => omega
            case c5 => simp; omega
            intro v' w6 hown' hgrow _
            have R3 := hid (Own.snoc hown')
            have R4 := hid (Own.grown HO.out hnx hsz hgrow)
            clear hown' hgrow
            go_wp2_with fail
            go_roundw
            case rel => exact ⟨j + 1, acc ++ [s], by omega, by go_num, R3.out, R4.out, by simp; omega, NW⟩
            case measure => simp [intOf]; omega
          · rw [hcon] at CO
            clear hcon
            go_wp2_with fail
            refine CO.out.mono ?_
            rintro e w5 ⟨rfl, rfl⟩
            go_wp2_with fail
            go_roundw
            case rel => exact ⟨j + 1, acc, by omega, by go_num, HO.out, hnx, by omega, hA⟩
            case measure => simp [intOf]; omega
        · go_wp2_with fail
          refine (Sort_own HO.out (by omega)).mono ?_
          rintro e w4 ⟨rfl, l', hperm, hpair, ho', hbb⟩
          have b4 := hbb _ hnx hsz
          have hlen : l'.length = acc.length := hperm.length_eq
          obtain ⟨hF, hle, hsh⟩ := KL.out l' hpair (hperm.nodup_iff.2 hA.out.1) fun t ht => hA.out.2 t (hperm.mem_iff.1 ht)
          have I4 := hid (ho'.ints (by omega))
          have bw4 := b3.trans (b4.mono b3.size)
          have HF := hid hF
          have HSH := hid hsh
          have HLE := hid hle
          have HLEN := hid hlen
          clear ho' hbb hperm hpair hF hle hsh hlen HO
          go_wp2_with fail
          refine (Shadow_ok hm HF.out (HW.out.below bw4) I4.out).mono ?_
          rintro e w5 hg
          obtain ⟨sa, sc, rfl, I5, hb5⟩ := hg.go
          have bw5 := bw4.trans (hb5.mono bw4.size)
          clear hg hb5 I5
          go_wp2_with fail
          refine (SH.out acc.length _ (by have := HLE.out; have := HLEN.out; omega)).mono ?_
          rintro e w6 ⟨q, rfl, hq, hb6⟩
          have bw6 := bw5.trans (hb6.mono bw5.size)
          have hfin : (q : Int) ≤ ((shd m l').length : Int) := by
            have h1 := HSH.out
            rw [HLEN.out] at h1
            omega
          clear hb6 hq
          go_wp2_with fail
          go_ret
          exact ⟨by simp, bw6⟩
  · go_wp2_with fail
    refine (Choose_bad n k _ hc).mono ?_
    rintro e w3 ⟨rfl, hb3⟩
    have b3 := b2.trans (hb3.mono b2.size)
    clear hc hb3
    go_wp2_with fail
    go_ret
    exact ⟨rfl, b3⟩
end Go.Proofs.Ytkebhhpfnalbfab
