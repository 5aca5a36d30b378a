/- rotaref.IsGraph. -/
import Derived.Test.YtjnifcfcigcngaaKGraphQ
namespace Go.Proofs.Ytjnifcfcigcngaa
open Go.RowKit

def okG (n : Int) (F : List (Int × Int)) : Bool := graphR n F == 0
theorem okG_bad {n : Int} {F : List (Int × Int)} (h : ¬ (1 ≤ n ∧ n ≤ 7 ∧ F.length ≤ 8)) : okG n F = false := by
  unfold okG graphR
  rw [if_neg fun e => h ⟨e.1, e.2.1, e.2.2.1⟩]; rfl
theorem okG_good {n : Int} {F : List (Int × Int)} (h : 1 ≤ n ∧ n ≤ 7 ∧ F.length ≤ 8) : okG n F = F.all (edgeB n) := by
  unfold okG graphR
  by_cases e : F.all (edgeB n) = true
  · rw [if_pos ⟨h.1, h.2.1, h.2.2, e⟩, e]; rfl
  · rw [if_neg fun e2 => e e2.2.2.2, show F.all (edgeB n) = false by simpa using e]; rfl
theorem below_boxEd (w : World) (cs : Array Value) (t : TypeId) : Below w.heap.size w (w.alloc (.cells cs t)) := (Below.refl _ _).alloc (Nat.le_refl _) _
set_option maxRecDepth 20000 in
set_option maxHeartbeats 1600000 in
theorem IsGraph_any (n : Int) (v : Value) (F : List (Int × Int)) (w : World) (h : EdgesI w v F) :
    Calls Try.prog 5 #[.agg #[.int .i64 n, v]] w fun e w' => e = .returned (.bool (okG n F)) ∧ Below w.heap.size w w' := by
  obtain ⟨a, cap, rfl, hlen, hc⟩ := h
  have HB0 := hid (below_boxGr w #[.int .i64 n, .slice a F.length cap])
  have HN := hid (World.alloc_heap_new w (.cells #[.int .i64 n, .slice a F.length cap] 24))
  by_cases hn1 : 1 ≤ n
  case neg =>
    have F1 := hid (okG_bad (n := n) (F := F) fun e => hn1 e.1)
    have hd : decide (1 ≤ n) = false := by simpa using hn1
    go_enter Try.func5, Try.ntmps5
    go_wp2_with fail
    refine wp_loop_rounds 1 ?_
    rw [rounds_succ]
    go_wp2_with fail
    go_ret
    exact ⟨by rw [F1.out]; rfl, HB0.out⟩
  have hd : decide (1 ≤ n) = true := by simpa using hn1
  by_cases hn7 : n ≤ 7
  case neg =>
    have F1 := hid (okG_bad (n := n) (F := F) fun e => hn7 e.2.1)
    have hd7 : decide (n ≤ 7) = false := by simpa using hn7
    go_enter Try.func5, Try.ntmps5
    go_wp2_with fail
    refine wp_loop_rounds 1 ?_
    rw [rounds_succ]
    go_wp2_with fail
    go_ret
    exact ⟨by rw [F1.out]; rfl, HB0.out⟩
  have hd7 : decide (n ≤ 7) = true := by simpa using hn7
  by_cases h8 : F.length ≤ 8
  case neg =>
    have F1 := hid (okG_bad (n := n) (F := F) fun e => h8 e.2.2)
    have hd8 : decide ((F.length : Int) ≤ 8) = false := by simp; omega
    have hd9 : ¬ (F.length : Int) ≤ 8 := by omega
    go_enter Try.func5, Try.ntmps5
    go_wp2_with fail
    refine wp_loop_rounds 1 ?_
    rw [rounds_succ]
    go_wp2_with fail
    go_ret
    exact ⟨by rw [F1.out]; rfl, HB0.out⟩
  have hd8 : decide ((F.length : Int) ≤ 8) = true := by simp; omega
  have hd9 : (F.length : Int) ≤ 8 := by omega
  have GG := hid (okG_good (n := n) (F := F) ⟨hn1, hn7, h8⟩)
  go_enter Try.func5, Try.ntmps5
  go_wp2_with fail
  revert HB0 HN
  generalize (w.alloc (.cells #[.int .i64 n, .slice a F.length cap] 24)) = W0
  intro HB0 HN
  have hW0 : w.heap.size < W0.heap.size := (Array.getElem?_eq_some_iff.1 HN.out).1
  have hsz0 := HB0.out.size
  go_loopw [3, 4, 5] (fun ok i _ wr => ∃ (k : Nat) (o : Bool), k ≤ F.length ∧ i = .int .i64 k ∧ ok = .bool o ∧ Hid (Below W0.heap.size W0 wr) ∧ Hid (F.all (edgeB n) = (o && (F.drop k).all (edgeB n)))) (fun _ i _ _ => F.length - (intOf i).toNat)
  case atStart => exact ⟨0, true, Nat.zero_le _, rfl, rfl, Below.refl _ _, by show _ = _; simp⟩
  case round =>
    obtain ⟨k, o, hk, rfl, rfl, HB, HA⟩ := hrel
    obtain ⟨x0, x1, -, -⟩ := two_cells ((HB.out.block _ hW0).trans HN.out)
    have BX := hid (HB0.out.trans (HB.out.mono hsz0))
    cases o with
    | false =>
      have HF : Hid (okG n F = false) := by show _ = _; rw [GG.out, HA.out]; rfl
      clear HA
      go_wp2_with fail
      go_ret
      exact ⟨by rw [HF.out]; rfl, BX.out⟩
    | true =>
      by_cases hkl : k < F.length
      · obtain ⟨b, off, rfl, hb, hcl⟩ := hc (by omega)
        obtain ⟨e1, e2⟩ := hcl k hkl
        have d1 := (BX.out.cell (p := ⟨b, off + k * 2, none⟩) hb).trans e1
        have d2 := (BX.out.cell (p := ⟨b, off + k * 2 + 1, none⟩) hb).trans e2
        have hki : (k : Int) < (F.length : Int) := by omega
        have HA2 : Hid (F.all (edgeB n) = (edgeB n (F.getD k (0, 0)) && (F.drop (k + 1)).all (edgeB n))) := by
          show _ = _
          rw [HA.out, allE_drop hkl]; rfl
        obtain ⟨A, hA⟩ : ∃ A, (F.getD k (0, 0)).1 = A := ⟨_, rfl⟩
        obtain ⟨B, hB⟩ : ∃ B, (F.getD k (0, 0)).2 = B := ⟨_, rfl⟩
        have HE : Hid (edgeB n (F.getD k (0, 0)) = decide (0 ≤ A ∧ A < n ∧ 0 ≤ B ∧ B < n)) := by
          show _ = _
          unfold edgeB inB
          rw [hA, hB, Bool.eq_iff_iff]
          simp
          omega
        rw [hA] at d1
        rw [hB] at d2
        rw [HE.out] at HA2
        clear HE HA hA hB hcl e1 e2
        have hkw := below_boxEd wr #[.int .i64 A, .int .i64 B] 42
        obtain ⟨n0, n1, -, -⟩ := two_cells (World.alloc_heap_new wr (.cells #[.int .i64 A, .int .i64 B] 42))
        obtain ⟨g0, g1, -, -⟩ := two_cells ((hkw.block w.heap.size (Nat.lt_of_lt_of_le hW0 HB.out.size)).trans ((HB.out.block _ hW0).trans HN.out))
        have BW := hid (HB.out.trans (hkw.mono HB.out.size))
        clear hkw HB BX
        by_cases hAB : A < B
        · have hBA : ¬ B < A := by omega
          go_wp2_with fail
          all_goals go_roundw
          all_goals first
            | (refine ⟨k + 1, _, by omega, by go_num, rfl, BW.out, ?_⟩
               show _ = _
               rw [HA2.out]
               congr 1
               rw [Bool.eq_iff_iff]
               simp only [decide_eq_true_eq, Bool.false_eq_true, iff_false]
               omega)
            | (simp [intOf]; omega)
        · by_cases hBA : B < A
          · go_wp2_with fail
            all_goals go_roundw
            all_goals first
              | (refine ⟨k + 1, _, by omega, by go_num, rfl, BW.out, ?_⟩
                 show _ = _
                 rw [HA2.out]
                 congr 1
                 rw [Bool.eq_iff_iff]
                 simp only [decide_eq_true_eq, Bool.false_eq_true, iff_false]
                 omega)
              | (simp [intOf]; omega)
          · go_wp2_with fail
            all_goals go_roundw
            all_goals first
              | (refine ⟨k + 1, _, by omega, by go_num, rfl, BW.out, ?_⟩
                 show _ = _
                 rw [HA2.out]
                 congr 1
                 rw [Bool.eq_iff_iff]
                 simp only [decide_eq_true_eq, Bool.false_eq_true, iff_false]
                 omega)
              | (simp [intOf]; omega)
      · obtain rfl : k = F.length := by omega
        have hnk : ¬ (F.length : Int) < (F.length : Int) := by omega
        have HF : Hid (okG n F = true) := by show _ = _; rw [GG.out, HA.out, List.drop_length]; rfl
        clear HA
        go_wp2_with fail
        go_ret
        exact ⟨by rw [HF.out]; rfl, BX.out⟩
end Go.Proofs.Ytjnifcfcigcngaa
