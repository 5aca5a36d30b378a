/- rotalaw.LinksSays. -/
import Derived.Test.YtjnifcfcigcngaaLkYQ
import Derived.Test.YtjnifcfcigcngaaRfBarQ
import Derived.Test.YtjnifcfcigcngaaRwSQ
import Derived.Test.YtjnifcfcigcngaaKsAQ
import Derived.Test.YtjnifcfcigcngaaGoodW
namespace Go.Proofs.Ytjnifcfcigcngaa
open Go.RowKit

theorem badQ (b : Bool) (q : Int) (w : World) : Calls Try.prog 4 #[.bool b, .int .i64 q] w fun e w' => e = .returned (.int .i64 (if b = true then 0 else q)) ∧ w' = w := by
  cases b
  · go_enter Try.func4, Try.ntmps4
    go_wp2_with fail
    go_ret
    exact ⟨rfl, rfl⟩
  · go_enter Try.func4, Try.ntmps4
    go_wp2_with fail
    go_ret
    exact ⟨rfl, rfl⟩
theorem oneL (n q : Int) (w : World) (h0 : q ≠ 0 → n = 0) : Calls Try.prog 13 #[.int .i64 n, .int .i64 q, .int .i64 n, .int .i64 q] w fun e w' => e = .returned (.bool true) ∧ w' = w := by
  by_cases hq : q = 0
  · subst hq
    clear h0
    have h1 : (n == n) = true := by simp
    go_enter Try.func13, Try.ntmps13
    go_wp2_with fail
    go_ret
    exact ⟨rfl, rfl⟩
  · obtain rfl := h0 hq
    have h1 : (q != 0) = true := by rw [bne_iff_ne]; exact hq
    have h2 : (q == q) = true := by simp
    clear h0
    go_enter Try.func13, Try.ntmps13
    go_wp2_with fail
    go_ret
    exact ⟨rfl, rfl⟩
theorem setB_isL (n s : Int) : setB n s = (setR n s == 0) := by
  unfold setB setR
  split <;> simp_all
theorem lnkE_isL (n s t : Int) (F : List (Int × Int)) : lnkE n F s t = if (okG n F && (setB n s && setB n t)) = true then 0 else 1 := by
  unfold lnkE okG
  rw [setB_isL, setB_isL]
  have h1 : graphR n F = 0 ∨ graphR n F = 1 := by unfold graphR; split <;> simp
  have h2 : setR n s = 0 ∨ setR n s = 1 := by unfold setR; split <;> simp
  have h3 : setR n t = 0 ∨ setR n t = 1 := by unfold setR; split <;> simp
  rcases h1 with h1 | h1 <;> rcases h2 with h2 | h2 <;> rcases h3 with h3 | h3 <;> rw [h1, h2, h3] <;> rfl
theorem WysO.rowsR {B : Nat} {w : World} {v : Value} {R : List (List Nat)} (h : WysO B w v R) (h8 : R.length ≤ 8) (hr : ∀ i, i < R.length → (R.getD i []).length ≤ 8) : RowsR w v R := by
  obtain ⟨a, c, e⟩ := h.form
  refine ⟨a, c, e, h8, fun i hi => ?_⟩
  obtain ⟨g, c2, u, h1, h2, h3, h4⟩ := h.at_ hi
  rw [e] at h1
  obtain ⟨rfl, rfl⟩ : a = some ⟨g, 0, none⟩ ∧ c = c2 := by simpa using h1
  exact ⟨g, u, rfl, h2, h3, h4.ints (by have := hr i hi; omega)⟩
set_option maxRecDepth 20000 in
set_option maxHeartbeats 8000000 in
theorem lsays_law (n : Int) (v : Value) (F : List (Int × Int)) (s t : Int) (w : World) (h : EdgesI w v F) :
    Calls Try.prog 3 #[.agg #[.int .i64 n, v], .int .i64 s, .int .i64 t] w fun e w' => e = .returned (.bool true) ∧ Below w.heap.size w w' := by
  have HI := hid h
  obtain ⟨a, cap, rfl, -, -⟩ := h
  obtain ⟨w0, hw0⟩ : ∃ w0, w.alloc (.cells #[.int .i64 n, .slice a F.length cap] 24) = w0 := ⟨_, rfl⟩
  have B0 : Hid (Below w.heap.size w w0) := by rw [← hw0]; exact (Below.refl _ _).alloc (Nat.le_refl _) _
  have X0 : Hid (w0.heap[w.heap.size]? = some (.cells #[.int .i64 n, .slice a F.length cap] 24 (0, 0))) := by rw [← hw0]; exact World.alloc_heap_new w _
  have I0 := hid (HI.out.below B0.out)
  have hlt0 := (Array.getElem?_eq_some_iff.1 X0.out).1
  have CX : Hid (∀ W, Below w0.heap.size w0 W → W.cell? ⟨w.heap.size, 0, none⟩ = some (.int .i64 n) ∧ W.cell? ⟨w.heap.size, 1, none⟩ = some (.slice a F.length cap)) := fun W hW => by
    obtain ⟨q0, q1, -⟩ := two_cells ((hW.block _ hlt0).trans X0.out)
    exact ⟨q0, q1⟩
  have IG := hid (IsGraph_any n _ F w0 I0.out)
  have IS1 : Hid (∀ W, Calls Try.prog 6 #[.int .i64 n, .int .i64 s] W fun e w' => e = .returned (.bool (setB n s)) ∧ w' = W) := fun W => IsSet_any n s W
  have IS2 : Hid (∀ W, Calls Try.prog 6 #[.int .i64 n, .int .i64 t] W fun e w' => e = .returned (.bool (setB n t)) ∧ w' = W) := fun W => IsSet_any n t W
  have BT := hid (fun w => badQ true 1 w)
  have BF := hid (fun w => badQ false 1 w)
  rw [if_pos rfl] at BT
  rw [if_neg (by simp)] at BF
  obtain ⟨x0, x1, -, -⟩ := two_cells X0.out
  have LZ := hid (lnkE_isL n s t F)
  go_enter Try.func3, Try.ntmps3
  go_upto_region 1 with fail
  try rw [hw0]
  clear hw0
  go_cut [7] from 19 to 34 (fun x W => x = .int .i64 (lnkE n F s t) ∧ Hid (Below w0.heap.size w0 W))
  case first =>
    rcases hb : okG n F with _ | _
    · have LQ : Hid (lnkE n F s t = 1) := by show _ = _; rw [LZ.out, hb]; rfl
      rw [hb] at IG
      clear hb
      go_wp2_with fail
      refine IG.out.mono ?_
      rintro e w1 ⟨rfl, hb1⟩
      have K1 := hid hb1
      clear hb1
      go_wp2_with fail
      refine (BF.out _).mono ?_
      rintro e w2 ⟨rfl, rfl⟩
      go_wp2_with fail
      go_meet
      exact ⟨by rw [LQ.out], K1.out⟩
    · rw [hb] at IG LZ
      clear hb
      rcases hb : setB n s with _ | _
      · have LQ : Hid (lnkE n F s t = 1) := by show _ = _; rw [LZ.out, hb]; rfl
        rw [hb] at IS1
        clear hb
        go_wp2_with fail
        refine IG.out.mono ?_
        rintro e w1 ⟨rfl, hb1⟩
        have K1 := hid hb1
        obtain ⟨y0, y1⟩ := CX.out w1 hb1
        clear hb1 x0 x1
        go_wp2_with fail
        refine (IS1.out _).mono ?_
        rintro e w2 ⟨rfl, rfl⟩
        go_wp2_with fail
        refine (BF.out _).mono ?_
        rintro e w2 ⟨rfl, rfl⟩
        go_wp2_with fail
        go_meet
        exact ⟨by rw [LQ.out], K1.out⟩
      · rw [hb] at IS1 LZ
        clear hb
        rcases hb : setB n t with _ | _
        · have LQ : Hid (lnkE n F s t = 1) := by show _ = _; rw [LZ.out, hb]; rfl
          rw [hb] at IS2
          clear hb
          go_wp2_with fail
          refine IG.out.mono ?_
          rintro e w1 ⟨rfl, hb1⟩
          have K1 := hid hb1
          obtain ⟨y0, y1⟩ := CX.out w1 hb1
          clear hb1 x0 x1
          go_wp2_with fail
          refine (IS1.out _).mono ?_
          rintro e w2 ⟨rfl, rfl⟩
          go_wp2_with fail
          refine (IS2.out _).mono ?_
          rintro e w2 ⟨rfl, rfl⟩
          go_wp2_with fail
          refine (BF.out _).mono ?_
          rintro e w2 ⟨rfl, rfl⟩
          go_wp2_with fail
          go_meet
          exact ⟨by rw [LQ.out], K1.out⟩
        · have LQ : Hid (lnkE n F s t = 0) := by show _ = _; rw [LZ.out, hb]; rfl
          rw [hb] at IS2
          clear hb
          go_wp2_with fail
          refine IG.out.mono ?_
          rintro e w1 ⟨rfl, hb1⟩
          have K1 := hid hb1
          obtain ⟨y0, y1⟩ := CX.out w1 hb1
          clear hb1 x0 x1
          go_wp2_with fail
          refine (IS1.out _).mono ?_
          rintro e w2 ⟨rfl, rfl⟩
          go_wp2_with fail
          refine (IS2.out _).mono ?_
          rintro e w2 ⟨rfl, rfl⟩
          go_wp2_with fail
          refine (BT.out _).mono ?_
          rintro e w2 ⟨rfl, rfl⟩
          go_wp2_with fail
          go_meet
          exact ⟨by rw [LQ.out], K1.out⟩
  case rest =>
  obtain ⟨rfl, HBC⟩ := hcut
  obtain ⟨c0, c1⟩ := CX.out wc HBC.out
  have IC := hid (I0.out.below HBC.out)
  clear IG IS1 IS2 BT BF x0 x1 X0 hlt0
  by_cases hg : lnkE n F s t = 0
  rotate_left
  · have MB := hid (LMost_bad n s t _ F wc hg IC.out)
    have CB : Hid (∀ W, EdgesI W (.slice a F.length cap) F → Calls Try.prog 11 #[.agg #[.int .i64 n, .slice a F.length cap], .int .i64 s, .int .i64 t] W fun e w' => e = .returned (.tuple #[.int .i64 0, .int .i64 (lnkE n F s t)]) ∧ Below W.heap.size W w') := fun W hW => LCut_bad n s t _ F W hg hW
    have WB : Hid (∀ W, EdgesI W (.slice a F.length cap) F → Calls Try.prog 12 #[.agg #[.int .i64 n, .slice a F.length cap], .int .i64 s, .int .i64 t] W fun e w' => e = .returned (.tuple #[.slice none 0 0, .int .i64 (lnkE n F s t)]) ∧ Below W.heap.size W w') := fun W hW => LWays_bad n s t _ F W hg hW
    generalize lnkE n F s t = Q at *
    have hq : (Q == 0) = false := by simpa using hg
    have hq2 : (Q != 0) = true := by simpa using hg
    have hq3 : (Q != Q) = false := by simp
    have OB := hid (fun w => oneL 0 Q w (fun _ => rfl))
    go_wp2_with fail
    refine MB.out.mono ?_
    rintro e w3 ⟨rfl, hb3⟩
    have K3 := hid (HBC.out.trans (hb3.mono HBC.out.size))
    obtain ⟨y0, y1⟩ := CX.out w3 K3.out
    have C3 := hid (CB.out w3 (I0.out.below K3.out))
    clear hb3 c0 c1
    go_wp2_with fail
    refine C3.out.mono ?_
    rintro e w4 ⟨rfl, hb4⟩
    have K4 := hid (K3.out.trans (hb4.mono K3.out.size))
    obtain ⟨x0, x1⟩ := CX.out w4 K4.out
    have V4 := hid (WB.out w4 (I0.out.below K4.out))
    clear hb4 y0 y1
    go_wp2_with fail
    refine V4.out.mono ?_
    rintro e w5 ⟨rfl, hb5⟩
    have B5 := hid (B0.out.trans ((K4.out.trans (hb5.mono K4.out.size)).mono B0.out.size))
    clear hb5 x0 x1
    go_wp2_with fail
    refine (OB.out _).mono ?_
    rintro e w6 ⟨rfl, rfl⟩
    go_wp2_with fail
    refine (OB.out _).mono ?_
    rintro e w7 ⟨rfl, rfl⟩
    go_wp2_with fail
    go_ret
    exact ⟨rfl, B5.out⟩
  · rw [hg]
    obtain ⟨m, A, B, rfl, rfl, rfl, h1, h7, h8, hall, hA, hB, hE⟩ := lnk_good hg
    have hm8 : m ≤ 8 := by omega
    have HN := hid (fun W (hW : EdgesI W (.slice a F.length cap) F) => hW.nat h8 hall)
    have BR := hid (Barrier_any m A B _ (natE F) wc hm8 hA hB hE (HN.out _ IC.out))
    have FWS : Hid (∀ W, EdgesI W (.slice a F.length cap) F → Calls Try.prog 9 #[.agg #[.int .i64 m, .slice a F.length cap], .int .i64 A, .int .i64 B] W fun e w' => (lkB (nxE F) m B (2 ^ m - 1) A = false → e = .returned (.tuple #[.slice none 0 0, .bool false])) ∧ (lkB (nxE F) m B (2 ^ m - 1) A = true → ∃ r, e = .returned (.tuple #[r, .bool true]) ∧ RowsR w' r (wysF (nxE F) m B A m).2) ∧ Below W.heap.size W w') := fun W hW => FirstWays_any m A B _ (natE F) W hm8 hA hB hE (HN.out W hW)
    have MO : Hid (∀ W, EdgesI W (.slice a F.length cap) F → Calls Try.prog 10 #[.agg #[.int .i64 m, .slice a F.length cap], .int .i64 A, .int .i64 B] W fun e w' => e = .returned (.tuple #[.int .i64 (pop (cutV (nxE F) m (2 ^ m - 1) A B) : Nat), .int .i64 0]) ∧ Below W.heap.size W w') := fun W hW => LMost_ok m A B _ F W hg hW
    have CB : Hid (∀ W, EdgesI W (.slice a F.length cap) F → Calls Try.prog 11 #[.agg #[.int .i64 m, .slice a F.length cap], .int .i64 A, .int .i64 B] W fun e w' => e = .returned (.tuple #[.int .i64 (cutV (nxE F) m (2 ^ m - 1) A B : Nat), .int .i64 0]) ∧ Below W.heap.size W w') := fun W hW => LCut_ok m A B _ F W hg hW
    have WB0 : Hid (lkB (nxE F) m B (2 ^ m - 1) A = false → ∀ W, EdgesI W (.slice a F.length cap) F → Calls Try.prog 12 #[.agg #[.int .i64 m, .slice a F.length cap], .int .i64 A, .int .i64 B] W fun e w' => e = .returned (.tuple #[.slice none 0 0, .int .i64 5]) ∧ Below W.heap.size W w') := fun hl W hW => LWays_none m A B _ F W hg hl hW
    have WB1 : Hid (lkB (nxE F) m B (2 ^ m - 1) A = true → ∀ W, EdgesI W (.slice a F.length cap) F → Calls Try.prog 12 #[.agg #[.int .i64 m, .slice a F.length cap], .int .i64 A, .int .i64 B] W fun e w' => ∃ r, e = .returned (.tuple #[r, .int .i64 0]) ∧ RowsR w' r (wysF (nxE F) m B A m).2 ∧ Below W.heap.size W w') := fun hl W hW => (LWays_ok m A B _ F W hg hl hW).mono fun e w' ⟨r, e1, e2, e3⟩ => ⟨r, e1, e2.rowsR (Nat.le_trans (wys_len m) hm8) (wys_8 hm8 hA hl), e3⟩
    have CL : cutV (nxE F) m (2 ^ m - 1) A B < 256 := lt256 hm8 (cutV_lt hm8 (full_lt m))
    have SZ1 := hid (fun W => Size_any (cutV (nxE F) m (2 ^ m - 1) A B) W CL)
    change Hid (Calls _ _ _ _ (fun e w' => e = .returned (.int .i64 (cutV (nxE F) m (2 ^ m - 1) A B : Nat)) ∧ Below wc.heap.size wc w')) at BR
    generalize wysF (nxE F) m B A m = XX at *
    generalize lkB (nxE F) m B (2 ^ m - 1) A = lk at *
    generalize cutV (nxE F) m (2 ^ m - 1) A B = c at *
    generalize pop c = pc at *
    have ON1 := hid (fun w => oneL (pc : Nat) 0 w (fun h => absurd rfl h))
    have ON2 := hid (fun w => oneL (c : Nat) 0 w (fun h => absurd rfl h))
    have B5T := hid (fun w => badQ true 5 w)
    have B5F := hid (fun w => badQ false 5 w)
    rw [if_pos rfl] at B5T
    rw [if_neg (by simp)] at B5F
    clear hall h8 hE hg HN LZ
    go_wp2_with fail
    refine BR.out.mono ?_
    rintro e w1 ⟨rfl, hb1⟩
    have K1 := hid (HBC.out.trans (hb1.mono HBC.out.size))
    clear hb1 c0 c1
    go_wp2_with fail
    refine (SZ1.out _).mono ?_
    rintro e w2 ⟨rfl, hb2⟩
    have K2 := hid (K1.out.trans (hb2.mono K1.out.size))
    obtain ⟨y0, y1⟩ := CX.out w2 K2.out
    have F2 := hid (FWS.out w2 (I0.out.below K2.out))
    clear hb2
    rcases lk with _ | _
    · have WB := hid (WB0.out rfl)
      go_wp2_with fail
      refine F2.out.mono ?_
      rintro e w3 ⟨hf, -, hb3⟩
      obtain rfl := hf trivial
      have K3 := hid (K2.out.trans (hb3.mono K2.out.size))
      clear hf hb3 y0 y1
      go_wp2_with fail
      refine (B5F.out _).mono ?_
      rintro e w4 ⟨rfl, rfl⟩
      obtain ⟨y0, y1⟩ := CX.out _ K3.out
      have M4 := hid (MO.out _ (I0.out.below K3.out))
      go_wp2_with fail
      refine M4.out.mono ?_
      rintro e w5 ⟨rfl, hb5⟩
      have K5 := hid (K3.out.trans (hb5.mono K3.out.size))
      obtain ⟨x0, x1⟩ := CX.out _ K5.out
      have C5 := hid (CB.out _ (I0.out.below K5.out))
      clear hb5 y0 y1
      go_wp2_with fail
      refine C5.out.mono ?_
      rintro e w6 ⟨rfl, hb6⟩
      have K6 := hid (K5.out.trans (hb6.mono K5.out.size))
      obtain ⟨y0, y1⟩ := CX.out _ K6.out
      have V6 := hid (WB.out _ (I0.out.below K6.out))
      clear hb6 x0 x1
      go_wp2_with fail
      refine V6.out.mono ?_
      rintro e w7 ⟨rfl, hb7⟩
      have B7 := hid (B0.out.trans ((K6.out.trans (hb7.mono K6.out.size)).mono B0.out.size))
      clear hb7 y0 y1
      go_wp2_with fail
      refine (ON1.out _).mono ?_
      rintro e w8 ⟨rfl, rfl⟩
      go_wp2_with fail
      refine (ON2.out _).mono ?_
      rintro e w9 ⟨rfl, rfl⟩
      go_wp2_with fail
      go_ret
      exact ⟨rfl, B7.out⟩
    · have WB := hid (WB1.out rfl)
      go_wp2_with fail
      refine F2.out.mono ?_
      rintro e w3 ⟨-, hf, hb3⟩
      obtain ⟨r3, rfl, hr3⟩ := hf trivial
      have K3 := hid (K2.out.trans (hb3.mono K2.out.size))
      have R3 := hid hr3
      clear hf hr3 hb3 y0 y1
      go_wp2_with fail
      refine (B5T.out _).mono ?_
      rintro e w4 ⟨rfl, rfl⟩
      obtain ⟨y0, y1⟩ := CX.out _ K3.out
      have M4 := hid (MO.out _ (I0.out.below K3.out))
      go_wp2_with fail
      refine M4.out.mono ?_
      rintro e w5 ⟨rfl, hb5⟩
      have K5 := hid (K3.out.trans (hb5.mono K3.out.size))
      have R5 := hid (R3.out.below hb5)
      obtain ⟨x0, x1⟩ := CX.out _ K5.out
      have C5 := hid (CB.out _ (I0.out.below K5.out))
      clear hb5 y0 y1
      go_wp2_with fail
      refine C5.out.mono ?_
      rintro e w6 ⟨rfl, hb6⟩
      have K6 := hid (K5.out.trans (hb6.mono K5.out.size))
      have R6 := hid (R5.out.below hb6)
      obtain ⟨y0, y1⟩ := CX.out _ K6.out
      have V6 := hid (WB.out _ (I0.out.below K6.out))
      clear hb6 x0 x1
      go_wp2_with fail
      refine V6.out.mono ?_
      rintro e w7 ⟨r7, rfl, hr7, hb7⟩
      have B7 := hid (B0.out.trans ((K6.out.trans (hb7.mono K6.out.size)).mono B0.out.size))
      have RS := hid (RowsR_same r7 r3 _ w7 hr7 (R6.out.below hb7))
      clear hb7 y0 y1 hr7
      go_wp2_with fail
      refine (ON1.out _).mono ?_
      rintro e w8 ⟨rfl, rfl⟩
      go_wp2_with fail
      refine (ON2.out _).mono ?_
      rintro e w9 ⟨rfl, rfl⟩
      go_wp2_with fail
      refine RS.out.mono ?_
      rintro e w10 ⟨rfl, hb10⟩
      have B10 := hid (B7.out.trans (hb10.mono B7.out.size))
      clear hb10
      go_wp2_with fail
      go_ret
      exact ⟨rfl, B10.out⟩
end Go.Proofs.Ytjnifcfcigcngaa
