/- rotakeep.LinksMenger. -/
import Derived.Test.YtmbkjiglbgnamaaLkYQ
import Derived.Test.YtmbkjiglbgnamaaCntEQ
import Derived.Test.YtmbkjiglbgnamaaRfPatQ
import Derived.Test.YtmbkjiglbgnamaaPlainAll1
import Derived.Test.YtmbkjiglbgnamaaLkEQ
namespace Go.Proofs.Ytmbkjiglbgnamaa
open Go.RowKit

theorem lm_edge (w : World) : EdgesI (w.alloc (.cells #[.int .i64 0, .int .i64 1] 29)) (.slice (some ⟨w.heap.size, 0, none⟩) 1 1) [(0, 1)] := by
  have h := World.alloc_heap_new w (.cells #[.int .i64 0, .int .i64 1] 29)
  obtain ⟨c0, c1, -, -⟩ := two_cells h
  refine ⟨some ⟨w.heap.size, 0, none⟩, 1, rfl, by simp, fun _ => ⟨w.heap.size, 0, rfl, by simp, fun i hi => ?_⟩⟩
  have : i = 0 := by simp at hi; exact hi
  subst this
  exact ⟨c0, c1⟩
theorem lm_good : lnkE 2 [(0, 1)] 1 2 = 0 := by decide
theorem lm_one : lnkR (nxE [(0, 1)]) 2 (2 ^ 2 - 1) 2 1 = 1 := by decide +kernel
theorem lm_cut {m a b : Nat} {f : Nat → Nat} (hm : m ≤ 8) : rchS f m (dif (2 ^ m - 1) (cutV f m (2 ^ m - 1) a b)) a &&& b = 0 := by
  have := (cutB_iff (f := f) (F := a) (T := b) hm (full_lt m)).2 (cutV_few hm (full_lt m)).cut
  unfold cutB at this
  exact beq_iff_eq.1 this
set_option maxRecDepth 20000 in
set_option maxHeartbeats 8000000 in
theorem lmen_law (n : Int) (v : Value) (F : List (Int × Int)) (s t : Int) (w : World) (h : EdgesI w v F) :
    Calls Try.prog 3 #[.agg #[.int .i64 n, v], .int .i64 s, .int .i64 t] w fun e w' => e = .returned (.bool true) ∧ Below w.heap.size w w' := by
  have HI := hid h
  obtain ⟨a, cap, rfl, -, -⟩ := h
  obtain ⟨w0, hw0⟩ : ∃ w0, w.alloc (.cells #[.int .i64 n, .slice a F.length cap] 24) = w0 := ⟨_, rfl⟩
  have B0 : Hid (Below w.heap.size w w0) := by rw [← hw0]; exact (Below.refl _ _).alloc (Nat.le_refl _) _
  have X0 : Hid (w0.heap[w.heap.size]? = some (.cells #[.int .i64 n, .slice a F.length cap] 24 (0, 0))) := by rw [← hw0]; exact World.alloc_heap_new w _
  have hlt0 := (Array.getElem?_eq_some_iff.1 X0.out).1
  have K1 := below_alloc w0 (.cells #[.int .i64 0, .int .i64 1] 29)
  have C1 : Hid (Calls Try.prog 4 #[.agg #[.int .i64 2, .slice (some ⟨w0.heap.size, 0, none⟩) 1 1], .int .i64 1, .int .i64 2] (w0.alloc (.cells #[.int .i64 0, .int .i64 1] 29)) fun e w' => e = .returned (.tuple #[.int .i64 1, .int .i64 0]) ∧ Below (w0.alloc (.cells #[.int .i64 0, .int .i64 1] 29)).heap.size (w0.alloc (.cells #[.int .i64 0, .int .i64 1] 29)) w') := by
    have := LMost_ok 2 1 2 _ _ _ lm_good (lm_edge w0)
    rw [lm_one] at this
    exact this
  have X1 := hid ((K1.block _ hlt0).trans X0.out)
  have B1 := hid (B0.out.trans (K1.mono B0.out.size))
  have hlt1 := Nat.lt_of_lt_of_le hlt0 K1.size
  clear K1 X0 B0
  go_enter Try.func3, Try.ntmps3
  go_wp2_with fail
  try rw [hw0]
  clear hw0
  generalize w0.alloc (.cells #[.int .i64 0, .int .i64 1] 29) = W1 at *
  refine C1.out.mono ?_
  rintro e w2 ⟨rfl, hb2⟩
  have X2 := hid ((hb2.block _ hlt1).trans X1.out)
  have B2 := hid (B1.out.trans (hb2.mono B1.out.size))
  have hlt2 := Nat.lt_of_lt_of_le hlt1 hb2.size
  obtain ⟨x0, x1, -, -⟩ := two_cells X2.out
  have I2 := hid (HI.out.below B2.out)
  have CX : Hid (∀ W, Below w2.heap.size w2 W → W.cell? ⟨w.heap.size, 0, none⟩ = some (.int .i64 n) ∧ W.cell? ⟨w.heap.size, 1, none⟩ = some (.slice a F.length cap)) := fun W hW => by
    obtain ⟨q0, q1, -⟩ := two_cells ((hW.block _ hlt2).trans X2.out)
    exact ⟨q0, q1⟩
  clear hb2 C1 X1 B1
  by_cases hg : lnkE n F s t = 0
  rotate_left
  · have G2 := hid (LMost_bad n s t _ F w2 hg I2.out)
    have CB : Hid (∀ W, EdgesI W (.slice a F.length cap) F → Calls Try.prog 5 #[.agg #[.int .i64 n, .slice a F.length cap], .int .i64 s, .int .i64 t] W fun e w' => e = .returned (.tuple #[.int .i64 0, .int .i64 (lnkE n F s t)]) ∧ Below W.heap.size W w') := fun W hW => LCut_bad n s t _ F W hg hW
    have WB : Hid (∀ W, EdgesI W (.slice a F.length cap) F → Calls Try.prog 6 #[.agg #[.int .i64 n, .slice a F.length cap], .int .i64 s, .int .i64 t] W fun e w' => e = .returned (.tuple #[.slice none 0 0, .int .i64 (lnkE n F s t)]) ∧ Below W.heap.size W w') := fun W hW => LWays_bad n s t _ F W hg hW
    generalize lnkE n F s t = Q at *
    have hq : (Q == 0) = false := by simpa using hg
    go_wp2_with fail
    refine G2.out.mono ?_
    rintro e w3 ⟨rfl, hb3⟩
    have K3 := hid hb3
    obtain ⟨y0, y1⟩ := CX.out w3 K3.out
    have C3 := hid (CB.out w3 (I2.out.below hb3))
    clear hb3 x0 x1
    go_wp2_with fail
    refine C3.out.mono ?_
    rintro e w4 ⟨rfl, hb4⟩
    have K4 := hid (K3.out.trans (hb4.mono K3.out.size))
    obtain ⟨x0, x1⟩ := CX.out w4 K4.out
    have V4 := hid (WB.out w4 (I2.out.below K4.out))
    clear hb4 y0 y1
    go_wp2_with fail
    refine V4.out.mono ?_
    rintro e w5 ⟨rfl, hb5⟩
    have B5 := hid (B2.out.trans ((K4.out.trans (hb5.mono K4.out.size)).mono B2.out.size))
    clear hb5 x0 x1
    go_wp2_with fail
    go_ret
    exact ⟨rfl, B5.out⟩
  · obtain ⟨m, A, B, rfl, rfl, rfl, h1, h7, h8, hall, hA, hB, hE⟩ := lnk_good hg
    have hm8 : m ≤ 8 := by omega
    have G2 := hid (LMost_ok m A B _ F w2 hg I2.out)
    have CB : Hid (∀ W, EdgesI W (.slice a F.length cap) F → Calls Try.prog 5 #[.agg #[.int .i64 m, .slice a F.length cap], .int .i64 A, .int .i64 B] W fun e w' => e = .returned (.tuple #[.int .i64 (cutV (nxE F) m (2 ^ m - 1) A B : Nat), .int .i64 0]) ∧ Below W.heap.size W w') := fun W hW => LCut_ok m A B _ F W hg hW
    have PB : Hid (∀ W, EdgesI W (.slice a F.length cap) F → Calls Try.prog 8 #[.agg #[.int .i64 m, .slice a F.length cap], .int .i64 A, .int .i64 (cutV (nxE F) m (2 ^ m - 1) A B : Nat)] W fun e w' => e = .returned (.int .i64 (rchS (nxE F) m (dif (2 ^ m - 1) (cutV (nxE F) m (2 ^ m - 1) A B)) A : Nat)) ∧ Below W.heap.size W w') := fun W hW =>
      Paths_any m A _ _ (natE F) W hm8 hA (cutV_lt hm8 (full_lt m)) hE (hW.nat h8 hall)
    have PZ := hid (lm_cut (f := nxE F) (a := A) (b := B) hm8)
    have PL : rchS (nxE F) m (dif (2 ^ m - 1) (cutV (nxE F) m (2 ^ m - 1) A B)) A < 256 := lt256 hm8 (rch_lt (dif_ltn (full_lt m)))
    have CL : cutV (nxE F) m (2 ^ m - 1) A B < 256 := lt256 hm8 (cutV_lt hm8 (full_lt m))
    have LR : Hid (lnkR (nxE F) m (2 ^ m - 1) B A = pop (cutV (nxE F) m (2 ^ m - 1) A B)) := rfl
    have LK : Hid (lkB (nxE F) m B (2 ^ m - 1) A = (pop (cutV (nxE F) m (2 ^ m - 1) A B) == pop A)) := rfl
    have SZ1 := hid (fun W => Size_any (cutV (nxE F) m (2 ^ m - 1) A B) W CL)
    have SZ2 := hid (fun W => Size_any A W (lt256 hm8 hA))
    have hpa := pop_le A (lt256 hm8 hA)
    have hpc := pop_le _ CL
    have hand : bits .and .i64 ((rchS (nxE F) m (dif (2 ^ m - 1) (cutV (nxE F) m (2 ^ m - 1) A B)) A : Nat) : Int) (B : Int) = 0 := by
      rw [i64_and_nat _ _ (by omega) (by have := lt256 hm8 hB; omega), PZ.out]; rfl
    have EL := hid (fun W => Elements_any A W (lt256 hm8 hA))
    rw [LR.out] at G2
    have WB0 : Hid (lkB (nxE F) m B (2 ^ m - 1) A = false → ∀ W, EdgesI W (.slice a F.length cap) F → Calls Try.prog 6 #[.agg #[.int .i64 m, .slice a F.length cap], .int .i64 A, .int .i64 B] W fun e w' => e = .returned (.tuple #[.slice none 0 0, .int .i64 5]) ∧ Below W.heap.size W w') := fun hl W hW => LWays_none m A B _ F W hg hl hW
    have WB1 : Hid (lkB (nxE F) m B (2 ^ m - 1) A = true → ∀ W, EdgesI W (.slice a F.length cap) F → Calls Try.prog 6 #[.agg #[.int .i64 m, .slice a F.length cap], .int .i64 A, .int .i64 B] W fun e w' => ∃ r, e = .returned (.tuple #[r, .int .i64 0]) ∧ WysO W.heap.size w' r (wysF (nxE F) m B A m).2 ∧ Below W.heap.size W w') := fun hl W hW => LWays_ok m A B _ F W hg hl hW
    have WL : Hid (lkB (nxE F) m B (2 ^ m - 1) A = true → WysL (nxE F) m B A (wysF (nxE F) m B A m).2) := fun hl => wys_law hm8 hA hl
    have HALL := hid hall
    have HE := hid hE
    have H8 := hid h8
    have NX : Hid (∀ x y, (nxE F x).testBit y = true → cntE (natE F) x y (natE F).length = true) := fun x y hxy => by
      unfold nxE at hxy
      obtain ⟨j, j1, j2, j3⟩ := (nx_bit x y _).1 hxy
      exact cnt_yes j1 j2 j3
    have CN : Hid (∀ W, EdgesI W (.slice a F.length cap) F → ∀ x y : Nat, Calls Try.prog 11 #[.slice a F.length cap, .agg #[.int .i64 x, .int .i64 y]] W fun e w' => e = .returned (.bool (cntE (natE F) x y (natE F).length)) ∧ Below W.heap.size W w') := fun W hW x y => ContainsE_any _ (natE F) x y W (hW.nat H8.out HALL.out)
    have IN := hid (fun i W hi => In_any B i W (lt256 hm8 hB) hi)
    generalize wysF (nxE F) m B A m = XX at *
    generalize lkB (nxE F) m B (2 ^ m - 1) A = lk at *
    generalize rchS (nxE F) m (dif (2 ^ m - 1) (cutV (nxE F) m (2 ^ m - 1) A B)) A = R at *
    generalize cutV (nxE F) m (2 ^ m - 1) A B = c at *
    clear hall h8 hE hg LR PZ
    generalize hpa2 : pop A = pA at *
    generalize hpc2 : pop c = pc at *
    go_wp2_with fail
    refine G2.out.mono ?_
    rintro e w3 ⟨rfl, hb3⟩
    have K3 := hid hb3
    obtain ⟨y0, y1⟩ := CX.out w3 K3.out
    have C3 := hid (CB.out w3 (I2.out.below hb3))
    clear hb3 x0 x1
    go_wp2_with fail
    refine C3.out.mono ?_
    rintro e w4 ⟨rfl, hb4⟩
    have K4 := hid (K3.out.trans (hb4.mono K3.out.size))
    obtain ⟨x0, x1⟩ := CX.out w4 K4.out
    have I4 := hid (I2.out.below K4.out)
    clear hb4 y0 y1
    rcases hlk : lk with _ | _
    · have V4 := hid (WB0.out hlk w4 I4.out)
      have hne : Hid ((pc == pA) = false) := by show _ = _; rw [← LK.out]; exact hlk
      have hne2 : ((pc : Int) == (pA : Int)) = false := by have := hne.out; rw [beq_eq_false_iff_ne] at this ⊢; omega
      clear hlk
      go_wp2_with fail
      refine V4.out.mono ?_
      rintro e w5 ⟨rfl, hb5⟩
      have K5 := hid (K4.out.trans (hb5.mono K4.out.size))
      obtain ⟨y0, y1⟩ := CX.out w5 K5.out
      clear hb5 x0 x1
      go_wp2_with fail
      refine (SZ1.out _).mono ?_
      rintro e w6 ⟨rfl, hb6⟩
      have K6 := hid (K5.out.trans (hb6.mono K5.out.size))
      obtain ⟨x0, x1⟩ := CX.out w6 K6.out
      have P6 := hid (PB.out w6 (I2.out.below K6.out))
      clear hb6 y0 y1
      go_wp2_with fail
      refine P6.out.mono ?_
      rintro e w7 ⟨rfl, hb7⟩
      have K7 := hid (K6.out.trans (hb7.mono K6.out.size))
      clear hb7 x0 x1
      go_wp2_with fail
      refine (SZ2.out _).mono ?_
      rintro e w8 ⟨rfl, hb8⟩
      have K8 := hid (K7.out.trans (hb8.mono K7.out.size))
      clear hb8
      go_wp2_with fail
      refine (EL.out _).mono ?_
      rintro e w9 ⟨r9, rfl, hr9, hb9⟩
      have B9 := hid (B2.out.trans ((K8.out.trans (hb9.mono K8.out.size)).mono B2.out.size))
      clear hb9 hr9
      go_wp2_with fail
      refine wp_loop_rounds 1 ?_
      rw [rounds_succ]
      go_wp2_with fail
      go_ret
      exact ⟨rfl, B9.out⟩
    · have V4 := hid (WB1.out hlk w4 I4.out)
      have L4 := hid (WL.out hlk)
      have hne : Hid (pc = pA) := by show _ = _; have := LK.out; rw [hlk] at this; exact beq_iff_eq.1 this.symm
      have hne3 := hne.out
      subst hne3
      clear hlk WL WB0 WB1
      go_wp2_with fail
      refine V4.out.mono ?_
      rintro e w5 ⟨r5, rfl, hr5, hb5⟩
      have K5 := hid (K4.out.trans (hb5.mono K4.out.size))
      obtain ⟨y0, y1⟩ := CX.out w5 K5.out
      obtain ⟨wa, wc, hr⟩ := hr5.form
      subst hr
      have R5 := hid hr5
      clear hb5 x0 x1 hr5
      go_wp2_with fail
      refine (SZ1.out _).mono ?_
      rintro e w6 ⟨rfl, hb6⟩
      have K6 := hid (K5.out.trans (hb6.mono K5.out.size))
      have R6 := hid (R5.out.below hb6)
      obtain ⟨x0, x1⟩ := CX.out w6 K6.out
      have P6 := hid (PB.out w6 (I2.out.below K6.out))
      clear hb6 y0 y1
      go_wp2_with fail
      refine P6.out.mono ?_
      rintro e w7 ⟨rfl, hb7⟩
      have K7 := hid (K6.out.trans (hb7.mono K6.out.size))
      have R7 := hid (R6.out.below hb7)
      clear hb7 x0 x1
      go_wp2_with fail
      refine (SZ2.out _).mono ?_
      rintro e w8 ⟨rfl, hb8⟩
      have K8 := hid (K7.out.trans (hb8.mono K7.out.size))
      have R8 := hid (R7.out.below hb8)
      clear hb8
      go_wp2_with fail
      refine (EL.out _).mono ?_
      rintro e w9 ⟨r9, rfl, hr9, hb9⟩
      have K9 := hid (K8.out.trans (hb9.mono K8.out.size))
      have R9 := hid (R8.out.below hb9)
      have E9 := hid hr9
      obtain ⟨ea9, ec9, hr⟩ := ownsRow_form' hr9
      subst hr
      clear hb9 hr9
      go_wp2_with fail
      have hXL : XX.2.length ≤ 8 := by
        rw [L4.out.len]
        have := pop_els A
        have h9 := pop_le A (lt256 hm8 hA)
        omega
      have BK := hid (B2.out.trans (K9.out.mono B2.out.size))
      have HSE : Hid ((els A).length = XX.2.length) := L4.out.len.symm
      have FUL : Hid (∀ ws, dif (2 ^ m - 1) (lefW (2 ^ m - 1) ws) < 256) := fun ws => lt256 hm8 (dif_ltn (full_lt m))
      have FU2 : Hid (∀ L, dif (2 ^ m - 1) L < 256) := fun L => lt256 hm8 (dif_ltn (full_lt m))
      have Z0 : Hid (dif (2 ^ m - 1) (lefW (2 ^ m - 1) (XX.2.take 0)) = 0) := by
        show dif (2 ^ m - 1) (2 ^ m - 1) = 0
        exact Nat.eq_of_testBit_eq fun j => by rw [dif_bit]; simp
      clear hpa2 hpc2
      go_loopw [15, 17, 18, 19, 20, 108] (fun us _ _ _ _ i wr => ∃ k : Nat, k ≤ XX.2.length ∧ i = .int .i64 k ∧ us = .int .i64 (dif (2 ^ m - 1) (lefW (2 ^ m - 1) (XX.2.take k)) : Nat) ∧ Hid (Below w9.heap.size w9 wr)) (fun _ _ _ _ _ i _ => XX.2.length - (intOf i).toNat)
      case atStart => exact ⟨0, Nat.zero_le _, rfl, by rw [Z0.out]; rfl, Below.refl _ _⟩
      case round =>
        obtain ⟨k, hk, rfl, rfl, HW⟩ := hrel
        by_cases hlt : k < XX.2.length
        · have hki : (k : Int) < (XX.2.length : Int) := by omega
          obtain ⟨g, c9, u, hv9, hg9, hcell, hrow⟩ := (R9.out.below HW.out).at_ hlt
          have OK := hid (L4.out.ok k hlt)
          have A0 := hid (L4.out.at0 k hlt)
          have LT := hid (lefW_take (L := 2 ^ m - 1) hlt)
          have hLm : lefW (2 ^ m - 1) (XX.2.take k) < 2 ^ m := lefW_lt _ _ (full_lt m)
          have hwl := okW_len hm8 _ _ hLm OK.out
          have hwl8 : (XX.2.getD k []).length ≤ 8 := Nat.le_trans hwl (pop_le _ (lt256 hm8 hLm))
          obtain ⟨hpos, hlast⟩ := okW_last _ _ OK.out
          obtain ⟨la, lcap, hu, -, lc⟩ := (hrow.ints (by omega)).nats
          obtain ⟨lb, loff, hla, hlb, lcell⟩ := lc hpos
          obtain ⟨ga, gcap, hge, -, gc⟩ := ((E9.out.below HW.out).ints (by rw [HSE.out]; omega)).nats
          obtain ⟨gb, goff, hga, hgb, gcell⟩ := gc (by rw [HSE.out]; omega)
          have MEM := hid (okW_mem _ _ OK.out)
          have hx1 : ∀ j, j < (XX.2.getD k []).length → (XX.2.getD k []).getD j 0 < m := fun j hj => bit_n hLm (MEM.out _ (by rw [List.getD_eq_getElem?_getD (l := XX.2.getD k []), List.getElem?_eq_getElem hj]; exact List.getElem_mem _))
          have HX1 := hid hx1
          have EDG := hid (fun j hj => NX.out _ _ (okW_edge _ _ j OK.out hj))
          have ATT := hid (fun j hj => okW_at _ _ j OK.out hj)
          have c0 : wr.cell? ⟨lb, loff, none⟩ = some (.int .i64 ((XX.2.getD k []).getD 0 0 : Nat)) := lcell 0 hpos
          have cL := lcell ((XX.2.getD k []).length - 1) (by omega)
          have cG := gcell k (by rw [HSE.out]; exact hlt)
          rw [← A0.out] at cG
          have LC := hid lcell
          have hlm := HX1.out ((XX.2.getD k []).length - 1) (by omega)
          have I1 := hid (fun W => IN.out _ W (by omega : (XX.2.getD k []).getD ((XX.2.getD k []).length - 1) 0 < 8))
          rw [hlast] at I1
          subst hu
          subst hla
          subst hga
          clear lc lcell gc gcell hrow hx1 hlast OK MEM
          cases hv9
          cases hge
          have hki2 : (k : Int) < ((els A).length : Int) := by rw [HSE.out]; exact hki
          have hE8 : (els A).length ≤ 8 := by rw [HSE.out]; exact hXL
          have HX0 := HX1.out 0 hpos
          have LS : Hid (∀ j, j < (XX.2.getD k []).length → setW (lefW (2 ^ m - 1) (XX.2.take k)) ((XX.2.getD k []).take (j + 1)) = dif (setW (lefW (2 ^ m - 1) (XX.2.take k)) ((XX.2.getD k []).take j)) (2 ^ (XX.2.getD k []).getD j 0)) := fun j hj => by
            rw [List.take_add_one, List.getElem?_eq_getElem hj, List.getD_eq_getElem?_getD (l := XX.2.getD k []), List.getElem?_eq_getElem hj]
            exact setW_snoc _ _ _
          have LF : Hid (setW (lefW (2 ^ m - 1) (XX.2.take k)) ((XX.2.getD k []).take (XX.2.getD k []).length) = setW (lefW (2 ^ m - 1) (XX.2.take k)) (XX.2.getD k [])) := by show _ = _; rw [List.take_length]
          have L0 : Hid (setW (lefW (2 ^ m - 1) (XX.2.take k)) ((XX.2.getD k []).take 0) = lefW (2 ^ m - 1) (XX.2.take k)) := rfl
          generalize lefW (2 ^ m - 1) (XX.2.take k) = L at *
          obtain ⟨L1, hL1⟩ : ∃ L1, lefW (2 ^ m - 1) (XX.2.take (k + 1)) = L1 := ⟨_, rfl⟩
          rw [hL1] at LT
          have HL1 := hid hL1
          clear hL1
          generalize XX.2.getD k [] = Wk at *
          obtain ⟨nW, hnW⟩ : ∃ nW, Wk.length = nW := ⟨_, rfl⟩
          rw [hnW] at hpos hwl8 cL LC hlm HX1 EDG ATT LS LF I1
          rw [hnW] at hcell
          have hn1 : ((nW : Nat) : Int) - 1 = ((nW - 1 : Nat) : Int) := by omega
          have hn2 : ((nW - 1 : Nat) : Int) < (nW : Int) := by omega
          have hnz : ((nW : Nat) : Int) ≠ 0 := by omega
          have hnz2 : (((nW : Nat) : Int) == 0) = false := by rw [beq_eq_false_iff_ne]; omega
          have hn0 : (0 : Int) < (nW : Int) := by omega
          obtain ⟨n9, hn9⟩ : ∃ n9, nW - 1 = n9 := ⟨_, rfl⟩
          rw [hn9] at hn1 hn2 cL hlm I1
          have HNW := hid hnW
          clear hnW hn9
          go_wp2_with fail
          go_quiet ((go_at_call 10; refine (I1.out _).mono ?_; rintro e w' ⟨rfl, rfl⟩; exact ⟨rfl, _, rfl⟩))
          go_wp2_with fail
          have HWQ : Hid (Below w9.heap.size w9 (wr.drewN nq)) := HW.out.trans (drewN_below _ _ _)
          have LCQ : Hid (∀ j, j < nW → ∀ W, Below w9.heap.size w9 W → Below wr.heap.size wr W → W.cell? ⟨lb, loff + j, none⟩ = some (.int .i64 (Wk.getD j 0 : Nat))) := fun j hj W _ hW => (hW.cell (p := ⟨lb, loff + j, none⟩) hlb).trans (LC.out j hj)
          have KQ : Hid (Below wr.heap.size wr (wr.drewN nq)) := drewN_below _ _ _
          clear c0 cL cG LC
          generalize hWQ : wr.drewN nq = wq at *
          have hlq : lb < wq.heap.size := Nat.lt_of_lt_of_le hlb KQ.out.size
          clear hWQ
          go_loopw [15, 19, 20, 139] (fun us _ _ i w3 => ∃ j : Nat, j ≤ nW ∧ i = .int .i64 j ∧ us = .int .i64 (dif (2 ^ m - 1) (setW L (Wk.take j)) : Nat) ∧ Hid (Below wq.heap.size wq w3)) (fun _ _ _ i _ => nW - (intOf i).toNat)
          case atStart => exact ⟨0, Nat.zero_le _, rfl, by rw [L0.out], Below.refl _ _⟩
          case round =>
            rename World => w3
            obtain ⟨j, hj, rfl, rfl, HV⟩ := hrel
            have K3' := hid (KQ.out.trans (HV.out.mono KQ.out.size))
            have V3 := hid (HWQ.out.trans (HV.out.mono HWQ.out.size))
            by_cases hjl : j < nW
            · have hji : (j : Int) < (nW : Int) := by omega
              have cJ := LCQ.out j hjl w3 V3.out K3'.out
              have hxj := HX1.out j hjl
              have hxj8 : Wk.getD j 0 < 8 := by omega
              have US := hid (used_step (n := m) (L := setW L (Wk.take j)) hxj)
              rw [← LS.out j hjl] at US
              have hu8 := FU2.out (setW L (Wk.take j))
              have UN := used_not (n := m) (ATT.out j hjl)
              have IU := hid (fun W => In_any (dif (2 ^ m - 1) (setW L (Wk.take j))) (Wk.getD j 0) W hu8 hxj8)
              rw [UN] at IU
              have hpw : wrap64 (2 ^ Wk.getD j 0) = ((2 ^ Wk.getD j 0 : Nat) : Int) := (pow_wrap _ (by omega)).1
              have hp2 : 2 ^ Wk.getD j 0 < 256 := two_pow8 hxj8
              have hor : bits .or .i64 ((dif (2 ^ m - 1) (setW L (Wk.take j)) : Nat) : Int) ((2 ^ Wk.getD j 0 : Nat) : Int) = ((dif (2 ^ m - 1) (setW L (Wk.take (j + 1))) : Nat) : Int) := by rw [i64_or_nat _ _ (by omega) (by omega), US.out]
              have hx64 : ((Wk.getD j 0 : Nat) : Int) < 64 := by omega
              have hxm : ((Wk.getD j 0 : Nat) : Int) < (m : Int) := by omega
              have hge : ¬ ((m : Int) ≤ ((Wk.getD j 0 : Nat) : Int)) := by omega
              have hx0 : decide (((Wk.getD j 0 : Nat) : Int) < 0) = false := decide_eq_false (by omega)
              have hge2 : decide ((m : Int) ≤ ((Wk.getD j 0 : Nat) : Int)) = false := decide_eq_false hge
              have hge3 : decide (m ≤ Wk.getD j 0) = false := decide_eq_false (by omega)
              have cN : ∀ y : Later w3, y.now.cell? ⟨w.heap.size, 0, none⟩ = some (.int .i64 m) := fun y => (CX.out y.now ((K9.out.trans (V3.out.mono K9.out.size)).trans (y.kept.mono (K9.out.trans (V3.out.mono K9.out.size)).size))).1
              have cE : ∀ y : Later w3, y.now.cell? ⟨w.heap.size, 1, none⟩ = some (.slice a F.length cap) := fun y => (CX.out y.now ((K9.out.trans (V3.out.mono K9.out.size)).trans (y.kept.mono (K9.out.trans (V3.out.mono K9.out.size)).size))).2
              obtain ⟨U2, hU2⟩ : ∃ U2, dif (2 ^ m - 1) (setW L (Wk.take (j + 1))) = U2 := ⟨_, rfl⟩
              have HU2 := hid hU2
              rw [hU2] at hor
              clear hU2
              generalize dif (2 ^ m - 1) (setW L (Wk.take j)) = U1 at *
              by_cases hj0 : j = 0
              · subst hj0
                have cJ0 : w3.cell? ⟨lb, loff, none⟩ = some (.int .i64 (Wk.getD 0 0 : Nat)) := cJ
                generalize hE2 : 2 ^ Wk.getD 0 0 = E2 at *
                generalize Wk.getD 0 0 = x at *
                go_wp2_with fail
                refine region_later (by kernel_rfl) (by kernel_rfl) ?_
                repeat (go_big_quiet_step ((go_at_call 10; (with_reducible refine (IU.out _).mono ?_); rintro e w' ⟨rfl, rfl⟩; exact ⟨rfl, Later.on _ (Below.refl _ _)⟩)))
                refine wpQuiet_nil ?_
                intro w6' hw'
                obtain ⟨⟨w6, hb6⟩, hw''⟩ := hw'
                dsimp only at hw''
                subst hw''
                have HB6 := hid (HV.out.trans (hb6.mono HV.out.size))
                clear hb6 cN cE
                go_wp2_with fail
                go_roundw
                case rel => exact ⟨0 + 1, by omega, by go_num, by rw [HU2.out], HB6.out⟩
                case measure => simp [intOf]; omega
              · obtain ⟨i, rfl⟩ : ∃ i, j = i + 1 := ⟨j - 1, by omega⟩
                have cP : ∀ y : Later w3, y.now.cell? ⟨lb, loff + i, none⟩ = some (.int .i64 (Wk.getD i 0 : Nat)) := fun y => LCQ.out i (by omega) y.now (V3.out.trans (y.kept.mono V3.out.size)) (K3'.out.trans (y.kept.mono K3'.out.size))
                have CT : Hid (∀ y : Later w3, Calls Try.prog 11 #[.slice a F.length cap, .agg #[.int .i64 (Wk.getD i 0 : Nat), .int .i64 (Wk.getD (i + 1) 0 : Nat)]] y.now fun e w' => e = .returned (.bool true) ∧ Below y.now.heap.size y.now w') := fun y => by
                  have h9 := CN.out y.now (I2.out.below ((K9.out.trans (V3.out.mono K9.out.size)).trans (y.kept.mono (K9.out.trans (V3.out.mono K9.out.size)).size))) (Wk.getD i 0) (Wk.getD (i + 1) 0)
                  rw [EDG.out i hjl] at h9
                  exact h9
                have hgt : (0 : Int) < ((i + 1 : Nat) : Int) := by omega
                have hsub : ((i + 1 : Nat) : Int) - 1 = (i : Int) := by omega
                have hil : (i : Int) < (nW : Int) := by omega
                have hwr : wrap64 (((i + 1 : Nat) : Int) - 1) = (i : Int) := by rw [hsub]; exact IntWalk.wrap64_in _ (by omega)
                generalize hE2 : 2 ^ Wk.getD (i + 1) 0 = E2 at *
                generalize Wk.getD (i + 1) 0 = x at *
                generalize Wk.getD i 0 = z at *
                go_wp2_with fail
                refine region_later (by kernel_rfl) (by kernel_rfl) ?_
                repeat (go_big_quiet_step ((first
                  | (go_at_call 10; (with_reducible refine (IU.out _).mono ?_); rintro e w' ⟨rfl, rfl⟩; exact ⟨rfl, Later.on _ (Below.refl _ _)⟩)
                  | (go_at_call 11; (with_reducible refine (CT.out _).mono ?_); rintro e w' ⟨rfl, hb9⟩; exact ⟨rfl, Later.on _ hb9⟩))))
                refine wpQuiet_nil ?_
                intro w6' hw'
                obtain ⟨⟨w6, hb6⟩, hw''⟩ := hw'
                dsimp only at hw''
                subst hw''
                have HB6 := hid (HV.out.trans (hb6.mono HV.out.size))
                clear hb6 cN cE cP
                go_wp2_with fail
                go_roundw
                case rel => exact ⟨i + 1 + 1, by omega, by go_num, by rw [HU2.out], HB6.out⟩
                case measure => simp [intOf]; omega
            · obtain rfl : j = nW := by omega
              have HB6 := hid (HWQ.out.trans (HV.out.mono HWQ.out.size))
              rw [LF.out, ← LT.out]
              go_wp2_with fail
              go_roundw
              case rel => exact ⟨k + 1, by omega, by go_num, by rw [HL1.out], HB6.out⟩
              case measure => simp [intOf]; omega
        · obtain rfl : k = XX.2.length := by omega
          have B9 := hid (BK.out.trans (HW.out.mono BK.out.size))
          go_wp2_with fail
          go_ret
          exact ⟨rfl, B9.out⟩
end Go.Proofs.Ytmbkjiglbgnamaa
