/- The law rotalaw.JoinSays. -/
import Derived.Test.YthbcnolpjcppoabBsJW
import Derived.Test.YthbcnolpjcppoabRefAxEQ
import Derived.Deep.CutRange
import Derived.Deep.RegionHeld3
namespace Go.Proofs.Ythbcnolpjcppoab
open Go.RowKit

/-- The law's own variable that holds a matroid. -/
def VarJ (B : Nat) (W : World) (b : Nat) (q n : Int) (l : List Nat) : Prop := ∃ nn a L c, W.heap[b]? = some (.cells #[.int .i64 nn, .slice a L c] 24 (0, 0)) ∧ GoodJ B W q n l nn (.slice a L c)
theorem VarJ.below {B : Nat} {W W' : World} {b : Nat} {q n : Int} {l : List Nat} (h : VarJ B W b q n l) (hb : Below W.heap.size W W') : VarJ B W' b q n l := by
  obtain ⟨nn, a, L, c, h1, h2⟩ := h
  exact ⟨nn, a, L, c, (hb.block b (Array.getElem?_eq_some_iff.1 h1).1).trans h1, h2.below hb⟩
theorem setJ_blk {W : World} {b : Nat} {p q x y : Value} {t : TypeId} (h : W.heap[b]? = some (.cells #[p, q] t (0, 0))) : ((W.setCell ⟨b, 0, none⟩ x).setCell ⟨b, 1, none⟩ y).heap[b]? = some (.cells #[x, y] t (0, 0)) := by
  obtain ⟨hlt, hk⟩ := Array.getElem?_eq_some_iff.1 h
  simp only [World.setCell, Array.getElem?_modify, ↓reduceIte, h, Option.map_some]
  rfl
theorem rwlQ_bad {n : Int} {zs : List Int} (h : chkR n zs ≠ 0) : rwlQ n zs = chkR n zs := by unfold rwlQ; rw [if_pos h]
theorem ranQ_bad {n : Int} {zs : List Int} (h : chkR n zs ≠ 0) : ranQ n zs = chkR n zs := by unfold ranQ; rw [if_pos h]
set_option maxRecDepth 100000 in
set_option maxHeartbeats 8000000 in
theorem jsays_law (n : Int) (v : Value) (zs : List Int) (k : Int) (u : Value) (ys : List Int) (w : World) (h : Ints w v zs) (h' : Ints w u ys) :
    Calls Try.prog 6 #[.agg #[.int .i64 n, v], .agg #[.int .i64 k, u]] w fun e w' => e = .returned (.bool true) ∧ Below w.heap.size w w' := by
  obtain ⟨LU, hLU, UN, UR⟩ := union_is n k zs ys
  obtain ⟨LC, dC, hLC, hdC, CO, DE, CR⟩ := covers_is n zs
  obtain ⟨LP, dP, hLP, hdP, PA, WE, PR⟩ := packs_is n zs
  have QF := uniQ_is n k zs ys
  have QG := rwlQ_bad (n := n) (zs := zs)
  have QH := ranQ_bad (n := n) (zs := zs)
  have FI := first_is (n := n) (zs := zs)
  have B0 := box2_below w n v k u
  have ME := Matroid_ref n v zs _ (h.below B0)
  have MK := fun w' (hb : Below w.heap.size w w') => Matroid_ref k u ys w' (h'.below hb)
  have HM := hid (fun w' (hb : Below w.heap.size w w') => h.below hb)
  have HN := hid (fun w' (hb : Below w.heap.size w w') => h'.below hb)
  have HS : Hid (∀ w1, Below (box2 w n v k u).heap.size (box2 w n v k u) w1 → BaseJ w w1 n v k u) := fun w1 hb1 => by
    obtain ⟨y0, y1⟩ := box2_blocks hb1
    have hs := hb1.size
    rw [box2_size] at hs
    exact ⟨B0.trans (hb1.mono B0.size), hs, y0, y1⟩
  obtain ⟨a0, cap, rfl, -, -⟩ := h
  obtain ⟨a1, cap1, rfl, -, -⟩ := h'
  generalize chkR n zs = qE at *
  generalize chkR k ys = qK at *
  generalize uniQ n zs k ys = qF at *
  generalize rwlQ n zs = qG at *
  generalize ranQ n zs = qH at *
  have HUN := hid UN
  have HUR := hid UR
  have HCO := hid CO
  have HDE := hid DE
  have HCR := hid CR
  have HPA := hid PA
  have HWE := hid WE
  have HPR := hid PR
  have HQF := hid QF
  have HQG := hid QG
  have HQH := hid QH
  have HFI := hid FI
  have HME := hid ME
  have HMK := hid MK
  have HDC := hid hdC
  have HDP := hid hdP
  clear UN UR CO DE CR PA WE PR QF QG QH FI ME MK hdC hdP B0
  go_enter Try.func6, Try.ntmps6
  go_wp2_with fail
  refine HME.out.mono ?_
  rintro e w1 ⟨rfl, hb1⟩
  have S1 := hid (HS.out w1 hb1)
  clear hb1 HME HS
  go_upto_if 31 with fail
  go_cut [6] from 32 to 33 (fun x W => x = .int .i64 (if qE = 0 then qK else qE) ∧ Hid (Below w1.heap.size w1 W))
  case first =>
    by_cases hq : qE = 0
    · subst hq
      have M1 := hid (HMK.out w1 S1.out.1)
      obtain ⟨_, _, x2, x3⟩ := S1.out.cells
      clear HMK
      go_wp2_with fail
      refine M1.out.mono ?_
      rintro e w2 ⟨rfl, hb2⟩
      have H2 := hid hb2
      clear hb2 M1
      go_wp2_with fail
      go_meet
      exact ⟨rfl, H2⟩
    · have hq' : (qE == 0) = false := by simp [hq]
      have e1 : Hid ((if qE = 0 then qK else qE) = qE) := if_neg hq
      clear hq
      go_wp2_with fail
      go_meet
      exact ⟨by rw [e1.out], Below.refl _ _⟩
  case rest =>
    obtain ⟨rfl, HC⟩ := hcut
    have S2 := hid (S1.out.next HC.out)
    clear HC S1 HMK
    obtain ⟨q2, HQ2⟩ : ∃ q2, Hid ((if qE = 0 then qK else qE) = q2) := ⟨_, Eq.refl _⟩
    rw [HQ2.out]
    go_upto_if 35 with fail
    go_cut [6] from 36 to 41 (fun x W => x = .int .i64 qF ∧ Hid (Below wc.heap.size wc W))
    case first =>
      by_cases hq : q2 = 0
      · subst hq
        obtain ⟨x0, x1, x2, x3⟩ := S2.out.cells
        have BY := hid (fun w => bad_yes 3 w)
        have BN := hid (fun w => bad_no 3 w)
        have hqe : qE = 0 := by
          have := HQ2.out
          by_cases h : qE = 0
          · exact h
          · rwa [if_neg h] at this
        have hqk : qK = 0 := by
          have := HQ2.out
          rwa [if_pos hqe] at this
        by_cases hnk : n = k
        · have e1 : Hid (qF = 0) := by show _ = _; rw [HQF.out, if_pos hqe, if_pos hqk, if_pos hnk]
          have hnk' : (n == k) = true := by simp [hnk]
          clear hqe hqk hnk
          go_wp2_with fail
          refine (BY.out _).mono ?_
          rintro e w' ⟨rfl, hw'⟩
          obtain rfl := hw'.symm
          go_wp2_with fail
          go_meet
          exact ⟨by rw [e1.out], Below.refl _ _⟩
        · have e1 : Hid (qF = 3) := by show _ = _; rw [HQF.out, if_pos hqe, if_pos hqk, if_neg hnk]
          have hnk' : (n == k) = false := by simp [hnk]
          clear hqe hqk hnk
          go_wp2_with fail
          refine (BN.out _).mono ?_
          rintro e w' ⟨rfl, hw'⟩
          obtain rfl := hw'.symm
          go_wp2_with fail
          go_meet
          exact ⟨by rw [e1.out], Below.refl _ _⟩
      · have hq' : (q2 == 0) = false := by simp [hq]
        have e1 : Hid (qF = q2) := by
          show _ = _
          rw [HQF.out, ← HQ2.out]
          by_cases h : qE = 0
          · have hk : qK ≠ 0 := fun e => hq (by rw [← HQ2.out, if_pos h, e])
            rw [if_pos h, if_pos h, if_neg hk]
          · rw [if_neg h, if_neg h]
        clear hq
        go_wp2_with fail
        go_meet
        exact ⟨by rw [e1.out], Below.refl _ _⟩
    case rest =>
      obtain ⟨rfl, HC⟩ := hcut
      rename_i wp
      have S3 := hid (S2.out.next HC.out)
      clear HC S2 HQ2 HQF
      go_upto_if 43 with fail
      have bn : Below wc.heap.size wc (wc.alloc (.cells #[.int .i64 0, .slice none 0 0] 24)) := (Below.refl _ _).alloc (Nat.le_refl _) _
      have zn := World.alloc_heap_new wc (.cells #[.int .i64 0, .slice none 0 0] 24)
      have sz := World.size_alloc wc (.cells #[.int .i64 0, .slice none 0 0] 24)
      revert bn zn sz
      generalize wc.alloc (.cells #[.int .i64 0, .slice none 0 0] 24) = W0
      intro bn zn sz
      generalize wc = w3 at *
      have S4 := hid (S3.out.next bn)
      have HBN := hid bn
      have HZN := hid zn
      clear bn zn
      go_cut [] from 44 to 46 (fun W => Hid (Below w3.heap.size w3 W) ∧ Hid (VarJ W0.heap.size W w3.heap.size qF n LU))
      case first =>
        by_cases hq : qF = 0
        · subst hq
          have U1 := hid (HUR.out rfl _ _ W0 (HM.out _ S4.out.1) (HN.out _ S4.out.1))
          obtain ⟨x0, x1, x2, x3⟩ := S4.out.cells
          clear HUN HUR HCO HDE HCR HPA HWE HPR HQG HQH HFI HDC HDP HM HN
          go_wp2_with fail
          refine U1.out.mono ?_
          rintro e w5 ⟨a5, c5, rfl, ho5, hb5⟩
          have z5 := (hb5.block w3.heap.size (by omega)).trans HZN.out
          obtain ⟨n0, n1, n2, n3⟩ := two_cells z5
          have E1 : Hid (Below w3.heap.size w3 ((w5.setCell ⟨w3.heap.size, 0, none⟩ (.int .i64 n)).setCell ⟨w3.heap.size, 1, none⟩ (.slice a5 LU.length c5))) := below_two (HBN.out.trans (hb5.mono HBN.out.size)) (Nat.le_refl _)
          have E2 : Hid (VarJ W0.heap.size ((w5.setCell ⟨w3.heap.size, 0, none⟩ (.int .i64 n)).setCell ⟨w3.heap.size, 1, none⟩ (.slice a5 LU.length c5)) w3.heap.size 0 n LU) := ⟨n, a5, _, c5, setJ_blk z5, .inl ⟨rfl, rfl, ho5.set2 (by omega)⟩⟩
          clear ho5 hb5 z5 U1 x0 x1 x2 x3
          go_wp2_with fail
          go_meet
          exact ⟨E1, E2⟩
        · have hq' : (qF == 0) = false := by simp [hq]
          have E2 : Hid (VarJ W0.heap.size W0 w3.heap.size qF n LU) := ⟨0, none, 0, 0, HZN.out, .inr ⟨hq, rfl, rfl⟩⟩
          clear hq
          go_wp2_with fail
          go_meet
          exact ⟨HBN, E2⟩
      case rest =>
        obtain ⟨HC, V4⟩ := hcut
        have S5 := hid (S3.out.next HC.out)
        clear HC S4 HBN HZN S3 HUR
        generalize wc = w4 at *
        go_upto_if 48 with fail
        go_cut [7, 8, 10, 12] from 49 to 66 (fun g h c d W => g = .int .i64 qG ∧ h = .int .i64 qH ∧ d = .int .i64 dC ∧ (∃ a L c', c = .slice a L c' ∧ Hid (ToldJ w4.heap.size W qG (.slice a L c') LC)) ∧ Hid (Below w4.heap.size w4 W))
        case first =>
          clear V4 HUN HCO HDE HPA HWE HPR
          by_cases hq : qE = 0
          · subst hq
            obtain ⟨ok, HG, C1, T1⟩ := HCR.out rfl
            obtain ⟨m, l, hn, hz, hlen, h8, hH⟩ := HFI.out rfl
            subst hn
            subst hz
            have HC1 := hid C1
            have HT1 := hid T1
            have HGG := hid HG
            have HHH := hid hH
            have BD : Hid (∀ (b : Bool) (e : Int) (w : World), Calls Try.prog 28 #[.bool b, .int .i64 e] w fun r w' => r = .returned (.int .i64 (if b = true then 0 else e)) ∧ w' = w) := fun b e w => by
              cases b
              · exact bad_no e w
              · exact bad_yes e w
            clear C1 T1 HG hH HCR HFI HQG HQH HDC HDP
            rw [N_len l] at *
            obtain ⟨x0, x1, x2, x3⟩ := S5.out.cells
            have C2 := hid (HC1.out _ w4 (HM.out _ S5.out.1))
            clear HC1
            go_wp2_with fail
            refine C2.out.mono ?_
            rintro e w5 ⟨a5, L5, c5, rfl, ht5, hb5⟩
            have HT5 := hid ht5
            have H5 := hid hb5
            have S6 := hid (S5.out.next hb5)
            have T2 := hid (HT1.out _ w5 (HM.out _ S6.out.1))
            clear C2 HT1 ht5 hb5 x0 x1 x2 x3
            obtain ⟨x0, x1, x2, x3⟩ := S6.out.cells
            go_wp2_with fail
            refine T2.out.mono ?_
            rintro e w6 ⟨rfl, hb6⟩
            have HT6 := hid (HT5.out.below hb6)
            have H6 := hid (H5.out.trans (hb6.mono H5.out.size))
            have S7 := hid (S6.out.next hb6)
            clear T2 hb6 x0 x1 x2 x3 HT5 H5 S5 S6
            obtain ⟨x0, x1, x2, x3⟩ := S7.out.cells
            obtain ⟨a', cap', e', -, hc'⟩ := (HM.out _ S7.out.1).nats
            obtain ⟨rfl, rfl⟩ : a0 = a' ∧ cap = cap' := by simpa using e'
            obtain ⟨mb, mo, rfl, -, hmc⟩ := hc' (by omega)
            have cB := hmc 0 hlen
            rw [Nat.add_zero] at cB
            have hlen' : (0 : Int) < (l.length : Int) := by omega
            clear hmc hc' e'
            generalize l.getD 0 0 = b0 at *
            go_wp2_with fail
            refine (BD.out _ _ _).mono ?_
            rintro e w' ⟨rfl, hw'⟩
            obtain rfl := hw'.symm
            rw [← HGG.out]
            by_cases hb0 : b0 = 0
            · subst hb0
              have e2 : Hid (qH = 5) := HHH.out
              go_wp2_with fail
              refine (BD.out _ _ _).mono ?_
              rintro e w' ⟨rfl, hw'⟩
              obtain rfl := hw'.symm
              go_wp2_with fail
              go_meet
              exact ⟨rfl, by rw [e2.out], rfl, ⟨a5, L5, c5, rfl, HT6⟩, H6⟩
            · have e2 : Hid (qH = 0) := by show _ = _; rw [HHH.out, if_neg hb0]
              have hb1 : ((b0 : Int) == 0) = false := by rw [beq_eq_false_iff_ne]; omega
              go_wp2_with fail
              refine (BD.out _ _ _).mono ?_
              rintro e w' ⟨rfl, hw'⟩
              obtain rfl := hw'.symm
              go_wp2_with fail
              go_meet
              exact ⟨rfl, by rw [e2.out], rfl, ⟨a5, L5, c5, rfl, HT6⟩, H6⟩
          · have hq' : (qE == 0) = false := by simp [hq]
            have e1 := hid (HQG.out hq)
            have e2 := hid (HQH.out hq)
            have e3 : Hid (dC = 0) := HDC.out (by rw [e1.out]; exact hq)
            have E4 : Hid (ToldJ w4.heap.size w4 qG (.slice none 0 0) LC) := .inl ⟨by rw [e1.out]; exact hq, rfl⟩
            clear hq HCR HFI
            go_wp2_with fail
            go_meet
            exact ⟨by rw [e1.out], by rw [e2.out], by rw [e3.out], ⟨none, 0, 0, rfl, E4⟩, Below.refl _ _⟩
        case rest =>
          obtain ⟨rfl, rfl, rfl, ⟨a5, L5, c5, rfl, T5⟩, HC⟩ := hcut
          have S6 := hid (S5.out.next HC.out)
          have V5 := hid (V4.out.below HC.out)
          clear HC S5 V4 HCR HFI HQG HQH
          generalize wc = w5 at *
          go_upto_if 68 with fail
          go_cut [11, 13] from 69 to 72 (fun p d W => d = .int .i64 dP ∧ (∃ a L c', p = .slice a L c' ∧ Hid (ToldJ w5.heap.size W qH (.slice a L c') LP)) ∧ Hid (Below w5.heap.size w5 W))
          case first =>
            clear V5 T5 HUN HCO HDE HPA HWE
            by_cases hq : qH = 0
            · subst hq
              obtain ⟨ST, TH⟩ := HPR.out rfl
              have HST := hid (fun w' (hb' : Below w.heap.size w w') => ST _ w' (HM.out w' hb'))
              have HTH := hid (fun w' (hb' : Below w.heap.size w w') => TH _ w' (HM.out w' hb'))
              clear ST TH HPR
              obtain ⟨x0, x1, x2, x3⟩ := S6.out.cells
              clear x2 x3
              go_wp2_with fail
              go_region_held3 (fun w' => w'.cell? ⟨w.heap.size, 0, none⟩ = some (.int .i64 n) ∧ w'.cell? ⟨w.heap.size, 1, none⟩ = some (.slice a0 zs.length cap)) (go_keep)
               (first
                | (go_at_call 34; refine (HST.out _ S6.out.1.drew).mono ?_; rintro e w6 ⟨a6, c6, rfl, ho6, hb6⟩; have H6 := hid ((Below.refl w5.heap.size w5).drew.trans hb6); have S7 := hid (S6.out.next H6.out); have O6 := hid ho6; have X6 := hid S7.out.cells; clear ho6 hb6; obtain ⟨y0, y1, _, _⟩ := X6.out)
                | (go_at_call 35; refine (HTH.out _ S7.out.1).mono ?_; rintro e w7 ⟨rfl, hb7⟩; have H7 := hid (H6.out.trans (hb7.mono H6.out.size)); have S8 := hid (S7.out.next hb7); have O7 := hid (O6.out.below hb7); have X7 := hid S8.out.cells; clear hb7; obtain ⟨y2, y3, _, _⟩ := X7.out))
              go_wp2_with fail
              go_meet
              exact ⟨rfl, ⟨a6, _, c6, rfl, .inr ⟨rfl, O7.out⟩⟩, H7⟩
            · have hq' : (qH == 0) = false := by simp [hq]
              have e3 : Hid (dP = 0) := HDP.out hq
              have E4 : Hid (ToldJ w5.heap.size w5 qH (.slice none 0 0) LP) := .inl ⟨hq, rfl⟩
              clear hq HPR
              go_wp2_with fail
              go_meet
              exact ⟨by rw [e3.out], ⟨none, 0, 0, rfl, E4⟩, Below.refl _ _⟩
          case rest =>
            obtain ⟨rfl, ⟨a6, L6, c6, rfl, T6⟩, HC⟩ := hcut
            have S7 := hid (S6.out.next HC.out)
            have V6 := hid (V5.out.below HC.out)
            have T5' := hid (T5.out.below HC.out)
            clear HC S6 V5 T5 HPR
            generalize wc = w6 at *
            have U1 := hid (HUN.out _ _ w6 (HM.out _ S7.out.1) (HN.out _ S7.out.1))
            obtain ⟨x0, x1, x2, x3⟩ := S7.out.cells
            clear HUN
            go_wp2_with fail
            refine U1.out.mono ?_
            rintro e w7 ⟨n7, a7, L7, c7, rfl, hg7, hb7⟩
            have b8 : Below w7.heap.size w7 (w7.alloc (.cells #[.int .i64 n7, .slice a7 L7 c7] 24)) := (Below.refl _ _).alloc (Nat.le_refl _) _
            have h8 := hb7.trans (b8.mono hb7.size)
            have S8 := hid (S7.out.next h8)
            have V8 := hid (V6.out.below h8)
            have TC8 := hid (T5'.out.below h8)
            have TP8 := hid (T6.out.below h8)
            have X8 : Hid (VarJ w6.heap.size (w7.alloc (.cells #[.int .i64 n7, .slice a7 L7 c7] 24)) w7.heap.size qF n LU) := ⟨n7, a7, L7, c7, World.alloc_heap_new w7 _, hg7.below b8⟩
            have C1 := hid (HCO.out _ _ (HM.out _ S8.out.1))
            clear U1 x0 x1 x2 x3 hg7 hb7 b8 h8 S7 V6 T5' T6 HCO
            obtain ⟨x0, x1, x2, x3⟩ := S8.out.cells
            go_wp2_with fail
            refine C1.out.mono ?_
            rintro e w9 ⟨a9, L9, c9, rfl, ht9, hb9⟩
            have S9 := hid (S8.out.next hb9)
            have V9 := hid (V8.out.below hb9)
            have TC9 := hid (TC8.out.below hb9)
            have TP9 := hid (TP8.out.below hb9)
            have X9 := hid (X8.out.below hb9)
            have TD9 := hid ht9
            have D1 := hid (HDE.out _ _ (HM.out _ S9.out.1))
            clear C1 x0 x1 x2 x3 ht9 hb9 S8 V8 TC8 TP8 X8 HDE
            obtain ⟨x0, x1, x2, x3⟩ := S9.out.cells
            go_wp2_with fail
            refine D1.out.mono ?_
            rintro e w10 ⟨rfl, hb10⟩
            have S10 := hid (S9.out.next hb10)
            have V10 := hid (V9.out.below hb10)
            have TC10 := hid (TC9.out.below hb10)
            have TP10 := hid (TP9.out.below hb10)
            have X10 := hid (X9.out.below hb10)
            have TD10 := hid (TD9.out.below hb10)
            have P1 := hid (HPA.out _ _ (HM.out _ S10.out.1))
            clear D1 x0 x1 x2 x3 hb10 S9 V9 TC9 TP9 X9 TD9 HPA
            obtain ⟨x0, x1, x2, x3⟩ := S10.out.cells
            go_wp2_with fail
            refine P1.out.mono ?_
            rintro e w11 ⟨a11, L11, c11, rfl, ht11, hb11⟩
            have S11 := hid (S10.out.next hb11)
            have V11 := hid (V10.out.below hb11)
            have TC11 := hid (TC10.out.below hb11)
            have TP11 := hid (TP10.out.below hb11)
            have X11 := hid (X10.out.below hb11)
            have TD11 := hid (TD10.out.below hb11)
            have TQ11 := hid ht11
            have W1 := hid (HWE.out _ _ (HM.out _ S11.out.1))
            clear P1 x0 x1 x2 x3 ht11 hb11 S10 V10 TC10 TP10 X10 TD10 HWE
            obtain ⟨x0, x1, x2, x3⟩ := S11.out.cells
            go_wp2_with fail
            refine W1.out.mono ?_
            rintro e w12 ⟨rfl, hb12⟩
            have S12 := hid (S11.out.next hb12)
            have TC12 := hid (TC11.out.below hb12)
            have TP12 := hid (TP11.out.below hb12)
            have TD12 := hid (TD11.out.below hb12)
            have TQ12 := hid (TQ11.out.below hb12)
            obtain ⟨na, aa, La, ca, hA, gA⟩ := V11.out.below hb12
            obtain ⟨nx, ax, Lx, cx, hX, gX⟩ := X11.out.below hb12
            have GA := hid gA
            have GX := hid gX
            obtain ⟨z0, z1⟩ := cells2 hA
            obtain ⟨z2, z3⟩ := cells2 hX
            have TO := hid (toldJ w12 GX.out GA.out hLU)
            have O1 := hid (fun w => oneJ dC qG w HDC.out)
            have O2 := hid (fun w => oneJ dP qH w HDP.out)
            clear W1 x0 x1 x2 x3 hb12 S11 V11 TC11 TP11 X11 TD11 TQ11 hA hX gA gX GA GX HDC HDP HM HN
            go_wp2_with fail
            refine TO.out.mono ?_
            rintro e w13 ⟨rfl, hb13⟩
            have S13 := hid (S12.out.next hb13)
            have TC13 := hid (TC12.out.below hb13)
            have TP13 := hid (TP12.out.below hb13)
            have TD13 := hid (TD12.out.below hb13)
            have TQ13 := hid (TQ12.out.below hb13)
            have LI := hid (listJ w13 TD13.out TC13.out hLC)
            clear TO hb13 S12 TC12 TP12 TD12 TQ12 z0 z1 z2 z3
            go_wp2_with fail
            refine LI.out.mono ?_
            rintro e w14 ⟨rfl, hb14⟩
            have S14 := hid (S13.out.next hb14)
            have TP14 := hid (TP13.out.below hb14)
            have TQ14 := hid (TQ13.out.below hb14)
            clear LI hb14 S13 TC13 TP13 TD13 TQ13
            go_wp2_with fail
            refine (O1.out _).mono ?_
            rintro e w' ⟨rfl, hw'⟩
            obtain rfl := hw'.symm
            have LJ := hid (listJ _ TQ14.out TP14.out hLP)
            go_wp2_with fail
            refine LJ.out.mono ?_
            rintro e w15 ⟨rfl, hb15⟩
            have S15 := hid (S14.out.next hb15)
            clear LJ hb15 S14 TP14 TQ14
            go_wp2_with fail
            refine (O2.out _).mono ?_
            rintro e w' ⟨rfl, hw'⟩
            obtain rfl := hw'.symm
            go_wp2_with fail
            go_ret
            exact ⟨rfl, S15.out.1⟩
end Go.Proofs.Ythbcnolpjcppoab
