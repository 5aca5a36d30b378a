/- rotaref.Det's own function. -/
import Derived.Test.YtpdfaenjmjphpaaFdVW
import Derived.Test.YtpdfaenjmjphpaaFdWQ
import Derived.Test.YtpdfaenjmjphpaaFdBQ
import Derived.Test.YtpdfaenjmjphpaaPlainAll
import Derived.Deep.CutRange
namespace Go.Proofs.Ytpdfaenjmjphpaa
open Go.RowKit

/-- How many are not taken, up to one. -/
def lfN (u : Nat) : Nat → Nat
  | 0 => 0
  | k + 1 => if u.testBit k = true then lfN u k else lfN u k + 1
theorem lfN_le (u : Nat) : ∀ k, lfN u k ≤ k
  | 0 => Nat.le_refl _
  | k + 1 => by
    have := lfN_le u k
    show (if u.testBit k = true then lfN u k else lfN u k + 1) ≤ k + 1
    split <;> omega
theorem lfN_sg {c u : Nat} (hu : u < 2 ^ c) : ∀ k, k ≤ c → sgT (2 ^ c - 1 - u) k = if lfN u k % 2 = 1 then -1 else 1
  | 0, _ => rfl
  | k + 1, hk => by
    have ih := lfN_sg hu k (by omega)
    show (if (2 ^ c - 1 - u).testBit k = true then - sgT (2 ^ c - 1 - u) k else sgT (2 ^ c - 1 - u) k) = if (if u.testBit k = true then lfN u k else lfN u k + 1) % 2 = 1 then -1 else 1
    rw [cpl_bit hu, ih, show decide (k < c) = true from decide_eq_true (by omega)]
    cases u.testBit k with
    | true => simp
    | false =>
      rcases (by omega : lfN u k % 2 = 0 ∨ lfN u k % 2 = 1) with h | h
      · have h2 : (lfN u k + 1) % 2 = 1 := by omega
        simp [h, h2]
      · have h2 : (lfN u k + 1) % 2 = 0 := by omega
        simp [h, h2]
/-- What Det's variables hold. -/
structure DSt (w : World) (bN bS bX bF : Nat) (p : Int) (c : Nat) (v fv : Value) (s : Int) (W : World) : Prop where
  bl : Below w.heap.size w W
  xn : Boxed W bN 3 (.int .i64 c)
  xs : Boxed W bS 3 (.int .i64 s)
  xx : W.heap[bX]? = some (.cells #[.int .i64 p, .int .i64 c, v] 24 (0, 0))
  xf : Boxed W bF 48 fv
  lo : w.heap.size ≤ bS
  n1 : bN ≠ bS
  n2 : bX ≠ bS
  n3 : bF ≠ bS
theorem DSt.drew {w : World} {bN bS bX bF : Nat} {p : Int} {c : Nat} {v fv : Value} {s : Int} {W : World} (h : DSt w bN bS bX bF p c v fv s W) : DSt w bN bS bX bF p c v fv s W.drew := ⟨h.bl.drew, h.xn, h.xs, h.xx, h.xf, h.lo, h.n1, h.n2, h.n3⟩
theorem DSt.put {w : World} {bN bS bX bF : Nat} {p : Int} {c : Nat} {v fv : Value} {s : Int} {W : World} (h : DSt w bN bS bX bF p c v fv s W) (s' : Int) : DSt w bN bS bX bF p c v fv s' (W.setCell ⟨bS, 0, none⟩ (.int .i64 s')) := by
  have hs := save_cell W bS 0 (.int .i64 s')
  have hz := h.xs.lt
  refine ⟨hs.below h.bl h.bl.size (fun k e => by subst e; exact h.lo), (hs.block _ h.xn.lt h.n1).trans h.xn, ?_, (hs.block _ (Array.getElem?_eq_some_iff.1 h.xx).1 h.n2).trans h.xx, (hs.block _ h.xf.lt h.n3).trans h.xf, h.lo, h.n1, h.n2, h.n3⟩
  have h0 : W.heap[bS]? = _ := h.xs
  show (W.setCell ⟨bS, 0, none⟩ (.int .i64 s')).heap[bS]? = _
  simp only [World.setCell, Array.getElem?_modify, ↓reduceIte, h0, Option.map_some]
  rfl
/-- The function value. -/
def detV (bN bS bX bF : Nat) : Value := .func (.func 24) #[] #[.pointer (some ⟨bN, 0, none⟩), .pointer (some ⟨bS, 0, none⟩), .pointer (some ⟨bX, 0, none⟩), .pointer (some ⟨bF, 0, none⟩)]
set_option maxRecDepth 20000 in
set_option maxHeartbeats 4000000 in
theorem det1_ok (w : World) (bN bS bX bF : Nat) (p : Int) (c : Nat) (v : Value) (R : List (List Int)) (h : RowsI w v R) (hm : MatOK p c R) (hl : R.length = c) (hc6 : c ≤ 6) : ∀ (R' : List (List Int)) (i used : Nat) (sg now s : Int) (W : World), R.drop i = R' → i + R'.length = c → used < 2 ^ c → (sg = 1 ∨ sg = -1) → 0 ≤ now → now < p → DSt w bN bS bX bF p c v (detV bN bS bX bF) s W → (-1000000000 ≤ s - 7 * 6 ^ R'.length ∧ s + 7 * 6 ^ R'.length ≤ 1000000000) →
    Calls Try.prog 24 #[.int .i64 i, .int .i64 used, .int .i64 sg, .int .i64 now, .pointer (some ⟨bN, 0, none⟩), .pointer (some ⟨bS, 0, none⟩), .pointer (some ⟨bX, 0, none⟩), .pointer (some ⟨bF, 0, none⟩)] W fun e W' => e = .returned (.tuple #[]) ∧ DSt w bN bS bX bF p c v (detV bN bS bX bF) (s + detC p c R' used sg now) W' := by
  intro R'
  induction R' with
  | nil =>
    intro i used sg now s W _ hi _ hsg h0 h1 hS hb
    have hp2 := isP_pos hm.pr
    rw [List.length_nil, Nat.add_zero] at hi
    subst hi
    rw [List.length_nil] at hb
    obtain ⟨t, ht⟩ : ∃ t, sg * now = t := ⟨_, rfl⟩
    have b1 : -7 ≤ t ∧ t ≤ 7 := by
      rw [← ht]
      rcases hsg with e | e <;> rw [e] <;> omega
    obtain ⟨z, hz⟩ : ∃ z, s + t = z := ⟨_, rfl⟩
    have hw1 : IntKind.i64.wrap t = t := IntWalk.i64_in _ (by omega)
    have hw2 : IntKind.i64.wrap z = z := IntWalk.i64_in _ (by omega)
    have HE : Hid (s + detC p i [] used sg now = z) := by show s + sg * now = z; rw [ht, hz]
    have P := hid (hS.put z)
    rw [HE.out]
    have k0 := hS.xn.cell
    have k1 := hS.xs.cell
    have k2 := hS.xs.frozen
    have hii : ((i : Int) == (i : Int)) = true := by simp
    clear hS hm h hsg hb
    go_enter Try.func24, Try.ntmps24
    go_wp2_with fail
    exact bodyPost_ret (results_none rfl _ _ _) rfl ⟨rfl, P.out⟩
  | cons r R' ih =>
    intro i used sg now s W hd hi hu hsg h0 h1 hS hb
    have hp2 := isP_pos hm.pr
    have hp0 : (p == 0) = false := by rw [beq_eq_false_iff_ne]; omega
    rw [List.length_cons] at hi hb
    have hic : i < c := by omega
    have hir : i < R.length := by omega
    have hrow : R.getD i [] = r := by
      have := List.drop_eq_getElem_cons hir
      rw [hd] at this
      have e := (List.cons.inj this).1
      simp [List.getD, hir, ← e]
    have hd2 : R.drop (i + 1) = R' := by
      have := List.drop_eq_getElem_cons hir
      rw [hd] at this
      exact (List.cons.inj this).2.symm
    have hne : ((i : Int) == (c : Int)) = false := by rw [beq_eq_false_iff_ne]; omega
    obtain ⟨q, hq⟩ : ∃ q : Nat → Int, ∀ j, q j = rowF R i j := ⟨rowF R i, fun _ => rfl⟩
    have hqr : ∀ j, r.getD j 0 = q j := fun j => by rw [hq, ← hrow]; rfl
    have HQ : Hid (∀ j, j < c → 0 ≤ q j ∧ q j < p) := fun j hj => by rw [hq]; exact hm.rowc i hir j hj
    obtain ⟨M, hM⟩ : ∃ M : Int, 7 * 6 ^ R'.length = M := ⟨_, rfl⟩
    have hMp : 0 ≤ M := by rw [← hM]; exact Int.mul_nonneg (by decide) (Int.pow_nonneg (by decide))
    have hb6 : -1000000000 ≤ s - 6 * M ∧ s + 6 * M ≤ 1000000000 := by
      have e6 : (7 * 6 ^ (R'.length + 1) : Int) = 6 * M := by rw [← hM, Int.pow_succ, Int.mul_comm (6 ^ R'.length), Int.mul_left_comm]
      rw [e6] at hb
      exact hb
    have hM9 : M ≤ 1000000000 := by omega
    obtain ⟨f, hf⟩ : ∃ f : Nat → Int, ∀ j, f j = if used.testBit j = true ∨ r.getD j 0 = 0 then 0 else detC p c R' (used ||| 2 ^ j) (sg * sgT (2 ^ c - 1 - used) j) (now * r.getD j 0 % p) := ⟨_, fun _ => rfl⟩
    have HD : Hid (s + detC p c (r :: R') used sg now = s + sm c f) := by
      show s + sm c _ = s + sm c f
      rw [sm_congr fun j _ => (hf j).symm]
    have hsg1 : ∀ j, sg * sgT (2 ^ c - 1 - used) j = 1 ∨ sg * sgT (2 ^ c - 1 - used) j = -1 := fun j => by
      rcases hsg with e | e <;> rcases sgT_one (2 ^ c - 1 - used) j with e2 | e2 <;> rw [e, e2] <;> simp
    have HF : Hid (∀ j, -M ≤ f j ∧ f j ≤ M) := fun j => by
      rw [hf]
      split
      · omega
      · rw [← hM]
        exact detC_le hm.pr c hc6 R' _ _ _ (hsg1 j) (Int.emod_nonneg _ (by omega)) (Int.emod_lt_of_pos _ (by omega))
    have F0 : Hid (∀ j, used.testBit j = true → f j = 0) := fun j hj => by rw [hf, if_pos (.inl hj)]
    have F1 : Hid (∀ j, q j = 0 → f j = 0) := fun j hj => by rw [hf, if_pos (.inr (by rw [hqr, hj]))]
    have IH : Hid (∀ (j : Nat) (s' : Int) (W : World), j < c → used.testBit j = false → q j ≠ 0 → DSt w bN bS bX bF p c v (detV bN bS bX bF) s' W → (-1000000000 ≤ s' - M ∧ s' + M ≤ 1000000000) → Calls Try.prog 24 #[.int .i64 ((i : Int) + 1), .int .i64 ((used ||| 2 ^ j : Nat) : Int), .int .i64 (sg * sgT (2 ^ c - 1 - used) j), .int .i64 (now * q j % p), .pointer (some ⟨bN, 0, none⟩), .pointer (some ⟨bS, 0, none⟩), .pointer (some ⟨bX, 0, none⟩), .pointer (some ⟨bF, 0, none⟩)] W fun e W' => e = .returned (.tuple #[]) ∧ DSt w bN bS bX bF p c v (detV bN bS bX bF) (s' + f j) W') := fun j s' W hj hub hq0 hS' hb' => by
      have := ih (i + 1) (used ||| 2 ^ j) (sg * sgT (2 ^ c - 1 - used) j) (now * q j % p) s' W hd2 (by omega) (Nat.or_lt_two_pow hu (Nat.pow_lt_pow_right (by omega) hj)) (hsg1 j) (Int.emod_nonneg _ (by omega)) (Int.emod_lt_of_pos _ (by omega)) hS' (by rw [hM]; exact hb')
      rw [hf, if_neg (by rw [hub, hqr]; simp [hq0]), hqr]
      exact this
    have SG := hid (fun k (hk : k ≤ c) => lfN_sg hu k hk)
    have u256 : used < 256 := Nat.lt_of_lt_of_le hu (Nat.pow_le_pow_right (n := 2) (show 0 < 2 by omega) (show c ≤ 8 by omega))
    have INN := hid (fun k W (hk : k < 8) => In_any used k W u256 hk)
    obtain ⟨a, cap, rfl, hc⟩ := h.reads hm.lens
    have HC : Hid (∃ b off, a = some ⟨b, off, none⟩ ∧ ∃ ra rc, ∀ wr, Below w.heap.size w wr → wr.cell? ⟨b, off + i, none⟩ = some (.slice ra c rc) ∧ ∀ m, m < c → ∃ rb ro, ra = some ⟨rb, ro, none⟩ ∧ wr.cell? ⟨rb, ro + m, none⟩ = some (.int .i64 (q m))) := by
      obtain ⟨b, off, e1, ra, rc, e2⟩ := hc i hir
      exact ⟨b, off, e1, ra, rc, fun wr hw => ⟨(e2 wr hw).1, fun m hm => by rw [hq]; exact (e2 wr hw).2.2 m hm⟩⟩
    have hlen6 : R.length ≤ 6 := by omega
    have hill : (i : Int) < (R.length : Int) := by omega
    have HSt := hid hS
    have k0 := hS.xn.cell
    have LL := hid hl
    rw [HD.out]
    clear hc h hf hq hqr hrow hd hd2 ih hM hb hS hm HD hsg1 hl hu
    obtain ⟨fv, hfv⟩ : ∃ fv, detV bN bS bX bF = fv := ⟨_, rfl⟩
    have HFV := hid hfv
    rw [hfv] at HSt IH ⊢
    clear hfv
    go_enter Try.func24, Try.ntmps24
    go_wp2_with fail
    go_loopw [12, 13, 14, 15] (fun _ jj _ _ wr => ∃ (t : Nat) (z : Int), t ≤ c ∧ jj = .int .i64 ((t : Int) - 1) ∧ Hid (z + sm t f = s + sm c f) ∧ (-1000000000 ≤ z - (t : Int) * M ∧ z + (t : Int) * M ≤ 1000000000) ∧ Hid (DSt w bN bS bX bF p c (.slice a R.length cap) fv z wr)) (fun _ jj _ _ _ => (intOf jj + 1).toNat)
    case atStart =>
      have : (c : Int) * M ≤ 6 * M := Int.mul_le_mul_of_nonneg_right (by omega) hMp
      exact ⟨c, s, Nat.le_refl _, by go_num, rfl, by omega, HSt⟩
    case round =>
      obtain ⟨t, z, htc, rfl, HZ, hzb, HSr⟩ := hrel
      clear HSt k0
      cases t with
      | zero =>
        have HE : Hid (z = s + sm c f) := by
          show _ = _
          rw [← HZ.out]
          show z = z + 0
          omega
        clear HZ
        have h1 : (((0 : Nat) : Int) - 1 ≥ 0) = False := by simp
        go_wp2_with fail
        exact bodyPost_end (results_none rfl _ _ _) rfl ⟨rfl, by rw [← HE.out]; exact HSr.out⟩
      | succ j =>
        rw [show ((j + 1 : Nat) : Int) - 1 = (j : Int) by omega]
        have hj0 : (0 : Int) ≤ (j : Int) := by omega
        have hjc : j < c := by omega
        have hmeas : ((j : Int) - 1 + 1).toNat < ((j : Int) + 1).toNat := by omega
        have e7 : ((j + 1 : Nat) : Int) * M = (j : Int) * M + M := by rw [Int.natCast_add, Int.add_mul]; simp
        rw [e7] at hzb
        have hjM : 0 ≤ (j : Int) * M := Int.mul_nonneg (by omega) hMp
        have HZ2 : Hid (z + f j + sm j f = s + sm c f) := by
          show _ = _
          rw [← HZ.out]
          show _ = z + (sm j f + f j)
          omega
        have hfb := HF.out j
        have hb8 : -1000000000 ≤ z - M ∧ z + M ≤ 1000000000 := by omega
        have hb9 : -1000000000 ≤ z + f j - (j : Int) * M ∧ z + f j + (j : Int) * M ≤ 1000000000 := by omega
        have hb7 : -1000000000 ≤ z - (j : Int) * M ∧ z + (j : Int) * M ≤ 1000000000 := by omega
        have hjc' : j ≤ c := Nat.le_of_lt hjc
        clear HZ e7 hzb hjM hfb
        have IN1 := hid (fun W => INN.out j W (by omega))
        cases hbit : used.testBit j with
        | true =>
          rw [hbit] at IN1
          have HZ3 : Hid (z + sm j f = s + sm c f) := by
            show _ = _
            rw [← HZ2.out, F0.out j hbit]
            omega
          clear HZ2 hbit
          go_wp2_with fail
          refine (IN1.out _).mono ?_
          rintro e w2 ⟨rfl, h2⟩
          obtain rfl := h2.symm
          go_wp2_with fail
          go_roundw
          case rel => exact ⟨j, z, hjc', by go_num, HZ3, hb7, HSr⟩
          case measure => exact hmeas
        | false =>
          rw [hbit] at IN1
          have IH1 := hid (fun hq s' W => IH.out j s' W hjc hbit hq)
          clear hbit IH
          go_wp2_with fail
          refine (IN1.out _).mono ?_
          rintro e w2 ⟨rfl, h2⟩
          obtain rfl := h2.symm
          go_wp2_with fail
          go_loopw [14, 15] (fun lf kk wy => wy = wr ∧ ∃ k : Nat, k ≤ j ∧ kk = .int .i64 k ∧ lf = .int .i64 (lfN used k)) (fun _ kk _ => j - (intOf kk).toNat)
          case atStart => exact ⟨rfl, 0, Nat.zero_le _, rfl, rfl⟩
          case round =>
            obtain ⟨rfl, k, hkj, rfl, rfl⟩ := hrel
            have hk8 := lfN_le used k
            by_cases hlt : k < j
            · have hki : (k : Int) < (j : Int) := by omega
              have hmk : j - (k + 1) < j - k := by omega
              have IN2 := hid (fun W => INN.out k W (by omega))
              have LF : Hid (lfN used (k + 1) = if used.testBit k = true then lfN used k else lfN used k + 1) := rfl
              cases hkb : used.testBit k with
              | true =>
                rw [hkb] at IN2
                rw [hkb, if_pos rfl] at LF
                clear hkb
                go_wp2_with fail
                refine (IN2.out _).mono ?_
                rintro e w2 ⟨rfl, h2⟩
                obtain rfl := h2.symm
                go_wp2_with fail
                go_roundw
                case rel => exact ⟨trivial, k + 1, by omega, by go_num, by rw [LF.out]⟩
                case measure => exact hmk
              | false =>
                rw [hkb] at IN2
                rw [hkb, if_neg (by simp)] at LF
                clear hkb
                go_wp2_with fail
                refine (IN2.out _).mono ?_
                rintro e w2 ⟨rfl, h2⟩
                obtain rfl := h2.symm
                go_wp2_with fail
                go_roundw
                case rel => exact ⟨trivial, k + 1, by omega, by go_num, by rw [LF.out]; go_num⟩
                case measure => exact hmk
            · obtain rfl : k = j := by omega
              have hnk : ¬ (k : Int) < (k : Int) := by omega
              obtain ⟨L, hL⟩ : ∃ L, lfN used k = L := ⟨_, rfl⟩
              have SG1 := hid (SG.out k (by omega))
              rw [hL] at SG1 hk8 ⊢
              obtain ⟨b, off, rfl, ra, rc, hcc⟩ := HC.out
              obtain ⟨c1, hcc2⟩ := hcc _ HSr.out.bl
              obtain ⟨rb, ro, rfl, c2⟩ := hcc2 k hjc
              obtain ⟨x0, x1, x2⟩ := three_cells HSr.out.xx
              have x3 := HSr.out.xf.cell
              rw [← HFV.out] at x3
              unfold detV at x3
              obtain ⟨y, hy⟩ : ∃ y, q k = y := ⟨_, rfl⟩
              have HY := hid hy
              have hqy := HQ.out k hjc
              rw [hy] at c2 IH1 hqy
              have HF1 := hid (F1.out k)
              rw [hy] at HF1
              clear hcc hcc2 hL hy
              obtain ⟨G, hG⟩ : ∃ G, sg * sgT (2 ^ c - 1 - used) k = G := ⟨_, rfl⟩
              rw [hG] at IH1
              have HG : Hid (G = if L % 2 = 1 then -sg else sg) := by
                show _ = _
                rw [← hG, SG1.out]
                split
                · rw [Int.mul_neg, Int.mul_one]
                · rw [Int.mul_one]
              clear hG SG1 SG
              go_upto_if 48 with fail
              go_cut [12] from 46 to 50 (fun x W => W = wr ∧ x = .int .i64 G)
              case first =>
                clear IH1 HZ2 HF1 HSr x0 x1 x2 x3 c1 c2
                by_cases hpar : L % 2 = 1
                · have hrem : ((L : Int) % 2 == 1) = true := by rw [beq_iff_eq]; omega
                  rw [if_pos hpar] at HG
                  obtain ⟨G1, hG1⟩ : ∃ G1, -sg = G1 := ⟨_, rfl⟩
                  have b5 : -1 ≤ G1 ∧ G1 ≤ 1 := by rw [← hG1]; rcases hsg with e | e <;> rw [e] <;> omega
                  have hw4 : IntKind.i64.wrap G1 = G1 := IntWalk.i64_in _ (by omega)
                  rw [hG1] at HG
                  go_wp2_with fail
                  go_meet
                  exact ⟨rfl, by rw [HG.out]⟩
                · have hrem : ((L : Int) % 2 == 1) = false := by rw [beq_eq_false_iff_ne]; omega
                  rw [if_neg hpar] at HG
                  go_wp2_with fail
                  go_meet
                  exact ⟨rfl, by rw [HG.out]⟩
              obtain ⟨rfl, rfl⟩ := hcut
              clear HG hsg
              by_cases hy0 : y = 0
              · subst hy0
                have HZ3 : Hid (z + sm k f = s + sm c f) := by
                  show _ = _
                  rw [← HZ2.out, HF1.out rfl]
                  omega
                clear HZ2 IH1
                go_wp2_with fail
                go_roundw
                case rel => exact ⟨k, z, hjc', by go_num, HZ3, hb7, HSr⟩
                case measure => exact hmeas
              · have hyn : (y != 0) = true := by rw [bne_iff_ne]; exact hy0
                have IH2 := hid (fun W hS => IH1.out hy0 z W hS hb8)
                obtain ⟨T, hT⟩ : ∃ T : Nat, 2 ^ k = T := ⟨_, rfl⟩
                have hT1 : wrap64 (2 ^ k) = (T : Int) := by rw [← hT]; exact (pow_wrap k (by omega)).1
                have hT2 : IntKind.i64.wrap (2 ^ k) = (T : Int) := by rw [← hT]; exact pow_wV k (by omega)
                have hTl : T ≤ 256 := by rw [← hT]; exact (pow_wrap k (by omega)).2
                have hor : bits .or .i64 (used : Int) (T : Int) = ((used ||| T : Nat) : Int) := i64_or_nat _ _ (Nat.lt_of_lt_of_le u256 (by decide)) (Nat.lt_of_le_of_lt hTl (by decide))
                obtain ⟨m1, hm1⟩ : ∃ m1, now * y = m1 := ⟨_, rfl⟩
                have b1 : 0 ≤ m1 ∧ m1 ≤ 49 := by
                  rw [← hm1]
                  have h2 : 0 ≤ now * y := Int.mul_nonneg h0 hqy.1
                  have h3 := Int.mul_le_mul (show now ≤ 7 by omega) (show y ≤ 7 by omega) (by omega) (by omega)
                  omega
                have hw1 : IntKind.i64.wrap m1 = m1 := IntWalk.i64_in _ (by omega)
                obtain ⟨m2, hm2⟩ : ∃ m2, m1 % p = m2 := ⟨_, rfl⟩
                have hm3 : Int.tmod m1 p = m2 := by rw [Int.tmod_eq_emod_of_nonneg b1.1, hm2]
                have b2 : 0 ≤ m2 ∧ m2 < 7 := by
                  rw [← hm2]
                  have := Int.emod_nonneg m1 (show p ≠ 0 by omega)
                  have := Int.emod_lt_of_pos m1 (show 0 < p by omega)
                  omega
                have hw2 : IntKind.i64.wrap m2 = m2 := IntWalk.i64_in _ (by omega)
                rw [hm1, hm2, hT] at IH2
                clear HF1 IH1 hy0 hT hm2 INN HQ HC F0 F1 HF hb8 hb7 IN1 LL HFV hMp
                generalize used ||| T = U at *
                go_wp2_with fail
                go_region_with ((refine (IH2.out _ (by first | exact HSr.out.drew | exact HSr.out)).mono ?_); rintro e w4 ⟨rfl, h4⟩; have H4 := hid h4; clear h4)
                all_goals go_wp2_with fail
                all_goals exact ⟨⟨k, z + f k, hjc', by go_num, HZ2, hb9, H4⟩, hmeas⟩
end Go.Proofs.Ytpdfaenjmjphpaa
