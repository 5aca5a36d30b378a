/- rotaref.OfRanks, whatever numbers it is handed. -/
import Derived.Test.YthbldeloocmakaaRefOf2Q
namespace Go.Proofs.Ythbldeloocmakaa
open Go.RowKit

/-- A step up, as it is reckoned. -/
def upW (f : Nat → Int) (s i : Nat) : Prop := ¬ f (s ||| bt i) < f s ∧ ¬ wrap64 (f s + 1) < f (s ||| bt i)
/-- Two steps up, as they are reckoned. -/
def locW (f : Nat → Int) (s i k : Nat) : Prop := ¬ wrap64 (f (s ||| bt i) + f (s ||| bt k)) < wrap64 (f ((s ||| bt i) ||| (s ||| bt k)) + f ((s ||| bt i) &&& (s ||| bt k)))
theorem wrap_small {x : Int} (h0 : 0 ≤ x) (h1 : x ≤ 100) : wrap64 x = x := by
  have h2 : ∀ n : Nat, n ≤ 100 → wrap64 (n : Int) = n := by decide +kernel
  obtain ⟨n, rfl⟩ := Int.eq_ofNat_of_zero_le h0
  exact h2 n (by omega)
theorem RkZ.le {n : Nat} {f : Nat → Int} (hn : n ≤ 8) (h : RkZ n f) : ∀ (s : Nat), s < 2 ^ n → f s ≤ pop s := by
  intro s
  induction s using Nat.strongRecOn with
  | ind s ih =>
    intro hs
    by_cases e : s = 0
    · rw [e, h.zero]; exact Int.natCast_nonneg _
    · obtain ⟨i, hi⟩ := exists_bit e
      have hlt := rm_lt (lt256 hn hs) hi
      have h1 := ih _ hlt (by omega)
      have h2 := (h.up (rm s i) i (by omega) (bit_lt hs hi)).2
      rw [ad_rm hi] at h2
      have := pop_rm' (lt256 hn hs) hi
      omega
theorem RkZ.le8 {n : Nat} {f : Nat → Int} (hn : n ≤ 8) (h : RkZ n f) {s : Nat} (hs : s < 2 ^ n) : 0 ≤ f s ∧ f s ≤ 8 := by
  have h1 := h.pos hn s hs
  have h2 := h.le hn s hs
  have h3 := pop_le s (lt256 hn hs)
  omega
theorem rkz_up {n : Nat} {f : Nat → Int} (hn : n ≤ 8) (h : RkZ n f) {s i : Nat} (hs : s < 2 ^ n) (hi : i < n) : upW f s i := by
  have h1 := h.up s i hs hi
  have h2 := h.le8 hn hs
  unfold upW bt
  rw [wrap_small (by omega) (by omega)]
  omega
theorem rkz_loc {n : Nat} {f : Nat → Int} (hn : n ≤ 8) (h : RkZ n f) {s i k : Nat} (hs : s < 2 ^ n) (hi : i < n) (hk : k < n) : locW f s i k := by
  have h1 := h.loc s i k hs hi hk
  have a1 := h.le8 hn (two_lt hs hi)
  have a2 := h.le8 hn (two_lt hs hk)
  have a3 := h.le8 hn (Nat.or_lt_two_pow (two_lt hs hi) (two_lt hs hk))
  have a4 := h.le8 hn (Nat.lt_of_le_of_lt Nat.and_le_left (two_lt hs hi) : (s ||| 2 ^ i) &&& (s ||| 2 ^ k) < 2 ^ n)
  unfold locW bt
  rw [wrap_small (by omega) (by omega), wrap_small (by omega) (by omega)]
  omega
theorem rkz_of {n : Nat} {f : Nat → Int} (hn : n ≤ 8) (h0 : f 0 = 0) (h : ∀ s, s < 2 ^ n → ∀ i, i < n → upW f s i ∧ ∀ k, k < n → locW f s i k) : RkZ n f := by
  have sm : ∀ s, s < 2 ^ n → 0 ≤ f s ∧ f s ≤ pop s := by
    intro s
    induction s using Nat.strongRecOn with
    | ind s ih =>
      intro hs
      by_cases e : s = 0
      · rw [e, h0]; exact ⟨Int.le_refl _, Int.natCast_nonneg _⟩
      · obtain ⟨i, hi⟩ := exists_bit e
        have hlt := rm_lt (lt256 hn hs) hi
        have h1 := ih _ hlt (by omega)
        have h2 := (h (rm s i) (by omega) i (bit_lt hs hi)).1
        have h8 := pop_le (rm s i) (lt256 hn (by omega))
        unfold upW bt at h2
        rw [ad_rm hi, wrap_small (by omega) (by omega)] at h2
        have := pop_rm' (lt256 hn hs) hi
        omega
  have s8 : ∀ s, s < 2 ^ n → 0 ≤ f s ∧ f s ≤ 8 := fun s hs => by
    have h1 := sm s hs
    have h3 := pop_le s (lt256 hn hs)
    omega
  refine ⟨h0, fun s i hs hi => ?_, fun s i k hs hi hk => ?_⟩
  · have h1 := (h s hs i hi).1
    have h2 := s8 s hs
    unfold upW bt at h1
    rw [wrap_small (by omega) (by omega)] at h1
    omega
  · have h1 := (h s hs i hi).2 k hk
    have a1 := s8 _ (two_lt hs hi)
    have a2 := s8 _ (two_lt hs hk)
    have a3 := s8 _ (Nat.or_lt_two_pow (two_lt hs hi) (two_lt hs hk))
    have a4 := s8 _ (Nat.lt_of_le_of_lt Nat.and_le_left (two_lt hs hi) : (s ||| 2 ^ i) &&& (s ||| 2 ^ k) < 2 ^ n)
    unfold locW bt at h1
    rw [wrap_small (by omega) (by omega), wrap_small (by omega) (by omega)] at h1
    omega

set_option maxRecDepth 100000 in
set_option maxHeartbeats 4000000 in
theorem OfRanks_ref (m : Nat) (v : Value) (zs : List Int) (w : World) (hm : m ≤ 8) (hl : zs.length = 2 ^ m) (h : Ints w v zs) :
    Calls Try.prog 38 #[.int .i64 m, v] w (BoolM w (qOf (RkZ m (zs.getD · 0))) m (bigS ((List.range (2 ^ m)).filter fun s => zs.getD s 0 == (pop s : Int)))) := by
  have HI := hid h
  obtain ⟨a, cap, rfl, hlen, hc⟩ := h
  obtain ⟨T, HT, hT2, hT0⟩ : ∃ T : Nat, Hid (T = 2 ^ m) ∧ T ≤ 256 ∧ 1 ≤ T := ⟨2 ^ m, rfl, (pow_wrap _ hm).2, Nat.one_le_two_pow⟩
  rw [← HT.out] at hl
  obtain ⟨q, HQ⟩ : ∃ q, Hid (qOf (RkZ m (zs.getD · 0)) = q) := ⟨_, rfl⟩
  rw [HQ.out]
  obtain ⟨b, off, rfl, hb, hcell⟩ := hc (by omega)
  have HLN := hid hl
  have U := hid (fun (hn : RkZ m (zs.getD · 0)) s i hs hi => rkz_up hm hn (s := s) (i := i) hs hi)
  have V := hid (fun (hn : RkZ m (zs.getD · 0)) s i k hs hi hk => rkz_loc hm hn (s := s) (i := i) (k := k) hs hi hk)
  have Y := hid (rkz_of (n := m) (f := (zs.getD · 0)) hm)
  have Z := hid (fun (hn : RkZ m (zs.getD · 0)) => hn.zero)
  have RQ := hid (fun s w' (hs : s < T) (hW : At2 w (.slice (some ⟨b, off, none⟩) zs.length cap) w') => OfRkQ s w.heap.size T (.slice (some ⟨b, off, none⟩) zs.length cap) zs w' hT2 hs hl (by have := hW.2.2.2; omega) hW.box (hW.ints HI.out))
  rw [← HT.out] at U V Y
  rw [hl] at *
  have A0 := hid (At2.new w (.slice (some ⟨b, off, none⟩) T cap))
  obtain ⟨f, HFF⟩ : ∃ f : Nat → Int, Hid ((fun s => zs.getD s 0) = f) := ⟨_, rfl⟩
  have HFX : Hid (∀ s, zs.getD s 0 = f s) := fun s => congrFun HFF.out s
  have hcf : ∀ i, i < T → w.cell? ⟨b, off + i, none⟩ = some (.int .i64 (f i)) := fun i hi => by rw [← HFX.out]; exact hcell i hi
  rw [HFF.out] at U V Y HQ Z
  have Z' : Hid (f 0 ≠ 0 → q = 3) := fun h9 => HQ.out.symm.trans (qOf_neg fun hn => h9 ((HFX.out 0).symm.trans (Z.out hn)))
  clear hcell hc hlen hl Z
  generalize hbs : (bigS ((List.range (2 ^ m)).filter fun s => zs.getD s 0 == (pop s : Int))) = BS
  have HBS := hid hbs
  clear hbs
  have h00 : w.cell? ⟨b, off, none⟩ = some (.int .i64 (f 0)) := hcf 0 (by omega)
  by_cases hz0 : f 0 = 0
  · have HZ := hid hz0
    rw [hz0] at h00
    clear Z' hz0
    go_enter Try.func38, Try.ntmps38
    have h01 := A0.out.cell hb h00
    go_wp2_with fail
    generalize (w.alloc _).alloc _ = w1 at *
    go_loopw [6] (fun i wr => ∃ k : Nat, k ≤ T ∧ i = .int .i64 k ∧ Hid (∀ s, s < k → ∀ i, i < m → upW f s i ∧ ∀ k, k < m → locW f s i k) ∧ Hid (At2 w (.slice (some ⟨b, off, none⟩) T cap) wr)) (fun i _ => T - (intOf i).toNat)
    case atStart => exact ⟨0, Nat.zero_le _, rfl, fun i h => absurd h (by omega), A0⟩
    case round =>
      obtain ⟨s, hs, rfl, G1, A1⟩ := hrel
      have bx1 := A1.out.box
      by_cases hlt1 : s < T
      · go_wp2_with fail
        go_loopw [7] (fun i wr => ∃ j : Nat, j ≤ m ∧ i = .int .i64 j ∧ Hid (∀ i, i < j → upW f s i ∧ ∀ k, k < m → locW f s i k) ∧ Hid (At2 w (.slice (some ⟨b, off, none⟩) T cap) wr)) (fun i _ => m - (intOf i).toNat)
        case atStart => exact ⟨0, Nat.zero_le _, rfl, fun i h => absurd h (by omega), A1⟩
        case round =>
          rename World => wr2
          obtain ⟨i, hi, rfl, G2, A2⟩ := hrel
          by_cases hlt2 : i < m
          · have bx2 := A2.out.box
            have hi8 : bt i < 256 := bt_lt (by omega)
            have HSI : wrap64 (2 ^ i) = (bt i : Int) := (pow_wrap i (by omega)).1
            have o1 : bits .or .i64 (s : Int) (bt i : Int) = ((s ||| bt i : Nat) : Int) := i64_or_nat _ _ (by omega) (by omega)
            have l1 : s ||| bt i < T := by rw [HT.out]; rw [HT.out] at hlt1; exact ad_lt hlt1 hlt2
            have UP : Hid (upW f s i ↔ ¬ f (s ||| bt i) < f s ∧ ¬ wrap64 (f s + 1) < f (s ||| bt i)) := Iff.rfl
            have NU : Hid (¬ upW f s i → q = 3) := fun h9 => HQ.out.symm.trans (qOf_neg fun hn => h9 (U.out hn s i hlt1 hlt2))
            have NL : Hid (∀ k, k < m → ¬ locW f s i k → q = 3) := fun k hk h9 => HQ.out.symm.trans (qOf_neg fun hn => h9 (V.out hn s i k hlt1 hlt2 hk))
            have LO : Hid (∀ k, locW f s i k ↔ ¬ wrap64 (f (s ||| bt i) + f (s ||| bt k)) < wrap64 (f ((s ||| bt i) ||| (s ||| bt k)) + f ((s ||| bt i) &&& (s ||| bt k)))) := fun _ => Iff.rfl
            generalize s ||| bt i = A at *
            have ca : ∀ x9 : Later wr2, x9.now.cell? ⟨b, off + A, none⟩ = some (.int .i64 (f A)) := fun x9 => (A2.out.on x9.kept).cell hb (hcf A l1)
            have cs : ∀ x9 : Later wr2, x9.now.cell? ⟨b, off + s, none⟩ = some (.int .i64 (f s)) := fun x9 => (A2.out.on x9.kept).cell hb (hcf s hlt1)
            have bx : ∀ x9 : Later wr2, x9.now.cell? ⟨w.heap.size, 0, none⟩ = some (.slice (some ⟨b, off, none⟩) T cap) := fun x9 => (A2.out.on x9.kept).box
            obtain ⟨fa, HFA⟩ : ∃ fa, Hid (f A = fa) := ⟨_, rfl⟩
            obtain ⟨fs, HFS⟩ : ∃ fs, Hid (f s = fs) := ⟨_, rfl⟩
            obtain ⟨f1, HF1⟩ : ∃ f1, wrap64 (fs + 1) = f1 := ⟨_, rfl⟩
            rw [HFA.out] at ca UP LO
            rw [HFS.out] at cs UP
            rw [HF1] at UP
            by_cases h1 : fa < fs
            · have h1' : decide (fa < fs) = true := by simpa using h1
              have Q3 := hid (NU.out (fun h9 => (UP.out.1 h9).1 h1))
              clear UP NU NL LO
              go_wp2_with fail
              refine region_later (by kernel_rfl) (by kernel_rfl) ?_
              repeat (go_big_quiet_step (fail))
              refine wpQuiet_nil ?_
              intro w6 hw'
              obtain ⟨⟨y6, hb6⟩, hw''⟩ := hw'
              dsimp only at hw''
              subst hw''
              have A9 := hid (A2.out.on hb6)
              clear hb6 ca cs bx
              obtain ⟨y0, y1, g0, g1⟩ := A9.out.cells
              go_wp2_with fail
              obtain ⟨⟨c0, c1⟩, hD⟩ := A9.out.end (.int .i64 0) (.slice none 0 0)
              refine bodyPost_ret (v := .tuple #[.agg #[.int .i64 0, .slice none 0 0], .bool false]) ?_ rfl (BoolM.no Q3.out hD)
              simp [results, Try.f38, go_sem, c0, c1]
            have h1' : decide (fa < fs) = false := by simpa using h1
            by_cases h2 : f1 < fa
            · have h2' : decide (f1 < fa) = true := by simpa using h2
              have Q3 := hid (NU.out (fun h9 => (UP.out.1 h9).2 h2))
              clear UP NU NL LO
              go_wp2_with fail
              refine region_later (by kernel_rfl) (by kernel_rfl) ?_
              repeat (go_big_quiet_step (fail))
              refine wpQuiet_nil ?_
              intro w6 hw'
              obtain ⟨⟨y6, hb6⟩, hw''⟩ := hw'
              dsimp only at hw''
              subst hw''
              have A9 := hid (A2.out.on hb6)
              clear hb6 ca cs bx
              obtain ⟨y0, y1, g0, g1⟩ := A9.out.cells
              go_wp2_with fail
              obtain ⟨⟨c0, c1⟩, hD⟩ := A9.out.end (.int .i64 0) (.slice none 0 0)
              refine bodyPost_ret (v := .tuple #[.agg #[.int .i64 0, .slice none 0 0], .bool false]) ?_ rfl (BoolM.no Q3.out hD)
              simp [results, Try.f38, go_sem, c0, c1]
            have h2' : decide (f1 < fa) = false := by simpa using h2
            have UU := hid (UP.out.2 ⟨h1, h2⟩)
            clear UP NU h1 h2
            go_wp2_with fail
            refine region_later (by kernel_rfl) (by kernel_rfl) ?_
            repeat (go_big_quiet_step (fail))
            refine wpQuiet_nil ?_
            intro w6 hw'
            obtain ⟨⟨y6, hb6⟩, hw''⟩ := hw'
            dsimp only at hw''
            subst hw''
            have A9 := hid (A2.out.on hb6)
            clear hb6 ca cs bx
            go_wp2_with fail
            clear HF1 h1' h2'
            go_loopw [9] (fun k wr => ∃ z : Nat, z ≤ m ∧ k = .int .i64 z ∧ Hid (∀ k, k < z → locW f s i k) ∧ Hid (At2 w (.slice (some ⟨b, off, none⟩) T cap) wr)) (fun k _ => m - (intOf k).toNat)
            case atStart => exact ⟨0, Nat.zero_le _, rfl, fun k h => absurd h (by omega), A9⟩
            case round =>
              rename World => wr3
              obtain ⟨k, hk, rfl, G3, A3⟩ := hrel
              by_cases hlt3 : k < m
              · have hk8 : bt k < 256 := bt_lt (Nat.lt_of_lt_of_le hlt3 hm)
                have HSK : wrap64 (2 ^ k) = (bt k : Int) := (pow_wrap k (Nat.le_trans (Nat.le_of_lt hlt3) hm)).1
                have o2 : bits .or .i64 (s : Int) (bt k : Int) = ((s ||| bt k : Nat) : Int) := i64_or_nat s (bt k) (Nat.lt_of_lt_of_le hlt1 (Nat.le_trans hT2 (by decide))) (Nat.lt_trans hk8 (by decide))
                have l2 : s ||| bt k < T := by rw [HT.out]; rw [HT.out] at hlt1; exact ad_lt hlt1 hlt3
                have LK := hid (LO.out k)
                have NK := hid (NL.out k hlt3)
                generalize s ||| bt k = B at *
                have l3 : A ||| B < T := by rw [HT.out] at l1 l2 ⊢; exact Nat.or_lt_two_pow l1 l2
                have l4 : A &&& B < T := Nat.lt_of_le_of_lt Nat.and_le_left l1
                have o3 : bits .or .i64 (A : Int) (B : Int) = ((A ||| B : Nat) : Int) := i64_or_nat A B (Nat.lt_of_lt_of_le l1 (Nat.le_trans hT2 (by decide))) (Nat.lt_of_lt_of_le l2 (Nat.le_trans hT2 (by decide)))
                have o4 : bits .and .i64 (A : Int) (B : Int) = ((A &&& B : Nat) : Int) := i64_and_nat A B (Nat.lt_of_lt_of_le l1 (Nat.le_trans hT2 (by decide))) (Nat.lt_of_lt_of_le l2 (Nat.le_trans hT2 (by decide)))
                generalize A ||| B = C at *
                generalize A &&& B = D at *
                have ca : ∀ x9 : Later wr3, x9.now.cell? ⟨b, off + A, none⟩ = some (.int .i64 (f A)) := fun x9 => (A3.out.on x9.kept).cell hb (hcf A l1)
                have cb : ∀ x9 : Later wr3, x9.now.cell? ⟨b, off + B, none⟩ = some (.int .i64 (f B)) := fun x9 => (A3.out.on x9.kept).cell hb (hcf B l2)
                have cc : ∀ x9 : Later wr3, x9.now.cell? ⟨b, off + C, none⟩ = some (.int .i64 (f C)) := fun x9 => (A3.out.on x9.kept).cell hb (hcf C l3)
                have cd : ∀ x9 : Later wr3, x9.now.cell? ⟨b, off + D, none⟩ = some (.int .i64 (f D)) := fun x9 => (A3.out.on x9.kept).cell hb (hcf D l4)
                have bx : ∀ x9 : Later wr3, x9.now.cell? ⟨w.heap.size, 0, none⟩ = some (.slice (some ⟨b, off, none⟩) T cap) := fun x9 => (A3.out.on x9.kept).box
                obtain ⟨fb, HFB⟩ : ∃ fb, Hid (f B = fb) := ⟨_, rfl⟩
                obtain ⟨fc, HFC⟩ : ∃ fc, Hid (f C = fc) := ⟨_, rfl⟩
                obtain ⟨fd, HFD⟩ : ∃ fd, Hid (f D = fd) := ⟨_, rfl⟩
                obtain ⟨u1, HU1⟩ : ∃ u1, wrap64 (fa + fb) = u1 := ⟨_, rfl⟩
                obtain ⟨u2, HU2⟩ : ∃ u2, wrap64 (fc + fd) = u2 := ⟨_, rfl⟩
                rw [HFA.out] at ca
                rw [HFB.out] at cb LK
                rw [HFC.out] at cc LK
                rw [HFD.out] at cd LK
                rw [HU1, HU2] at LK
                by_cases h3 : u1 < u2
                · have h3' : decide (u1 < u2) = true := by simpa using h3
                  have Q3 := hid (NK.out (fun h9 => Int.not_lt.2 (LK.out.1 h9) h3))
                  clear LK NK LO NL
                  go_wp2_with fail
                  refine region_later (by kernel_rfl) (by kernel_rfl) ?_
                  repeat (go_big_quiet_step (fail))
                  refine wpQuiet_nil ?_
                  intro w6 hw'
                  obtain ⟨⟨y6, hb6⟩, hw''⟩ := hw'
                  dsimp only at hw''
                  subst hw''
                  have A9 := hid (A3.out.on hb6)
                  clear hb6 ca cb cc cd bx HU1 HU2
                  obtain ⟨y0, y1, g0, g1⟩ := A9.out.cells
                  go_wp2_with fail
                  obtain ⟨⟨c0, c1⟩, hD⟩ := A9.out.end (.int .i64 0) (.slice none 0 0)
                  refine bodyPost_ret (v := .tuple #[.agg #[.int .i64 0, .slice none 0 0], .bool false]) ?_ rfl (BoolM.no Q3.out hD)
                  simp [results, Try.f38, go_sem, c0, c1]
                · have h3' : decide (u1 < u2) = false := by simpa using h3
                  have HG := hid (LK.out.2 (Int.not_lt.1 h3))
                  clear LK NK LO NL h3
                  go_wp2_with fail
                  refine region_later (by kernel_rfl) (by kernel_rfl) ?_
                  repeat (go_big_quiet_step (fail))
                  refine wpQuiet_nil ?_
                  intro w6 hw'
                  obtain ⟨⟨y6, hb6⟩, hw''⟩ := hw'
                  dsimp only at hw''
                  subst hw''
                  have A9 := hid (A3.out.on hb6)
                  clear hb6 ca cb cc cd bx HU1 HU2
                  go_wp2_with fail
                  go_roundw
                  case rel => exact ⟨k + 1, by omega, by go_num, fun k' hk' => (Nat.lt_succ_iff_lt_or_eq.1 hk').elim (G3.out k') (fun e => e ▸ HG.out), A9⟩
                  case measure => simp [intOf]; omega
              · go_wp2_with fail
                go_roundw
                case rel => exact ⟨i + 1, by omega, by go_num, fun i' hi' => (Nat.lt_succ_iff_lt_or_eq.1 hi').elim (fun h => G2.out i' h) (fun e => e ▸ ⟨UU.out, fun k' hk' => G3.out k' (by omega)⟩), A3⟩
                case measure => simp [intOf]; omega
          · go_wp2_with fail
            go_roundw
            case rel => exact ⟨s + 1, by omega, by go_num, fun s' hs' i' hi' => (Nat.lt_succ_iff_lt_or_eq.1 hs').elim (fun h => G1.out s' h i' hi') (fun e => e ▸ G2.out i' (by omega)), A2⟩
            case measure => simp [intOf]; omega
      · have Q0 : Hid (q = 0) := HQ.out.symm.trans (qOf_pos (Y.out ((HFX.out 0).trans HZ.out) fun s' hs' => G1.out s' (by omega)))
        have TH := hid (Those_any m 84 #[.pointer (some ⟨w.heap.size, 0, none⟩)] (fun s => zs.getD s 0 == (pop s : Int)) wr hm (fun args w => enters_of Try.func84 (by kernel_rfl) rfl args w)
          (fun x hx w3 hb3 hs3 => (RQ.out x w3 (by rw [HT.out]; exact hx) (A1.out.on (hb3.mono (Nat.le_refl _))))))
        obtain ⟨K, HK⟩ : ∃ K, Hid ((List.range (2 ^ m)).filter (fun s => zs.getD s 0 == (pop s : Int)) = K) := ⟨_, rfl⟩
        have KF : Hid (Fam m K) := by show Fam m K; rw [← HK.out]; exact Fam.range m _
        rw [HK.out] at TH
        have KE : Hid (BS = bigS K) := by show _ = _; rw [← HBS.out, HK.out]
        go_wp2_with fail
        refine TH.out.mono ?_
        rintro e w4 ⟨r4, rfl, hr4, hb4⟩
        have A4 := hid (A1.out.on hb4)
        have BG := hid (biggest_any _ K w4 (KF.out.lt256 hm) (Nat.le_trans (fam_len hm KF.out) (by decide)) (hr4.ints (len_of hm KF.out)))
        rw [big_eq] at BG
        obtain ⟨ra, rc, hr⟩ := ownsRow_form' hr4
        subst hr
        clear hb4 hr4
        go_wp2_with fail
        refine BG.out.mono ?_
        rintro e w5 ⟨r5, rfl, hr5, hb5⟩
        obtain ⟨rb, rd, hr⟩ := ownsRow_form' hr5
        subst hr
        have A5 := hid (A4.out.on hb5)
        have HO := hid (hr5.mono A4.out.2.2.2)
        have HE := hid (BoolM.yes2 (n := m) Q0.out (Nat.le_trans (big_len K) (len_of hm KF.out)) HO.out A5.out)
        obtain ⟨y0, y1, g0, g1⟩ := A5.out.cells
        clear hb5 hr5
        rw [← KE.out] at HE
        obtain ⟨nn, HNN⟩ : ∃ nn, Hid ((bigS K).length = nn) := ⟨_, rfl⟩
        rw [← KE.out] at HNN
        rw [← KE.out, HNN.out]
        rw [HNN.out] at HE
        go_wp2_with fail
        obtain ⟨⟨c0, c1⟩, hD⟩ := A5.out.end (.int .i64 m) (.slice rb nn rd)
        refine bodyPost_ret (v := .tuple #[.agg #[.int .i64 m, .slice rb nn rd], .bool true]) ?_ rfl HE.out
        simp [results, Try.f38, go_sem, c0, c1]
  · have Q3 := hid (Z'.out hz0)
    have hz0' : (f 0 != 0) = true := by simpa using hz0
    generalize f 0 = f0 at *
    obtain ⟨w1, hw1⟩ : ∃ w1, (w.alloc (.cells #[.slice (some ⟨b, off, none⟩) T cap] 22)).alloc (.cells #[.int .i64 0, .slice none 0 0] 24) = w1 := ⟨_, rfl⟩
    rw [hw1] at A0
    have h01 := A0.out.cell hb h00
    have bx1 := A0.out.box
    obtain ⟨y0, y1, g0, g1⟩ := A0.out.cells
    go_enter Try.func38, Try.ntmps38
    go_wp2_with fail
    trace_state
    obtain ⟨⟨c0, c1⟩, hD⟩ := A0.out.end (.int .i64 0) (.slice none 0 0)
    refine bodyPost_ret (v := .tuple #[.agg #[.int .i64 0, .slice none 0 0], .bool false]) ?_ rfl (BoolM.no Q3.out hD)
    simp [results, Try.f38, go_sem, c0, c1]
end Go.Proofs.Ythbldeloocmakaa
