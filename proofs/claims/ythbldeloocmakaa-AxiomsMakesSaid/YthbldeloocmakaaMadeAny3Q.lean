/- axioms.OfFlats, whatever family is handed in. -/
import Derived.Test.YthbldeloocmakaaMadeAny2Q
namespace Go.Proofs.Ythbldeloocmakaa
open Go.RowKit

theorem take_below {t : Nat} {l : List Nat} (h : l.Pairwise (· < ·)) : l.take (l.filter (· < t)).length = l.filter (· < t) := by
  induction l with
  | nil => rfl
  | cons x l ih =>
    rw [List.pairwise_cons] at h
    by_cases hx : x < t
    · rw [List.filter_cons_of_pos (by simpa using hx)]
      simp [ih h.2]
    · rw [List.filter_cons_of_neg (by simpa using hx)]
      have : l.filter (· < t) = [] := List.filter_eq_nil_iff.2 fun y hy => by
        have := h.1 y hy
        simp
        omega
      rw [this]
      rfl
/-- The bases by the flats: the least sets that lie in none but that of all. -/
def basFl (m : Nat) (l : List Nat) : List Nat := blk m (cmp m (l.filter (· < 2 ^ m - 1)))
set_option maxHeartbeats 1600000 in
theorem OfFlat_any (m : Nat) (u : Value) (l : List Nat) (w : World) (hm : m ≤ 8) (hf : Fam m l) (h : Ints w u (N l)) (hcap : ∀ a L cap, u = .slice a L cap → L ≤ cap) :
    Calls Try.prog 30 #[.int .i64 m, u] w (MakesI w (madeE m (basFl m l) (N (flatL m (basFl m l))) (N l)) m (basFl m l)) := by
  have HU := hid h
  obtain ⟨a, cap, hv, _, _⟩ := h.nats
  subst hv
  have hcp := hcap _ _ _ rfl
  clear hcap
  have HB0 := hid (below_box w #[.int .i64 0, .slice none 0 0])
  have EG : Hid (Enters 21) := fun args w => enters_of Try.func21 (by kernel_rfl) rfl args w
  have HA := hid (family_any m _ (N l) _ (HU.out.below HB0.out))
  rw [fam_mk hm hf] at HA
  obtain ⟨T, HT, hT2, hT, hT0⟩ : ∃ T : Nat, Hid (T = 2 ^ m) ∧ T ≤ 256 ∧ wrap64 (2 ^ m) = (T : Int) ∧ 1 ≤ T := ⟨2 ^ m, rfl, (pow_wrap _ hm).2, (pow_wrap _ hm).1, Nat.one_le_two_pow⟩
  obtain ⟨t, Ht⟩ : ∃ t : Nat, Hid (T - 1 = t) := ⟨_, rfl⟩
  have hti : (T : Int) - 1 = (t : Int) := by have := Ht.out; omega
  have HBN := hid (Bin_any _ l t _ (fam_len hm hf) hf.up (HU.out.below HB0.out))
  have HTK := hid (take_below (t := t) hf.up)
  have HKF := hid (show basFl m l = blk m (cmp m (l.filter (· < t))) by unfold basFl; rw [← HT.out, Ht.out])
  have HFL : Hid (Fam m (l.filter (· < t))) := ⟨hf.up.sublist List.filter_sublist, fun s hs => hf.lt s (List.mem_filter.1 hs).1⟩
  have HTK2 : Hid ((l.filter (· < t)).length ≤ l.length) := List.length_filter_le _ _
  have HC := hid (fun w1 (hb1 : Below w.heap.size w w1) => leastOut_ok m _ _ w1 hm HFL.out (by have := (HU.out.below hb1).take HTK2.out; rw [HTK.out] at this; exact this))
  rw [← HKF.out] at HC
  have HKL : Hid ((basFl m l).length ≤ 17592186044416) := by
    show _ ≤ _
    rw [HKF.out]
    exact Nat.le_trans (fam_len hm (Fam.range m _)) (by decide : 256 ≤ 17592186044416)
  have AI := hid (all_flat (K := basFl m l) hm)
  clear HTK HFL HKF
  generalize basFl m l = K at *
  generalize N (flatL m K) = zs at *
  generalize (l.filter (· < t)).length = k at *
  have hk1 := HTK2.out
  generalize memB t l = mb at *
  go_enter Try.func30, Try.ntmps30
  go_wp2_with fail
  refine HA.out.mono ?_
  rintro e w1 ⟨rfl, rfl⟩
  go_wp2_with fail
  refine HBN.out.mono ?_
  rintro e w1 ⟨rfl, hb1⟩
  have HB1 := hid hb1
  have HC1 := hid (HC.out w1 (HB0.out.trans (hb1.mono HB0.out.size)))
  clear hb1
  go_wp2_with fail
  refine HC1.out.mono ?_
  rintro e w2 ⟨r, rfl, ho', hb2'⟩
  have hb2 := HB1.out.trans (hb2'.mono HB1.out.size)
  have ho := ho'.mono HB1.out.size
  clear hb2' ho'
  have HX := hid (box1 hb2)
  have HB := hid (HB0.out.trans (hb2.mono HB0.out.size))
  have HR := hid (ho.ints HKL.out)
  have HO := hid ho
  obtain ⟨a3, cap3, hr, _, _⟩ := HR.out.nats
  subst hr
  have MA := hid (made_any AI.out EG.out HR.out (HU.out.below HB.out))
  clear hb2 ho
  by_cases hq : madeE m K zs (N l) = 0
  · rw [if_pos hq] at MA
    have HQ := hid hq
    go_wp2_with fail
    refine MA.out.mono ?_
    rintro e w4 ⟨rfl, hb4⟩
    have H4 := hid ((hb4.block _ HX.out.2).trans HX.out.1)
    have HB4 := hid (HB.out.trans (hb4.mono HB.out.size))
    have HS := hid (set_two (x := .int .i64 m) (y := .slice a3 K.length cap3) H4.out)
    have HD := hid (below_two (b := w.heap.size) (x := .int .i64 m) (y := .slice a3 K.length cap3) HB4.out (Nat.le_refl _))
    have HRR := hid (((HO.out.below hb4).set2 (b := w.heap.size) (x := .int .i64 m) (y := .slice a3 K.length cap3) (by simp)).ints HKL.out)
    obtain ⟨y2, y3, g2, g3⟩ := two_cells H4.out
    clear hb4
    go_wp2_with fail
    obtain ⟨c0, c1⟩ := HS.out
    refine bodyPost_ret (v := .tuple #[.agg #[.int .i64 m, .slice a3 K.length cap3], .int .i64 0]) ?_ rfl ⟨fun _ => ⟨_, rfl, HRR.out, HD.out⟩, fun e => absurd HQ.out e⟩
    simp [results, Try.f30, go_sem, c0, c1]
  · rw [if_neg hq] at MA
    have HQ : Hid (madeE m K zs (N l) = 3) := madeE_three hq
    go_wp2_with fail
    refine MA.out.mono ?_
    rintro e w4 ⟨rfl, hb4⟩
    have H4 := hid ((hb4.block _ HX.out.2).trans HX.out.1)
    have HB4 := hid (HB.out.trans (hb4.mono HB.out.size))
    have HS := hid (set_two (x := .int .i64 0) (y := .slice none 0 0) H4.out)
    have HD := hid (below_two (b := w.heap.size) (x := .int .i64 0) (y := .slice none 0 0) HB4.out (Nat.le_refl _))
    obtain ⟨y2, y3, g2, g3⟩ := two_cells H4.out
    clear hb4
    go_wp2_with fail
    obtain ⟨c0, c1⟩ := HS.out
    refine bodyPost_ret (v := .tuple #[.agg #[.int .i64 0, .slice none 0 0], .int .i64 3]) ?_ rfl ⟨fun e => absurd (HQ.out.symm.trans e) (by decide), fun _ => ⟨by rw [HQ.out], HD.out⟩⟩
    simp [results, Try.f30, go_sem, c0, c1]
end Go.Proofs.Ythbldeloocmakaa
