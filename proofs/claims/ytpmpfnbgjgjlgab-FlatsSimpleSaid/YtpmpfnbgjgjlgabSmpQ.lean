/- minors.Simple. -/
import Derived.Test.YtpmpfnbgjgjlgabClsQ
import Derived.Test.YtpmpfnbgjgjlgabDelConQ
namespace Go.Proofs.Ytpmpfnbgjgjlgab
open Go.RowKit

/-- What Simple takes away: of each class all but the least, a loop's class whole. -/
def goneL (r : Nat → Nat) (L : List Nat) : Nat := L.foldl (fun g c => if 0 < r c then dif (g ||| c) (bt (tz c)) else g ||| c) 0
theorem goneL_snoc (r : Nat → Nat) (L : List Nat) (c : Nat) : goneL r (L ++ [c]) = if 0 < r c then dif (goneL r L ||| c) (bt (tz c)) else goneL r L ||| c := by unfold goneL; rw [List.foldl_append]; rfl
theorem goneL_lt' {m : Nat} (r : Nat → Nat) : ∀ (L : List Nat) (g : Nat), g < 2 ^ m → (∀ c ∈ L, c < 2 ^ m) → L.foldl (fun g c => if 0 < r c then dif (g ||| c) (bt (tz c)) else g ||| c) g < 2 ^ m
  | [], _, hg, _ => hg
  | c :: L, g, hg, hc => by
    have h2 : g ||| c < 2 ^ m := Nat.or_lt_two_pow hg (hc c (by simp))
    rw [List.foldl_cons]
    refine goneL_lt' r L _ ?_ fun d hd => hc d (by simp [hd])
    split
    · exact lt_of_bits fun j hj => by rw [dif_bit, Bool.and_eq_true] at hj; exact bit_n h2 hj.1
    · exact h2
theorem goneL_lt {m : Nat} (r : Nat → Nat) (L : List Nat) (hc : ∀ c ∈ L, c < 2 ^ m) : goneL r L < 2 ^ m := goneL_lt' r L 0 (Nat.two_pow_pos m) hc
theorem prts_sub {T : Nat → Nat → Bool} {rest : Nat} {L : List Nat} (h : Prts T rest L) : rest < 256 → ∀ c ∈ L, 0 < c ∧ subB c rest = true := by
  induction h with
  | nil => intro _ c hc; cases hc
  | @cons rest L h0 h ih =>
    intro h8 c hc
    rw [List.mem_cons] at hc
    rcases hc with rfl | hc
    · refine ⟨?_, partR_sub h8 (by omega)⟩
      have hb := partR_bit (T := T) h8 (tz rest)
      rcases Nat.eq_zero_or_pos (partR T rest) with e | e
      · rw [e] at hb; simp at hb
      · exact e
    · have := ih (dif_lt h8) c hc
      refine ⟨this.1, subB_iff.2 fun i hi => ?_⟩
      have := subB_iff.1 this.2 i hi
      rw [dif_bit, Bool.and_eq_true] at this
      exact this.1
theorem ClsS.mem {m : Nat} {r : Nat → Nat} {L' : List Nat} (hm : m ≤ 8) (h : ClsS m r L') : ∀ c ∈ L', 0 < c ∧ c < 2 ^ m := by
  obtain ⟨L, hP, hp, _⟩ := h
  intro c hc
  have hF : 2 ^ m - 1 < 2 ^ m := by have := Nat.two_pow_pos m; omega
  have := prts_sub hP (lt256 hm hF) c (hp.mem_iff.1 hc)
  exact ⟨this.1, lt_of_bits fun j hj => bit_n hF (subB_iff.1 this.2 j hj)⟩
theorem prts_len {T : Nat → Nat → Bool} {rest : Nat} {L : List Nat} (h : Prts T rest L) : rest < 256 → L.length ≤ pop rest := by
  induction h with
  | nil => intro _; simp
  | @cons rest L h0 h ih =>
    intro h8
    have h1 := ih (dif_lt h8)
    have hb := partR_bit (T := T) h8 (tz rest)
    have h2 := pop_less (p := partR T rest) h8 (tz_bit rest h8 (by omega)) (by rw [hb]; simp)
    rw [List.length_cons]
    omega
theorem ClsS.len {m : Nat} {r : Nat → Nat} {L' : List Nat} (hm : m ≤ 8) (h : ClsS m r L') : L'.length ≤ 8 := by
  obtain ⟨L, hP, hp, _⟩ := h
  have hF : 2 ^ m - 1 < 2 ^ m := by have := Nat.two_pow_pos m; omega
  rw [hp.length_eq]
  exact Nat.le_trans (prts_len hP (lt256 hm hF)) (pop_le _ (lt256 hm hF))
theorem Ints.cellsX {w : World} {a : Option Addr} {cap : Nat} {o : List Nat} (h : Ints w (.slice a o.length cap) (N o)) (h0 : 0 < o.length) : ∃ b off, a = some ⟨b, off, none⟩ ∧ b < w.heap.size ∧ ∀ i, i < o.length → w.cell? ⟨b, off + i, none⟩ = some (.int .i64 (o.getD i 0 : Nat)) := by
  obtain ⟨a', c, he, _, hc⟩ := h.nats
  injection he with h1 h2 h3
  subst h1
  exact hc h0
set_option maxRecDepth 20000 in
set_option maxHeartbeats 1600000 in
theorem Simple_ok (m : Nat) (v : Value) (l : List Nat) (w : World) (hm : m ≤ 8) (hf : Fam m l) (hb : Bas l) (h : Ints w v (N l)) :
    Calls Try.prog 19 #[.agg #[.int .i64 m, v]] w fun e w' => ∃ L', ClsS m (rk l) L' ∧ GivesO w (pop (dif (2 ^ m - 1) (goneL (rk l) L')) : Nat) (minL m l (goneL (rk l) L') 0) e w' := by
  have HI := hid (fun w' (hb' : Below w.heap.size w w') => h.below hb')
  obtain ⟨a, cap, hv, _, _⟩ := h.nats
  subst hv
  have HB0 := hid (boxM_below w m (.slice a l.length cap))
  have HX : Hid (∀ w2, Below (boxM w m (.slice a l.length cap)).heap.size (boxM w m (.slice a l.length cap)) w2 → _) := fun w2 h => boxM_blocks h
  have HS := hid (boxM_size w m (.slice a l.length cap))
  have RK := hid (Ranks_ok m _ l _ hm hf hb (HI.out _ HB0.out))
  have DE := hid (fun w' (hb' : Below w.heap.size w w') s hs => Delete_ok m s _ l w' hm hf hb (HI.out _ hb') hs)
  go_enter Try.func19, Try.ntmps19
  go_wp2_with fail
  refine RK.out.mono ?_
  rintro e w1 ⟨r1, rfl, hr1, hb1⟩
  obtain ⟨hx0, hx1⟩ := HX.out w1 hb1
  have HR1 := hid hr1
  have HB1 := hid (HB0.out.trans (hb1.mono HB0.out.size))
  have hs1 := hb1.size
  have CA := hid (classes_any m r1 (rk l) w1 hm hr1)
  obtain ⟨rb, roff, rcap, rfl, hrb, hrc⟩ := hr1
  have HRC := hid hrc
  have X1 := hid (And.intro hx0 hx1)
  obtain ⟨y0, y1, _, _⟩ := two_cells hx0
  clear hb1 hrc
  go_wp2_with fail
  refine CA.out.mono ?_
  rintro e w2 ⟨q2, L', rfl, hc, ho2, hb2⟩
  have HC := hid hc
  have HMEM := hid (hc.mem hm)
  have HB2 := hid hb2
  have HO2 := hid ho2
  have hL8 := hc.len hm
  have hcl := (ho2.ints (by omega)).nats
  obtain ⟨qa, qc, hq2⟩ := ho2.form
  subst hq2
  have HCL := hid (fun h0 => (ho2.ints (by omega)).cellsX h0)
  clear hc ho2 hb2 hx0 hx1 y0 y1 hcl
  obtain ⟨T, HT⟩ : ∃ T, Hid (2 ^ m = T) := ⟨2 ^ m, Eq.refl (2 ^ m)⟩
  have hT256 : T ≤ 256 := by rw [← HT.out]; exact (pow_wrap m hm).2
  have HLT : Hid (∀ k, goneL (rk l) (L'.take k) < T) := fun k => by rw [← HT.out]; exact goneL_lt (rk l) _ fun c hc => (HMEM.out c (List.mem_of_mem_take hc)).2
  rw [HT.out] at HMEM HRC ⊢
  go_wp2_with fail
  go_loop [6, 23] (fun g i => ∃ k : Nat, k ≤ L'.length ∧ i = .int .i64 k ∧ g = .int .i64 (goneL (rk l) (L'.take k) : Nat)) (fun _ i => L'.length - (intOf i).toNat)
  case atStart => exact ⟨0, Nat.zero_le _, rfl, rfl⟩
  case round =>
    obtain ⟨k, hk, rfl, rfl⟩ := hrel
    by_cases hlt : k < L'.length
    · have HLTk := hid hlt
      have hki : (k : Int) < (L'.length : Int) := by omega
      obtain ⟨qb, qoff, rfl, hqb, hqc⟩ := HCL.out (by omega)
      have hck := hqc k hlt
      have hmem : L'.getD k 0 ∈ L' := by simp only [List.getD, List.getElem?_eq_getElem hlt, Option.getD_some]; exact List.getElem_mem _
      obtain ⟨hc0, hcT⟩ := HMEM.out _ hmem
      have hrk := (HB2.out.cell (p := ⟨rb, roff + L'.getD k 0, none⟩) hrb).trans (HRC.out _ hcT)
      have SN := hid (goneL_snoc (rk l) (L'.take k) (L'.getD k 0))
      rw [← take_snoc hlt] at SN
      have hgT := HLT.out k
      have LO := hid (fun w' => low_any (L'.getD k 0) w' (by omega) hc0)
      have hor : bits .or .i64 ((goneL (rk l) (L'.take k) : Nat) : Int) ((L'.getD k 0 : Nat) : Int) = ((goneL (rk l) (L'.take k) ||| L'.getD k 0 : Nat) : Int) := i64_or_nat _ _ (by omega) (by omega)
      have hz8 : goneL (rk l) (L'.take k) ||| L'.getD k 0 < 256 := or_lt (by omega) (by omega)
      have hbt := bt_lt (tz_lt (L'.getD k 0) (by omega) hc0)
      have hand : bits .andNot .i64 ((goneL (rk l) (L'.take k) ||| L'.getD k 0 : Nat) : Int) (bt (tz (L'.getD k 0)) : Int) = ((dif (goneL (rk l) (L'.take k) ||| L'.getD k 0) (bt (tz (L'.getD k 0))) : Nat) : Int) := i64_andNot_nat _ _ (by omega) (by omega)
      have hci : ((L'.getD k 0 : Nat) : Int) < (T : Int) := by omega
      clear hqc hmem
      generalize goneL (rk l) (L'.take k) = g at *
      generalize L'.getD k 0 = c at *
      generalize bt (tz c) = bz at *
      generalize g ||| c = z at *
      generalize dif z bz = d at *
      by_cases h0 : 0 < rk l c
      · rw [if_pos h0] at SN
        generalize rk l c = rc at *
        have hd : decide ((0 : Int) < (rc : Int)) = true := by simp; omega
        have hd2 : decide (0 < rc) = true := by simp [h0]
        go_wp2_with fail
        refine (LO.out _).mono ?_
        rintro e w' ⟨rfl, hw'⟩
        obtain rfl := hw'.symm
        go_wp2_with fail
        go_round
        case rel => exact ⟨k + 1, by have := HLTk.out; omega, by go_num, by rw [SN.out]⟩
        case measure => have := HLTk.out; simp [intOf]; omega
      · rw [if_neg h0] at SN
        generalize rk l c = rc at *
        obtain rfl : rc = 0 := by omega
        go_wp2_with fail
        go_round
        case rel => exact ⟨k + 1, by have := HLTk.out; omega, by go_num, by rw [SN.out]⟩
        case measure => have := HLTk.out; simp [intOf]; omega
    · obtain rfl : k = L'.length := by omega
      have hgT := HLT.out L'.length
      rw [List.take_length] at hgT ⊢
      have X2 := hid (And.intro ((HB2.out.block _ (by have := HS.out; omega)).trans X1.out.1) ((HB2.out.block _ (by have := HS.out; omega)).trans X1.out.2))
      have B2 := hid (HB1.out.trans (HB2.out.mono HB1.out.size))
      have DE2 := hid (DE.out _ B2.out _ (by rw [HT.out]; exact hgT))
      obtain ⟨y0, y1, _, _⟩ := two_cells X2.out.1
      have HCS := hid (fun w' e h => (⟨L', HC.out, h⟩ : ∃ L', ClsS m (rk l) L' ∧ GivesO w (pop (dif (2 ^ m - 1) (goneL (rk l) L')) : Nat) (minL m l (goneL (rk l) L') 0) e w'))
      generalize pop (dif (2 ^ m - 1) (goneL (rk l) L')) = n2 at *
      generalize minL m l (goneL (rk l) L') 0 = acc at *
      generalize goneL (rk l) L' = g at *
      go_wp2_with fail
      refine DE2.out.mono ?_
      rintro e w4 ⟨r4, rfl, hr4, hb4⟩
      have hx1 := (hb4.block _ (by have := HS.out; have := HB2.out.size; omega)).trans X2.out.2
      have HB4 := hid (B2.out.trans (hb4.mono B2.out.size))
      obtain ⟨ra, rc, hr⟩ := ownsRow_form' hr4
      subst hr
      have HC4 := hid (set_two (x := .int .i64 n2) (y := .slice ra acc.length rc) hx1)
      have HD := hid (below_two (b := w.heap.size + 1) (x := .int .i64 n2) (y := .slice ra acc.length rc) HB4.out (by omega))
      have HII := hid ((hr4.set2 (b := w.heap.size + 1) (x := .int .i64 n2) (y := .slice ra acc.length rc) (by have := HS.out; have := HB2.out.size; omega)).mono (by have := HS.out; have := HB2.out.size; omega : w.heap.size ≤ _))
      obtain ⟨y2, y3, g2, g3⟩ := two_cells hx1
      clear hb4 hr4 hx1
      go_wp2_with fail
      obtain ⟨c0, c1⟩ := HC4.out
      refine bodyPost_ret (v := .tuple #[.agg #[.int .i64 n2, .slice ra _ rc], .int .i64 0]) ?_ rfl (HCS.out _ _ ⟨_, rfl, HII.out, HD.out⟩)
      simp [results, Try.f19, go_sem, c0, c1]
end Go.Proofs.Ytpmpfnbgjgjlgab
