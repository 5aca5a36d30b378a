/- axioms.OfRanks, whatever is handed in. -/
import Derived.Test.YthbldeloocmakaaMadeAny3Q
namespace Go.Proofs.Ythbldeloocmakaa
open Go.RowKit

/-- What OfRanks asks. -/
def rankZ (zs : List Int) (T s : Nat) : Bool := zs.getD s 0 == (pop s : Int) && zs.getD s 0 == zs.getD (T - 1) 0
theorem OfRanksZ_ok (s bx T : Nat) (v : Value) (zs : List Int) (w : World) (hT : T ≤ 256) (hs : s < T) (hz : zs.length = T) (hbx : w.cell? ⟨bx, 0, none⟩ = some v) (h : Ints w v zs) :
    Calls Try.prog 82 #[.int .i64 s, .pointer (some ⟨bx, 0, none⟩)] w fun e w' => e = .returned (.bool (rankZ zs T s)) ∧ Below w.heap.size w w' := by
  obtain ⟨a, cap, rfl, _, h0⟩ := h
  obtain ⟨b, off, rfl, h1, h2⟩ := h0 (by omega)
  rw [hz] at h2 hbx
  have hc := h2 s hs
  have hc2 := h2 (T - 1) (by omega)
  have HS := hid (fun w' => size_any s w' (by omega))
  obtain ⟨t, Ht⟩ : ∃ t : Nat, Hid (T - 1 = t) := ⟨_, rfl⟩
  have hti : (T : Int) - 1 = (t : Int) := by have := Ht.out; omega
  have htT : t < T := by have := Ht.out; omega
  unfold rankZ
  rw [Ht.out] at hc2 ⊢
  clear h2 Ht h0
  generalize zs.getD s 0 = x at *
  generalize zs.getD t 0 = y at *
  generalize pop s = p at *
  by_cases hq : x = (p : Int)
  · subst hq
    go_enter Try.func82, Try.ntmps82
    go_wp2_with fail
    go_quiet ((go_at_call 83; refine (HS.out _).mono ?_; rintro e w' ⟨rfl, rfl⟩; exact ⟨rfl, _, rfl⟩))
    go_wp2_with fail
    go_ret
    exact ⟨ret_bool (by rw [Bool.eq_iff_iff]; simp), drewN_below _ _ _⟩
  · have hq' : (x == (p : Int)) = false := by rw [beq_eq_false_iff_ne]; omega
    rw [hq']
    go_enter Try.func82, Try.ntmps82
    go_wp2_with fail
    go_quiet ((go_at_call 83; refine (HS.out _).mono ?_; rintro e w' ⟨rfl, rfl⟩; exact ⟨rfl, _, rfl⟩))
    go_wp2_with fail
    go_ret
    exact ⟨ret_bool rfl, drewN_below _ _ _⟩
/-- The bases by the ranks. -/
def basZ (m : Nat) (zs : List Int) : List Nat := (List.range (2 ^ m)).filter (rankZ zs (2 ^ m))

set_option maxHeartbeats 1600000 in
theorem OfRk_any (m : Nat) (u : Value) (zs0 : List Int) (w : World) (hm : m ≤ 8) (hl : zs0.length = 2 ^ m) (h : Ints w u zs0) :
    Calls Try.prog 37 #[.int .i64 m, u] w (MakesI w (madeE m (basZ m zs0) (N ((List.range (2 ^ m)).map (rk (basZ m zs0)))) zs0) m (basZ m zs0)) := by
  have HUI := hid h
  obtain ⟨a, rcap, rfl, _, h0⟩ := h
  obtain ⟨rb, roff, rfl, _, _⟩ := h0 (by rw [hl]; exact Nat.two_pow_pos m)
  clear h0
  have EG : Hid (Enters 20) := fun args w => enters_of Try.func20 (by kernel_rfl) rfl args w
  have HKL : Hid ((basZ m zs0).length ≤ 17592186044416) := Nat.le_trans (fam_len hm (Fam.range m _)) (by decide : 256 ≤ 17592186044416)
  have AI := hid (all_rk (K := basZ m zs0) hm)
  have HK := hid (setsCheck_any m 0)
  have HK0 : Hid (setR m 0 = 0) := by
    show _ = _
    unfold setR
    rw [if_pos ⟨by omega, by omega, by omega, by rw [Int.toNat_natCast]; exact Int.pow_pos (by decide)⟩]
  rw [HK0.out] at HK
  have HLS : Hid ((List.range (2 ^ m)).filter (rankZ zs0 (2 ^ m)) = basZ m zs0) := rfl
  obtain ⟨T, HT, hT2, hT⟩ : ∃ T : Nat, Hid (T = 2 ^ m) ∧ T ≤ 256 ∧ wrap64 (2 ^ m) = (T : Int) := ⟨2 ^ m, rfl, (pow_wrap _ hm).2, (pow_wrap _ hm).1⟩
  rw [← HT.out] at HLS AI hl ⊢
  rw [hl] at HUI ⊢
  generalize basZ m zs0 = K at *
  generalize N ((List.range T).map (rk K)) = zs at *
  have c0 := (cellN w (.slice (some ⟨rb, roff, none⟩) T rcap) 22).1
  have c1 := cellA (.cells #[.int .i64 0, .slice none 0 0] 24) c0
  have HB0 : Hid (Below w.heap.size w ((w.alloc (.cells #[.slice (some ⟨rb, roff, none⟩) T rcap] 22)).alloc (.cells #[.int .i64 0, .slice none 0 0] 24))) := ((Below.refl _ _).alloc (Nat.le_refl _) _).alloc (by simp) _
  clear c0
  go_enter Try.func37, Try.ntmps37
  go_wp2_with fail
  go_quiet ((go_at_call 67; refine (HK.out _).mono ?_; rintro e w' ⟨rfl, rfl⟩; exact ⟨rfl, _, rfl⟩))
  go_wp2_with fail
  have b0 : Hid (((w.alloc (.cells #[.slice (some ⟨rb, roff, none⟩) T rcap] 22)).alloc (.cells #[.int .i64 0, .slice none 0 0] 24)).heap[w.heap.size + 1]? = some (.cells #[.int .i64 0, .slice none 0 0] 24 (0, 0))) := by
    have := World.alloc_heap_new (w.alloc (.cells #[.slice (some ⟨rb, roff, none⟩) T rcap] 22)) (.cells #[.int .i64 0, .slice none 0 0] 24)
    rwa [World.size_alloc] at this
  have hz : ((w.alloc (.cells #[.slice (some ⟨rb, roff, none⟩) T rcap] 22)).alloc (.cells #[.int .i64 0, .slice none 0 0] 24)).heap.size = w.heap.size + 2 := by simp
  have HBQ := hid (HB0.out.trans (drewN_below w.heap.size _ nq))
  have bq : Hid ((((w.alloc (.cells #[.slice (some ⟨rb, roff, none⟩) T rcap] 22)).alloc (.cells #[.int .i64 0, .slice none 0 0] 24)).drewN nq).heap[w.heap.size + 1]? = some (.cells #[.int .i64 0, .slice none 0 0] 24 (0, 0))) := b0.out
  have hzq : (((w.alloc (.cells #[.slice (some ⟨rb, roff, none⟩) T rcap] 22)).alloc (.cells #[.int .i64 0, .slice none 0 0] 24)).drewN nq).heap.size = w.heap.size + 2 := hz
  have cq : (((w.alloc (.cells #[.slice (some ⟨rb, roff, none⟩) T rcap] 22)).alloc (.cells #[.int .i64 0, .slice none 0 0] 24)).drewN nq).cell? ⟨w.heap.size, 0, none⟩ = some (.slice (some ⟨rb, roff, none⟩) T rcap) := by rw [World.cell?_drewN]; exact c1
  clear b0 hz c1 HB0
  revert HBQ bq hzq cq
  generalize (((w.alloc (.cells #[.slice (some ⟨rb, roff, none⟩) T rcap] 22)).alloc (.cells #[.int .i64 0, .slice none 0 0] 24)).drewN nq) = W0
  intro HBQ bq hzq cq
  have HSV := hid (Sieve_at m T 82 HT.out #[.pointer (some ⟨w.heap.size, 0, none⟩)] (rankZ zs0 T) W0 hm (fun args w => enters_of Try.func82 (by kernel_rfl) rfl args w)
    (fun x hx w1 hb1 _ => OfRanksZ_ok x w.heap.size T _ zs0 w1 hT2 hx hl ((hb1.cell (p := ⟨w.heap.size, 0, none⟩) (by show w.heap.size < _; omega)).trans cq) ((HUI.out.below HBQ.out).below hb1)))
  rw [HLS.out] at HSV
  refine HSV.out.mono ?_
  rintro e w2 ⟨r, rfl, ho, hb2⟩
  have HX1 := hid ((hb2.block _ (by omega)).trans bq.out)
  have cq2 := (hb2.cell (p := ⟨w.heap.size, 0, none⟩) (by show w.heap.size < _; omega)).trans cq
  have hs2 : w.heap.size + 1 < w2.heap.size := by have := hb2.size; omega
  have HB := hid (HBQ.out.trans (hb2.mono HBQ.out.size))
  have HR := hid (ho.ints HKL.out)
  have HO := hid ho
  obtain ⟨a3, cap3, hr, _, _⟩ := HR.out.nats
  subst hr
  have MA := hid (made_any AI.out EG.out HR.out (HUI.out.below HB.out))
  clear hb2 ho cq
  by_cases hq : madeE m K zs zs0 = 0
  · rw [if_pos hq] at MA
    have HQ := hid hq
    go_wp2_with fail
    refine MA.out.mono ?_
    rintro e w4 ⟨rfl, hb4⟩
    have H4 := hid ((hb4.block _ hs2).trans HX1.out)
    have HB4 := hid (HB.out.trans (hb4.mono HB.out.size))
    have HS := hid (set_two (x := .int .i64 m) (y := .slice a3 K.length cap3) H4.out)
    have HD := hid (below_two (b := w.heap.size + 1) (x := .int .i64 m) (y := .slice a3 K.length cap3) HB4.out (by omega))
    have HRR := hid (((HO.out.below hb4).set2 (b := w.heap.size + 1) (x := .int .i64 m) (y := .slice a3 K.length cap3) (by omega)).ints HKL.out)
    obtain ⟨y2, y3, g2, g3⟩ := two_cells H4.out
    clear hb4
    go_wp2_with fail
    obtain ⟨c0, c1⟩ := HS.out
    refine bodyPost_ret (v := .tuple #[.agg #[.int .i64 m, .slice a3 K.length cap3], .int .i64 0]) ?_ rfl ⟨fun _ => ⟨_, rfl, HRR.out, HD.out⟩, fun e => absurd HQ.out e⟩
    simp [results, Try.f37, go_sem, c0, c1]
  · rw [if_neg hq] at MA
    have HQ : Hid (madeE m K zs zs0 = 3) := madeE_three hq
    go_wp2_with fail
    refine MA.out.mono ?_
    rintro e w4 ⟨rfl, hb4⟩
    have H4 := hid ((hb4.block _ hs2).trans HX1.out)
    have HB4 := hid (HB.out.trans (hb4.mono HB.out.size))
    have HS := hid (set_two (x := .int .i64 0) (y := .slice none 0 0) H4.out)
    have HD := hid (below_two (b := w.heap.size + 1) (x := .int .i64 0) (y := .slice none 0 0) HB4.out (by omega))
    obtain ⟨y2, y3, g2, g3⟩ := two_cells H4.out
    clear hb4
    go_wp2_with fail
    obtain ⟨c0, c1⟩ := HS.out
    refine bodyPost_ret (v := .tuple #[.agg #[.int .i64 0, .slice none 0 0], .int .i64 3]) ?_ rfl ⟨fun e => absurd (HQ.out.symm.trans e) (by decide), fun _ => ⟨by rw [HQ.out], HD.out⟩⟩
    simp [results, Try.f37, go_sem, c0, c1]
end Go.Proofs.Ythbldeloocmakaa
