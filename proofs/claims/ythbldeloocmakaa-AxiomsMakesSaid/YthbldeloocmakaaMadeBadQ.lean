/- The calls of package axioms that make a matroid, where what is handed in is no family. -/
import Derived.Test.YthbldeloocmakaaMadeAny4Q
import Derived.Test.YthbldeloocmakaaBlockQ
namespace Go.Proofs.Ythbldeloocmakaa
open Go.RowKit

theorem famR_one {n : Int} {zs : List Int} (h : famR n zs ≠ 0) : famR n zs = 1 := by
  unfold famR at h ⊢
  split
  · rename_i c; rw [if_pos c] at h; exact absurd rfl h
  · rfl
theorem OfInd_arg (n : Int) (u : Value) (zs : List Int) (w : World) (h : Ints w u zs) (hf : famR n zs ≠ 0) :
    Calls Try.prog 28 #[.int .i64 n, u] w (MakesI w 1 n []) := by
  have HU := hid h
  obtain ⟨a, cap, hv, _, _⟩ := h
  subst hv
  have HB0 := hid (below_box w #[.int .i64 0, .slice none 0 0])
  have HC := hid (Most_bad n _ zs _ (HU.out.below HB0.out) hf)
  go_enter Try.func28, Try.ntmps28
  go_wp2_with fail
  refine HC.out.mono ?_
  rintro e w2 ⟨rfl, hw2⟩
  have hb2 : Below (w.alloc (.cells #[.int .i64 0, .slice none 0 0] 24)).heap.size (w.alloc (.cells #[.int .i64 0, .slice none 0 0] 24)) w2 := by rw [hw2]; exact Below.refl _ _
  clear hw2
  have HX := hid (box1 hb2)
  have HB := hid (HB0.out.trans (hb2.mono HB0.out.size))
  have HS := hid (set_two (x := .int .i64 0) (y := .slice none 0 0) HX.out.1)
  have HD := hid (below_two (b := w.heap.size) (x := .int .i64 0) (y := .slice none 0 0) HB.out (Nat.le_refl _))
  obtain ⟨y2, y3, g2, g3⟩ := two_cells HX.out.1
  clear hb2
  go_wp2_with fail
  obtain ⟨c0, c1⟩ := HS.out
  refine bodyPost_ret (v := .tuple #[.agg #[.int .i64 0, .slice none 0 0], .int .i64 1]) ?_ rfl ⟨fun e => absurd e (by decide), fun _ => ⟨rfl, HD.out⟩⟩
  simp [results, Try.f28, go_sem, c0, c1]
theorem OfCir_arg (n : Int) (u : Value) (zs : List Int) (w : World) (h : Ints w u zs) (hf : famR n zs ≠ 0) :
    Calls Try.prog 29 #[.int .i64 n, u] w (MakesI w 1 n []) := by
  have HU := hid h
  obtain ⟨a, cap, hv, _, _⟩ := h
  subst hv
  have HB0 := hid (below_box w #[.int .i64 0, .slice none 0 0])
  have HC := hid (Blocker_bad n _ zs _ (HU.out.below HB0.out) hf)
  go_enter Try.func29, Try.ntmps29
  go_wp2_with fail
  refine HC.out.mono ?_
  rintro e w2 ⟨rfl, hb2⟩
  have HX := hid (box1 hb2)
  have HB := hid (HB0.out.trans (hb2.mono HB0.out.size))
  have HS := hid (set_two (x := .int .i64 0) (y := .slice none 0 0) HX.out.1)
  have HD := hid (below_two (b := w.heap.size) (x := .int .i64 0) (y := .slice none 0 0) HB.out (Nat.le_refl _))
  obtain ⟨y2, y3, g2, g3⟩ := two_cells HX.out.1
  clear hb2
  go_wp2_with fail
  obtain ⟨c0, c1⟩ := HS.out
  refine bodyPost_ret (v := .tuple #[.agg #[.int .i64 0, .slice none 0 0], .int .i64 1]) ?_ rfl ⟨fun e => absurd e (by decide), fun _ => ⟨rfl, HD.out⟩⟩
  simp [results, Try.f29, go_sem, c0, c1]
theorem OfFlat_arg (n : Int) (u : Value) (zs : List Int) (w : World) (h : Ints w u zs) (hf : famR n zs ≠ 0) :
    Calls Try.prog 30 #[.int .i64 n, u] w (MakesI w 1 n []) := by
  have HU := hid h
  obtain ⟨a, cap, hv, _, _⟩ := h
  subst hv
  have HB0 := hid (below_box w #[.int .i64 0, .slice none 0 0])
  have HC := hid (family_any n _ zs _ (HU.out.below HB0.out))
  rw [famR_one hf] at HC
  go_enter Try.func30, Try.ntmps30
  go_wp2_with fail
  refine HC.out.mono ?_
  rintro e w2 ⟨rfl, hw2⟩
  have hb2 : Below (w.alloc (.cells #[.int .i64 0, .slice none 0 0] 24)).heap.size (w.alloc (.cells #[.int .i64 0, .slice none 0 0] 24)) w2 := by rw [hw2]; exact Below.refl _ _
  clear hw2
  have HX := hid (box1 hb2)
  have HB := hid (HB0.out.trans (hb2.mono HB0.out.size))
  have HS := hid (set_two (x := .int .i64 0) (y := .slice none 0 0) HX.out.1)
  have HD := hid (below_two (b := w.heap.size) (x := .int .i64 0) (y := .slice none 0 0) HB.out (Nat.le_refl _))
  obtain ⟨y2, y3, g2, g3⟩ := two_cells HX.out.1
  clear hb2
  go_wp2_with fail
  obtain ⟨c0, c1⟩ := HS.out
  refine bodyPost_ret (v := .tuple #[.agg #[.int .i64 0, .slice none 0 0], .int .i64 1]) ?_ rfl ⟨fun e => absurd e (by decide), fun _ => ⟨rfl, HD.out⟩⟩
  simp [results, Try.f30, go_sem, c0, c1]
theorem OfHyp_arg (n : Int) (u : Value) (zs : List Int) (w : World) (h : Ints w u zs) (hf : famR n zs ≠ 0) :
    Calls Try.prog 31 #[.int .i64 n, u] w (MakesI w 1 n []) := by
  have HU := hid h
  obtain ⟨a, cap, hv, _, _⟩ := h
  subst hv
  have HB0 := hid (below_box w #[.int .i64 0, .slice none 0 0])
  have HC := hid (family_any n _ zs _ (HU.out.below HB0.out))
  rw [famR_one hf] at HC
  go_enter Try.func31, Try.ntmps31
  go_wp2_with fail
  refine HC.out.mono ?_
  rintro e w2 ⟨rfl, hw2⟩
  have hb2 : Below (w.alloc (.cells #[.int .i64 0, .slice none 0 0] 24)).heap.size (w.alloc (.cells #[.int .i64 0, .slice none 0 0] 24)) w2 := by rw [hw2]; exact Below.refl _ _
  clear hw2
  have HX := hid (box1 hb2)
  have HB := hid (HB0.out.trans (hb2.mono HB0.out.size))
  have HS := hid (set_two (x := .int .i64 0) (y := .slice none 0 0) HX.out.1)
  have HD := hid (below_two (b := w.heap.size) (x := .int .i64 0) (y := .slice none 0 0) HB.out (Nat.le_refl _))
  obtain ⟨y2, y3, g2, g3⟩ := two_cells HX.out.1
  clear hb2
  go_wp2_with fail
  obtain ⟨c0, c1⟩ := HS.out
  refine bodyPost_ret (v := .tuple #[.agg #[.int .i64 0, .slice none 0 0], .int .i64 1]) ?_ rfl ⟨fun e => absurd e (by decide), fun _ => ⟨rfl, HD.out⟩⟩
  simp [results, Try.f31, go_sem, c0, c1]
theorem OfRk_arg1 (n : Int) (u : Value) (zs : List Int) (w : World) (h : Ints w u zs) (hn : n < 0 ∨ 8 < n) :
    Calls Try.prog 37 #[.int .i64 n, u] w (MakesI w 1 n []) := by
  obtain ⟨a, rcap, rfl, _, _⟩ := h
  have HK := hid (setsCheck_any n 0)
  have HK0 : Hid (setR n 0 = 1) := by
    show _ = _
    unfold setR
    rw [if_neg (by omega)]
  rw [HK0.out] at HK
  have HB0 : Hid (Below w.heap.size w ((w.alloc (.cells #[.slice a zs.length rcap] 22)).alloc (.cells #[.int .i64 0, .slice none 0 0] 24))) := ((Below.refl _ _).alloc (Nat.le_refl _) _).alloc (by simp) _
  go_enter Try.func37, Try.ntmps37
  go_wp2_with fail
  go_quiet ((go_at_call 67; refine (HK.out _).mono ?_; rintro e w' ⟨rfl, rfl⟩; exact ⟨rfl, _, rfl⟩))
  have b0 : Hid (((w.alloc (.cells #[.slice a zs.length rcap] 22)).alloc (.cells #[.int .i64 0, .slice none 0 0] 24)).heap[w.heap.size + 1]? = some (.cells #[.int .i64 0, .slice none 0 0] 24 (0, 0))) := by
    have := World.alloc_heap_new (w.alloc (.cells #[.slice a zs.length rcap] 22)) (.cells #[.int .i64 0, .slice none 0 0] 24)
    rwa [World.size_alloc] at this
  have HBQ := hid (HB0.out.trans (drewN_below w.heap.size _ nq))
  have bq : Hid ((((w.alloc (.cells #[.slice a zs.length rcap] 22)).alloc (.cells #[.int .i64 0, .slice none 0 0] 24)).drewN nq).heap[w.heap.size + 1]? = some (.cells #[.int .i64 0, .slice none 0 0] 24 (0, 0))) := b0.out
  clear b0 HB0
  revert HBQ bq
  generalize (((w.alloc (.cells #[.slice a zs.length rcap] 22)).alloc (.cells #[.int .i64 0, .slice none 0 0] 24)).drewN nq) = W0
  intro HBQ bq
  have HS := hid (set_two (x := .int .i64 0) (y := .slice none 0 0) bq.out)
  have HD := hid (below_two (b := w.heap.size + 1) (x := .int .i64 0) (y := .slice none 0 0) HBQ.out (by omega))
  obtain ⟨y2, y3, g2, g3⟩ := two_cells bq.out
  go_wp2_with fail
  obtain ⟨c0, c1⟩ := HS.out
  refine bodyPost_ret (v := .tuple #[.agg #[.int .i64 0, .slice none 0 0], .int .i64 1]) ?_ rfl ⟨fun e => absurd e (by decide), fun _ => ⟨rfl, HD.out⟩⟩
  simp [results, Try.f37, go_sem, c0, c1]
theorem OfRk_arg2 (m : Nat) (u : Value) (zs : List Int) (w : World) (hm : m ≤ 8) (h : Ints w u zs) (hl : zs.length ≠ 2 ^ m) :
    Calls Try.prog 37 #[.int .i64 m, u] w (MakesI w 1 m []) := by
  obtain ⟨a, rcap, rfl, _, _⟩ := h
  have HK := hid (setsCheck_any m 0)
  have HK0 : Hid (setR m 0 = 0) := by
    show _ = _
    unfold setR
    rw [if_pos ⟨by omega, by omega, by omega, by rw [Int.toNat_natCast]; exact Int.pow_pos (by decide)⟩]
  rw [HK0.out] at HK
  obtain ⟨T, HT, hT2, hT⟩ : ∃ T : Nat, Hid (T = 2 ^ m) ∧ T ≤ 256 ∧ wrap64 (2 ^ m) = (T : Int) := ⟨2 ^ m, rfl, (pow_wrap _ hm).2, (pow_wrap _ hm).1⟩
  have hne : ((zs.length : Int) != (T : Int)) = true := by rw [bne_iff_ne]; have := HT.out; omega
  have hne2 : ((zs.length : Int) == (T : Int)) = false := by rw [beq_eq_false_iff_ne]; have := HT.out; omega
  have HB0 : Hid (Below w.heap.size w ((w.alloc (.cells #[.slice a zs.length rcap] 22)).alloc (.cells #[.int .i64 0, .slice none 0 0] 24))) := ((Below.refl _ _).alloc (Nat.le_refl _) _).alloc (by simp) _
  go_enter Try.func37, Try.ntmps37
  go_wp2_with fail
  go_quiet ((go_at_call 67; refine (HK.out _).mono ?_; rintro e w' ⟨rfl, rfl⟩; exact ⟨rfl, _, rfl⟩))
  have b0 : Hid (((w.alloc (.cells #[.slice a zs.length rcap] 22)).alloc (.cells #[.int .i64 0, .slice none 0 0] 24)).heap[w.heap.size + 1]? = some (.cells #[.int .i64 0, .slice none 0 0] 24 (0, 0))) := by
    have := World.alloc_heap_new (w.alloc (.cells #[.slice a zs.length rcap] 22)) (.cells #[.int .i64 0, .slice none 0 0] 24)
    rwa [World.size_alloc] at this
  have HBQ := hid (HB0.out.trans (drewN_below w.heap.size _ nq))
  have bq : Hid ((((w.alloc (.cells #[.slice a zs.length rcap] 22)).alloc (.cells #[.int .i64 0, .slice none 0 0] 24)).drewN nq).heap[w.heap.size + 1]? = some (.cells #[.int .i64 0, .slice none 0 0] 24 (0, 0))) := b0.out
  clear b0 HB0
  revert HBQ bq
  generalize (((w.alloc (.cells #[.slice a zs.length rcap] 22)).alloc (.cells #[.int .i64 0, .slice none 0 0] 24)).drewN nq) = W0
  intro HBQ bq
  have HS := hid (set_two (x := .int .i64 0) (y := .slice none 0 0) bq.out)
  have HD := hid (below_two (b := w.heap.size + 1) (x := .int .i64 0) (y := .slice none 0 0) HBQ.out (by omega))
  obtain ⟨y2, y3, g2, g3⟩ := two_cells bq.out
  go_wp2_with fail
  obtain ⟨c0, c1⟩ := HS.out
  refine bodyPost_ret (v := .tuple #[.agg #[.int .i64 0, .slice none 0 0], .int .i64 1]) ?_ rfl ⟨fun e => absurd e (by decide), fun _ => ⟨rfl, HD.out⟩⟩
  simp [results, Try.f37, go_sem, c0, c1]
end Go.Proofs.Ythbldeloocmakaa
