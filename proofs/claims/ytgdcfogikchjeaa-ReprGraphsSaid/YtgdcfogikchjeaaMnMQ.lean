/- same.Minor. -/
import Derived.Test.YtgdcfogikchjeaaMnCQ
namespace Go.Proofs.Ytgdcfogikchjeaa
open Go.RowKit

theorem find_rest {α : Type} {f : Nat → Option α} {T i : Nat} (h : i < T) : ((List.range T).drop i).findSome? f = (f i).or (((List.range T).drop (i + 1)).findSome? f) := by
  rw [range_drop h, List.findSome?_cons]
  cases f i <;> rfl
set_option maxRecDepth 20000 in
set_option maxHeartbeats 2000000 in
theorem Minor_ok (m k : Nat) (v u : Value) (l l' : List Nat) (w : World) (hm : m ≤ 8) (hf : Fam m l) (hb : Bas l) (h : Ints w v (N l)) (hk : k ≤ 8) (hf' : Fam k l') (hb' : Bas l') (h' : Ints w u (N l')) :
    Calls Try.prog 35 #[.agg #[.int .i64 m, v], .agg #[.int .i64 k, u]] w fun e w' => e = .returned (.tuple #[.int .i64 (((minO m l k l').getD (0, 0)).1 : Nat), .int .i64 (((minO m l k l').getD (0, 0)).2 : Nat), .int .i64 (minE (minO m l k l'))]) ∧ Below w.heap.size w w' := by
  have B0 := box2_below w m v k u
  have HS0 := hid (box2_size w m v k u)
  have C1 := hid (fun w' (hb' : Below w.heap.size w w') => check_any m v (N l) w' (h.below hb'))
  have C2 := hid (fun w' (hb' : Below w.heap.size w w') => check_any k u (N l') w' (h'.below hb'))
  rw [chk_mk hm hf hb] at C1
  rw [chk_mk hk hf' hb'] at C2
  have CN := hid (fun d w' (hd : d < 2 ^ m) (hb0 : Below w.heap.size w w') => contraction_ok m k d v u l l' w' hm hf hb (h.below hb0) hk hf' hb' (h'.below hb0) hd)
  have HB0 := hid B0
  have HX : Hid (∀ w2, Below (box2 w m v k u).heap.size (box2 w m v k u) w2 → _) := fun w2 h => box2_blocks h
  obtain ⟨T, HT, hT2, hT⟩ : ∃ T : Nat, Hid (2 ^ m = T) ∧ T ≤ 256 ∧ wrap64 (2 ^ m) = (T : Int) := ⟨2 ^ m, Eq.refl (2 ^ m), (pow_wrap _ hm).2, (pow_wrap _ hm).1⟩
  have HM : Hid (minO m l k l' = ((List.range T).drop 0).findSome? fun d => (conO m l k l' d).map fun c => (d, c)) := by show _ = _; rw [← HT.out, List.drop_zero]; rfl
  have hpw : IntKind.i64.wrap (2 ^ m) = (T : Int) := by rw [show (2 : Int) ^ m = ((2 ^ m : Nat) : Int) by simp, HT.out]; exact wrap_i64_nat _ (by omega)
  obtain ⟨a0, cap, hv, -, -⟩ := h.nats
  obtain ⟨a1, cap1, hu, -, -⟩ := h'.nats
  subst hv
  subst hu
  clear hf hb hf' hb' h h' B0
  generalize minO m l k l' = MO at *
  rw [HT.out] at CN
  obtain ⟨y0, y1⟩ := HX.out _ (Below.refl _ _)
  obtain ⟨x0, x1⟩ := cells2 y0
  obtain ⟨x2, x3⟩ := cells2 y1
  have hw2 : (w.alloc (.cells #[.int .i64 m, .slice a0 l.length cap] 33)).alloc (.cells #[.int .i64 k, .slice a1 l'.length cap1] 33) = box2 w m (.slice a0 l.length cap) k (.slice a1 l'.length cap1) := rfl
  generalize hW2 : box2 w m (.slice a0 l.length cap) k (.slice a1 l'.length cap1) = W2 at *
  go_enter Try.func35, Try.ntmps35
  go_wp2_with fail
  have b3 : Below W2.heap.size W2 (W2.alloc (.cells #[.int .i64 m, .slice a0 l.length cap, .int .i64 k, .slice a1 l'.length cap1] 33)) := (Below.refl _ _).alloc (Nat.le_refl _) _
  have y3 := World.alloc_heap_new W2 (.cells #[.int .i64 m, .slice a0 l.length cap, .int .i64 k, .slice a1 l'.length cap1] 33)
  have z3 := World.size_alloc W2 (.cells #[.int .i64 m, .slice a0 l.length cap, .int .i64 k, .slice a1 l'.length cap1] 33)
  revert b3 y3 z3
  generalize W2.alloc (.cells #[.int .i64 m, .slice a0 l.length cap, .int .i64 k, .slice a1 l'.length cap1] 33) = W3
  intro b3 y3 z3
  have B3 := hid (HB0.out.trans (b3.mono HB0.out.size))
  have hs3 : W3.heap.size = w.heap.size + 3 := by rw [z3, HS0.out]
  have Y0 := hid ((b3.block w.heap.size (by rw [HS0.out]; omega)).trans y0)
  have Y1 := hid ((b3.block (w.heap.size + 1) (by rw [HS0.out]; omega)).trans y1)
  have Y3 : Hid (W3.heap[w.heap.size + 2]? = some (.cells #[.int .i64 m, .slice a0 l.length cap, .int .i64 k, .slice a1 l'.length cap1] 33 (0, 0))) := by
    have := y3
    rwa [HS0.out] at this
  rw [HS0.out]
  clear b3 y3 z3 y0 y1 x0 x1 x2 x3 hw2 HB0 HX HS0 hW2
  go_loopw [8, 9, 17] (fun _ _ j wr => ∃ i : Nat, i ≤ 2 ∧ j = .int .i64 i ∧ Hid (Below W3.heap.size W3 wr)) (fun _ _ j _ => 2 - (intOf j).toNat)
  case atStart => exact ⟨0, by decide, rfl, Below.refl _ _⟩
  case round =>
    obtain ⟨i, hi, rfl, HWr⟩ := hrel
    have BWr := hid (B3.out.trans (HWr.out.mono B3.out.size))
    have hbk := (HWr.out.block (w.heap.size + 2) (by omega)).trans Y3.out
    have g0 : wr.cell? ⟨w.heap.size + 2, 0, none⟩ = some (.int .i64 m) := by simp [World.cell?, hbk]
    have g1 : wr.cell? ⟨w.heap.size + 2, 1, none⟩ = some (.slice a0 l.length cap) := by simp [World.cell?, hbk]
    have g2 : wr.cell? ⟨w.heap.size + 2, 2, none⟩ = some (.int .i64 k) := by simp [World.cell?, hbk]
    have g3 : wr.cell? ⟨w.heap.size + 2, 3, none⟩ = some (.slice a1 l'.length cap1) := by simp [World.cell?, hbk]
    clear hbk
    rcases show i = 0 ∨ i = 1 ∨ i = 2 by omega with rfl | rfl | rfl
    · have z0 := g0
      have z1 := g1
      have bx : Below wr.heap.size wr (wr.alloc (.cells #[.int .i64 m, .slice a0 l.length cap] 33)) := (Below.refl _ _).alloc (Nat.le_refl _) _
      have K1 := hid (C1.out _ (BWr.out.trans (bx.mono BWr.out.size)))
      have HWx := hid (HWr.out.trans (bx.mono HWr.out.size))
      clear bx CN g0 g1 g2 g3
      go_wp2_with fail
      refine K1.out.mono ?_
      rintro e w4 ⟨rfl, hb4⟩
      have HW4 := hid (HWx.out.trans (hb4.mono HWx.out.size))
      clear hb4 K1
      go_wp2_with fail
      go_roundw
      case rel => exact ⟨0 + 1, by decide, by rfl, HW4⟩
      case measure => simp [intOf]
    · have z0 := g2
      have z1 := g3
      have bx : Below wr.heap.size wr (wr.alloc (.cells #[.int .i64 k, .slice a1 l'.length cap1] 33)) := (Below.refl _ _).alloc (Nat.le_refl _) _
      have K1 := hid (C2.out _ (BWr.out.trans (bx.mono BWr.out.size)))
      have HWx := hid (HWr.out.trans (bx.mono HWr.out.size))
      clear bx CN g0 g1 g2 g3
      go_wp2_with fail
      refine K1.out.mono ?_
      rintro e w4 ⟨rfl, hb4⟩
      have HW4 := hid (HWx.out.trans (hb4.mono HWx.out.size))
      clear hb4 K1
      go_wp2_with fail
      go_roundw
      case rel => exact ⟨1 + 1, by decide, by rfl, HW4⟩
      case measure => simp [intOf]
    · obtain ⟨x0, x1⟩ := cells2 ((HWr.out.block w.heap.size (by omega)).trans Y0.out)
      obtain ⟨x2, x3⟩ := cells2 ((HWr.out.block (w.heap.size + 1) (by omega)).trans Y1.out)
      have hsr := HWr.out.size
      have X0 := hid ((HWr.out.block w.heap.size (by omega)).trans Y0.out)
      have X1 := hid ((HWr.out.block (w.heap.size + 1) (by omega)).trans Y1.out)
      clear g0 g1 g2 g3 C1 C2 HWr Y0 Y1 Y3 B3
      rw [show ((2 : Nat) : Int) = 2 from rfl]
      go_wp2_with fail
      go_loopw [10, 30] (fun _ j wx => ∃ i : Nat, i ≤ T ∧ j = .int .i64 i ∧ Hid (Below wr.heap.size wr wx) ∧ Hid (((List.range T).drop i).findSome? (fun d => (conO m l k l' d).map fun c => (d, c)) = MO)) (fun _ j _ => T - (intOf j).toNat)
      case atStart => exact ⟨0, Nat.zero_le _, rfl, Below.refl _ _, HM.out.symm⟩
      case round =>
        rename_i wr0 _
        obtain ⟨i, hi, rfl, HWx, HFx⟩ := hrel
        have BWx := hid (BWr.out.trans (HWx.out.mono BWr.out.size))
        by_cases hlt : i < T
        · have hlt' : (i : Int) < (T : Int) := by omega
          have hmeas : T - (i + 1) < T - i := by omega
          obtain ⟨c0, c1⟩ := cells2 ((HWx.out.block w.heap.size (by omega)).trans X0.out)
          obtain ⟨c2, c3⟩ := cells2 ((HWx.out.block (w.heap.size + 1) (by omega)).trans X1.out)
          have K1 := hid (CN.out i wr hlt BWx.out)
          rw [find_rest hlt] at HFx
          clear CN x0 x1 x2 x3 HM
          generalize conO m l k l' i = CO at *
          go_wp2_with fail
          refine K1.out.mono ?_
          rintro e w4 ⟨rfl, hb4⟩
          have HW4 := hid (HWx.out.trans (hb4.mono HWx.out.size))
          have BW4 := hid (BWx.out.trans (hb4.mono BWx.out.size))
          clear hb4 K1 c0 c1 c2 c3
          rcases CO with _ | c
          · have HF2 : Hid (((List.range T).drop (i + 1)).findSome? (fun d => (conO m l k l' d).map fun c => (d, c)) = MO) := HFx.out
            clear HFx
            go_wp2_with fail
            go_roundw
            case rel => exact ⟨i + 1, hlt, by go_num, HW4, HF2⟩
            case measure => exact hmeas
          · have HF2 : Hid (MO = some (i, c)) := HFx.out.symm
            clear HFx
            go_wp2_with fail
            go_ret3
            exact ⟨by rw [HF2.out]; rfl, BW4.out⟩
        · obtain rfl : i = T := by omega
          have hlt' : ¬ (i : Int) < (i : Int) := by omega
          have HF2 : Hid (MO = none) := by
            show _ = _
            rw [← HFx.out, List.drop_of_length_le (by simp)]
            rfl
          clear HFx CN HM x0 x1 x2 x3
          go_wp2_with fail
          go_ret3
          exact ⟨by rw [HF2.out]; rfl, BWx.out⟩
end Go.Proofs.Ytgdcfogikchjeaa
