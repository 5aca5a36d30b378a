/- The law rotalaw.AxiomsMakes. -/
import Derived.Test.YthbldeloocmakaaMkPairsQ
namespace Go.Proofs.Ythbldeloocmakaa
open Go.RowKit

theorem bad_any (ok : Bool) (e : Int) (w : World) : Calls Try.prog 15 #[.bool ok, .int .i64 e] w fun r w' => r = .returned (.int .i64 (if ok = true then 0 else e)) ∧ w' = w := by
  cases ok
  · go_enter Try.func15, Try.ntmps15
    go_wp2
    go_ret
    exact ⟨rfl, rfl⟩
  · go_enter Try.func15, Try.ntmps15
    go_wp2
    go_ret
    exact ⟨rfl, rfl⟩
/-- Four functions, in a block. -/
def Four (W : World) (B f0 f1 f2 f3 : Nat) : Prop := W.cell? ⟨B, 0, none⟩ = some (.func (.func f0) #[] #[]) ∧ W.cell? ⟨B, 1, none⟩ = some (.func (.func f1) #[] #[]) ∧ W.cell? ⟨B, 2, none⟩ = some (.func (.func f2) #[] #[]) ∧ W.cell? ⟨B, 3, none⟩ = some (.func (.func f3) #[] #[]) ∧ B < W.heap.size
theorem Four.new (w : World) (f0 f1 f2 f3 : Nat) (t : TypeId) : Four (w.alloc (.cells #[.func (.func f0) #[] #[], .func (.func f1) #[] #[], .func (.func f2) #[] #[], .func (.func f3) #[] #[]] t)) w.heap.size f0 f1 f2 f3 := by
  have h := World.alloc_heap_new w (.cells #[.func (.func f0) #[] #[], .func (.func f1) #[] #[], .func (.func f2) #[] #[], .func (.func f3) #[] #[]] t)
  refine ⟨?_, ?_, ?_, ?_, by simp⟩ <;> simp only [World.cell?, h] <;> rfl
theorem Four.below {W W' : World} {B f0 f1 f2 f3 : Nat} (h : Four W B f0 f1 f2 f3) (hb : Below W.heap.size W W') : Four W' B f0 f1 f2 f3 :=
  ⟨(hb.cell (p := ⟨B, 0, none⟩) h.2.2.2.2).trans h.1, (hb.cell (p := ⟨B, 1, none⟩) h.2.2.2.2).trans h.2.1, (hb.cell (p := ⟨B, 2, none⟩) h.2.2.2.2).trans h.2.2.1, (hb.cell (p := ⟨B, 3, none⟩) h.2.2.2.2).trans h.2.2.2.1, Nat.lt_of_lt_of_le h.2.2.2.2 hb.size⟩

theorem blocks2 (w : World) (m z : Obj) : Below w.heap.size w ((w.alloc m).alloc z) := ((Below.refl _ w).alloc (Nat.le_refl _) _).alloc (by simp) _
/-- Behind the document's call: what lies in the two variables. -/
theorem vars2 {w4 Wx w5 w6 : World} {a b c d x y : Value} {t : TypeId} (hm : Wx.heap[w4.heap.size]? = some (.cells #[a, b] t (0, 0))) (hw : Wx.heap[w4.heap.size + 1]? = some (.cells #[c, d] t (0, 0))) (hb : Below Wx.heap.size Wx w5) (h6 : w6 = (w5.setCell ⟨w4.heap.size + 1, 0, none⟩ x).setCell ⟨w4.heap.size + 1, 1, none⟩ y) :
    w6.heap[w4.heap.size]? = some (.cells #[a, b] t (0, 0)) ∧ w6.heap[w4.heap.size + 1]? = some (.cells #[x, y] t (0, 0)) := by
  have l1 := (Array.getElem?_eq_some_iff.1 hm).1
  have l2 := (Array.getElem?_eq_some_iff.1 hw).1
  rw [h6]
  refine ⟨(Below.heap_setCell _ _ _ _ (by show w4.heap.size ≠ w4.heap.size + 1; omega)).trans ((Below.heap_setCell _ _ _ _ (by show w4.heap.size ≠ w4.heap.size + 1; omega)).trans ((hb.block _ l1).trans hm)), ?_⟩
  have h := (hb.block _ l2).trans hw
  simp only [World.setCell, Array.getElem?_modify, ↓reduceIte, h, Option.map_some]
  rfl
theorem laid3 (w : World) (a b : Value) (o : Obj) : ((((w.alloc (.cells #[a, b] 24)).alloc (.cells #[.int .i64 0, .slice none 0 0] 24)).alloc o).heap[w.heap.size]? = some (.cells #[a, b] 24 (0, 0))) ∧ ((((w.alloc (.cells #[a, b] 24)).alloc (.cells #[.int .i64 0, .slice none 0 0] 24)).alloc o).heap[w.heap.size + 1]? = some (.cells #[.int .i64 0, .slice none 0 0] 24 (0, 0))) ∧ Below w.heap.size w (((w.alloc (.cells #[a, b] 24)).alloc (.cells #[.int .i64 0, .slice none 0 0] 24)).alloc o) ∧ (((w.alloc (.cells #[a, b] 24)).alloc (.cells #[.int .i64 0, .slice none 0 0] 24)).alloc o).heap.size = w.heap.size + 3 := by
  have h1 := World.alloc_heap_new w (.cells #[a, b] 24)
  have h2 := World.alloc_heap_new (w.alloc (.cells #[a, b] 24)) (.cells #[.int .i64 0, .slice none 0 0] 24)
  rw [World.size_alloc] at h2
  refine ⟨?_, ?_, (blocks2 w _ _).alloc (by simp; omega) _, by simp⟩
  · rw [Below.heap_alloc _ _ _ (by simp; omega), Below.heap_alloc _ _ _ (by simp)]
    exact h1
  · rw [Below.heap_alloc _ _ _ (by simp)]
    exact h2

set_option maxRecDepth 100000 in
set_option maxHeartbeats 8000000 in
theorem amakes_law (n : Int) (v1 : Value) (zs : List Int) (v2 : Value) (rs : List Int) (w : World) (h1 : Ints w v1 zs) (h2 : Ints w v2 rs) (hcap : ∀ a L c, v1 = .slice a L c → L ≤ c) :
    Calls Try.prog 4 #[.int .i64 n, v1, v2] w fun e w' => e = .returned (.bool true) ∧ Below w.heap.size w w' := by
  have HI1 := hid h1
  have HI2 := hid h2
  obtain ⟨a, cap, rfl, _, _⟩ := h1
  obtain ⟨a2, cap2, rfl, hl2, _⟩ := h2
  have IF := hid (IsFamily_any n _ zs w HI1.out)
  obtain ⟨E, HE, HB0⟩ : ∃ E : Int, Hid ((if famB n zs = true then (0 : Int) else 1) = E) ∧ Hid ((E = 0 ∧ famR n zs = 0) ∨ (E = 1 ∧ famR n zs ≠ 0)) := by
    refine ⟨_, rfl, ?_⟩
    rcases famR_01 n zs with h0 | h0
    · exact .inl ⟨by unfold famB; rw [h0]; rfl, h0⟩
    · exact .inr ⟨by unfold famB; rw [h0]; rfl, by rw [h0]; decide⟩
  have BD := hid (fun w => bad_any (famB n zs) 1 w)
  rw [HE.out] at BD
  generalize famB n zs = fb at *
  obtain ⟨q0, L0, p0⟩ := pair_ind n zs (.slice a zs.length cap)
  obtain ⟨q1, L1, p1⟩ := pair_cir n zs (.slice a zs.length cap)
  obtain ⟨q2, L2, p2⟩ := pair_flat n zs (.slice a zs.length cap) hcap
  obtain ⟨q3, L3, p3⟩ := pair_hyp n zs (.slice a zs.length cap)
  have P0 := hid p0
  have P1 := hid p1
  have P2 := hid p2
  have P3 := hid p3
  clear p0 p1 p2 p3 hcap HE
  have e0 : Enters 28 := fun args w => enters_of Try.func28 (by kernel_rfl) rfl args w
  have g0 : Enters 32 := fun args w => enters_of Try.func32 (by kernel_rfl) rfl args w
  have e1 : Enters 29 := fun args w => enters_of Try.func29 (by kernel_rfl) rfl args w
  have g1 : Enters 33 := fun args w => enters_of Try.func33 (by kernel_rfl) rfl args w
  have e2 : Enters 30 := fun args w => enters_of Try.func30 (by kernel_rfl) rfl args w
  have g2 : Enters 34 := fun args w => enters_of Try.func34 (by kernel_rfl) rfl args w
  have e3 : Enters 31 := fun args w => enters_of Try.func31 (by kernel_rfl) rfl args w
  have g3 : Enters 35 := fun args w => enters_of Try.func35 (by kernel_rfl) rfl args w
  unfold Enters at e0 e1 e2 e3 g0 g1 g2 g3
  go_enter Try.func4, Try.ntmps4
  go_wp2_with fail
  refine IF.out.mono ?_
  rintro e w1 ⟨rfl, hb1⟩
  have B1 := hid hb1
  clear hb1
  go_wp2_with fail
  refine (BD.out _).mono ?_
  rintro e w1' ⟨rfl, rfl⟩
  go_wp2_with fail
  have FO := hid (Four.new w1' 28 29 30 31 39)
  have B2 : Hid (Below w.heap.size w (w1'.alloc (.cells #[.func (.func 28) #[] #[], .func (.func 29) #[] #[], .func (.func 30) #[] #[], .func (.func 31) #[] #[]] 39))) := B1.out.alloc B1.out.size _
  generalize (w1'.alloc _) = w2 at *
  go_loopw [25] (fun i wr => ∃ k : Nat, k ≤ 4 ∧ i = .int .i64 k ∧ Hid (Below w2.heap.size w2 wr)) (fun i _ => 4 - (intOf i).toNat)
  case atStart => exact ⟨0, by omega, rfl, Below.refl _ _⟩
  case round =>
    obtain ⟨k, hk, rfl, B3⟩ := hrel
    have BW := hid (B2.out.trans (B3.out.mono B2.out.size))
    have I3 := hid (HI1.out.below BW.out)
    obtain ⟨c0, c1, c2, c3, _⟩ := FO.out.below B3.out
    by_cases hlt : k < 4
    · rcases (by omega : k = 0 ∨ k = 1 ∨ k = 2 ∨ k = 3) with rfl | rfl | rfl | rfl
      · obtain ⟨PA, PB, PC⟩ := P0.out
        have PA' := hid (PA wr I3.out)
        rcases HB0.out with ⟨he, hf0⟩ | ⟨he, hf0⟩
        · obtain ⟨hq, PD⟩ := PC hf0
          have PD' := hid PD
          have HQ := hid hq
          clear PA PB PC PD hq
          subst he
          go_wp2_with fail
          refine PA'.out.mono ?_
          rintro e w4 ⟨nn, ra, rL, rc, rfl, hg, hb4⟩
          have B4 := hid (B3.out.trans (hb4.mono B3.out.size))
          have G4 := hid hg
          obtain ⟨l1, l2, l3, l4⟩ := laid3 w4 (.int .i64 nn) (.slice ra rL rc) (.cells #[.func (.func 32) #[] #[], .func (.func 33) #[] #[], .func (.func 34) #[] #[], .func (.func 35) #[] #[]] 43)
          obtain ⟨f0, f1, f2, f3, _⟩ := Four.new ((w4.alloc (.cells #[.int .i64 nn, .slice ra rL rc] 24)).alloc (.cells #[.int .i64 0, .slice none 0 0] 24)) 32 33 34 35 43
          have D5 := hid (PD'.out _ (I3.out.below ((hb4.trans (l3.mono hb4.size)))))
          have LL := hid (And.intro l1 (And.intro l2 (And.intro l3 l4)))
          clear hg hb4 l1 l2 l3 l4
          go_wp2_with fail
          refine D5.out.mono ?_
          rintro e w5 ⟨n5, a5, L5, c5, rfl, hg5, hb5⟩
          obtain ⟨l1, l2, l3, l4⟩ := LL.out
          obtain ⟨y0, y1, z0, z1⟩ := two_cells ((hb5.block _ (by rw [l4]; omega)).trans l1)
          obtain ⟨y2, y3, z2, z3⟩ := two_cells ((hb5.block _ (by rw [l4]; omega)).trans l2)
          have G5 := hid hg5
          have B5 := hid hb5
          clear hg5 hb5 l1 l2 l3 l4
          have BD3 := hid (fun w => bad_any (q0 == 0) 3 w)
          rw [show (if (q0 == 0) = true then (0 : Int) else 3) = q0 from by rcases HQ.out with e9 | e9 <;> rw [e9] <;> rfl] at BD3
          generalize (q0 == 0) = okb at *
          go_wp2_with fail
          refine (BD3.out _).mono ?_
          rintro e w6 ⟨rfl, hw6⟩
          obtain ⟨l1, l2, l3, l4⟩ := LL.out
          obtain ⟨k1, k2⟩ := vars2 l1 l2 B5.out hw6
          obtain ⟨x0, x1, _, _⟩ := two_cells k1
          obtain ⟨x2, x3, _, _⟩ := two_cells k2
          have B46 : Below w4.heap.size w4 w6 := by
            rw [hw6]
            exact below_two (l3.trans (B5.out.mono (by rw [l4]; omega))) (Nat.le_succ _)
          have G6 := G5.out.set2 (b := w4.heap.size + 1) (x := .int .i64 n5) (y := .slice a5 L5 c5) (by rw [l4]; omega)
          rw [← hw6] at G6
          have TB := hid (told_both (G4.out.below B46) G6)
          have B6 := hid (B4.out.trans (B46.mono B4.out.size))
          clear hw6 l1 l2 l3 l4 k1 k2 B46 G6
          go_wp2_with fail
          refine TB.out.mono ?_
          rintro e w7 ⟨rfl, hb7⟩
          have B7 := hid (B6.out.trans (hb7.mono B6.out.size))
          clear hb7
          go_wp2_with fail
          go_roundw
          case rel => exact ⟨1, by omega, by go_num, B7⟩
          case measure => simp [intOf]
        · have hq := PB hf0
          subst hq
          subst he
          clear PA PB PC
          go_wp2_with fail
          refine PA'.out.mono ?_
          rintro e w4 ⟨nn, ra, rL, rc, rfl, hg, hb4⟩
          obtain ⟨rfl, hnil⟩ : nn = 0 ∧ (Value.slice ra rL rc) = .slice none 0 0 := by
            rcases hg with ⟨h9, _⟩ | ⟨_, h9, h10⟩
            · cases h9
            · exact ⟨h9, h10⟩
          have B4 := hid (B3.out.trans (hb4.mono B3.out.size))
          rw [hnil]
          clear hg hb4 hnil
          go_wp2_with fail
          refine (told_bad 1 _ (by decide)).mono ?_
          rintro e w5 ⟨rfl, hb5⟩
          have B5 := hid (B4.out.trans (((blocks2 w4 _ _).trans (hb5.mono (by simp; omega))).mono B4.out.size))
          clear hb5
          go_wp2_with fail
          go_roundw
          case rel => exact ⟨1, by omega, by go_num, B5⟩
          case measure => simp [intOf]
      · obtain ⟨PA, PB, PC⟩ := P1.out
        have PA' := hid (PA wr I3.out)
        rcases HB0.out with ⟨he, hf0⟩ | ⟨he, hf0⟩
        · obtain ⟨hq, PD⟩ := PC hf0
          have PD' := hid PD
          have HQ := hid hq
          clear PA PB PC PD hq
          subst he
          go_wp2_with fail
          refine PA'.out.mono ?_
          rintro e w4 ⟨nn, ra, rL, rc, rfl, hg, hb4⟩
          have B4 := hid (B3.out.trans (hb4.mono B3.out.size))
          have G4 := hid hg
          obtain ⟨l1, l2, l3, l4⟩ := laid3 w4 (.int .i64 nn) (.slice ra rL rc) (.cells #[.func (.func 32) #[] #[], .func (.func 33) #[] #[], .func (.func 34) #[] #[], .func (.func 35) #[] #[]] 43)
          obtain ⟨f0, f1, f2, f3, _⟩ := Four.new ((w4.alloc (.cells #[.int .i64 nn, .slice ra rL rc] 24)).alloc (.cells #[.int .i64 0, .slice none 0 0] 24)) 32 33 34 35 43
          have D5 := hid (PD'.out _ (I3.out.below ((hb4.trans (l3.mono hb4.size)))))
          have LL := hid (And.intro l1 (And.intro l2 (And.intro l3 l4)))
          clear hg hb4 l1 l2 l3 l4
          go_wp2_with fail
          refine D5.out.mono ?_
          rintro e w5 ⟨n5, a5, L5, c5, rfl, hg5, hb5⟩
          obtain ⟨l1, l2, l3, l4⟩ := LL.out
          obtain ⟨y0, y1, z0, z1⟩ := two_cells ((hb5.block _ (by rw [l4]; omega)).trans l1)
          obtain ⟨y2, y3, z2, z3⟩ := two_cells ((hb5.block _ (by rw [l4]; omega)).trans l2)
          have G5 := hid hg5
          have B5 := hid hb5
          clear hg5 hb5 l1 l2 l3 l4
          have BD3 := hid (fun w => bad_any (q1 == 0) 3 w)
          rw [show (if (q1 == 0) = true then (0 : Int) else 3) = q1 from by rcases HQ.out with e9 | e9 <;> rw [e9] <;> rfl] at BD3
          generalize (q1 == 0) = okb at *
          go_wp2_with fail
          refine (BD3.out _).mono ?_
          rintro e w6 ⟨rfl, hw6⟩
          obtain ⟨l1, l2, l3, l4⟩ := LL.out
          obtain ⟨k1, k2⟩ := vars2 l1 l2 B5.out hw6
          obtain ⟨x0, x1, _, _⟩ := two_cells k1
          obtain ⟨x2, x3, _, _⟩ := two_cells k2
          have B46 : Below w4.heap.size w4 w6 := by
            rw [hw6]
            exact below_two (l3.trans (B5.out.mono (by rw [l4]; omega))) (Nat.le_succ _)
          have G6 := G5.out.set2 (b := w4.heap.size + 1) (x := .int .i64 n5) (y := .slice a5 L5 c5) (by rw [l4]; omega)
          rw [← hw6] at G6
          have TB := hid (told_both (G4.out.below B46) G6)
          have B6 := hid (B4.out.trans (B46.mono B4.out.size))
          clear hw6 l1 l2 l3 l4 k1 k2 B46 G6
          go_wp2_with fail
          refine TB.out.mono ?_
          rintro e w7 ⟨rfl, hb7⟩
          have B7 := hid (B6.out.trans (hb7.mono B6.out.size))
          clear hb7
          go_wp2_with fail
          go_roundw
          case rel => exact ⟨2, by omega, by go_num, B7⟩
          case measure => simp [intOf]
        · have hq := PB hf0
          subst hq
          subst he
          clear PA PB PC
          go_wp2_with fail
          refine PA'.out.mono ?_
          rintro e w4 ⟨nn, ra, rL, rc, rfl, hg, hb4⟩
          obtain ⟨rfl, hnil⟩ : nn = 0 ∧ (Value.slice ra rL rc) = .slice none 0 0 := by
            rcases hg with ⟨h9, _⟩ | ⟨_, h9, h10⟩
            · cases h9
            · exact ⟨h9, h10⟩
          have B4 := hid (B3.out.trans (hb4.mono B3.out.size))
          rw [hnil]
          clear hg hb4 hnil
          go_wp2_with fail
          refine (told_bad 1 _ (by decide)).mono ?_
          rintro e w5 ⟨rfl, hb5⟩
          have B5 := hid (B4.out.trans (((blocks2 w4 _ _).trans (hb5.mono (by simp; omega))).mono B4.out.size))
          clear hb5
          go_wp2_with fail
          go_roundw
          case rel => exact ⟨2, by omega, by go_num, B5⟩
          case measure => simp [intOf]
      · obtain ⟨PA, PB, PC⟩ := P2.out
        have PA' := hid (PA wr I3.out)
        rcases HB0.out with ⟨he, hf0⟩ | ⟨he, hf0⟩
        · obtain ⟨hq, PD⟩ := PC hf0
          have PD' := hid PD
          have HQ := hid hq
          clear PA PB PC PD hq
          subst he
          go_wp2_with fail
          refine PA'.out.mono ?_
          rintro e w4 ⟨nn, ra, rL, rc, rfl, hg, hb4⟩
          have B4 := hid (B3.out.trans (hb4.mono B3.out.size))
          have G4 := hid hg
          obtain ⟨l1, l2, l3, l4⟩ := laid3 w4 (.int .i64 nn) (.slice ra rL rc) (.cells #[.func (.func 32) #[] #[], .func (.func 33) #[] #[], .func (.func 34) #[] #[], .func (.func 35) #[] #[]] 43)
          obtain ⟨f0, f1, f2, f3, _⟩ := Four.new ((w4.alloc (.cells #[.int .i64 nn, .slice ra rL rc] 24)).alloc (.cells #[.int .i64 0, .slice none 0 0] 24)) 32 33 34 35 43
          have D5 := hid (PD'.out _ (I3.out.below ((hb4.trans (l3.mono hb4.size)))))
          have LL := hid (And.intro l1 (And.intro l2 (And.intro l3 l4)))
          clear hg hb4 l1 l2 l3 l4
          go_wp2_with fail
          refine D5.out.mono ?_
          rintro e w5 ⟨n5, a5, L5, c5, rfl, hg5, hb5⟩
          obtain ⟨l1, l2, l3, l4⟩ := LL.out
          obtain ⟨y0, y1, z0, z1⟩ := two_cells ((hb5.block _ (by rw [l4]; omega)).trans l1)
          obtain ⟨y2, y3, z2, z3⟩ := two_cells ((hb5.block _ (by rw [l4]; omega)).trans l2)
          have G5 := hid hg5
          have B5 := hid hb5
          clear hg5 hb5 l1 l2 l3 l4
          have BD3 := hid (fun w => bad_any (q2 == 0) 3 w)
          rw [show (if (q2 == 0) = true then (0 : Int) else 3) = q2 from by rcases HQ.out with e9 | e9 <;> rw [e9] <;> rfl] at BD3
          generalize (q2 == 0) = okb at *
          go_wp2_with fail
          refine (BD3.out _).mono ?_
          rintro e w6 ⟨rfl, hw6⟩
          obtain ⟨l1, l2, l3, l4⟩ := LL.out
          obtain ⟨k1, k2⟩ := vars2 l1 l2 B5.out hw6
          obtain ⟨x0, x1, _, _⟩ := two_cells k1
          obtain ⟨x2, x3, _, _⟩ := two_cells k2
          have B46 : Below w4.heap.size w4 w6 := by
            rw [hw6]
            exact below_two (l3.trans (B5.out.mono (by rw [l4]; omega))) (Nat.le_succ _)
          have G6 := G5.out.set2 (b := w4.heap.size + 1) (x := .int .i64 n5) (y := .slice a5 L5 c5) (by rw [l4]; omega)
          rw [← hw6] at G6
          have TB := hid (told_both (G4.out.below B46) G6)
          have B6 := hid (B4.out.trans (B46.mono B4.out.size))
          clear hw6 l1 l2 l3 l4 k1 k2 B46 G6
          go_wp2_with fail
          refine TB.out.mono ?_
          rintro e w7 ⟨rfl, hb7⟩
          have B7 := hid (B6.out.trans (hb7.mono B6.out.size))
          clear hb7
          go_wp2_with fail
          go_roundw
          case rel => exact ⟨3, by omega, by go_num, B7⟩
          case measure => simp [intOf]
        · have hq := PB hf0
          subst hq
          subst he
          clear PA PB PC
          go_wp2_with fail
          refine PA'.out.mono ?_
          rintro e w4 ⟨nn, ra, rL, rc, rfl, hg, hb4⟩
          obtain ⟨rfl, hnil⟩ : nn = 0 ∧ (Value.slice ra rL rc) = .slice none 0 0 := by
            rcases hg with ⟨h9, _⟩ | ⟨_, h9, h10⟩
            · cases h9
            · exact ⟨h9, h10⟩
          have B4 := hid (B3.out.trans (hb4.mono B3.out.size))
          rw [hnil]
          clear hg hb4 hnil
          go_wp2_with fail
          refine (told_bad 1 _ (by decide)).mono ?_
          rintro e w5 ⟨rfl, hb5⟩
          have B5 := hid (B4.out.trans (((blocks2 w4 _ _).trans (hb5.mono (by simp; omega))).mono B4.out.size))
          clear hb5
          go_wp2_with fail
          go_roundw
          case rel => exact ⟨3, by omega, by go_num, B5⟩
          case measure => simp [intOf]
      · obtain ⟨PA, PB, PC⟩ := P3.out
        have PA' := hid (PA wr I3.out)
        rcases HB0.out with ⟨he, hf0⟩ | ⟨he, hf0⟩
        · obtain ⟨hq, PD⟩ := PC hf0
          have PD' := hid PD
          have HQ := hid hq
          clear PA PB PC PD hq
          subst he
          go_wp2_with fail
          refine PA'.out.mono ?_
          rintro e w4 ⟨nn, ra, rL, rc, rfl, hg, hb4⟩
          have B4 := hid (B3.out.trans (hb4.mono B3.out.size))
          have G4 := hid hg
          obtain ⟨l1, l2, l3, l4⟩ := laid3 w4 (.int .i64 nn) (.slice ra rL rc) (.cells #[.func (.func 32) #[] #[], .func (.func 33) #[] #[], .func (.func 34) #[] #[], .func (.func 35) #[] #[]] 43)
          obtain ⟨f0, f1, f2, f3, _⟩ := Four.new ((w4.alloc (.cells #[.int .i64 nn, .slice ra rL rc] 24)).alloc (.cells #[.int .i64 0, .slice none 0 0] 24)) 32 33 34 35 43
          have D5 := hid (PD'.out _ (I3.out.below ((hb4.trans (l3.mono hb4.size)))))
          have LL := hid (And.intro l1 (And.intro l2 (And.intro l3 l4)))
          clear hg hb4 l1 l2 l3 l4
          go_wp2_with fail
          refine D5.out.mono ?_
          rintro e w5 ⟨n5, a5, L5, c5, rfl, hg5, hb5⟩
          obtain ⟨l1, l2, l3, l4⟩ := LL.out
          obtain ⟨y0, y1, z0, z1⟩ := two_cells ((hb5.block _ (by rw [l4]; omega)).trans l1)
          obtain ⟨y2, y3, z2, z3⟩ := two_cells ((hb5.block _ (by rw [l4]; omega)).trans l2)
          have G5 := hid hg5
          have B5 := hid hb5
          clear hg5 hb5 l1 l2 l3 l4
          have BD3 := hid (fun w => bad_any (q3 == 0) 3 w)
          rw [show (if (q3 == 0) = true then (0 : Int) else 3) = q3 from by rcases HQ.out with e9 | e9 <;> rw [e9] <;> rfl] at BD3
          generalize (q3 == 0) = okb at *
          go_wp2_with fail
          refine (BD3.out _).mono ?_
          rintro e w6 ⟨rfl, hw6⟩
          obtain ⟨l1, l2, l3, l4⟩ := LL.out
          obtain ⟨k1, k2⟩ := vars2 l1 l2 B5.out hw6
          obtain ⟨x0, x1, _, _⟩ := two_cells k1
          obtain ⟨x2, x3, _, _⟩ := two_cells k2
          have B46 : Below w4.heap.size w4 w6 := by
            rw [hw6]
            exact below_two (l3.trans (B5.out.mono (by rw [l4]; omega))) (Nat.le_succ _)
          have G6 := G5.out.set2 (b := w4.heap.size + 1) (x := .int .i64 n5) (y := .slice a5 L5 c5) (by rw [l4]; omega)
          rw [← hw6] at G6
          have TB := hid (told_both (G4.out.below B46) G6)
          have B6 := hid (B4.out.trans (B46.mono B4.out.size))
          clear hw6 l1 l2 l3 l4 k1 k2 B46 G6
          go_wp2_with fail
          refine TB.out.mono ?_
          rintro e w7 ⟨rfl, hb7⟩
          have B7 := hid (B6.out.trans (hb7.mono B6.out.size))
          clear hb7
          go_wp2_with fail
          go_roundw
          case rel => exact ⟨4, by omega, by go_num, B7⟩
          case measure => simp [intOf]
        · have hq := PB hf0
          subst hq
          subst he
          clear PA PB PC
          go_wp2_with fail
          refine PA'.out.mono ?_
          rintro e w4 ⟨nn, ra, rL, rc, rfl, hg, hb4⟩
          obtain ⟨rfl, hnil⟩ : nn = 0 ∧ (Value.slice ra rL rc) = .slice none 0 0 := by
            rcases hg with ⟨h9, _⟩ | ⟨_, h9, h10⟩
            · cases h9
            · exact ⟨h9, h10⟩
          have B4 := hid (B3.out.trans (hb4.mono B3.out.size))
          rw [hnil]
          clear hg hb4 hnil
          go_wp2_with fail
          refine (told_bad 1 _ (by decide)).mono ?_
          rintro e w5 ⟨rfl, hb5⟩
          have B5 := hid (B4.out.trans (((blocks2 w4 _ _).trans (hb5.mono (by simp; omega))).mono B4.out.size))
          clear hb5
          go_wp2_with fail
          go_roundw
          case rel => exact ⟨4, by omega, by go_num, B5⟩
          case measure => simp [intOf]
    · have I2 := hid (HI2.out.below BW.out)
      by_cases hn : n < 0 ∨ 8 < n
      · have RA := hid ((OfRk_arg1 n _ rs wr I2.out hn).mono fun e w' h9 => h9.res)
        by_cases hn0 : n < 0
        · go_wp2_with fail
          refine RA.out.mono ?_
          rintro e w4 ⟨nn, ra, rL, rc, rfl, hg, hb4⟩
          obtain ⟨rfl, hnil⟩ : nn = 0 ∧ (Value.slice ra rL rc) = .slice none 0 0 := by
            rcases hg with ⟨h9, _⟩ | ⟨_, h9, h10⟩
            · cases h9
            · exact ⟨h9, h10⟩
          have B4 := hid (BW.out.trans (hb4.mono BW.out.size))
          rw [hnil]
          clear hg hb4 hnil
          go_wp2_with fail
          refine (told_bad 1 _ (by decide)).mono ?_
          rintro e w5 ⟨rfl, hb5⟩
          have B5 := hid ((B4.out.alloc B4.out.size _).trans (hb5.mono (by simp; have := B4.out.size; omega)))
          clear hb5
          go_wp2_with fail
          go_ret
          exact ⟨rfl, B5.out⟩
        · have hn8 : 8 < n := hn.resolve_left hn0
          go_wp2_with fail
          refine RA.out.mono ?_
          rintro e w4 ⟨nn, ra, rL, rc, rfl, hg, hb4⟩
          obtain ⟨rfl, hnil⟩ : nn = 0 ∧ (Value.slice ra rL rc) = .slice none 0 0 := by
            rcases hg with ⟨h9, _⟩ | ⟨_, h9, h10⟩
            · cases h9
            · exact ⟨h9, h10⟩
          have B4 := hid (BW.out.trans (hb4.mono BW.out.size))
          rw [hnil]
          clear hg hb4 hnil
          go_wp2_with fail
          refine (told_bad 1 _ (by decide)).mono ?_
          rintro e w5 ⟨rfl, hb5⟩
          have B5 := hid ((B4.out.alloc B4.out.size _).trans (hb5.mono (by simp; have := B4.out.size; omega)))
          clear hb5
          go_wp2_with fail
          go_ret
          exact ⟨rfl, B5.out⟩
      · obtain ⟨m, rfl⟩ := Int.eq_ofNat_of_zero_le (show 0 ≤ n by omega)
        have hm : m ≤ 8 := by omega
        obtain ⟨T, HT, hT2, hTw⟩ : ∃ T : Nat, Hid (T = 2 ^ m) ∧ T ≤ 256 ∧ wrap64 (2 ^ m) = (T : Int) := ⟨2 ^ m, rfl, (pow_wrap _ hm).2, (pow_wrap _ hm).1⟩
        by_cases hl : rs.length = 2 ^ m
        · obtain ⟨q, L, hq, PA, PD⟩ := pair_rk m rs (.slice a2 rs.length cap2) hm hl
          have RA := hid (PA wr I2.out)
          have PD' := hid PD
          have HQ := hid hq
          have hl' : ((rs.length : Int) != (T : Int)) = false := by rw [hl, HT.out]; simp
          clear PA PD hq hl
          generalize hrl : rs.length = rl at *
          clear hrl
          go_wp2_with fail
          refine RA.out.mono ?_
          rintro e w4 ⟨nn, ra, rL, rc, rfl, hg, hb4⟩
          have B4 := hid (BW.out.trans (hb4.mono BW.out.size))
          have G4 := hid hg
          have I4 := hid (I2.out.below hb4)
          clear hg hb4
          have BD3 := hid (fun w => bad_any (q == 0) 3 w)
          rw [show (if (q == 0) = true then (0 : Int) else 3) = q from by rcases HQ.out with e9 | e9 <;> rw [e9] <;> rfl] at BD3
          go_wp2_with fail
          refine (PD'.out _ (I4.out.below ((Below.refl _ _).alloc (Nat.le_refl _) _))).mono ?_
          rintro e w5 ⟨n5, a5, L5, c5, rfl, hg5, hb5⟩
          have hM := (hb5.block w4.heap.size (by simp)).trans (World.alloc_heap_new w4 (.cells #[.int .i64 nn, .slice ra rL rc] 24))
          have B45 : Below w4.heap.size w4 w5 := ((Below.refl _ _).alloc (Nat.le_refl _) _).trans (hb5.mono (by simp))
          have hN := World.alloc_heap_new w5 (.cells #[.int .i64 n5, .slice a5 L5 c5] 24)
          have hM2 : (w5.alloc (.cells #[.int .i64 n5, .slice a5 L5 c5] 24)).heap[w4.heap.size]? = some (.cells #[.int .i64 nn, .slice ra rL rc] 24 (0, 0)) := (Below.heap_alloc _ _ _ (Array.getElem?_eq_some_iff.1 hM).1).trans hM
          have BA : Below w5.heap.size w5 (w5.alloc (.cells #[.int .i64 n5, .slice a5 L5 c5] 24)) := (Below.refl _ _).alloc (Nat.le_refl _) _
          have G6 := hid (G4.out.below (B45.trans (BA.mono B45.size)))
          have G7 := hid (hg5.below BA)
          have B6 := hid (B4.out.trans ((B45.trans (BA.mono B45.size)).mono B4.out.size))
          obtain ⟨w6, hw6⟩ : ∃ w6, w5.alloc (.cells #[.int .i64 n5, .slice a5 L5 c5] 24) = w6 := ⟨_, rfl⟩
          rw [hw6] at hN hM2 G6 G7 B6
          obtain ⟨x0, x1, _, _⟩ := two_cells hM2
          obtain ⟨x2, x3, _, _⟩ := two_cells hN
          clear hM B45 BA hg5 hb5 hN hM2
          generalize (q == 0) = okb at *
          have s4 := World.block_lt_of_cell? w6 _ x0
          have s5 := World.block_lt_of_cell? w6 _ x2
          have c0' : ∀ x9 : Later w6, x9.now.cell? ⟨w4.heap.size, 0, none⟩ = some (.int .i64 nn) := fun x9 => (x9.kept.cell (p := ⟨w4.heap.size, 0, none⟩) s4).trans x0
          have c1' : ∀ x9 : Later w6, x9.now.cell? ⟨w4.heap.size, 1, none⟩ = some (.slice ra rL rc) := fun x9 => (x9.kept.cell (p := ⟨w4.heap.size, 1, none⟩) s4).trans x1
          have c2' : ∀ x9 : Later w6, x9.now.cell? ⟨w5.heap.size, 0, none⟩ = some (.int .i64 n5) := fun x9 => (x9.kept.cell (p := ⟨w5.heap.size, 0, none⟩) s5).trans x2
          have c3' : ∀ x9 : Later w6, x9.now.cell? ⟨w5.heap.size, 1, none⟩ = some (.slice a5 L5 c5) := fun x9 => (x9.kept.cell (p := ⟨w5.heap.size, 1, none⟩) s5).trans x3
          have TB := hid (fun x9 : Later w6 => told_both (G6.out.below x9.kept) (G7.out.below x9.kept))
          go_wp2_with fail
          refine region_later (by kernel_rfl) (by kernel_rfl) ?_
          repeat (go_big_quiet_step ((first | (go_at_call 15; refine (BD3.out _).mono ?_; rintro e w' ⟨rfl, rfl⟩; exact ⟨rfl, Later.on _ (Below.refl _ _)⟩) | (go_at_call 36; refine (TB.out _).mono ?_; rintro e w' ⟨rfl, hb9⟩; exact ⟨rfl, Later.on _ hb9⟩))))
          refine wpQuiet_nil ?_
          intro w8 hw'
          obtain ⟨⟨y8, hb8⟩, hw''⟩ := hw'
          dsimp only at hw''
          subst hw''
          have B8 := hid (B6.out.trans (hb8.mono B6.out.size))
          clear hb8 c0' c1' c2' c3'
          go_wp2_with fail
          go_ret
          exact ⟨rfl, B8.out⟩
        · have RA := hid ((OfRk_arg2 m _ rs wr hm I2.out hl).mono fun e w' h9 => h9.res)
          have hl' : ((rs.length : Int) != (T : Int)) = true := by rw [bne_iff_ne, HT.out]; intro e9; exact hl (by exact_mod_cast e9)
          go_wp2_with fail
          refine RA.out.mono ?_
          rintro e w4 ⟨nn, ra, rL, rc, rfl, hg, hb4⟩
          obtain ⟨rfl, hnil⟩ : nn = 0 ∧ (Value.slice ra rL rc) = .slice none 0 0 := by
            rcases hg with ⟨h9, _⟩ | ⟨_, h9, h10⟩
            · cases h9
            · exact ⟨h9, h10⟩
          have B4 := hid (BW.out.trans (hb4.mono BW.out.size))
          rw [hnil]
          clear hg hb4 hnil
          go_wp2_with fail
          refine (told_bad 1 _ (by decide)).mono ?_
          rintro e w5 ⟨rfl, hb5⟩
          have B5 := hid ((B4.out.alloc B4.out.size _).trans (hb5.mono (by simp; have := B4.out.size; omega)))
          clear hb5
          go_wp2_with fail
          go_ret
          exact ⟨rfl, B5.out⟩
end Go.Proofs.Ythbldeloocmakaa
