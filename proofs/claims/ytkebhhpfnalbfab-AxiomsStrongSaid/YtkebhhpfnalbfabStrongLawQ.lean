/- The walk of the law AxiomsStrong. -/
import Derived.Test.YtkebhhpfnalbfabAxQ
import Derived.Test.YtkebhhpfnalbfabFuncAnyQ
namespace Go.Proofs.Ytkebhhpfnalbfab
open Go.RowKit

theorem box_back {w w2 : World} {n : Int} {u : Value} (h : w2.cell? ⟨w.heap.size, 0, none⟩ = some (.int .i64 n) ∧ w2.cell? ⟨w.heap.size, 1, none⟩ = some u) {w3 : World} (hb : Below w2.heap.size w2 w3) (hs : w.heap.size < w2.heap.size) :
    w3.cell? ⟨w.heap.size, 0, none⟩ = some (.int .i64 n) ∧ w3.cell? ⟨w.heap.size, 1, none⟩ = some u :=
  ⟨(hb.cell (p := ⟨w.heap.size, 0, none⟩) hs).trans h.1, (hb.cell (p := ⟨w.heap.size, 1, none⟩) hs).trans h.2⟩
theorem one_fam : Fam 1 [1] := ⟨by decide, by decide⟩
theorem one_bas : Bas [1] := (bas_iff (by decide)).2 ⟨by decide, by decide +kernel, by decide +kernel⟩
theorem one_ind : (List.range (2 ^ 1)).filter (fun s => rk [1] s == pop s) = [0, 1] := by decide +kernel

/-- The circuit that is looked for. -/
def elimB (a b x y z : Nat) : Bool := z.testBit y && !z.testBit x && subB z (a ||| b)
theorem strong1 {w : World} {ba bb bx bY a b x y : Nat} (ha : a < 256) (hb : b < 256) (hx : x < 8) (hy : y < 8) (la : ba < w.heap.size) (lb : bb < w.heap.size) (lx : bx < w.heap.size) (ly : bY < w.heap.size)
    (ca : w.cell? ⟨ba, 0, none⟩ = some (.int .i64 a)) (cb : w.cell? ⟨bb, 0, none⟩ = some (.int .i64 b)) (cx : w.cell? ⟨bx, 0, none⟩ = some (.int .i64 x)) (cy : w.cell? ⟨bY, 0, none⟩ = some (.int .i64 y)) {l : List Nat} (hl : ∀ s ∈ l, s < 256) :
    AnswersOn w.heap.size w 30 #[.pointer (some ⟨bY, 0, none⟩), .pointer (some ⟨bx, 0, none⟩), .pointer (some ⟨ba, 0, none⟩), .pointer (some ⟨bb, 0, none⟩)] l (elimB a b x y) := by
  intro z hz w1 hb1 hs
  have hz8 := hl z hz
  have d1 := (hb1.cell (p := ⟨ba, 0, none⟩) la).trans ca
  have d2 := (hb1.cell (p := ⟨bb, 0, none⟩) lb).trans cb
  have d3 := (hb1.cell (p := ⟨bx, 0, none⟩) lx).trans cx
  have d4 := (hb1.cell (p := ⟨bY, 0, none⟩) ly).trans cy
  have hor : bits .or .i64 (a : Int) (b : Int) = ((a ||| b : Nat) : Int) := i64_or_nat _ _ (by omega) (by omega)
  have hab : a ||| b < 256 := or_lt ha hb
  have I1 := hid (In_any z y w1 hz8 hy)
  have I2 := hid (In_any z x w1 hz8 hx)
  have I3 := hid (Within_any z (a ||| b) w1 hz8 hab)
  unfold elimB
  show Calls Try.prog 30 #[.int .i64 (z : Nat), .pointer (some ⟨bY, 0, none⟩), .pointer (some ⟨bx, 0, none⟩), .pointer (some ⟨ba, 0, none⟩), .pointer (some ⟨bb, 0, none⟩)] w1 _
  generalize a ||| b = o at *
  rcases h1 : z.testBit y with _ | _
  · rw [h1] at I1
    clear h1
    go_enter Try.func30, Try.ntmps30
    go_wp2_with fail
    refine I1.out.mono ?_
    rintro e w2 ⟨rfl, rfl⟩
    go_wp2_with fail
    go_ret
    exact ⟨rfl, Below.refl _ _⟩
  · rw [h1] at I1
    clear h1
    rcases h2 : z.testBit x with _ | _
    · rw [h2] at I2
      clear h2
      generalize subB z o = q at *
      go_enter Try.func30, Try.ntmps30
      go_wp2_with fail
      refine I1.out.mono ?_
      rintro e w2 ⟨rfl, rfl⟩
      go_wp2_with fail
      refine I2.out.mono ?_
      rintro e w2 ⟨rfl, rfl⟩
      go_wp2_with fail
      refine I3.out.mono ?_
      rintro e w2 ⟨rfl, rfl⟩
      go_wp2_with fail
      go_ret
      exact ⟨ret_bool (by simp), Below.refl _ _⟩
    · rw [h2] at I2
      clear h2
      go_enter Try.func30, Try.ntmps30
      go_wp2_with fail
      refine I1.out.mono ?_
      rintro e w2 ⟨rfl, rfl⟩
      go_wp2_with fail
      refine I2.out.mono ?_
      rintro e w2 ⟨rfl, rfl⟩
      go_wp2_with fail
      go_ret
      exact ⟨rfl, Below.refl _ _⟩

set_option maxRecDepth 100000 in
set_option maxHeartbeats 4000000 in
theorem strong_law (n : Int) (v : Value) (zs : List Int) (w : World) (h : Ints w v zs) :
    Calls Try.prog 7 #[.agg #[.int .i64 n, v]] w fun e w' => e = .returned (.bool true) ∧ Below w.heap.size w w' := by
  have HI := hid h
  obtain ⟨a, cap, rfl, _, _⟩ := h
  have T2 := hid (fun w v (h : Ints w v (N [1])) => Independents_ok 1 v [1] w (by omega) one_fam one_bas h)
  rw [one_ind] at T2
  have B0 := below_box w #[.int .i64 n, .slice a zs.length cap]
  have B1 : Below w.heap.size w ((w.alloc (.cells #[.int .i64 n, .slice a zs.length cap] 39)).alloc (.cells (V [1]).toArray 3)) := B0.alloc (by simp) _
  have L1 := litsAt (w.alloc (.cells #[.int .i64 n, .slice a zs.length cap] 39)) [1]
  rw [World.size_alloc] at L1
  have X1 : Hid (((w.alloc (.cells #[.int .i64 n, .slice a zs.length cap] 39)).alloc (.cells (V [1]).toArray 3)).cell? ⟨w.heap.size, 0, none⟩ = some (.int .i64 n) ∧ ((w.alloc (.cells #[.int .i64 n, .slice a zs.length cap] 39)).alloc (.cells (V [1]).toArray 3)).cell? ⟨w.heap.size, 1, none⟩ = some (.slice a zs.length cap)) :=
    box_cells ((Below.refl _ _).alloc (Nat.le_refl _) _)
  have C1 := hid (T2.out _ _ L1)
  have HB1 := hid B1
  clear B0 B1 L1 T2
  go_enter Try.func7, Try.ntmps7
  go_wp2_with fail
  refine C1.out.mono ?_
  rintro e w2 ⟨u2, rfl, ho2, hb2⟩
  have X2 := hid (box_back X1.out hb2 (by simp; omega))
  have B2 := hid (HB1.out.trans (hb2.mono HB1.out.size))
  have S2 : w.heap.size + 1 ≤ w2.heap.size := by have := hb2.size; simp at this; omega
  have I2 := ho2.ints (by decide)
  have bl : Below w2.heap.size w2 (w2.alloc (.cells (V [0, 1]).toArray 3)) := (Below.refl _ _).alloc (Nat.le_refl _) _
  have SM := hid (Same_any _ _ _ _ _ (I2.below bl) (litsAt w2 [0, 1]))
  obtain ⟨fa, fcap, rfl⟩ := ho2.form
  have X3 := hid (box_back X2.out bl (by omega))
  have B3 := hid (B2.out.trans (bl.mono B2.out.size))
  clear hb2 ho2 C1 X1 I2 bl X2
  go_wp2_with fail
  refine SM.out.mono ?_
  simp only [decide_true]
  rintro e w3 ⟨rfl, hb3⟩
  have X4 := hid (box_back X3.out hb3 (by simp; omega))
  have B4 := hid (B3.out.trans (hb3.mono B3.out.size))
  have S4 : w.heap.size + 1 ≤ w3.heap.size := by have := hb3.size; simp at this; omega
  obtain ⟨x0, x1⟩ := X4.out
  clear hb3 X3 SM
  go_wp2_with fail
  by_cases hc : chkR n zs = 0
  · obtain ⟨m, l, rfl, hm, rfl, hfam, hbas⟩ := chk_of hc
    have RK := hid hbas.rk
    have PW := hid (pow_wrap m hm).2
    refine (Circuits_ok m _ l _ hm hfam hbas (HI.out.below B4.out)).mono ?_
    rintro e w5 ⟨u5, rfl, ho5, hb5⟩
    have B5 := hid (B4.out.trans (hb5.mono B4.out.size))
    have I5 := hid (ho5.ints (Nat.le_trans (rg_le _ _) (Nat.le_trans PW.out (by omega))))
    obtain ⟨a5, cap5, rfl⟩ := ho5.form
    clear hb5 x0 x1 X4 ho5
    obtain ⟨C, hC⟩ : ∃ C, (List.range (2 ^ m)).filter (cirB (rk l)) = C := ⟨_, rfl⟩
    have CL : Hid (∀ s ∈ C, s < 256) := fun s hs => by
      rw [← hC, List.mem_filter, List.mem_range] at hs
      exact lt256 hm hs.1
    have EL : Hid (∀ a ∈ C, ∀ b ∈ C, ∀ x ∈ els (a &&& b), ∀ y ∈ els (dif a b), C.any (elimB a b x y) = true) := fun a ha b hb x hx y hy => by
      have la := CL.out a ha
      have lb := CL.out b hb
      rw [mem_els (and_lt la), and_bit, Bool.and_eq_true] at hx
      rw [mem_els (dif_lt la), dif_bit, Bool.and_eq_true, Bool.not_eq_true'] at hy
      rw [← hC, List.mem_filter, List.mem_range] at ha hb
      obtain ⟨c, h1, h2, h3, h4⟩ := RK.out.strong la lb ha.2 hb.2 hx.2 hy.1 hy.2
      rw [List.any_eq_true]
      refine ⟨c, ?_, by unfold elimB; rw [h2, h3, h4]; rfl⟩
      rw [← hC, List.mem_filter, List.mem_range]
      exact ⟨sub_lt h4 (Nat.or_lt_two_pow ha.1 hb.1), h1⟩
    rw [hC] at I5 ⊢
    clear hC
    obtain ⟨_, _, he1, hLl, hLc⟩ := I5.out.nats
    simp only [Value.slice.injEq, true_and] at he1
    obtain ⟨rfl, rfl⟩ := he1
    go_wp2_with fail
    go_loopw [41] (fun i wr => ∃ k : Nat, k ≤ C.length ∧ i = .int .i64 k ∧ Below w5.heap.size w5 wr) (fun i _ => C.length - (intOf i).toNat)
    case atStart => exact ⟨0, Nat.zero_le _, rfl, Below.refl _ _⟩
    case round =>
      obtain ⟨k, hk, rfl, hn6⟩ := hrel
      by_cases hlt : k < C.length
      · obtain ⟨b, off, rfl, hb, hcell⟩ := hLc (by omega)
        have hck : wr.cell? ⟨b, off + k, none⟩ = some (.int .i64 (C.getD k 0 : Nat)) := (hn6.cell (p := ⟨b, off + k, none⟩) hb).trans (hcell k hlt)
        have ma : C.getD k 0 ∈ C := by simp [List.getD, hlt]
        have EA := hid (EL.out _ ma)
        have la := CL.out _ ma
        clear ma hLc
        generalize C.getD k 0 = p at *
        rename World => w6
        go_wp2_with fail
        have ca := (cellN w6 (.int .i64 p) 3).1
        have Ba : Below w5.heap.size w5 (w6.alloc (.cells #[.int .i64 p] 3)) := hn6.alloc hn6.size _
        have sa : w6.heap.size < (w6.alloc (.cells #[.int .i64 p] 3)).heap.size := by simp
        revert ca Ba sa
        generalize w6.alloc (.cells #[.int .i64 p] 3) = wa
        generalize w6.heap.size = pa
        intro ca Ba sa
        go_loopw [47] (fun i wr => ∃ j : Nat, j ≤ C.length ∧ i = .int .i64 j ∧ Below wa.heap.size wa wr) (fun i _ => C.length - (intOf i).toNat)
        case atStart => exact ⟨0, Nat.zero_le _, rfl, Below.refl _ _⟩
        case round =>
          obtain ⟨j, hj, rfl, hn7⟩ := hrel
          by_cases hlt2 : j < C.length
          · have hcj : wr.cell? ⟨b, off + j, none⟩ = some (.int .i64 (C.getD j 0 : Nat)) := (hn7.cell (p := ⟨b, off + j, none⟩) (by show b < _; have := Ba.size; omega)).trans ((Ba.cell (p := ⟨b, off + j, none⟩) hb).trans (hcell j hlt2))
            have mb : C.getD j 0 ∈ C := by simp [List.getD, hlt2]
            have EB := hid (EA.out _ mb)
            have lb := CL.out _ mb
            clear mb hcell
            generalize C.getD j 0 = q at *
            rename World => w7
            have cb := (cellN w7 (.int .i64 q) 3).1
            have Bb : Below wa.heap.size wa (w7.alloc (.cells #[.int .i64 q] 3)) := hn7.alloc hn7.size _
            have sb : w7.heap.size < (w7.alloc (.cells #[.int .i64 q] 3)).heap.size := by simp
            have ca2 : (w7.alloc (.cells #[.int .i64 q] 3)).cell? ⟨pa, 0, none⟩ = some (.int .i64 p) := (Bb.cell (p := ⟨pa, 0, none⟩) sa).trans ca
            have hand : bits .and .i64 (p : Int) (q : Int) = ((p &&& q : Nat) : Int) := i64_and_nat _ _ (by omega) (by omega)
            have hdif : bits .andNot .i64 (p : Int) (q : Int) = ((dif p q : Nat) : Int) := i64_andNot_nat _ _ (by omega) (by omega)
            have landq : p &&& q < 256 := and_lt la
            have ldif : dif p q < 256 := dif_lt la
            go_wp2_with fail
            revert cb Bb sb ca2
            generalize w7.alloc (.cells #[.int .i64 q] 3) = wb
            generalize w7.heap.size = pb
            intro cb Bb sb ca2
            refine (Elements_any (p &&& q) _ landq).mono ?_
            rintro e w8 ⟨u8, rfl, ho8, hb8⟩
            have ca3 := (hb8.cell (p := ⟨pa, 0, none⟩) (by show pa < _; have := Bb.size; omega)).trans ca2
            have cb3 := (hb8.cell (p := ⟨pb, 0, none⟩) sb).trans cb
            have B8 := hid (Bb.trans (hb8.mono Bb.size))
            have sa8 : pa < w8.heap.size := by have := Bb.size; have := hb8.size; omega
            have sb8 : pb < w8.heap.size := by have := hb8.size; omega
            have l8 : (els (p &&& q)).length ≤ 8 := by rw [← pop_els]; exact pop_le _ landq
            have I8 := ho8.ints (by omega)
            obtain ⟨a8, cap8, rfl, _, hc8⟩ := I8.nats
            have M8 : Hid (∀ x ∈ els (p &&& q), x < 8 ∧ ∀ y ∈ els (dif p q), C.any (elimB p q x y) = true) := fun x hx => ⟨by
              unfold els at hx
              rw [List.mem_filter, List.mem_range] at hx
              exact hx.1, EB.out x hx⟩
            clear hb8 ho8 I8 cb ca2
            generalize els (p &&& q) = xs at *
            go_wp2_with fail
            go_loopw [56] (fun i wr => ∃ j : Nat, j ≤ xs.length ∧ i = .int .i64 j ∧ Below w8.heap.size w8 wr) (fun i _ => xs.length - (intOf i).toNat)
            case atStart => exact ⟨0, Nat.zero_le _, rfl, Below.refl _ _⟩
            case round =>
              obtain ⟨i, hi, rfl, hn9⟩ := hrel
              by_cases hlt3 : i < xs.length
              · obtain ⟨b8, off8, rfl, hb8, hcell8⟩ := hc8 (by omega)
                have hci : wr.cell? ⟨b8, off8 + i, none⟩ = some (.int .i64 (xs.getD i 0 : Nat)) := (hn9.cell (p := ⟨b8, off8 + i, none⟩) hb8).trans (hcell8 i hlt3)
                obtain ⟨x8, EX0⟩ := M8.out (xs.getD i 0) (by simp [List.getD, hlt3])
                have EX := hid EX0
                clear EX0 hcell8 hc8
                generalize xs.getD i 0 = x at *
                rename World => w9
                have cx := (cellN w9 (.int .i64 x) 3).1
                have Bx : Below w8.heap.size w8 (w9.alloc (.cells #[.int .i64 x] 3)) := hn9.alloc hn9.size _
                have sx : w9.heap.size < (w9.alloc (.cells #[.int .i64 x] 3)).heap.size := by simp
                have ca4 : (w9.alloc (.cells #[.int .i64 x] 3)).cell? ⟨pa, 0, none⟩ = some (.int .i64 p) := (Bx.cell (p := ⟨pa, 0, none⟩) sa8).trans ca3
                have cb4 : (w9.alloc (.cells #[.int .i64 x] 3)).cell? ⟨pb, 0, none⟩ = some (.int .i64 q) := (Bx.cell (p := ⟨pb, 0, none⟩) sb8).trans cb3
                go_wp2_with fail
                revert cx Bx sx ca4 cb4
                generalize w9.alloc (.cells #[.int .i64 x] 3) = wx
                generalize w9.heap.size = px
                intro cx Bx sx ca4 cb4
                refine (Elements_any (dif p q) _ ldif).mono ?_
                rintro e w10 ⟨u10, rfl, ho10, hb10⟩
                have ca5 := (hb10.cell (p := ⟨pa, 0, none⟩) (by show pa < _; have := Bx.size; omega)).trans ca4
                have cb5 := (hb10.cell (p := ⟨pb, 0, none⟩) (by show pb < _; have := Bx.size; omega)).trans cb4
                have cx5 := (hb10.cell (p := ⟨px, 0, none⟩) sx).trans cx
                have B10 := hid (Bx.trans (hb10.mono Bx.size))
                have sa10 : pa < w10.heap.size := by have := Bx.size; have := hb10.size; omega
                have sb10 : pb < w10.heap.size := by have := Bx.size; have := hb10.size; omega
                have sx10 : px < w10.heap.size := by have := hb10.size; omega
                have l10 : (els (dif p q)).length ≤ 8 := by rw [← pop_els]; exact pop_le _ ldif
                have I10 := ho10.ints (by omega)
                obtain ⟨a10, cap10, rfl, _, hc10⟩ := I10.nats
                have M10 : Hid (∀ y ∈ els (dif p q), y < 8 ∧ C.any (elimB p q x y) = true) := fun y hy => ⟨by
                  unfold els at hy
                  rw [List.mem_filter, List.mem_range] at hy
                  exact hy.1, EX.out y hy⟩
                clear hb10 ho10 I10 cx ca4 cb4
                generalize els (dif p q) = ys at *
                go_wp2_with fail
                go_loopw [65] (fun i wr => ∃ j : Nat, j ≤ ys.length ∧ i = .int .i64 j ∧ Below w10.heap.size w10 wr) (fun i _ => ys.length - (intOf i).toNat)
                case atStart => exact ⟨0, Nat.zero_le _, rfl, Below.refl _ _⟩
                case round =>
                  obtain ⟨r, hr, rfl, hn11⟩ := hrel
                  by_cases hlt4 : r < ys.length
                  · obtain ⟨b10, off10, rfl, hb10, hcell10⟩ := hc10 (by omega)
                    have hcr : wr.cell? ⟨b10, off10 + r, none⟩ = some (.int .i64 (ys.getD r 0 : Nat)) := (hn11.cell (p := ⟨b10, off10 + r, none⟩) hb10).trans (hcell10 r hlt4)
                    obtain ⟨y8, EY0⟩ := M10.out (ys.getD r 0) (by simp [List.getD, hlt4])
                    have EY := hid EY0
                    clear EY0 hcell10 hc10
                    generalize ys.getD r 0 = y at *
                    rename World => w11
                    have cy := (cellN w11 (.int .i64 y) 3).1
                    have By : Below w10.heap.size w10 (w11.alloc (.cells #[.int .i64 y] 3)) := hn11.alloc hn11.size _
                    have sy : w11.heap.size < (w11.alloc (.cells #[.int .i64 y] 3)).heap.size := by simp
                    have ca6 : (w11.alloc (.cells #[.int .i64 y] 3)).cell? ⟨pa, 0, none⟩ = some (.int .i64 p) := (By.cell (p := ⟨pa, 0, none⟩) sa10).trans ca5
                    have cb6 : (w11.alloc (.cells #[.int .i64 y] 3)).cell? ⟨pb, 0, none⟩ = some (.int .i64 q) := (By.cell (p := ⟨pb, 0, none⟩) sb10).trans cb5
                    have cx6 : (w11.alloc (.cells #[.int .i64 y] 3)).cell? ⟨px, 0, none⟩ = some (.int .i64 x) := (By.cell (p := ⟨px, 0, none⟩) sx10).trans cx5
                    have bs := By.size
                    have BIG : Hid (Below w5.heap.size w5 (w11.alloc (.cells #[.int .i64 y] 3))) := by
                      have h8 := Ba.trans (B8.out.mono Ba.size)
                      have h10 := h8.trans (B10.out.mono h8.size)
                      exact h10.trans (By.mono h10.size)
                    have CF := hid (ContainsFunc_any 30 _ _ C _ _ (fun args w => enters_of Try.func30 (by kernel_rfl) rfl args w) (I5.out.below BIG.out)
                      (strong1 la lb x8 y8 (by omega) (by omega) (by omega) sy ca6 cb6 cx6 cy CL.out))
                    rw [EY.out] at CF
                    have HBy := hid By
                    clear By
                    go_wp2_with fail
                    refine CF.out.mono ?_
                    rintro e w12 ⟨rfl, hb12⟩
                    have B12 := hid (HBy.out.trans (hb12.mono HBy.out.size))
                    clear hb12
                    go_wp2_with fail
                    go_roundw
                    case rel => exact ⟨r + 1, by omega, by go_num, B12.out⟩
                    case measure => simp [intOf]; omega
                  · go_wp2_with fail
                    go_roundw
                    case rel => exact ⟨i + 1, by omega, by go_num, B10.out.trans (hn11.mono B10.out.size)⟩
                    case measure => simp [intOf]; omega
              · go_wp2_with fail
                go_roundw
                case rel => exact ⟨j + 1, by omega, by go_num, B8.out.trans (hn9.mono B8.out.size)⟩
                case measure => simp [intOf]; omega
          · go_wp2_with fail
            go_roundw
            case rel => exact ⟨k + 1, by omega, by go_num, Ba.trans (hn7.mono Ba.size)⟩
            case measure => simp [intOf]; omega
      · go_wp2_with fail
        go_ret
        exact ⟨ret_bool (by simp), B5.out.trans (hn6.mono B5.out.size)⟩
  · refine (Circuits_bad n _ zs _ (HI.out.below B4.out) hc).mono ?_
    rintro e w5 ⟨rfl, hb5⟩
    have B5 := hid (B4.out.trans (hb5.mono B4.out.size))
    generalize chkR n zs = q at *
    have hq : (q == 0) = false := by rw [beq_eq_false_iff_ne]; exact hc
    clear hc hb5
    go_wp2_with fail
    go_ret
    exact ⟨ret_bool (by simp), B5.out⟩
end Go.Proofs.Ytkebhhpfnalbfab
