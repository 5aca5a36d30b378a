/- The law rotalaw.MinorsMakes. -/
import Derived.Test.YthbldeloocmakabGreatMkUQ
import Derived.Test.YthbldeloocmakabGreatVrJQ
import Derived.Test.YthbldeloocmakabGreatRefMkBQ
import Derived.Test.YthbldeloocmakabGreatRefMkDQ
import Derived.Test.YthbldeloocmakabGreatRefMkEQ
import Derived.Test.YthbldeloocmakabGreatRefAxEQ
import Derived.Test.YthbldeloocmakabGreatRefAxBQ
import Derived.Deep.CutRange
import Derived.Deep.RegionHeld3
namespace Go.Proofs.YthbldeloocmakabGreat
open Go.RowKit

/-- What stays while the law runs: the two matroids and the number that were handed in. -/
def BaseK (w W : World) (n : Int) (v : Value) (k : Int) (u : Value) (s : Int) : Prop := Below w.heap.size w W ∧ w.heap.size + 3 ≤ W.heap.size ∧ W.heap[w.heap.size]? = some (.cells #[.int .i64 n, v] 24 (0, 0)) ∧ W.heap[w.heap.size + 1]? = some (.cells #[.int .i64 k, u] 24 (0, 0)) ∧ W.heap[w.heap.size + 1 + 1]? = some (.cells #[.int .i64 s] 3 (0, 0))
theorem BaseK.next {w W W' : World} {n : Int} {v : Value} {k : Int} {u : Value} {s : Int} (h : BaseK w W n v k u s) (hb : Below W.heap.size W W') : BaseK w W' n v k u s := by
  obtain ⟨h1, h2, h3, h4, h5⟩ := h
  exact ⟨h1.trans (hb.mono h1.size), Nat.le_trans h2 hb.size, (hb.block w.heap.size (by omega)).trans h3, (hb.block (w.heap.size + 1) (by omega)).trans h4, (hb.block (w.heap.size + 1 + 1) (by omega)).trans h5⟩
theorem BaseK.set2 {w W : World} {n : Int} {v : Value} {k : Int} {u : Value} {s : Int} {b : Nat} {x y : Value} (h : BaseK w W n v k u s) (hb : w.heap.size + 3 ≤ b) : BaseK w ((W.setCell ⟨b, 0, none⟩ x).setCell ⟨b, 1, none⟩ y) n v k u s := by
  obtain ⟨h1, h2, h3, h4, h5⟩ := h
  have sz : ((W.setCell ⟨b, 0, none⟩ x).setCell ⟨b, 1, none⟩ y).heap.size = W.heap.size := by simp [World.setCell]
  exact ⟨below_two h1 (by omega), by rw [sz]; exact h2, (Below.heap_setCell _ _ _ _ (by show w.heap.size ≠ b; omega)).trans ((Below.heap_setCell _ _ _ _ (by show w.heap.size ≠ b; omega)).trans h3), (Below.heap_setCell _ _ _ _ (by show w.heap.size + 1 ≠ b; omega)).trans ((Below.heap_setCell _ _ _ _ (by show w.heap.size + 1 ≠ b; omega)).trans h4), (Below.heap_setCell _ _ _ _ (by show w.heap.size + 1 + 1 ≠ b; omega)).trans ((Below.heap_setCell _ _ _ _ (by show w.heap.size + 1 + 1 ≠ b; omega)).trans h5)⟩
theorem BaseK.cells {w W : World} {n : Int} {v : Value} {k : Int} {u : Value} {s : Int} (h : BaseK w W n v k u s) : W.cell? ⟨w.heap.size, 0, none⟩ = some (.int .i64 n) ∧ W.cell? ⟨w.heap.size, 1, none⟩ = some v ∧ W.cell? ⟨w.heap.size + 1, 0, none⟩ = some (.int .i64 k) ∧ W.cell? ⟨w.heap.size + 1, 1, none⟩ = some u ∧ W.cell? ⟨w.heap.size + 1 + 1, 0, none⟩ = some (.int .i64 s) := by
  obtain ⟨_, _, h3, h4, h5⟩ := h
  exact ⟨(cells2 h3).1, (cells2 h3).2, (cells2 h4).1, (cells2 h4).2, by simp [World.cell?, h5]⟩
/-- The three boxes. -/
def boxK (w : World) (n : Int) (v : Value) (k : Int) (u : Value) (s : Int) : World := (box2 w n v k u).alloc (.cells #[.int .i64 s] 3)
theorem boxK_base (w : World) (n : Int) (v : Value) (k : Int) (u : Value) (s : Int) : BaseK w (boxK w n v k u s) n v k u s := by
  have hs := box2_size w n v k u
  have h3 : Below (box2 w n v k u).heap.size (box2 w n v k u) (boxK w n v k u s) := (Below.refl _ _).alloc (Nat.le_refl _) _
  obtain ⟨c0, c1⟩ := box2_blocks h3
  refine ⟨(box2_below w n v k u).alloc (by rw [hs]; omega) _, by unfold boxK; rw [World.size_alloc, hs]; omega, c0, c1, ?_⟩
  have := World.alloc_heap_new (box2 w n v k u) (.cells #[.int .i64 s] 3)
  rw [hs] at this
  exact this
/-- Four variables more. -/
theorem four_new (w : World) : Below w.heap.size w ((((w.alloc (.cells #[.int .i64 0, .slice none 0 0] 24)).alloc (.cells #[.int .i64 0, .slice none 0 0] 24)).alloc (.cells #[.int .i64 0, .slice none 0 0] 24)).alloc (.cells #[.int .i64 0, .slice none 0 0] 24)) ∧ ((((w.alloc (.cells #[.int .i64 0, .slice none 0 0] 24)).alloc (.cells #[.int .i64 0, .slice none 0 0] 24)).alloc (.cells #[.int .i64 0, .slice none 0 0] 24)).alloc (.cells #[.int .i64 0, .slice none 0 0] 24)).heap.size = w.heap.size + 4 ∧ ZeroJ ((((w.alloc (.cells #[.int .i64 0, .slice none 0 0] 24)).alloc (.cells #[.int .i64 0, .slice none 0 0] 24)).alloc (.cells #[.int .i64 0, .slice none 0 0] 24)).alloc (.cells #[.int .i64 0, .slice none 0 0] 24)) w.heap.size ∧ ZeroJ ((((w.alloc (.cells #[.int .i64 0, .slice none 0 0] 24)).alloc (.cells #[.int .i64 0, .slice none 0 0] 24)).alloc (.cells #[.int .i64 0, .slice none 0 0] 24)).alloc (.cells #[.int .i64 0, .slice none 0 0] 24)) (w.heap.size + 1) ∧ ZeroJ ((((w.alloc (.cells #[.int .i64 0, .slice none 0 0] 24)).alloc (.cells #[.int .i64 0, .slice none 0 0] 24)).alloc (.cells #[.int .i64 0, .slice none 0 0] 24)).alloc (.cells #[.int .i64 0, .slice none 0 0] 24)) (w.heap.size + 1 + 1) ∧ ZeroJ ((((w.alloc (.cells #[.int .i64 0, .slice none 0 0] 24)).alloc (.cells #[.int .i64 0, .slice none 0 0] 24)).alloc (.cells #[.int .i64 0, .slice none 0 0] 24)).alloc (.cells #[.int .i64 0, .slice none 0 0] 24)) (w.heap.size + 1 + 1 + 1) := by
  have s1 : (w.alloc (.cells #[.int .i64 0, .slice none 0 0] 24)).heap.size = w.heap.size + 1 := World.size_alloc ..
  have s2 : ((w.alloc (.cells #[.int .i64 0, .slice none 0 0] 24)).alloc (.cells #[.int .i64 0, .slice none 0 0] 24)).heap.size = w.heap.size + 1 + 1 := by rw [World.size_alloc, s1]
  have s3 : (((w.alloc (.cells #[.int .i64 0, .slice none 0 0] 24)).alloc (.cells #[.int .i64 0, .slice none 0 0] 24)).alloc (.cells #[.int .i64 0, .slice none 0 0] 24)).heap.size = w.heap.size + 1 + 1 + 1 := by rw [World.size_alloc, s2]
  have z1 : ZeroJ (w.alloc (.cells #[.int .i64 0, .slice none 0 0] 24)) w.heap.size := World.alloc_heap_new w _
  have z2 : ZeroJ ((w.alloc (.cells #[.int .i64 0, .slice none 0 0] 24)).alloc (.cells #[.int .i64 0, .slice none 0 0] 24)) (w.heap.size + 1) := by rw [← s1]; exact World.alloc_heap_new _ _
  have z3 : ZeroJ (((w.alloc (.cells #[.int .i64 0, .slice none 0 0] 24)).alloc (.cells #[.int .i64 0, .slice none 0 0] 24)).alloc (.cells #[.int .i64 0, .slice none 0 0] 24)) (w.heap.size + 1 + 1) := by rw [← s2]; exact World.alloc_heap_new _ _
  have z4 : ZeroJ ((((w.alloc (.cells #[.int .i64 0, .slice none 0 0] 24)).alloc (.cells #[.int .i64 0, .slice none 0 0] 24)).alloc (.cells #[.int .i64 0, .slice none 0 0] 24)).alloc (.cells #[.int .i64 0, .slice none 0 0] 24)) (w.heap.size + 1 + 1 + 1) := by rw [← s3]; exact World.alloc_heap_new _ _
  have up : ∀ W : World, Below W.heap.size W (W.alloc (.cells #[.int .i64 0, .slice none 0 0] 24)) := fun W => (Below.refl _ _).alloc (Nat.le_refl _) _
  refine ⟨((((Below.refl _ w).alloc (Nat.le_refl _) _).alloc (by omega) _).alloc (by omega) _).alloc (by omega) _, by rw [World.size_alloc, s3], ((z1.below (up _)).below (up _)).below (up _), (z2.below (up _)).below (up _), z3.below (up _), z4⟩
theorem size_set2 (W : World) (b : Nat) (x y : Value) : ((W.setCell ⟨b, 0, none⟩ x).setCell ⟨b, 1, none⟩ y).heap.size = W.heap.size := by simp [World.setCell]
theorem MkQ_ok (x t bS bM : Nat) (v : Value) (l : List Nat) (w : World) (hS : w.cell? ⟨bS, 0, none⟩ = some (.int .i64 t)) (hM : w.cell? ⟨bM, 1, none⟩ = some v) (h : Ints w v (N l)) :
    Calls Tryz.prog 16 #[.int .i64 x, .pointer (some ⟨bS, 0, none⟩), .pointer (some ⟨bM, 0, none⟩)] w fun e w' => e = .returned (.bool (x == t || memB x l)) ∧ Below w.heap.size w w' := by
  have HA := hid (Has_any v l x w h)
  obtain ⟨a, cap, hv, -, -⟩ := h.nats
  subst hv
  generalize memB x l = b at *
  by_cases hx : x = t
  · subst hx
    have e : ((x : Int) == (x : Int)) = true := by simp
    go_enter Tryz.func16, Tryz.ntmps16
    go_wp2_with fail
    go_ret
    exact ⟨ret_bool (by simp), Below.refl _ _⟩
  · have e : ((x : Int) == (t : Int)) = false := by rw [beq_eq_false_iff_ne]; omega
    have e2 : Hid ((x == t || b) = b) := by show _ = _; rw [beq_eq_false_iff_ne.2 hx]; rfl
    rw [e2.out]
    clear hx
    go_enter Tryz.func16, Tryz.ntmps16
    go_wp2_with fail
    refine HA.out.mono ?_
    rintro e w' ⟨rfl, hw'⟩
    obtain rfl := hw'.symm
    go_wp2_with fail
    go_ret
    exact ⟨rfl, Below.refl _ _⟩
theorem ins_doc {m t : Nat} {l : List Nat} (hm : m ≤ 8) (hf : Fam m l) (hb : Bas l) (ht : t < 2 ^ m) (h1 : cirB (rk l) t = true) (h2 : hypB (rk l) m t = true) : (List.range (2 ^ m)).filter (fun x => x == t || memB x l) = insL l t := by
  refine sorted_ext (Fam.range m _).up (ins_bas hm hf hb ht h1 h2).1.up fun x => ?_
  rw [List.mem_filter, List.mem_range, ins_mem hf.up, Bool.or_eq_true, beq_iff_eq]
  unfold memB
  rw [decide_eq_true_iff]
  exact ⟨fun h => h.2, fun h => ⟨h.elim (fun e => e ▸ ht) (fun e => hf.lt x e), h⟩⟩
theorem setB_isK (n s : Int) : setB n s = (setR n s == 0) := by
  unfold setB setR
  split
  · rename_i h; rw [decide_eq_true h]; rfl
  · rename_i h; rw [decide_eq_false h]; rfl
theorem bad_anyK (b : Bool) (e : Int) (w : World) : Calls Tryz.prog 5 #[.bool b, .int .i64 e] w fun r w' => r = .returned (.int .i64 (if b = true then 0 else e)) ∧ w' = w := by
  cases b
  · exact bad_no e w
  · exact bad_yes e w
set_option maxRecDepth 100000 in
set_option maxHeartbeats 16000000 in
theorem mmakes_law (n : Int) (v : Value) (zs : List Int) (k : Int) (u : Value) (ys : List Int) (s : Int) (w : World) (h : Ints w v zs) (h' : Ints w u ys) (hcp : ∀ a L c, v = .slice a L c → L ≤ c) :
    Calls Tryz.prog 3 #[.agg #[.int .i64 n, v], .agg #[.int .i64 k, u], .int .i64 s] w fun e w' => e = .returned (.bool true) ∧ Below w.heap.size w w' := by
  obtain ⟨qF, qG, qH, NA, NB, ND, LA, LB, LC, LX, LY, LD, ⟨hLA, hLB, hLC, hLX, hLY, hLD⟩, SU, FR, RE, CL, CO, SI, ZQ, IS1, IS2⟩ := mk_is n k s zs ys
  have B0 := boxK_base w n v k u s
  have ME := Matroid_ref n v zs _ (h.below B0.1)
  have MK := fun w' (hb : Below w.heap.size w w') => Matroid_ref k u ys w' (h'.below hb)
  have HM := hid (fun w' (hb : Below w.heap.size w w') => h.below hb)
  have HN := hid (fun w' (hb : Below w.heap.size w w') => h'.below hb)
  have HCP := hid hcp
  have HB0 := hid B0
  clear B0
  obtain ⟨a0, cap, rfl, -, -⟩ := h
  obtain ⟨a1, cap1, rfl, -, -⟩ := h'
  generalize chkR n zs = qE at *
  generalize chkR k ys = qK at *
  have HSU := hid SU
  have HFR := hid FR
  have HRE := hid RE
  have HCL := hid CL
  have HCO := hid CO
  have HSI := hid SI
  have HZQ := hid ZQ
  have HI1 := hid IS1
  have HI2 := hid IS2
  have HME := hid ME
  have HMK := hid MK
  obtain ⟨q2, HQ2⟩ : ∃ q2, Hid ((if qE = 0 then qK else qE) = q2) := ⟨_, Eq.refl _⟩
  have HQE : Hid (q2 = 0 → qE = 0 ∧ qK = 0) := fun h => by
    have h2 := HQ2.out
    by_cases e : qE = 0
    · rw [if_pos e] at h2
      exact ⟨e, h2.trans h⟩
    · rw [if_neg e] at h2
      exact absurd (h2.trans h) e
  have HQN : Hid (q2 ≠ 0 → qF = q2) := fun hne => by
    have h2 := HQ2.out
    by_cases e : qE = 0
    · rw [if_pos e] at h2
      rw [← h2]
      exact (IS1 e).1 (by rw [h2]; exact hne)
    · rw [if_neg e] at h2
      rw [← h2]
      exact (ZQ e).1
  clear SU FR RE CL CO SI ZQ IS1 IS2 ME MK hcp
  go_enter Tryz.func3, Tryz.ntmps3
  go_wp2_with fail
  refine HME.out.mono ?_
  rintro e w1 ⟨rfl, hb1⟩
  have S1 := hid (HB0.out.next hb1)
  clear hb1 HME HB0
  go_upto_if 35 with fail
  go_cut [8] from 36 to 37 (fun x W => x = .int .i64 q2 ∧ Hid (Below w1.heap.size w1 W))
  case first =>
    by_cases hq : qE = 0
    · subst hq
      have M1 := hid (HMK.out w1 S1.out.1)
      obtain ⟨_, _, x2, x3, _⟩ := S1.out.cells
      have e1 : Hid (qK = q2) := by show _ = _; rw [← HQ2.out]; rfl
      clear HMK HSU HFR HRE HCL HCO HSI HZQ HI1 HI2
      go_wp2_with fail
      refine M1.out.mono ?_
      rintro e w2 ⟨rfl, hb2⟩
      have H2 := hid hb2
      clear hb2 M1
      go_wp2_with fail
      go_meet
      exact ⟨by rw [e1.out], H2⟩
    · have hq' : (qE == 0) = false := by simp [hq]
      have e1 : Hid (qE = q2) := by show _ = _; rw [← HQ2.out, if_neg hq]
      clear hq HMK HSU HFR HRE HCL HCO HSI HZQ HI1 HI2
      go_wp2_with fail
      go_meet
      exact ⟨by rw [e1.out], Below.refl _ _⟩
  case rest =>
    obtain ⟨rfl, HC⟩ := hcut
    have S2 := hid (S1.out.next HC.out)
    clear HC S1 HMK HQ2
    generalize wc = w2 at *
    go_upto_region 5 with fail
    go_cut [47] from 38 to 46 (fun x W => x = .bool (decide (q2 = 0 ∧ qF = 2)) ∧ W = w2)
    case first =>
      by_cases hq : q2 = 0
      · subst hq
        obtain ⟨e1, e2⟩ := HQE.out rfl
        obtain ⟨m, j, l, l', rfl, rfl, hm, hj, hz1, hz2, _, _, _, _, hmj⟩ := (HI1.out e1).2 e2
        clear hz1 hz2
        obtain ⟨x0, _, x2, _, _⟩ := S2.out.cells
        have hadd : wrap64 ((m : Int) + (j : Int)) = ((m + j : Nat) : Int) := by
          rw [← IntWalk.i64_left, show ((m : Int) + (j : Int)) = ((m + j : Nat) : Int) by omega]
          exact wrap_i64_nat _ (by omega)
        obtain ⟨M, HMM⟩ : ∃ M, Hid (m + j = M) := ⟨_, rfl⟩
        rw [HMM.out] at hadd
        have hadd2 : (m : Int) + (j : Int) = (M : Int) := by rw [← HMM.out]; omega
        clear e1 e2 HSU HFR HRE HCL HCO HSI HZQ HI1 HI2 HQE HQN
        rcases hmj with ⟨h1, h2⟩ | ⟨h1, h2, _, _⟩
        · have hgt : (8 : Int) < (M : Int) := by rw [← HMM.out]; omega
          have E : Hid (decide ((0 : Int) = 0 ∧ qF = 2) = true) := decide_eq_true ⟨rfl, h2⟩
          clear h1 h2
          go_wp2_with fail
          go_meet
          exact ⟨by rw [E.out], rfl⟩
        · have hgt : ¬ (8 : Int) < (M : Int) := by rw [← HMM.out]; omega
          have E : Hid (decide ((0 : Int) = 0 ∧ qF = 2) = false) := decide_eq_false (fun h => by rw [h2] at h; exact absurd h.2 (by decide))
          clear h1 h2
          go_wp2_with fail
          go_meet
          exact ⟨by rw [E.out], rfl⟩
      · have hq' : (q2 == 0) = false := by simp [hq]
        have E : Hid (decide (q2 = 0 ∧ qF = 2) = false) := decide_eq_false (fun h => hq h.1)
        clear hq HSU HFR HRE HCL HCO HSI HZQ HI1 HI2 HQE HQN
        go_wp2_with fail
        go_meet
        exact ⟨by rw [E.out], rfl⟩
    case rest =>
      obtain ⟨rfl, rfl⟩ := hcut
      go_upto_if 47 with fail
      go_cut [8] from 47 to 48 (fun x W => x = .int .i64 qF ∧ W = wc)
      case first =>
        by_cases hq : q2 = 0 ∧ qF = 2
        · have hd : decide (q2 = 0 ∧ qF = 2) = true := decide_eq_true hq
          have e1 := hid hq.2
          rw [hd]
          clear hq hd HSU HFR HRE HCL HCO HSI HZQ HI1 HI2 HQE HQN
          go_wp2_with fail
          go_meet
          exact ⟨by rw [e1.out], rfl⟩
        · have hd : decide (q2 = 0 ∧ qF = 2) = false := decide_eq_false hq
          have e1 : Hid (q2 = qF) := by
            show _ = _
            by_cases h0 : q2 = 0
            · obtain ⟨e1, e2⟩ := HQE.out h0
              obtain ⟨m, j, l, l', _, _, _, _, _, _, _, _, _, _, hmj⟩ := (HI1.out e1).2 e2
              rcases hmj with ⟨h1, h2⟩ | ⟨h1, h2, _, _⟩
              · exact absurd ⟨h0, h2⟩ hq
              · rw [h0, h2]
            · exact (HQN.out h0).symm
          rw [hd]
          clear hq hd HSU HFR HRE HCL HCO HSI HZQ HI1 HI2 HQE HQN
          go_wp2_with fail
          go_meet
          exact ⟨by rw [e1.out], rfl⟩
      case rest =>
        obtain ⟨rfl, rfl⟩ := hcut
        generalize wc = w3 at *
        have S3 := S2
        clear S2 HQE HQN
        go_upto_if 49 with fail
        have FN := four_new w3
        revert FN
        generalize ((((w3.alloc (.cells #[.int .i64 0, .slice none 0 0] 24)).alloc (.cells #[.int .i64 0, .slice none 0 0] 24)).alloc (.cells #[.int .i64 0, .slice none 0 0] 24)).alloc (.cells #[.int .i64 0, .slice none 0 0] 24)) = W0
        rintro ⟨f1, f2, f3, f4, f5, f6⟩
        have HF1 := hid f1
        have HZA := hid f3
        have HZB := hid f4
        have HZC := hid f5
        have HZD := hid f6
        have hB : W0.heap.size = w3.heap.size + 4 := f2
        have hb3 : w.heap.size + 3 ≤ w3.heap.size := S3.out.2.1
        have S4 := hid (S3.out.next f1)
        clear f1 f2 f3 f4 f5 f6
        go_cut [9, 10, 15, 16] from 50 to 77 (fun g h x y W => g = .int .i64 qG ∧ h = .int .i64 qH ∧ (∃ a L c, x = .slice a L c ∧ Hid (ToldJ W0.heap.size W qE (.slice a L c) LX)) ∧ (∃ a L c, y = .slice a L c ∧ Hid (ToldJ W0.heap.size W qE (.slice a L c) LY)) ∧ Hid (VarJ W0.heap.size W (w3.heap.size + 1 + 1 + 1) qE ND LD) ∧ Hid (ZeroJ W w3.heap.size ∧ ZeroJ W (w3.heap.size + 1) ∧ ZeroJ W (w3.heap.size + 1 + 1)) ∧ Hid (BaseK w W n (.slice a0 zs.length cap) k (.slice a1 ys.length cap1) s) ∧ Hid (W0.heap.size ≤ W.heap.size))
        case first =>
          clear HSU HFR HRE HCL HCO HSI HI1
          by_cases hq : qE = 0
          · subst hq
            obtain ⟨m, l, ⟨hn, hm, hz, hf, hb⟩, hG, hH, hLXe, hLYe, hNDe, hLDe⟩ := HI2.out rfl
            subst hn
            subst hz
            rw [N_len l] at *
            have HLXe := hid hLXe
            have HLYe := hid hLYe
            have HNDe := hid hNDe
            have HLDe := hid hLDe
            clear hLXe hLYe hNDe hLDe HI2 HZQ HCP
            obtain ⟨b8, hb8, hb8', HG8⟩ : ∃ b8 : Bool, decide ((m : Int) < 8) = b8 ∧ decide (m < 8) = b8 ∧ Hid ((if b8 = true then (0 : Int) else 2) = qG) := by
              rcases hG with ⟨h1, h2, _, _⟩ | ⟨h1, h2⟩
              · exact ⟨true, decide_eq_true (by omega), decide_eq_true h1, h2.symm⟩
              · exact ⟨false, decide_eq_false (by omega), decide_eq_false (by omega), h2.symm⟩
            have BG := hid (fun w => bad_anyK b8 2 w)
            rw [HG8.out] at BG
            have IS := hid (fun w => IsSet_any m s w)
            obtain ⟨b9, HB9⟩ : ∃ b9, Hid (setB m s = b9) := ⟨_, rfl⟩
            rw [HB9.out] at IS
            have BH := hid (fun w => bad_anyK b9 1 w)
            obtain ⟨q9, HQ9⟩ : ∃ q9 : Int, Hid ((if b9 = true then (0 : Int) else 1) = q9) := ⟨_, rfl⟩
            rw [HQ9.out] at BH
            have HQ0 : Hid (q9 = setR m s) := by
              show _ = _
              rw [← HQ9.out, ← HB9.out, setB_isK]
              rcases setR_twoK m s with e | ⟨e, _⟩ <;> rw [e] <;> rfl
            have HH := hid hH
            obtain ⟨x0, x1, x2, x3, x4⟩ := S4.out.cells
            clear hG HG8 HB9 HQ9 hH
            go_wp2_with fail
            refine (BG.out _).mono ?_
            rintro e w' ⟨rfl, hw'⟩
            obtain rfl := hw'.symm
            clear hw'
            go_wp2_with fail
            refine (IS.out _).mono ?_
            rintro e w' ⟨rfl, hw'⟩
            obtain rfl := hw'.symm
            clear hw'
            go_wp2_with fail
            refine (BH.out _).mono ?_
            rintro e w' ⟨rfl, hw'⟩
            obtain rfl := hw'.symm
            clear hw' BG IS BH hb8 hb8'
            go_upto_if 60 with fail
            go_cut [10] from 61 to 71 (fun x W => x = .int .i64 qH ∧ Hid (Below W0.heap.size W0 W))
            case first =>
              rcases HH.out with ⟨hs1, hs2⟩ | ⟨hs1, t, rfl, ht, hc⟩
              · have e9 : q9 = 1 := HQ0.out.trans hs1
                subst e9
                have E := hid hs2
                clear hs1 hs2 HH HQ0
                go_wp2_with fail
                go_meet
                exact ⟨by rw [E.out], Below.refl _ _⟩
              · have e9 : q9 = 0 := HQ0.out.trans hs1
                subst e9
                have CI := hid (fun (w' : World) (hb2 : Below W0.heap.size W0 w') => Circ_ref m _ l w' hm (hf.lt256 hm) (HM.out w' (S4.out.1.trans (hb2.mono S4.out.1.size))))
                have HY := hid (fun (w' : World) (hb2 : Below W0.heap.size W0 w') => Hyp_ref m _ l w' hm (hf.lt256 hm) (HM.out w' (S4.out.1.trans (hb2.mono S4.out.1.size))))
                have HA : Hid (∀ (L : List Nat) (p : Nat → Bool), (List.range (2 ^ m)).filter p = L → L.length ≤ 256 ∧ memB t L = p t) := fun L p e => by
                  subst e
                  refine ⟨fam_len hm (Fam.range m p), ?_⟩
                  unfold memB
                  rw [Bool.eq_iff_iff, decide_eq_true_iff, List.mem_filter, List.mem_range]
                  exact ⟨fun h => h.2, fun h => ⟨ht, h⟩⟩
                have HC1 : Hid (memB t ((List.range (2 ^ m)).filter (leastK (depL m l))) = cirB (rk l) t) := by
                  show _ = _
                  rw [cir_eq hm hb]
                  exact (HA.out _ _ rfl).2
                have HC2 : Hid (memB t ((List.range (2 ^ m)).filter (mostK ((List.range (2 ^ m)).filter (spanK l)))) = hypB (rk l) m t) := by
                  show _ = _
                  rw [hyp_eq hm hf hb]
                  exact (HA.out _ _ rfl).2
                have hl1 : ((List.range (2 ^ m)).filter (leastK (depL m l))).length ≤ 256 := (HA.out _ _ rfl).1
                have hl2 : ((List.range (2 ^ m)).filter (mostK ((List.range (2 ^ m)).filter (spanK l)))).length ≤ 256 := (HA.out _ _ rfl).1
                have CE : Hid (∀ w', Below W0.heap.size W0 w' → w'.cell? ⟨w.heap.size, 0, none⟩ = some (.int .i64 m) ∧ w'.cell? ⟨w.heap.size, 1, none⟩ = some (.slice a0 l.length cap) ∧ w'.cell? ⟨w.heap.size + 1 + 1, 0, none⟩ = some (.int .i64 t)) := fun w' hb2 => ⟨(S4.out.next hb2).cells.1, (S4.out.next hb2).cells.2.1, (S4.out.next hb2).cells.2.2.2.2⟩
                have BD := hid (fun b w => bad_anyK b 3 w)
                have HBd : Hid (Below W0.heap.size W0 W0.drew) := (Below.refl _ _).drew
                have HQH : Hid ((if (cirB (rk l) t && hypB (rk l) m t) = true then (0 : Int) else 3) = qH) := by
                  show _ = _
                  rcases hc with ⟨h1, h2⟩ | ⟨h1, h2, _⟩
                  · rw [h1, h2]; rfl
                  · rw [h1, h2]; rfl
                clear hs1 HH HQ0 hc HA HM HN ht HLXe HLYe HNDe HLDe HZA HZB HZC HZD
                generalize (List.range (2 ^ m)).filter (leastK (depL m l)) = L1 at *
                generalize (List.range (2 ^ m)).filter (mostK ((List.range (2 ^ m)).filter (spanK l))) = L2 at *
                generalize cirB (rk l) t = c1 at *
                generalize hypB (rk l) m t = c2 at *
                obtain ⟨y0, y1, y2⟩ := CE.out W0.drew HBd.out
                clear x0 x1 x2 x3 x4
                rcases c1 with _ | _
                · have E : Hid (qH = 3) := HQH.out.symm
                  clear HQH HY
                  go_wp2_with fail
                  go_region_with (first
                    | (go_at_call 8; refine (CI.out _ HBd.out).mono ?_; rintro e w4 ⟨r4, rfl, ho4, hb4⟩; have H4 := hid (HBd.out.trans hb4); have A1 := hid (Has_any r4 L1 t w4 (ho4.ints (by omega))); rw [HC1.out] at A1; obtain ⟨ra4, rc4, hrr⟩ := ownsRow_form' ho4; subst hrr; have yy := CE.out w4 H4.out; obtain ⟨z0, z1, z2⟩ := yy; clear hb4 ho4)
                    | (go_at_call 7; refine A1.out.mono ?_; rintro e w' ⟨rfl, hw'⟩; obtain rfl := hw'.symm; clear hw')
                    | (go_at_call 5; refine (BD.out _ _).mono ?_; rintro e w' ⟨rfl, hw'⟩; obtain rfl := hw'.symm; clear hw'))
                  all_goals go_wp2_with fail
                  all_goals go_meet
                  all_goals exact ⟨by rw [E.out], H4⟩
                · have E : Hid ((if c2 = true then (0 : Int) else 3) = qH) := HQH.out
                  have BQ := hid (fun w => bad_anyK c2 3 w)
                  rw [E.out] at BQ
                  clear HQH BD E
                  go_wp2_with fail
                  go_region_with (first
                    | (go_at_call 8; refine (CI.out _ HBd.out).mono ?_; rintro e w4 ⟨r4, rfl, ho4, hb4⟩; have H4 := hid (HBd.out.trans hb4); have A1 := hid (Has_any r4 L1 t w4 (ho4.ints (by omega))); rw [HC1.out] at A1; obtain ⟨ra4, rc4, hrr⟩ := ownsRow_form' ho4; subst hrr; have yy := CE.out w4 H4.out; obtain ⟨z0, z1, z2⟩ := yy; clear hb4 ho4)
                    | (go_at_call 7; (with_reducible refine A1.out.mono ?_); rintro e w' ⟨rfl, hw'⟩; obtain rfl := hw'.symm; clear hw')
                    | (go_at_call 9; refine (HY.out _ H4.out).mono ?_; rintro e w6 ⟨r6, rfl, ho6, hb6⟩; have H6 := hid (H4.out.trans (hb6.mono H4.out.size)); have A2 := hid (Has_any r6 L2 t w6 (ho6.ints (by omega))); rw [HC2.out] at A2; obtain ⟨ra6, rc6, hrr⟩ := ownsRow_form' ho6; subst hrr; have yy := CE.out w6 H6.out; obtain ⟨u0, u1, u2⟩ := yy; clear hb6 ho6)
                    | (go_at_call 7; (with_reducible refine A2.out.mono ?_); rintro e w' ⟨rfl, hw'⟩; obtain rfl := hw'.symm; clear hw')
                    | (go_at_call 5; refine (BQ.out _).mono ?_; rintro e w' ⟨rfl, hw'⟩; obtain rfl := hw'.symm; clear hw'))
                  all_goals go_wp2_with fail
                  all_goals go_meet
                  all_goals exact ⟨rfl, H6⟩
            case rest =>
              obtain ⟨rfl, HC⟩ := hcut
              generalize wc = w5 at *
              have S5 := hid (S4.out.next HC.out)
              have HS5 : Hid (W0.heap.size ≤ w5.heap.size) := HC.out.size
              have ZA5 := hid (HZA.out.below HC.out)
              have ZB5 := hid (HZB.out.below HC.out)
              have ZC5 := hid (HZC.out.below HC.out)
              have ZD5 := hid (HZD.out.below HC.out)
              have CLS := hid (fun (w' : World) (hb2 : Below w5.heap.size w5 w') => Classes_ref m _ l w' hm hf hb (HM.out w' (S5.out.1.trans (hb2.mono S5.out.1.size))))
              have CMP := hid (fun (w' : World) (hb2 : Below w5.heap.size w5 w') => Components_ref m _ l w' hm hf hb (HM.out w' (S5.out.1.trans (hb2.mono S5.out.1.size))))
              have SMP := hid (fun (w' : World) (hb2 : Below w5.heap.size w5 w') => SimpleD_ref m _ l w' hm hf hb (HM.out w' (S5.out.1.trans (hb2.mono S5.out.1.size))))
              rw [← HLXe.out] at CLS
              rw [← HLYe.out] at CMP
              rw [← HLDe.out] at SMP
              have SMP2 : Hid (∀ (w' : World), Below w5.heap.size w5 w' → Calls Tryz.prog 12 #[.agg #[.int .i64 m, .slice a0 l.length cap]] w' fun e w2 => ∃ r, e = .returned (.agg #[.int .i64 ND, r]) ∧ Own w'.heap.size w2 r LD ∧ Below w'.heap.size w' w2) := fun w' hb2 => by
                rw [HNDe.out]
                exact SMP.out w' hb2
              have CE : Hid (∀ w', Below w5.heap.size w5 w' → w'.cell? ⟨w.heap.size, 0, none⟩ = some (.int .i64 m) ∧ w'.cell? ⟨w.heap.size, 1, none⟩ = some (.slice a0 l.length cap)) := fun w' hb2 => ⟨(S5.out.next hb2).cells.1, (S5.out.next hb2).cells.2.1⟩
              have HBd : Hid (Below w5.heap.size w5 w5.drew) := (Below.refl _ _).drew
              obtain ⟨y0, y1⟩ := CE.out w5 (Below.refl _ _)
              have ne1 : ¬ w3.heap.size + 1 + 1 + 1 = w.heap.size := by omega
              have ne2 : ¬ w.heap.size = w3.heap.size + 1 + 1 + 1 := by omega
              clear x0 x1 x2 x3 x4 HC S4 HZA HZB HZC HZD SMP HLXe HLYe HNDe HLDe HM HN HH HQ0 hf hb hm HF1
              go_wp2_with fail
              go_region_held3 (fun w' => w'.cell? ⟨w.heap.size, 0, none⟩ = some (.int .i64 m) ∧ w'.cell? ⟨w.heap.size, 1, none⟩ = some (.slice a0 l.length cap)) (go_keep)
               (first
                | (go_at_call 10; refine (CLS.out _ HBd.out).mono ?_; rintro e w7 ⟨r7, rfl, ho7, hb7⟩; have H7 := hid (HBd.out.trans hb7); have O7 := hid (ho7.mono HS5.out); obtain ⟨ra7, rc7, hrr⟩ := ownsRow_form' ho7; subst hrr; have yy := CE.out w7 H7.out; obtain ⟨y2, y3⟩ := yy; clear hb7 ho7)
                | (go_at_call 11; refine (CMP.out _ H7.out).mono ?_; rintro e w8 ⟨r8, rfl, ho8, hb8⟩; have H8 := hid (H7.out.trans (hb8.mono H7.out.size)); have O8 := hid (ho8.mono (Nat.le_trans HS5.out H7.out.size)); have P8 := hid (O7.out.below hb8); obtain ⟨ra8, rc8, hrr⟩ := ownsRow_form' ho8; subst hrr; have yy := CE.out w8 H8.out; obtain ⟨y4, y5⟩ := yy; clear hb8 ho8)
                | (go_at_call 12; refine (SMP2.out _ H8.out).mono ?_; rintro e w9 ⟨r9, rfl, ho9, hb9⟩; have H9 := hid (H8.out.trans (hb9.mono H8.out.size)); have O9 := hid (ho9.mono (Nat.le_trans HS5.out H8.out.size)); have P9 := hid (P8.out.below hb9); have Q9 := hid (O8.out.below hb9); obtain ⟨ra9, rc9, hrr⟩ := ownsRow_form' ho9; subst hrr; have yy := CE.out w9 H9.out; obtain ⟨y6, y7⟩ := yy; have zz9 := ZD5.out.below H9.out; have ZD9 := hid zz9; obtain ⟨k0, k1, k2, k3⟩ := two_cells zz9; clear hb9 ho9 zz9))
              all_goals go_wp2_with fail
              all_goals go_meet
              all_goals refine ⟨rfl, rfl, ⟨_, _, _, rfl, .inr ⟨rfl, P9.out.set2 (by omega)⟩⟩, ⟨_, _, _, rfl, .inr ⟨rfl, Q9.out.set2 (by omega)⟩⟩, ⟨ND, ra9, _, rc9, setJ_blk ZD9.out, .inl ⟨rfl, rfl, O9.out.set2 (by omega)⟩⟩, ⟨(ZA5.out.below H9.out).set2 (by omega), (ZB5.out.below H9.out).set2 (by omega), (ZC5.out.below H9.out).set2 (by omega)⟩, (S5.out.next H9.out).set2 (by omega), ?_⟩
              all_goals show W0.heap.size ≤ _
              all_goals rw [size_set2]
              all_goals exact Nat.le_trans HS5.out H9.out.size
          · have hq' : (qE == 0) = false := by simp [hq]
            obtain ⟨_, e2, e3⟩ := HZQ.out hq
            have E2 := hid e2
            have E3 := hid e3
            have TX : Hid (ToldJ W0.heap.size W0 qE (.slice none 0 0) LX) := .inl ⟨hq, rfl⟩
            have TY : Hid (ToldJ W0.heap.size W0 qE (.slice none 0 0) LY) := .inl ⟨hq, rfl⟩
            have VD : Hid (VarJ W0.heap.size W0 (w3.heap.size + 1 + 1 + 1) qE ND LD) := HZD.out.var hq
            clear hq e2 e3 HZQ HI2 HCP HM HN
            go_wp2_with fail
            go_meet
            exact ⟨by rw [E2.out], by rw [E3.out], ⟨_, _, _, rfl, TX⟩, ⟨_, _, _, rfl, TY⟩, VD, ⟨HZA.out, HZB.out, HZC.out⟩, S4, Nat.le_refl _⟩
        case rest =>
          obtain ⟨rfl, rfl, ⟨ax, Lx, cx, rfl, TX⟩, ⟨ay, Ly, cy, rfl, TY⟩, VD, HZZ, SB, HSZ⟩ := hcut
          obtain ⟨zA, zB, zC⟩ := HZZ.out
          have ZA := hid zA
          have ZB := hid zB
          have ZC := hid zC
          clear zA zB zC HZZ S4 S3 HF1 HZA HZB HZC HZD
          generalize wc = wS at *
          have HQF : Hid (qF = 0 → qE = 0 ∧ qK = 0) := fun h => by
            by_cases e : qE = 0
            · by_cases e2 : qK = 0
              · exact ⟨e, e2⟩
              · exact absurd (((HI1.out e).1 e2).symm.trans h) e2
            · exact absurd ((HZQ.out e).1.symm.trans h) e
          have HQG : Hid (qG = 0 → qE = 0) := fun h => Classical.byContradiction fun e => e ((HZQ.out e).2.1.symm.trans h)
          have HQH : Hid (qH = 0 → qE = 0) := fun h => Classical.byContradiction fun e => e ((HZQ.out e).2.2.symm.trans h)
          go_upto_if 79 with fail
          go_cut [] from 80 to 82 (fun W => Hid (VarJ W0.heap.size W w3.heap.size qF NA LA) ∧ Hid (ZeroJ W (w3.heap.size + 1)) ∧ Hid (ZeroJ W (w3.heap.size + 1 + 1)) ∧ Hid (VarJ W0.heap.size W (w3.heap.size + 1 + 1 + 1) qE ND LD) ∧ Hid (ToldJ W0.heap.size W qE (.slice ax Lx cx) LX) ∧ Hid (ToldJ W0.heap.size W qE (.slice ay Ly cy) LY) ∧ Hid (BaseK w W n (.slice a0 zs.length cap) k (.slice a1 ys.length cap1) s) ∧ Hid (W0.heap.size ≤ W.heap.size))
          case first =>
            by_cases hq : qF = 0
            · subst hq
              obtain ⟨e1, e2⟩ := HQF.out rfl
              obtain ⟨m, j, l, l', hn, hk, hm, hj, hz, hy, hf, hb, hf', hb', hmj⟩ := (HI1.out e1).2 e2
              subst hn
              subst hk
              subst hz
              subst hy
              rw [N_len l] at *
              rw [N_len l'] at *
              rcases hmj with ⟨_, h2⟩ | ⟨h1, _, hNA, hLAe⟩
              · exact absurd h2 (by decide)
              · have SR := hid (Summed_ref m j _ _ l l' wS h1 hf hb (HM.out _ SB.out.1) hf' hb' (HN.out _ SB.out.1))
                rw [← hNA, ← hLAe] at SR
                obtain ⟨x0, x1, x2, x3, _⟩ := SB.out.cells
                clear e1 e2 hNA hLAe h1 hf hb hf' hb' hm hj HSU HFR HRE HCL HCO HSI HZQ HI1 HI2 HQF HQG HQH HM HN HCP
                go_wp2_with fail
                refine SR.out.mono ?_
                rintro e w7 ⟨r7, rfl, ho7, hb7⟩
                obtain ⟨ra7, rc7, hrr⟩ := ownsRow_form' ho7
                subst hrr
                have hsz7 := hb7.size
                have zz := ZA.out.below hb7
                obtain ⟨k0, k1, k2, k3⟩ := two_cells zz
                have R1 : Hid (VarJ W0.heap.size ((w7.setCell ⟨w3.heap.size, 0, none⟩ (.int .i64 NA)).setCell ⟨w3.heap.size, 1, none⟩ (.slice ra7 LA.length rc7)) w3.heap.size 0 NA LA) := ⟨NA, ra7, _, rc7, setJ_blk zz, .inl ⟨rfl, rfl, (ho7.mono HSZ.out).set2 (by omega)⟩⟩
                have R2 := hid ((ZB.out.below hb7).set2 (x := .int .i64 NA) (y := .slice ra7 LA.length rc7) (b' := w3.heap.size) (by omega))
                have R3 := hid ((ZC.out.below hb7).set2 (x := .int .i64 NA) (y := .slice ra7 LA.length rc7) (b' := w3.heap.size) (by omega))
                have R4 := hid ((VD.out.below hb7).set2 (x := .int .i64 NA) (y := .slice ra7 LA.length rc7) (b' := w3.heap.size) (by omega) (by omega))
                have R5 := hid ((TX.out.below hb7).set2 (x := .int .i64 NA) (y := .slice ra7 LA.length rc7) (b' := w3.heap.size) (by omega))
                have R6 := hid ((TY.out.below hb7).set2 (x := .int .i64 NA) (y := .slice ra7 LA.length rc7) (b' := w3.heap.size) (by omega))
                have R7 := hid ((SB.out.next hb7).set2 (x := .int .i64 NA) (y := .slice ra7 LA.length rc7) (b := w3.heap.size) (by omega))
                have R8 : Hid (W0.heap.size ≤ ((w7.setCell ⟨w3.heap.size, 0, none⟩ (.int .i64 NA)).setCell ⟨w3.heap.size, 1, none⟩ (.slice ra7 LA.length rc7)).heap.size) := by show _ ≤ _; rw [size_set2]; exact Nat.le_trans HSZ.out hsz7
                clear hb7 ho7 zz SR x0 x1 x2 x3
                go_wp2_with fail
                go_meet
                exact ⟨R1, R2, R3, R4, R5, R6, R7, R8⟩
            · have hq' : (qF == 0) = false := by simp [hq]
              have R1 : Hid (VarJ W0.heap.size wS w3.heap.size qF NA LA) := ZA.out.var hq
              clear hq HSU HFR HRE HCL HCO HSI HZQ HI1 HI2 HQF HQG HQH HM HN HCP
              go_wp2_with fail
              go_meet
              exact ⟨R1, ZB, ZC, VD, TX, TY, SB, HSZ⟩
          case rest =>
            obtain ⟨VA, ZB, ZC, VD, TX, TY, SB, HSZ⟩ := hcut
            generalize wc = wS at *
            go_upto_if 84 with fail
            go_cut [] from 85 to 86 (fun W => Hid (VarJ W0.heap.size W w3.heap.size qF NA LA) ∧ Hid (VarJ W0.heap.size W (w3.heap.size + 1) qG NB LB) ∧ Hid (ZeroJ W (w3.heap.size + 1 + 1)) ∧ Hid (VarJ W0.heap.size W (w3.heap.size + 1 + 1 + 1) qE ND LD) ∧ Hid (ToldJ W0.heap.size W qE (.slice ax Lx cx) LX) ∧ Hid (ToldJ W0.heap.size W qE (.slice ay Ly cy) LY) ∧ Hid (BaseK w W n (.slice a0 zs.length cap) k (.slice a1 ys.length cap1) s) ∧ Hid (W0.heap.size ≤ W.heap.size))
            case first =>
              by_cases hq : qG = 0
              · have e1 := HQG.out hq
                obtain ⟨m, l, ⟨hn, hm, hz, hf, hb⟩, hG, _⟩ := HI2.out e1
                subst hq
                subst hn
                subst hz
                rw [N_len l] at *
                rcases hG with ⟨h8, _, hNB, hLBe⟩ | ⟨_, h2⟩
                · have SR := hid (Freed_ref m _ l wS h8 hf hb (HM.out _ SB.out.1))
                  rw [← hNB, ← hLBe] at SR
                  obtain ⟨x0, x1, x2, x3, _⟩ := SB.out.cells
                  clear e1 hNB hLBe h8 hf hb hm HSU HFR HRE HCL HCO HSI HZQ HI1 HI2 HQF HQG HQH HM HN HCP
                  go_wp2_with fail
                  refine SR.out.mono ?_
                  rintro e w7 ⟨r7, rfl, ho7, hb7⟩
                  obtain ⟨ra7, rc7, hrr⟩ := ownsRow_form' ho7
                  subst hrr
                  have hsz7 := hb7.size
                  have zz := ZB.out.below hb7
                  obtain ⟨k0, k1, k2, k3⟩ := two_cells zz
                  have R2 : Hid (VarJ W0.heap.size ((w7.setCell ⟨w3.heap.size + 1, 0, none⟩ (.int .i64 NB)).setCell ⟨w3.heap.size + 1, 1, none⟩ (.slice ra7 LB.length rc7)) (w3.heap.size + 1) 0 NB LB) := ⟨NB, ra7, _, rc7, setJ_blk zz, .inl ⟨rfl, rfl, (ho7.mono HSZ.out).set2 (by omega)⟩⟩
                  have R1 := hid ((VA.out.below hb7).set2 (x := .int .i64 NB) (y := .slice ra7 LB.length rc7) (b' := w3.heap.size + 1) (by omega) (by omega))
                  have R3 := hid ((ZC.out.below hb7).set2 (x := .int .i64 NB) (y := .slice ra7 LB.length rc7) (b' := w3.heap.size + 1) (by omega))
                  have R4 := hid ((VD.out.below hb7).set2 (x := .int .i64 NB) (y := .slice ra7 LB.length rc7) (b' := w3.heap.size + 1) (by omega) (by omega))
                  have R5 := hid ((TX.out.below hb7).set2 (x := .int .i64 NB) (y := .slice ra7 LB.length rc7) (b' := w3.heap.size + 1) (by omega))
                  have R6 := hid ((TY.out.below hb7).set2 (x := .int .i64 NB) (y := .slice ra7 LB.length rc7) (b' := w3.heap.size + 1) (by omega))
                  have R7 := hid ((SB.out.next hb7).set2 (x := .int .i64 NB) (y := .slice ra7 LB.length rc7) (b := w3.heap.size + 1) (by omega))
                  have R8 : Hid (W0.heap.size ≤ ((w7.setCell ⟨w3.heap.size + 1, 0, none⟩ (.int .i64 NB)).setCell ⟨w3.heap.size + 1, 1, none⟩ (.slice ra7 LB.length rc7)).heap.size) := by show _ ≤ _; rw [size_set2]; exact Nat.le_trans HSZ.out hsz7
                  clear hb7 ho7 zz SR x0 x1 x2 x3
                  go_wp2_with fail
                  go_meet
                  exact ⟨R1, R2, R3, R4, R5, R6, R7, R8⟩
                · exact absurd h2 (by decide)
              · have hq' : (qG == 0) = false := by simp [hq]
                have R2 : Hid (VarJ W0.heap.size wS (w3.heap.size + 1) qG NB LB) := ZB.out.var hq
                clear hq HSU HFR HRE HCL HCO HSI HZQ HI1 HI2 HQF HQG HQH HM HN HCP
                go_wp2_with fail
                go_meet
                exact ⟨VA, R2, ZC, VD, TX, TY, SB, HSZ⟩
            case rest =>
              obtain ⟨VA, VB, ZC, VD, TX, TY, SB, HSZ⟩ := hcut
              generalize wc = wS at *
              go_upto_if 88 with fail
              go_cut [] from 89 to 95 (fun W => Hid (VarJ W0.heap.size W w3.heap.size qF NA LA) ∧ Hid (VarJ W0.heap.size W (w3.heap.size + 1) qG NB LB) ∧ Hid (VarJ W0.heap.size W (w3.heap.size + 1 + 1) qH n LC) ∧ Hid (VarJ W0.heap.size W (w3.heap.size + 1 + 1 + 1) qE ND LD) ∧ Hid (ToldJ W0.heap.size W qE (.slice ax Lx cx) LX) ∧ Hid (ToldJ W0.heap.size W qE (.slice ay Ly cy) LY) ∧ Hid (BaseK w W n (.slice a0 zs.length cap) k (.slice a1 ys.length cap1) s) ∧ Hid (W0.heap.size ≤ W.heap.size))
              case first =>
                by_cases hq : qH = 0
                · have e1 := HQH.out hq
                  obtain ⟨m, l, ⟨hn, hm, hz, hf, hb⟩, _, hH, _⟩ := HI2.out e1
                  subst hn
                  subst hz
                  rw [N_len l] at *
                  rcases hH with ⟨_, h2⟩ | ⟨_, t, rfl, ht, ⟨_, h2⟩ | ⟨hc, _, hLCe⟩⟩
                  · rw [hq] at h2; exact absurd h2 (by decide)
                  · rw [hq] at h2; exact absurd h2 (by decide)
                  · subst hq
                    have hc2 := Bool.and_eq_true_iff.1 hc
                    obtain ⟨x0, x1, _, _, x4⟩ := SB.out.cells
                    have TH := hid (fun (w' : World) (hb' : Below wS.heap.size wS w') => Those_any m 16 #[.pointer (some ⟨w.heap.size + 1 + 1, 0, none⟩), .pointer (some ⟨w.heap.size, 0, none⟩)] (fun x => x == t || memB x l) w' hm (fun args w => enters_of Tryz.func16 (by kernel_rfl) rfl args w)
                      (fun x hx w3' hb3' _ => by
                        have hbb := hb'.trans (hb3'.mono hb'.size)
                        have S9 := SB.out.next hbb
                        exact MkQ_ok x t (w.heap.size + 1 + 1) w.heap.size _ l w3' S9.cells.2.2.2.2 S9.cells.2.1 (HM.out _ S9.1)))
                    rw [ins_doc hm hf hb ht hc2.1 hc2.2, ← hLCe] at TH
                    have HBd : Hid (Below wS.heap.size wS wS.drew) := (Below.refl _ _).drew
                    have CE : Hid (∀ w', Below wS.heap.size wS w' → w'.cell? ⟨w.heap.size, 0, none⟩ = some (.int .i64 m)) := fun w' hb2 => (SB.out.next hb2).cells.1
                    have ne1 : ¬ w3.heap.size + 1 + 1 = w.heap.size := by omega
                    have ne2 : ¬ w.heap.size = w3.heap.size + 1 + 1 := by omega
                    have hz0 := ZC.out
                    obtain ⟨j0, j1, j2, j3⟩ := two_cells hz0
                    clear e1 hLCe ht hc hc2 hf hb hm HSU HFR HRE HCL HCO HSI HZQ HI1 HI2 HQF HQG HQH HM HN HCP hz0
                    go_wp2_with fail
                    go_region_held3 (fun w' => w'.cell? ⟨w.heap.size, 0, none⟩ = some (.int .i64 m)) (go_keep)
                     (first
                      | (go_at_call 15; refine (TH.out _ HBd.out).mono ?_; rintro e w7 ⟨r7, rfl, ho7, hb7⟩; have H7 := hid (HBd.out.trans hb7); have O7 := hid (ho7.mono HSZ.out); obtain ⟨ra7, rc7, hrr⟩ := ownsRow_form' ho7; subst hrr; have y0 := CE.out w7 H7.out; have zz := ZC.out.below H7.out; have Z7 := hid zz; obtain ⟨k0, k1, k2, k3⟩ := two_cells zz; clear hb7 ho7 zz))
                    all_goals have hb7 := H7.out
                    all_goals have hsz7 := hb7.size
                    all_goals have R3 : Hid (VarJ W0.heap.size ((w7.setCell ⟨w3.heap.size + 1 + 1, 0, none⟩ (.int .i64 m)).setCell ⟨w3.heap.size + 1 + 1, 1, none⟩ (.slice ra7 LC.length rc7)) (w3.heap.size + 1 + 1) 0 m LC) := ⟨m, ra7, _, rc7, setJ_blk Z7.out, .inl ⟨rfl, rfl, O7.out.set2 (by omega)⟩⟩
                    all_goals have R1 := hid ((VA.out.below hb7).set2 (x := .int .i64 m) (y := .slice ra7 LC.length rc7) (b' := w3.heap.size + 1 + 1) (by omega) (by omega))
                    all_goals have R2 := hid ((VB.out.below hb7).set2 (x := .int .i64 m) (y := .slice ra7 LC.length rc7) (b' := w3.heap.size + 1 + 1) (by omega) (by omega))
                    all_goals have R4 := hid ((VD.out.below hb7).set2 (x := .int .i64 m) (y := .slice ra7 LC.length rc7) (b' := w3.heap.size + 1 + 1) (by omega) (by omega))
                    all_goals have R5 := hid ((TX.out.below hb7).set2 (x := .int .i64 m) (y := .slice ra7 LC.length rc7) (b' := w3.heap.size + 1 + 1) (by omega))
                    all_goals have R6 := hid ((TY.out.below hb7).set2 (x := .int .i64 m) (y := .slice ra7 LC.length rc7) (b' := w3.heap.size + 1 + 1) (by omega))
                    all_goals have R7 := hid ((SB.out.next hb7).set2 (x := .int .i64 m) (y := .slice ra7 LC.length rc7) (b := w3.heap.size + 1 + 1) (by omega))
                    all_goals have R8 : Hid (W0.heap.size ≤ ((w7.setCell ⟨w3.heap.size + 1 + 1, 0, none⟩ (.int .i64 m)).setCell ⟨w3.heap.size + 1 + 1, 1, none⟩ (.slice ra7 LC.length rc7)).heap.size) := by show _ ≤ _; rw [size_set2]; exact Nat.le_trans HSZ.out hsz7
                    all_goals clear hb7
                    all_goals go_wp2_with fail
                    all_goals go_meet
                    all_goals exact ⟨R1, R2, R3, R4, R5, R6, R7, R8⟩
                · have hq' : (qH == 0) = false := by simp [hq]
                  have R3 : Hid (VarJ W0.heap.size wS (w3.heap.size + 1 + 1) qH n LC) := ZC.out.var hq
                  clear hq HSU HFR HRE HCL HCO HSI HZQ HI1 HI2 HQF HQG HQH HM HN HCP
                  go_wp2_with fail
                  go_meet
                  exact ⟨VA, VB, R3, VD, TX, TY, SB, HSZ⟩
              case rest =>
                obtain ⟨VA, VB, VC, VD, TX, TY, SB, HSZ⟩ := hcut
                generalize wc = wS at *
                clear HI1 HI2 HZQ HQF HQG HQH HSZ
                have C1 := hid (HSU.out _ _ wS (HM.out _ SB.out.1) (HN.out _ SB.out.1))
                obtain ⟨x0, x1, x2, x3, x4⟩ := SB.out.cells
                go_wp2_with fail
                refine C1.out.mono ?_
                rintro e v1 ⟨n1, a1, L1, c1, rfl, hg1, hb1⟩
                have bn1 : Below v1.heap.size v1 (v1.alloc (.cells #[.int .i64 n1, .slice a1 L1 c1] 24)) := (Below.refl _ _).alloc (Nat.le_refl _) _
                have hh1 := hb1.trans (bn1.mono hb1.size)
                have VA_1 := hid (VA.out.below hh1)
                clear VA
                have VB_1 := hid (VB.out.below hh1)
                clear VB
                have VC_1 := hid (VC.out.below hh1)
                clear VC
                have VD_1 := hid (VD.out.below hh1)
                clear VD
                have TX_1 := hid (TX.out.below hh1)
                clear TX
                have TY_1 := hid (TY.out.below hh1)
                clear TY
                have SB_1 := hid (SB.out.next hh1)
                clear SB
                have XA_1 : Hid (VarJ wS.heap.size (v1.alloc (.cells #[.int .i64 n1, .slice a1 L1 c1] 24)) v1.heap.size qF NA LA) := ⟨n1, a1, L1, c1, World.alloc_heap_new v1 _, hg1.below bn1⟩
                clear C1 x0 x1 x2 x3 x4 hg1 hb1 bn1 hh1
                have C2 := hid (HFR.out _ (v1.alloc (.cells #[.int .i64 n1, .slice a1 L1 c1] 24)) (HM.out _ SB_1.out.1))
                obtain ⟨x0, x1, x2, x3, x4⟩ := SB_1.out.cells
                go_wp2_with fail
                refine C2.out.mono ?_
                rintro e v2 ⟨n2, a2, L2, c2, rfl, hg2, hb2⟩
                have bn2 : Below v2.heap.size v2 (v2.alloc (.cells #[.int .i64 n2, .slice a2 L2 c2] 24)) := (Below.refl _ _).alloc (Nat.le_refl _) _
                have hh2 := hb2.trans (bn2.mono hb2.size)
                have VA_2 := hid (VA_1.out.below hh2)
                clear VA_1
                have VB_2 := hid (VB_1.out.below hh2)
                clear VB_1
                have VC_2 := hid (VC_1.out.below hh2)
                clear VC_1
                have VD_2 := hid (VD_1.out.below hh2)
                clear VD_1
                have TX_2 := hid (TX_1.out.below hh2)
                clear TX_1
                have TY_2 := hid (TY_1.out.below hh2)
                clear TY_1
                have SB_2 := hid (SB_1.out.next hh2)
                clear SB_1
                have XA_2 := hid (XA_1.out.below hh2)
                clear XA_1
                have XB_2 : Hid (VarJ (v1.alloc (.cells #[.int .i64 n1, .slice a1 L1 c1] 24)).heap.size (v2.alloc (.cells #[.int .i64 n2, .slice a2 L2 c2] 24)) v2.heap.size qG NB LB) := ⟨n2, a2, L2, c2, World.alloc_heap_new v2 _, hg2.below bn2⟩
                clear C2 x0 x1 x2 x3 x4 hg2 hb2 bn2 hh2
                have C3 := hid (HRE.out _ (v2.alloc (.cells #[.int .i64 n2, .slice a2 L2 c2] 24)) (HM.out _ SB_2.out.1) HCP.out)
                obtain ⟨x0, x1, x2, x3, x4⟩ := SB_2.out.cells
                go_wp2_with fail
                refine C3.out.mono ?_
                rintro e v3 ⟨n3, a3, L3, c3, rfl, hg3, hb3⟩
                have bn3 : Below v3.heap.size v3 (v3.alloc (.cells #[.int .i64 n3, .slice a3 L3 c3] 24)) := (Below.refl _ _).alloc (Nat.le_refl _) _
                have hh3 := hb3.trans (bn3.mono hb3.size)
                have VA_3 := hid (VA_2.out.below hh3)
                clear VA_2
                have VB_3 := hid (VB_2.out.below hh3)
                clear VB_2
                have VC_3 := hid (VC_2.out.below hh3)
                clear VC_2
                have VD_3 := hid (VD_2.out.below hh3)
                clear VD_2
                have TX_3 := hid (TX_2.out.below hh3)
                clear TX_2
                have TY_3 := hid (TY_2.out.below hh3)
                clear TY_2
                have SB_3 := hid (SB_2.out.next hh3)
                clear SB_2
                have XA_3 := hid (XA_2.out.below hh3)
                clear XA_2
                have XB_3 := hid (XB_2.out.below hh3)
                clear XB_2
                have XC_3 : Hid (VarJ (v2.alloc (.cells #[.int .i64 n2, .slice a2 L2 c2] 24)).heap.size (v3.alloc (.cells #[.int .i64 n3, .slice a3 L3 c3] 24)) v3.heap.size qH n LC) := ⟨n3, a3, L3, c3, World.alloc_heap_new v3 _, hg3.below bn3⟩
                clear C3 x0 x1 x2 x3 x4 hg3 hb3 bn3 hh3
                have C4 := hid (HCL.out _ (v3.alloc (.cells #[.int .i64 n3, .slice a3 L3 c3] 24)) (HM.out _ SB_3.out.1))
                obtain ⟨x0, x1, x2, x3, x4⟩ := SB_3.out.cells
                go_wp2_with fail
                refine C4.out.mono ?_
                rintro e v4 ⟨a4, L4, c4, rfl, ht4, hb4⟩
                have VA_4 := hid (VA_3.out.below hb4)
                clear VA_3
                have VB_4 := hid (VB_3.out.below hb4)
                clear VB_3
                have VC_4 := hid (VC_3.out.below hb4)
                clear VC_3
                have VD_4 := hid (VD_3.out.below hb4)
                clear VD_3
                have TX_4 := hid (TX_3.out.below hb4)
                clear TX_3
                have TY_4 := hid (TY_3.out.below hb4)
                clear TY_3
                have SB_4 := hid (SB_3.out.next hb4)
                clear SB_3
                have XA_4 := hid (XA_3.out.below hb4)
                clear XA_3
                have XB_4 := hid (XB_3.out.below hb4)
                clear XB_3
                have XC_4 := hid (XC_3.out.below hb4)
                clear XC_3
                have UX_4 := hid ht4
                clear C4 x0 x1 x2 x3 x4 ht4 hb4
                have C5 := hid (HCO.out _ v4 (HM.out _ SB_4.out.1))
                obtain ⟨x0, x1, x2, x3, x4⟩ := SB_4.out.cells
                go_wp2_with fail
                refine C5.out.mono ?_
                rintro e v5 ⟨a5, L5, c5, rfl, ht5, hb5⟩
                have VA_5 := hid (VA_4.out.below hb5)
                clear VA_4
                have VB_5 := hid (VB_4.out.below hb5)
                clear VB_4
                have VC_5 := hid (VC_4.out.below hb5)
                clear VC_4
                have VD_5 := hid (VD_4.out.below hb5)
                clear VD_4
                have TX_5 := hid (TX_4.out.below hb5)
                clear TX_4
                have TY_5 := hid (TY_4.out.below hb5)
                clear TY_4
                have SB_5 := hid (SB_4.out.next hb5)
                clear SB_4
                have XA_5 := hid (XA_4.out.below hb5)
                clear XA_4
                have XB_5 := hid (XB_4.out.below hb5)
                clear XB_4
                have XC_5 := hid (XC_4.out.below hb5)
                clear XC_4
                have UX_5 := hid (UX_4.out.below hb5)
                clear UX_4
                have UY_5 := hid ht5
                clear C5 x0 x1 x2 x3 x4 ht5 hb5
                have C6 := hid (HSI.out _ v5 (HM.out _ SB_5.out.1))
                obtain ⟨x0, x1, x2, x3, x4⟩ := SB_5.out.cells
                go_wp2_with fail
                refine C6.out.mono ?_
                rintro e v6 ⟨n6, a6, L6, c6, rfl, hg6, hb6⟩
                have bn6 : Below v6.heap.size v6 (v6.alloc (.cells #[.int .i64 n6, .slice a6 L6 c6] 24)) := (Below.refl _ _).alloc (Nat.le_refl _) _
                have hh6 := hb6.trans (bn6.mono hb6.size)
                have VA_6 := hid (VA_5.out.below hh6)
                clear VA_5
                have VB_6 := hid (VB_5.out.below hh6)
                clear VB_5
                have VC_6 := hid (VC_5.out.below hh6)
                clear VC_5
                have VD_6 := hid (VD_5.out.below hh6)
                clear VD_5
                have TX_6 := hid (TX_5.out.below hh6)
                clear TX_5
                have TY_6 := hid (TY_5.out.below hh6)
                clear TY_5
                have SB_6 := hid (SB_5.out.next hh6)
                clear SB_5
                have XA_6 := hid (XA_5.out.below hh6)
                clear XA_5
                have XB_6 := hid (XB_5.out.below hh6)
                clear XB_5
                have XC_6 := hid (XC_5.out.below hh6)
                clear XC_5
                have UX_6 := hid (UX_5.out.below hh6)
                clear UX_5
                have UY_6 := hid (UY_5.out.below hh6)
                clear UY_5
                have XD_6 : Hid (VarJ v5.heap.size (v6.alloc (.cells #[.int .i64 n6, .slice a6 L6 c6] 24)) v6.heap.size qE ND LD) := ⟨n6, a6, L6, c6, World.alloc_heap_new v6 _, hg6.below bn6⟩
                clear C6 x0 x1 x2 x3 x4 hg6 hb6 bn6 hh6
                clear HSU HFR HRE HCL HCO HSI HM HN HCP
                obtain ⟨p7, q7, r7, s7, h17, g17⟩ := XA_6.out
                obtain ⟨p'7, q'7, r'7, s'7, h27, g27⟩ := VA_6.out
                obtain ⟨z0, z1⟩ := cells2 h17
                obtain ⟨z2, z3⟩ := cells2 h27
                have C7 := hid (toldJ (v6.alloc (.cells #[.int .i64 n6, .slice a6 L6 c6] 24)) g17 g27 hLA)
                clear h17 h27 g17 g27
                go_wp2_with fail
                refine C7.out.mono ?_
                rintro e v7 ⟨rfl, hb7⟩
                have VB_7 := hid (VB_6.out.below hb7)
                clear VB_6
                have VC_7 := hid (VC_6.out.below hb7)
                clear VC_6
                have VD_7 := hid (VD_6.out.below hb7)
                clear VD_6
                have TX_7 := hid (TX_6.out.below hb7)
                clear TX_6
                have TY_7 := hid (TY_6.out.below hb7)
                clear TY_6
                have SB_7 := hid (SB_6.out.next hb7)
                clear SB_6
                have XB_7 := hid (XB_6.out.below hb7)
                clear XB_6
                have XC_7 := hid (XC_6.out.below hb7)
                clear XC_6
                have UX_7 := hid (UX_6.out.below hb7)
                clear UX_6
                have UY_7 := hid (UY_6.out.below hb7)
                clear UY_6
                have XD_7 := hid (XD_6.out.below hb7)
                clear XD_6
                clear C7 z0 z1 z2 z3 hb7
                obtain ⟨p8, q8, r8, s8, h18, g18⟩ := XB_7.out
                obtain ⟨p'8, q'8, r'8, s'8, h28, g28⟩ := VB_7.out
                obtain ⟨z0, z1⟩ := cells2 h18
                obtain ⟨z2, z3⟩ := cells2 h28
                have C8 := hid (toldJ v7 g18 g28 hLB)
                clear h18 h28 g18 g28
                go_wp2_with fail
                refine C8.out.mono ?_
                rintro e v8 ⟨rfl, hb8⟩
                have VC_8 := hid (VC_7.out.below hb8)
                clear VC_7
                have VD_8 := hid (VD_7.out.below hb8)
                clear VD_7
                have TX_8 := hid (TX_7.out.below hb8)
                clear TX_7
                have TY_8 := hid (TY_7.out.below hb8)
                clear TY_7
                have SB_8 := hid (SB_7.out.next hb8)
                clear SB_7
                have XC_8 := hid (XC_7.out.below hb8)
                clear XC_7
                have UX_8 := hid (UX_7.out.below hb8)
                clear UX_7
                have UY_8 := hid (UY_7.out.below hb8)
                clear UY_7
                have XD_8 := hid (XD_7.out.below hb8)
                clear XD_7
                clear C8 z0 z1 z2 z3 hb8
                obtain ⟨p9, q9, r9, s9, h19, g19⟩ := XC_8.out
                obtain ⟨p'9, q'9, r'9, s'9, h29, g29⟩ := VC_8.out
                obtain ⟨z0, z1⟩ := cells2 h19
                obtain ⟨z2, z3⟩ := cells2 h29
                have C9 := hid (toldJ v8 g19 g29 hLC)
                clear h19 h29 g19 g29
                go_wp2_with fail
                refine C9.out.mono ?_
                rintro e v9 ⟨rfl, hb9⟩
                have VD_9 := hid (VD_8.out.below hb9)
                clear VD_8
                have TX_9 := hid (TX_8.out.below hb9)
                clear TX_8
                have TY_9 := hid (TY_8.out.below hb9)
                clear TY_8
                have SB_9 := hid (SB_8.out.next hb9)
                clear SB_8
                have UX_9 := hid (UX_8.out.below hb9)
                clear UX_8
                have UY_9 := hid (UY_8.out.below hb9)
                clear UY_8
                have XD_9 := hid (XD_8.out.below hb9)
                clear XD_8
                clear C9 z0 z1 z2 z3 hb9
                have C10 := hid (listJ v9 UX_9.out TX_9.out hLX)
                go_wp2_with fail
                refine C10.out.mono ?_
                rintro e v10 ⟨rfl, hb10⟩
                have VD_10 := hid (VD_9.out.below hb10)
                clear VD_9
                have TY_10 := hid (TY_9.out.below hb10)
                clear TY_9
                have SB_10 := hid (SB_9.out.next hb10)
                clear SB_9
                have UY_10 := hid (UY_9.out.below hb10)
                clear UY_9
                have XD_10 := hid (XD_9.out.below hb10)
                clear XD_9
                clear C10 hb10
                have C11 := hid (listJ v10 UY_10.out TY_10.out hLY)
                go_wp2_with fail
                refine C11.out.mono ?_
                rintro e v11 ⟨rfl, hb11⟩
                have VD_11 := hid (VD_10.out.below hb11)
                clear VD_10
                have SB_11 := hid (SB_10.out.next hb11)
                clear SB_10
                have XD_11 := hid (XD_10.out.below hb11)
                clear XD_10
                clear C11 hb11
                obtain ⟨p12, q12, r12, s12, h112, g112⟩ := XD_11.out
                obtain ⟨p'12, q'12, r'12, s'12, h212, g212⟩ := VD_11.out
                obtain ⟨z0, z1⟩ := cells2 h112
                obtain ⟨z2, z3⟩ := cells2 h212
                have C12 := hid (toldJ v11 g112 g212 hLD)
                clear h112 h212 g112 g212
                go_wp2_with fail
                refine C12.out.mono ?_
                rintro e v12 ⟨rfl, hb12⟩
                have SB_12 := hid (SB_11.out.next hb12)
                clear SB_11
                clear C12 z0 z1 z2 z3 hb12
                have HBF := hid SB_12.out.1
                go_wp2_with fail
                go_ret
                exact ⟨rfl, HBF.out⟩
end Go.Proofs.YthbldeloocmakabGreat
