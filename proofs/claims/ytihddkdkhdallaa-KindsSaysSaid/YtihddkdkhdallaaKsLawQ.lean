/- The walk of the law KindsSays. -/
import Derived.Test.YtihddkdkhdallaaKsAQ
import Derived.Test.YtihddkdkhdallaaKsCQ
import Derived.Test.YtihddkdkhdallaaKGraph2Q
import Derived.Test.YtihddkdkhdallaaKLqQ
import Derived.Test.YtihddkdkhdallaaFdSQ
import Derived.Test.YtihddkdkhdallaaGoodQ
import Derived.Test.YtihddkdkhdallaaOpnQ
import Derived.Deep.RegionHeld3
import Derived.Deep.CutRange
namespace Go.Proofs.Ytihddkdkhdallaa
open Go.RowKit

theorem badK (b : Bool) (w : World) : Calls Try.prog 4 #[.bool b, .int .i64 1] w fun r w' => r = .returned (.int .i64 (if b = true then 0 else 1)) ∧ w' = w := by
  cases b
  · go_enter Try.func4, Try.ntmps4
    go_wp2_with fail
    go_ret
    exact ⟨rfl, rfl⟩
  · go_enter Try.func4, Try.ntmps4
    go_wp2_with fail
    go_ret
    exact ⟨rfl, rfl⟩
theorem okG_r (n : Int) (F : List (Int × Int)) : (if okG n F = true then (0 : Int) else 1) = graphR n F := by
  unfold okG graphR
  split <;> split <;> simp_all
theorem okM_r (p c : Int) (R : List (List Int)) : (if okM p c R = true then (0 : Int) else 1) = matR p c R := by
  unfold okM matR
  split <;> split <;> simp_all
def uniQ (k n : Int) : Int := if 0 ≤ n ∧ n ≤ 8 ∧ 0 ≤ k ∧ k ≤ n then 0 else 1
/-- A variable that holds a matroid, or nothing. -/
def VarK (D b : Nat) (W : World) (q n : Int) (l : List Nat) : Prop := ∃ nn a L c, W.heap[b]? = some (.cells #[.int .i64 nn, .slice a L c] 34 (0, 0)) ∧ GoodM D W q n l nn (.slice a L c)
abbrev zerM (W : World) (b : Nat) : Prop := W.heap[b]? = some (.cells #[.int .i64 0, .slice none 0 0] 34 (0, 0))
theorem keepK {W W' : World} {b : Nat} {o : Obj} (h : W.heap[b]? = some o) (hb : Below W.heap.size W W') : W'.heap[b]? = some o := (hb.block _ (Array.getElem?_eq_some_iff.1 h).1).trans h
theorem VarK.below {D b : Nat} {W W' : World} {q n : Int} {l : List Nat} (h : VarK D b W q n l) (hb : Below W.heap.size W W') : VarK D b W' q n l := by
  obtain ⟨nn, a, L, c, h1, h2⟩ := h
  exact ⟨nn, a, L, c, keepK h1 hb, h2.below hb⟩
theorem set_oth {W : World} {b b' : Nat} {x y : Value} (h : b ≠ b') : ((W.setCell ⟨b', 0, none⟩ x).setCell ⟨b', 1, none⟩ y).heap[b]? = W.heap[b]? := by
  rw [Below.heap_setCell _ ⟨b', 1, none⟩ _ _ h, Below.heap_setCell _ ⟨b', 0, none⟩ _ _ h]
theorem VarK.set {D b b' : Nat} {W : World} {q n : Int} {l : List Nat} {x y : Value} (h : VarK D b W q n l) (hb : b ≠ b') (hD : b' < D) : VarK D b ((W.setCell ⟨b', 0, none⟩ x).setCell ⟨b', 1, none⟩ y) q n l := by
  obtain ⟨nn, a, L, c, h1, h2⟩ := h
  exact ⟨nn, a, L, c, (set_oth hb).trans h1, h2.set2 hD⟩
theorem VarK.zero {D b : Nat} {W : World} {q n : Int} {l : List Nat} (h : zerM W b) (hq : q ≠ 0) : VarK D b W q n l := ⟨0, none, 0, 0, h, .inr ⟨hq, rfl, rfl⟩⟩
theorem VarK.put {D b : Nat} {W : World} {q n nn : Int} {l : List Nat} {a : Option Addr} {L c : Nat} (h : zerM W b) (hg : GoodM D W q n l nn (.slice a L c)) (hb : b < D) : VarK D b ((W.setCell ⟨b, 0, none⟩ (.int .i64 nn)).setCell ⟨b, 1, none⟩ (.slice a L c)) q n l := ⟨nn, a, L, c, set_blk h, hg.set2 hb⟩
theorem below_twoK {B b : Nat} {w0 W : World} {x y : Value} (h : Below B w0 W) (hb : B ≤ b) : Below B w0 ((W.setCell ⟨b, 0, none⟩ x).setCell ⟨b, 1, none⟩ y) := (h.setCell (p := ⟨b, 0, none⟩) hb _).setCell (p := ⟨b, 1, none⟩) hb _
theorem size_two {W : World} {b : Nat} {x y : Value} : ((W.setCell ⟨b, 0, none⟩ x).setCell ⟨b, 1, none⟩ y).heap.size = W.heap.size := by simp
set_option maxRecDepth 20000 in
set_option maxHeartbeats 4000000 in
theorem ksays_law (rk n gn : Int) (gv : Value) (F : List (Int × Int)) (p c : Int) (v2 : Value) (R : List (List Int)) (w : World) (h : EdgesI w gv F) (h2 : RowsI w v2 R) :
    Calls Try.prog 3 #[.int .i64 rk, .int .i64 n, .agg #[.int .i64 gn, gv], .agg #[.int .i64 p, .int .i64 c, v2]] w fun e w' => e = .returned (.bool true) ∧ Below w.heap.size w w' := by
  have HI := hid h
  have HR := hid h2
  obtain ⟨ga, gcap, rfl, -, -⟩ := h
  obtain ⟨ra, rcap, hv2⟩ := h2.form
  subst hv2
  clear h2
  have b1 := (Below.refl _ w).alloc (Nat.le_refl _) (.cells #[.int .i64 rk] 3)
  have x1 := World.alloc_heap_new w (.cells #[.int .i64 rk] 3)
  have s1 := World.size_alloc w (.cells #[.int .i64 rk] 3)
  obtain ⟨W1, hW1⟩ : ∃ W1, w.alloc (.cells #[.int .i64 rk] 3) = W1 := ⟨_, rfl⟩
  rw [hW1] at b1 x1 s1
  have b2 := (Below.refl _ W1).alloc (Nat.le_refl _) (.cells #[.int .i64 gn, .slice ga F.length gcap] 24)
  have x2 := World.alloc_heap_new W1 (.cells #[.int .i64 gn, .slice ga F.length gcap] 24)
  have s2 := World.size_alloc W1 (.cells #[.int .i64 gn, .slice ga F.length gcap] 24)
  rw [s1] at x2 s2
  obtain ⟨W2, hW2⟩ : ∃ W2, W1.alloc (.cells #[.int .i64 gn, .slice ga F.length gcap] 24) = W2 := ⟨_, rfl⟩
  rw [hW2] at b2 x2 s2
  have b3 := (Below.refl _ W2).alloc (Nat.le_refl _) (.cells #[.int .i64 p, .int .i64 c, .slice ra R.length rcap] 27)
  have x3 := World.alloc_heap_new W2 (.cells #[.int .i64 p, .int .i64 c, .slice ra R.length rcap] 27)
  have s3 := World.size_alloc W2 (.cells #[.int .i64 p, .int .i64 c, .slice ra R.length rcap] 27)
  rw [s2] at x3 s3
  obtain ⟨W3, hW3⟩ : ∃ W3, W2.alloc (.cells #[.int .i64 p, .int .i64 c, .slice ra R.length rcap] 27) = W3 := ⟨_, rfl⟩
  rw [hW3] at b3 x3 s3
  have X4 := hid (keepK (keepK x1 b2) b3)
  have X6 := hid (keepK x2 b3)
  have X7 := hid x3
  have B0 := hid ((b1.trans (b2.mono b1.size)).trans (b3.mono (by omega)))
  have S1 := hid s1
  have S2 := hid s2
  have S3 := hid s3
  clear b1 x1 s1 b2 x2 s2 b3 x3 s3
  have KX : Hid (∀ W, Below W3.heap.size W3 W → W.cell? ⟨w.heap.size, 0, none⟩ = some (.int .i64 rk) ∧ (W.cell? ⟨w.heap.size + 1, 0, none⟩ = some (.int .i64 gn) ∧ W.cell? ⟨w.heap.size + 1, 1, none⟩ = some (.slice ga F.length gcap)) ∧ W.cell? ⟨w.heap.size + 1 + 1, 0, none⟩ = some (.int .i64 p) ∧ W.cell? ⟨w.heap.size + 1 + 1, 1, none⟩ = some (.int .i64 c) ∧ W.cell? ⟨w.heap.size + 1 + 1, 2, none⟩ = some (.slice ra R.length rcap)) := fun W hW => by
    obtain ⟨y0, y1, -, -⟩ := two_cells (keepK X6.out hW)
    have z := three_cells (keepK X7.out hW)
    refine ⟨?_, ⟨y0, y1⟩, z⟩
    have := keepK X4.out hW
    simp [World.cell?, this]
  have HE := hid (fun W (hW : Below W3.heap.size W3 W) => HI.out.below (B0.out.trans (hW.mono B0.out.size)))
  have HF := hid (fun W (hW : Below W3.heap.size W3 W) => HR.out.below (B0.out.trans (hW.mono B0.out.size)))
  have IG := hid (fun W (hW : Below W3.heap.size W3 W) => (IsGraph_any gn _ F W (HE.out W hW)).mono fun e w' h9 => (⟨h9.1, hW.trans (h9.2.mono hW.size)⟩ : e = .returned (.bool (okG gn F)) ∧ Below W3.heap.size W3 w'))
  have IM := hid (fun W (hW : Below W3.heap.size W3 W) => (IsMatrix_any p c _ R W (HF.out W hW)).mono fun e w' h9 => (⟨h9.1, hW.trans (h9.2.mono hW.size)⟩ : e = .returned (.bool (okM p c R)) ∧ Below W3.heap.size W3 w'))
  have BG := hid (fun W => badK (okG gn F) W)
  rw [okG_r] at BG
  have BM := hid (fun W => badK (okM p c R) W)
  rw [okM_r] at BM
  obtain ⟨og, hog⟩ : ∃ og, okG gn F = og := ⟨_, rfl⟩
  obtain ⟨om, hom⟩ : ∃ om, okM p c R = om := ⟨_, rfl⟩
  rw [hog] at IG BG
  rw [hom] at IM BM
  clear hog hom
  obtain ⟨qe, hqe⟩ : ∃ qe, graphR gn F = qe := ⟨_, rfl⟩
  obtain ⟨qf, hqf⟩ : ∃ qf, matR p c R = qf := ⟨_, rfl⟩
  rw [hqe] at BG
  rw [hqf] at BM
  have QE := hid hqe
  have QF := hid hqf
  clear hqe hqf
  obtain ⟨k0, ⟨k1, k2⟩, k3, k4, k5⟩ := KX.out W3 (Below.refl _ _)
  go_enter Try.func3, Try.ntmps3
  go_upto_region 1 with fail
  rw [S1.out, S2.out]
  clear hW1 hW2 hW3
  go_cut [9, 10] from 21 to 26 (fun x y W => x = .int .i64 qe ∧ y = .int .i64 qf ∧ Hid (Below W3.heap.size W3 W))
  case first =>
    have H3 := hid (Below.refl W3.heap.size W3)
    go_region_held3 (fun W => W.cell? ⟨w.heap.size + 1, 0, none⟩ = some (.int .i64 gn) ∧ W.cell? ⟨w.heap.size + 1, 1, none⟩ = some (.slice ga F.length gcap) ∧ W.cell? ⟨w.heap.size + 1 + 1, 0, none⟩ = some (.int .i64 p) ∧ W.cell? ⟨w.heap.size + 1 + 1, 1, none⟩ = some (.int .i64 c) ∧ W.cell? ⟨w.heap.size + 1 + 1, 2, none⟩ = some (.slice ra R.length rcap)) (go_keep)
     (first
      | (go_at_call 5; refine (IG.out _ (by first | exact H3.out.drew | exact HB5.out)).mono ?_; rintro e w4 ⟨rfl, hb4⟩; have HB4 := hid hb4; obtain ⟨-, ⟨m1, m2⟩, m3, m4, m5⟩ := KX.out _ hb4; clear hb4)
      | (go_at_call 6; refine (IM.out _ (by first | exact H3.out.drew | exact HB4.out)).mono ?_; rintro e w5 ⟨rfl, hb5⟩; have HB5 := hid hb5; obtain ⟨-, ⟨n1, n2⟩, n3, n4, n5⟩ := KX.out _ hb5; clear hb5)
      | (go_at_call 4; refine (BG.out _).mono ?_; rintro e w6 ⟨rfl, h6⟩; obtain rfl := h6.symm)
      | (go_at_call 4; refine (BM.out _).mono ?_; rintro e w6 ⟨rfl, h6⟩; obtain rfl := h6.symm))
    all_goals go_wp2_with fail
    all_goals go_meet
    all_goals exact ⟨rfl, rfl, by first | exact HB5 | exact HB4⟩
  case rest =>
  obtain ⟨rfl, rfl, HB⟩ := hcut
  clear k0 k1 k2 k3 k4 k5 IG IM BG BM
  obtain ⟨k0, ⟨k1, k2⟩, k3, k4, k5⟩ := KX.out _ HB.out
  obtain ⟨qh, hqh⟩ : ∃ qh, uniQ rk n = qh := ⟨_, rfl⟩
  have QH := hid hqh
  clear hqh
  have BT := hid (fun W => badK true W)
  have BF := hid (fun W => badK false W)
  have hT : (if (true : Bool) = true then (0 : Int) else 1) = 0 := rfl
  have hF : (if (false : Bool) = true then (0 : Int) else 1) = 1 := rfl
  rw [hT] at BT
  rw [hF] at BF
  clear hT hF
  go_upto_region 2 with fail
  go_cut [11] from 27 to 42 (fun x W => x = .int .i64 qh ∧ Hid (wc = W))
  case first =>
    by_cases c1 : 0 ≤ n
    · have d1 : decide (0 ≤ n) = true := by simpa using c1
      by_cases c2 : n ≤ 8
      · have d2 : decide (n ≤ 8) = true := by simpa using c2
        by_cases c3 : 0 ≤ rk
        · have d3 : decide (0 ≤ rk) = true := by simpa using c3
          by_cases c4 : rk ≤ n
          · have d4 : decide (rk ≤ n) = true := by simpa using c4
            have Q : Hid (qh = 0) := by show _ = _; rw [← QH.out]; exact if_pos ⟨c1, c2, c3, c4⟩
            go_wp2_with fail
            refine (BT.out _).mono ?_
            rintro e w6 ⟨rfl, h6⟩
            obtain rfl := h6.symm
            go_wp2_with fail
            go_meet
            exact ⟨by rw [Q.out], rfl⟩
          · have d4 : decide (rk ≤ n) = false := by simpa using c4
            have Q : Hid (qh = 1) := by show _ = _; rw [← QH.out]; exact if_neg fun e => c4 e.2.2.2
            go_wp2_with fail
            refine (BF.out _).mono ?_
            rintro e w6 ⟨rfl, h6⟩
            obtain rfl := h6.symm
            go_wp2_with fail
            go_meet
            exact ⟨by rw [Q.out], rfl⟩
        · have d3 : decide (0 ≤ rk) = false := by simpa using c3
          have Q : Hid (qh = 1) := by show _ = _; rw [← QH.out]; exact if_neg fun e => c3 e.2.2.1
          go_wp2_with fail
          refine (BF.out _).mono ?_
          rintro e w6 ⟨rfl, h6⟩
          obtain rfl := h6.symm
          go_wp2_with fail
          go_meet
          exact ⟨by rw [Q.out], rfl⟩
      · have d2 : decide (n ≤ 8) = false := by simpa using c2
        have Q : Hid (qh = 1) := by show _ = _; rw [← QH.out]; exact if_neg fun e => c2 e.2.1
        go_wp2_with fail
        refine (BF.out _).mono ?_
        rintro e w6 ⟨rfl, h6⟩
        obtain rfl := h6.symm
        go_wp2_with fail
        go_meet
        exact ⟨by rw [Q.out], rfl⟩
    · have d1 : decide (0 ≤ n) = false := by simpa using c1
      have Q : Hid (qh = 1) := by show _ = _; rw [← QH.out]; exact if_neg fun e => c1 e.1
      go_wp2_with fail
      refine (BF.out _).mono ?_
      rintro e w6 ⟨rfl, h6⟩
      obtain rfl := h6.symm
      go_wp2_with fail
      go_meet
      exact ⟨by rw [Q.out], rfl⟩
  case rest =>
  obtain ⟨rfl, hw⟩ := hcut
  obtain rfl := hw.out
  clear hw BT BF
  have HB5 : Below W3.heap.size W3 (((wc.alloc (.cells #[.int .i64 0, .slice none 0 0] 34)).alloc (.cells #[.int .i64 0, .slice none 0 0] 34)).alloc (.cells #[.int .i64 0, .slice none 0 0] 34)) := ((HB.out.alloc HB.out.size _).alloc (by have := HB.out.size; simp; omega) _).alloc (by have := HB.out.size; simp; omega) _
  have s5 : (((wc.alloc (.cells #[.int .i64 0, .slice none 0 0] 34)).alloc (.cells #[.int .i64 0, .slice none 0 0] 34)).alloc (.cells #[.int .i64 0, .slice none 0 0] 34)).heap.size = wc.heap.size + 1 + 1 + 1 := by simp
  have z12 : zerM (((wc.alloc (.cells #[.int .i64 0, .slice none 0 0] 34)).alloc (.cells #[.int .i64 0, .slice none 0 0] 34)).alloc (.cells #[.int .i64 0, .slice none 0 0] 34)) wc.heap.size := (Below.heap_alloc _ _ _ (by simp; omega)).trans ((Below.heap_alloc _ _ _ (by simp)).trans (World.alloc_heap_new wc _))
  have z13 : zerM (((wc.alloc (.cells #[.int .i64 0, .slice none 0 0] 34)).alloc (.cells #[.int .i64 0, .slice none 0 0] 34)).alloc (.cells #[.int .i64 0, .slice none 0 0] 34)) (wc.heap.size + 1) := by
    have h1 := World.alloc_heap_new (wc.alloc (.cells #[.int .i64 0, .slice none 0 0] 34)) (.cells #[.int .i64 0, .slice none 0 0] 34)
    rw [World.size_alloc] at h1
    exact (Below.heap_alloc _ _ _ (by simp)).trans h1
  have z14 : zerM (((wc.alloc (.cells #[.int .i64 0, .slice none 0 0] 34)).alloc (.cells #[.int .i64 0, .slice none 0 0] 34)).alloc (.cells #[.int .i64 0, .slice none 0 0] 34)) (wc.heap.size + 1 + 1) := by
    have h1 := World.alloc_heap_new ((wc.alloc (.cells #[.int .i64 0, .slice none 0 0] 34)).alloc (.cells #[.int .i64 0, .slice none 0 0] 34)) (.cells #[.int .i64 0, .slice none 0 0] 34)
    simp only [World.size_alloc] at h1
    exact h1
  go_upto_if 44 with fail
  obtain ⟨W5, hW5⟩ : ∃ W5, ((wc.alloc (.cells #[.int .i64 0, .slice none 0 0] 34)).alloc (.cells #[.int .i64 0, .slice none 0 0] 34)).alloc (.cells #[.int .i64 0, .slice none 0 0] 34) = W5 := ⟨_, rfl⟩
  rw [hW5] at HB5 s5 z12 z13 z14 ⊢
  clear hW5
  have hwc : W3.heap.size ≤ wc.heap.size := HB.out.size
  have Z12 := hid z12
  have Z13 := hid z13
  have Z14 := hid z14
  have HB6 := hid HB5
  have S5 := hid s5
  clear z12 z13 z14 HB5 s5
  obtain ⟨B12, hB12⟩ : ∃ B12, wc.heap.size = B12 := ⟨_, rfl⟩
  rw [hB12] at Z12 Z13 Z14 S5 hwc ⊢
  clear hB12
  obtain ⟨D, hD⟩ : ∃ D, B12 + 1 + 1 + 1 = D := ⟨_, rfl⟩
  have HDD := hid hD
  rw [hD] at S5
  have hmf : ∀ (fn : Fn) (first cap : Array Value) (w : World), (Instr.makeFunc fn first cap).run Try.prog w = .ok (.func fn first cap) w := fun _ _ _ _ => rfl
  obtain ⟨la, hla⟩ : ∃ la, uniL n.toNat rk.toNat = la := ⟨_, rfl⟩
  have LA := hid hla
  have DU : Hid (qh = 0 → ∀ W, Below W3.heap.size W3 W → Calls Try.prog 7 #[.int .i64 n, .func (.func 8) #[] #[.pointer (some ⟨w.heap.size, 0, none⟩)]] W fun e w' => ∃ a L c, e = .returned (.agg #[.int .i64 n, .slice a L c]) ∧ GoodM W.heap.size w' qh n la n (.slice a L c) ∧ Below W.heap.size W w') := fun h0 W hW => by
    have hc : 0 ≤ n ∧ n ≤ 8 ∧ 0 ≤ rk ∧ rk ≤ n := by
      have := QH.out
      rw [h0] at this
      unfold uniQ at this
      split at this
      · assumption
      · cases this
    obtain ⟨m, rfl⟩ : ∃ m : Nat, n = m := ⟨n.toNat, by omega⟩
    obtain ⟨k, rfl⟩ : ∃ k : Nat, rk = k := ⟨rk.toNat, by omega⟩
    refine (OfRank_any m 8 #[.pointer (some ⟨w.heap.size, 0, none⟩)] (fun s => min k (pop s)) W (by omega) (fun args w => enters_of Try.func8 (by kernel_rfl) rfl args w) (fun x hx w3 hb3 _ => KsQ_ok x w.heap.size k w3 (lt256 (by omega) hx) ((hb3.cell (p := ⟨w.heap.size, 0, none⟩) (World.block_lt_of_cell? _ _ (KX.out W hW).1)).trans (KX.out W hW).1))).mono ?_
    rintro e w' ⟨v, rfl, ho, hb⟩
    rw [uni_min m (by omega) k (by omega), show uniL m k = la from hla] at ho
    obtain ⟨a, c', rfl⟩ := ownsRow_form' ho
    exact ⟨a, _, c', rfl, .inl ⟨h0, rfl, by rw [← hla]; exact len_of (n := m) (by omega) (by have := basR_fam m (fun s => min k (pop s)); rw [uni_min m (by omega) k (by omega)] at this; exact this), ho⟩, hb⟩
  have KU : Hid (∀ W, Calls Try.prog 12 #[.int .i64 rk, .int .i64 n] W (ResM W qh n la)) := fun W => by
    by_cases hc : 0 ≤ n ∧ n ≤ 8 ∧ 0 ≤ rk ∧ rk ≤ n
    · have h0 : qh = 0 := by rw [← QH.out]; exact if_pos hc
      obtain ⟨m, rfl⟩ : ∃ m : Nat, n = m := ⟨n.toNat, by omega⟩
      obtain ⟨k, rfl⟩ : ∃ k : Nat, rk = k := ⟨rk.toNat, by omega⟩
      refine (Uniform_ok m k W (by omega) (by omega)).mono ?_
      rintro e w' ⟨v, rfl, ho, hb⟩
      rw [show uniL m k = la from hla] at ho
      obtain ⟨a, c', rfl⟩ := ownsRow_form' ho
      exact ⟨m, a, _, c', by rw [h0], .inl ⟨h0, rfl, by rw [← hla]; exact len_of (n := m) (by omega) (by have := basR_fam m (fun s => min k (pop s)); rw [uni_min m (by omega) k (by omega)] at this; exact this), ho⟩, hb⟩
    · have h0 : qh = 1 := by rw [← QH.out]; exact if_neg hc
      refine (Uniform_bad n rk W hc).mono ?_
      rintro e w' ⟨rfl, hb⟩
      exact ⟨0, none, 0, 0, by rw [h0], .inr ⟨by rw [h0]; decide, rfl, rfl⟩, hb⟩
  clear hla hD
  go_cut [47] from 43 to 46 (fun _ W => Hid (VarK D B12 W qh n la) ∧ Hid (zerM W (B12 + 1)) ∧ Hid (zerM W (B12 + 1 + 1)) ∧ Hid (Below W3.heap.size W3 W) ∧ Hid (D ≤ W.heap.size))
  case first =>
    by_cases h0 : qh = 0
    · have ht : (qh == 0) = true := by rw [h0]; rfl
      have C := hid (DU.out h0 _ HB6.out)
      clear DU KU k0 k1 k2 k3 k4 k5 h0
      go_wp2_with fail
      refine C.out.mono ?_
      rintro e w6 ⟨a6, L6, c6, rfl, hg6, hb6⟩
      have y12 := keepK Z12.out hb6
      have Y12 := hid y12
      obtain ⟨m0, m1, mf0, mf1⟩ := two_cells y12
      have G6 := hid (hg6.mono (show D ≤ W5.heap.size by rw [S5.out]; exact Nat.le_refl _))
      have B6 := hid (HB6.out.trans (hb6.mono HB6.out.size))
      have Y13 := hid (keepK Z13.out hb6)
      have Y14 := hid (keepK Z14.out hb6)
      have hs6 : D ≤ w6.heap.size := by rw [← S5.out]; exact hb6.size
      have hdd := HDD.out
      clear y12 hg6 hb6 C
      go_wp2_with fail
      go_meet
      exact ⟨VarK.put Y12.out G6.out (by omega), (set_oth (by omega)).trans Y13.out, (set_oth (by omega)).trans Y14.out, below_twoK B6.out hwc, by show _ ≤ _; rw [size_two]; exact hs6⟩
    · have ht : (qh == 0) = false := by rw [beq_eq_false_iff_ne]; exact h0
      have H0 := hid h0
      clear DU KU k0 k1 k2 k3 k4 k5 h0
      go_wp2_with fail
      go_meet
      exact ⟨VarK.zero Z12.out H0.out, Z13, Z14, HB6, by show _ ≤ _; rw [S5.out]; exact Nat.le_refl _⟩
  case rest =>
  obtain ⟨V12, Z13', Z14', HB7, HS7⟩ := hcut
  clear Z12 Z13 Z14 HB6 S5 DU
  obtain ⟨k0, ⟨k1, k2⟩, k3, k4, k5⟩ := KX.out _ HB7.out
  obtain ⟨lb, hlb⟩ : ∃ lb, (bigL F.length fun s => !ringB (natE F) s) = lb := ⟨_, rfl⟩
  have DG : Hid (qe = 0 → ∀ W, Below W3.heap.size W3 W → Calls Try.prog 10 #[.agg #[.int .i64 gn, .slice ga F.length gcap]] W fun e w' => ∃ a L c, e = .returned (.agg #[.int .i64 F.length, .slice a L c]) ∧ GoodM W.heap.size w' qe F.length lb F.length (.slice a L c) ∧ Below W.heap.size W w') := fun h0 W hW => by
    have hg : graphR gn F = 0 := QE.out.trans h0
    obtain ⟨m, rfl⟩ : ∃ m : Nat, gn = (m : Int) := ⟨gn.toNat, by unfold graphR at hg; split at hg; omega; cases hg⟩
    have h1 : 1 ≤ (m : Int) ∧ (m : Int) ≤ 7 ∧ F.length ≤ 8 ∧ F.all (edgeB m) = true := by
      unfold graphR at hg
      split at hg
      · assumption
      · cases hg
    have hE : ∀ j, j < (natE F).length → ea (natE F) j < m ∧ eb (natE F) j < m := fun j hj => by
      rw [natE_len] at hj
      have hb := edge_in h1.2.2.2 hj
      unfold ea eb
      rw [natE_at hj]
      show (F.getD j (0, 0)).1.toNat < m ∧ (F.getD j (0, 0)).2.toNat < m
      omega
    refine (RGraphic_ok m _ (natE F) W (by omega) (by omega) hE ((HE.out W hW).nat h1.2.2.1 h1.2.2.2)).mono ?_
    rintro e w' ⟨v, rfl, ho, hb⟩
    rw [gr_isl hg, hlb] at ho
    obtain ⟨a, c', rfl⟩ := ownsRow_form' ho
    exact ⟨a, _, c', by rw [natE_len], .inl ⟨h0, rfl, by rw [← hlb]; exact len_of h1.2.2.1 (big_fam _ _), ho⟩, hb⟩
  have KG : Hid (∀ W, Below W3.heap.size W3 W → Calls Try.prog 13 #[.agg #[.int .i64 gn, .slice ga F.length gcap]] W (ResM W qe F.length lb)) := fun W hW => (Graphic_any gn _ F W (HE.out W hW)).mono fun e w' hm => by
    rw [hlb, QE.out] at hm
    refine hm.res fun h0 => ?_
    have hg : graphR gn F = 0 := QE.out.trans h0
    rw [← hlb]
    exact len_of (n := F.length) (by unfold graphR at hg; split at hg; omega; cases hg) (big_fam _ _)
  have CG : Hid (∀ W, Below W3.heap.size W3 W → Calls Try.prog 15 #[.agg #[.int .i64 gn, .slice ga F.length gcap]] W fun e w' => e = .returned (.int .i64 qe) ∧ Below W.heap.size W w') := fun W hW => by
    have := CheckGraph_any gn _ F W (HE.out W hW)
    rw [QE.out] at this
    exact this
  clear hlb
  go_upto_if 49 with fail
  go_cut [51] from 48 to 50 (fun _ W => Hid (VarK D B12 W qh n la) ∧ Hid (VarK D (B12 + 1) W qe F.length lb) ∧ Hid (zerM W (B12 + 1 + 1)) ∧ Hid (Below W3.heap.size W3 W) ∧ Hid (D ≤ W.heap.size))
  case first =>
    by_cases h0 : qe = 0
    · have ht : (qe == 0) = true := by rw [h0]; rfl
      have C := hid (DG.out h0 _ HB7.out)
      clear DG KG CG KU h0
      go_wp2_with fail
      refine C.out.mono ?_
      rintro e w6 ⟨a6, L6, c6, rfl, hg6, hb6⟩
      have y13 := keepK Z13'.out hb6
      have Y13 := hid y13
      obtain ⟨m0, m1, mf0, mf1⟩ := two_cells y13
      have G6 := hid (hg6.mono HS7.out)
      have B6 := hid (HB7.out.trans (hb6.mono HB7.out.size))
      have Y12 := hid (V12.out.below hb6)
      have Y14 := hid (keepK Z14'.out hb6)
      have hs6 : D ≤ w6.heap.size := Nat.le_trans HS7.out hb6.size
      have hdd := HDD.out
      clear y13 hg6 hb6 C k0 k1 k2 k3 k4 k5
      go_wp2_with fail
      go_meet
      exact ⟨Y12.out.set (by omega) (by omega), VarK.put Y13.out G6.out (by omega), (set_oth (by omega)).trans Y14.out, below_twoK B6.out (by omega), by show _ ≤ _; rw [size_two]; exact hs6⟩
    · have ht : (qe == 0) = false := by rw [beq_eq_false_iff_ne]; exact h0
      have H0 := hid h0
      clear DG KG CG KU h0
      go_wp2_with fail
      go_meet
      exact ⟨V12, VarK.zero Z13'.out H0.out, Z14', HB7, HS7⟩
  case rest =>
  clear V12 Z13' Z14' HB7 HS7 DG k0 k1 k2 k3 k4 k5
  obtain ⟨V12, V13, Z14', HB7, HS7⟩ := hcut
  obtain ⟨k0, ⟨k1, k2⟩, k3, k4, k5⟩ := KX.out _ HB7.out
  obtain ⟨lc, hlc⟩ : ∃ lc, (bigL c.toNat fun s => linB p R c.toNat s) = lc := ⟨_, rfl⟩
  obtain ⟨nc, hnc⟩ : ∃ nc : Int, ((c.toNat : Nat) : Int) = nc := ⟨_, rfl⟩
  have DL : Hid (qf = 0 → ∀ W, Below W3.heap.size W3 W → Calls Try.prog 11 #[.agg #[.int .i64 p, .int .i64 c, .slice ra R.length rcap]] W fun e w' => ∃ a L c9, e = .returned (.agg #[.int .i64 nc, .slice a L c9]) ∧ GoodM W.heap.size w' qf nc lc nc (.slice a L c9) ∧ Below W.heap.size W w') := fun h0 W hW => by
    have hm : MatOK p c R := MatOK.iff.1 (QF.out.trans h0)
    obtain ⟨m, rfl⟩ : ∃ m : Nat, c = m := ⟨c.toNat, by have := hm.c0; omega⟩
    rw [Int.toNat_natCast] at hlc hnc
    refine (RLinear_ok p m _ R W hm (HF.out W hW)).mono ?_
    rintro e w' ⟨v, rfl, ho, hb⟩
    rw [hlc] at ho
    obtain ⟨a, c', rfl⟩ := ownsRow_form' ho
    exact ⟨a, _, c', by rw [hnc], .inl ⟨h0, rfl, by rw [← hlc]; exact len_of hm.c8' (big_fam _ _), ho⟩, hb⟩
  have KL : Hid (∀ W, Below W3.heap.size W3 W → Calls Try.prog 14 #[.agg #[.int .i64 p, .int .i64 c, .slice ra R.length rcap]] W (ResM W qf nc lc)) := fun W hW => (Linear_any p c _ R W (HF.out W hW)).mono fun e w' hm => by
    rw [hlc, hnc, QF.out] at hm
    refine hm.res fun h0 => ?_
    have hk : MatOK p c R := MatOK.iff.1 (QF.out.trans h0)
    rw [← hlc]
    exact len_of (n := c.toNat) (by have := hk.c0; have := hk.c8; omega) (big_fam _ _)
  have CM : Hid (∀ W, Below W3.heap.size W3 W → Calls Try.prog 16 #[.agg #[.int .i64 p, .int .i64 c, .slice ra R.length rcap]] W fun e w' => e = .returned (.int .i64 qf) ∧ Below W.heap.size W w') := fun W hW => by
    have := CheckMatrix_any p c _ R W (HF.out W hW)
    rw [QF.out] at this
    exact this
  clear hlc hnc
  go_upto_if 53 with fail
  go_cut [55] from 52 to 54 (fun _ W => Hid (VarK D B12 W qh n la) ∧ Hid (VarK D (B12 + 1) W qe F.length lb) ∧ Hid (VarK D (B12 + 1 + 1) W qf nc lc) ∧ Hid (Below W3.heap.size W3 W) ∧ Hid (D ≤ W.heap.size))
  case first =>
    by_cases h0 : qf = 0
    · have ht : (qf == 0) = true := by rw [h0]; rfl
      have C := hid (DL.out h0 _ HB7.out)
      clear DL KL CM KG CG KU h0
      go_wp2_with fail
      refine C.out.mono ?_
      rintro e w6 ⟨a6, L6, c6, rfl, hg6, hb6⟩
      have y14 := keepK Z14'.out hb6
      have Y14 := hid y14
      obtain ⟨m0, m1, mf0, mf1⟩ := two_cells y14
      have G6 := hid (hg6.mono HS7.out)
      have B6 := hid (HB7.out.trans (hb6.mono HB7.out.size))
      have Y12 := hid (V12.out.below hb6)
      have Y13 := hid (V13.out.below hb6)
      have hs6 : D ≤ w6.heap.size := Nat.le_trans HS7.out hb6.size
      have hdd := HDD.out
      clear y14 hg6 hb6 C k0 k1 k2 k3 k4 k5
      go_wp2_with fail
      go_meet
      exact ⟨Y12.out.set (by omega) (by omega), Y13.out.set (by omega) (by omega), VarK.put Y14.out G6.out (by omega), below_twoK B6.out (by omega), by show _ ≤ _; rw [size_two]; exact hs6⟩
    · have ht : (qf == 0) = false := by rw [beq_eq_false_iff_ne]; exact h0
      have H0 := hid h0
      clear DL KL CM KG CG KU h0
      go_wp2_with fail
      go_meet
      exact ⟨V12, V13, VarK.zero Z14'.out H0.out, HB7, HS7⟩
  case rest =>
  clear V12 V13 Z14' HB7 HS7 DL k0 k1 k2 k3 k4 k5
  obtain ⟨V12, V13, V14, HB7, HS7⟩ := hcut
  obtain ⟨k0, ⟨k1, k2⟩, k3, k4, k5⟩ := KX.out _ HB7.out
  go_wp2_with fail
  refine (KU.out _).mono ?_
  rintro e w8 ⟨n15, a15, L15, c15, rfl, hg, hb'⟩
  have hk := below_boxR w8 #[.int .i64 n15, .slice a15 L15 c15]
  have hb := hb'.trans (hk.mono hb'.size)
  have V15 : Hid (VarK D w8.heap.size (w8.alloc (.cells #[.int .i64 n15, .slice a15 L15 c15] 34)) qh n la) := ⟨_, _, _, _, World.alloc_heap_new _ _, (hg.mono HS7.out).below hk⟩
  replace V12 := hid (V12.out.below hb)
  replace V13 := hid (V13.out.below hb)
  replace V14 := hid (V14.out.below hb)
  replace HB7 := hid (HB7.out.trans (hb.mono HB7.out.size))
  replace HS7 := hid (Nat.le_trans HS7.out hb.size)
  clear k0 k1 k2 k3 k4 k5 hg hb' hk hb KU
  obtain ⟨k0, ⟨k1, k2⟩, k3, k4, k5⟩ := KX.out _ HB7.out
  go_wp2_with fail
  refine (KG.out _ HB7.out).mono ?_
  rintro e w9 ⟨n17, a17, L17, c17, rfl, hg, hb'⟩
  have hk := below_boxR w9 #[.int .i64 n17, .slice a17 L17 c17]
  have hb := hb'.trans (hk.mono hb'.size)
  have V17 : Hid (VarK D w9.heap.size (w9.alloc (.cells #[.int .i64 n17, .slice a17 L17 c17] 34)) qe F.length lb) := ⟨_, _, _, _, World.alloc_heap_new _ _, (hg.mono HS7.out).below hk⟩
  replace V12 := hid (V12.out.below hb)
  replace V13 := hid (V13.out.below hb)
  replace V14 := hid (V14.out.below hb)
  replace V15 := hid (V15.out.below hb)
  replace HB7 := hid (HB7.out.trans (hb.mono HB7.out.size))
  replace HS7 := hid (Nat.le_trans HS7.out hb.size)
  clear k0 k1 k2 k3 k4 k5 hg hb' hk hb KG
  obtain ⟨k0, ⟨k1, k2⟩, k3, k4, k5⟩ := KX.out _ HB7.out
  go_wp2_with fail
  refine (KL.out _ HB7.out).mono ?_
  rintro e wa ⟨n19, a19, L19, c19, rfl, hg, hb'⟩
  have hk := below_boxR wa #[.int .i64 n19, .slice a19 L19 c19]
  have hb := hb'.trans (hk.mono hb'.size)
  have V19 : Hid (VarK D wa.heap.size (wa.alloc (.cells #[.int .i64 n19, .slice a19 L19 c19] 34)) qf nc lc) := ⟨_, _, _, _, World.alloc_heap_new _ _, (hg.mono HS7.out).below hk⟩
  replace V12 := hid (V12.out.below hb)
  replace V13 := hid (V13.out.below hb)
  replace V14 := hid (V14.out.below hb)
  replace V15 := hid (V15.out.below hb)
  replace V17 := hid (V17.out.below hb)
  replace HB7 := hid (HB7.out.trans (hb.mono HB7.out.size))
  clear k0 k1 k2 k3 k4 k5 hg hb' hk hb KL
  go_upto_region 13 with fail
  obtain ⟨Wx, hWx⟩ : ∃ Wx, wa.alloc (.cells #[.int .i64 n19, .slice a19 L19 c19] 34) = Wx := ⟨_, rfl⟩
  rw [hWx] at V12 V13 V14 V15 V17 V19 HB7 ⊢
  clear hWx
  obtain ⟨b15, hb15⟩ : ∃ b, w8.heap.size = b := ⟨_, rfl⟩
  obtain ⟨b17, hb17⟩ : ∃ b, w9.heap.size = b := ⟨_, rfl⟩
  obtain ⟨b19, hb19⟩ : ∃ b, wa.heap.size = b := ⟨_, rfl⟩
  rw [hb15, hb17, hb19]
  rw [hb15] at V15
  rw [hb17] at V17
  rw [hb19] at V19
  clear hb15 hb17 hb19
  obtain ⟨x12, p12, q12, r12, h12, g12⟩ := V12.out
  obtain ⟨x13, p13, q13, r13, h13, g13⟩ := V13.out
  obtain ⟨x14, p14, q14, r14, h14, g14⟩ := V14.out
  obtain ⟨x15, p15, q15, r15, h15, g15⟩ := V15.out
  obtain ⟨x17, p17, q17, r17, h17, g17⟩ := V17.out
  obtain ⟨x19, p19, q19, r19, h19, g19⟩ := V19.out
  have BWx := hid (B0.out.trans (HB7.out.mono B0.out.size))
  have KC : Hid (∀ W, Below Wx.heap.size Wx W → (W.cell? ⟨B12, 0, none⟩ = some (.int .i64 x12) ∧ W.cell? ⟨B12, 1, none⟩ = some (.slice p12 q12 r12)) ∧ (W.cell? ⟨B12 + 1, 0, none⟩ = some (.int .i64 x13) ∧ W.cell? ⟨B12 + 1, 1, none⟩ = some (.slice p13 q13 r13)) ∧ (W.cell? ⟨B12 + 1 + 1, 0, none⟩ = some (.int .i64 x14) ∧ W.cell? ⟨B12 + 1 + 1, 1, none⟩ = some (.slice p14 q14 r14)) ∧ (W.cell? ⟨b15, 0, none⟩ = some (.int .i64 x15) ∧ W.cell? ⟨b15, 1, none⟩ = some (.slice p15 q15 r15)) ∧ (W.cell? ⟨b17, 0, none⟩ = some (.int .i64 x17) ∧ W.cell? ⟨b17, 1, none⟩ = some (.slice p17 q17 r17)) ∧ (W.cell? ⟨b19, 0, none⟩ = some (.int .i64 x19) ∧ W.cell? ⟨b19, 1, none⟩ = some (.slice p19 q19 r19))) := fun W hW => by
    obtain ⟨a1, a2, -, -⟩ := two_cells (keepK h12 hW)
    obtain ⟨a3, a4, -, -⟩ := two_cells (keepK h13 hW)
    obtain ⟨a5, a6, -, -⟩ := two_cells (keepK h14 hW)
    obtain ⟨a7, a8, -, -⟩ := two_cells (keepK h15 hW)
    obtain ⟨a9, a10, -, -⟩ := two_cells (keepK h17 hW)
    obtain ⟨a11, a12, -, -⟩ := two_cells (keepK h19 hW)
    exact ⟨⟨a1, a2⟩, ⟨a3, a4⟩, ⟨a5, a6⟩, ⟨a7, a8⟩, ⟨a9, a10⟩, a11, a12⟩
  have T1 := hid (fun W (hW : Below Wx.heap.size Wx W) => (told_any (g15.below hW) (g12.below hW)).mono fun e w' h9 => (⟨h9.1, hW.trans (h9.2.mono hW.size)⟩ : e = .returned (.bool true) ∧ Below Wx.heap.size Wx w'))
  have T2 := hid (fun W (hW : Below Wx.heap.size Wx W) => (told_any (g17.below hW) (g13.below hW)).mono fun e w' h9 => (⟨h9.1, hW.trans (h9.2.mono hW.size)⟩ : e = .returned (.bool true) ∧ Below Wx.heap.size Wx w'))
  have T3 := hid (fun W (hW : Below Wx.heap.size Wx W) => (told_any (g19.below hW) (g14.below hW)).mono fun e w' h9 => (⟨h9.1, hW.trans (h9.2.mono hW.size)⟩ : e = .returned (.bool true) ∧ Below Wx.heap.size Wx w'))
  have KW : Hid (∀ W, Below Wx.heap.size Wx W → Below W3.heap.size W3 W) := fun W hW => HB7.out.trans (hW.mono HB7.out.size)
  clear V12 V13 V14 V15 V17 V19 h12 h13 h14 h15 h17 h19 g12 g13 g14 g15 g17 g19
  obtain ⟨k0, ⟨k1, k2⟩, k3, k4, k5⟩ := KX.out _ HB7.out
  go_wp2_with fail
  refine (CG.out _ HB7.out).mono ?_
  rintro e wb ⟨rfl, hb⟩
  have X := hid hb
  clear hb k0 k1 k2 k3 k4 k5 CG
  obtain ⟨k0, ⟨k1, k2⟩, k3, k4, k5⟩ := KX.out _ (KW.out _ X.out)
  go_wp2_with fail
  refine (CM.out _ (KW.out _ X.out)).mono ?_
  rintro e wd ⟨rfl, hb⟩
  replace X := hid (X.out.trans (hb.mono X.out.size))
  clear hb k0 k1 k2 k3 k4 k5 CM
  obtain ⟨⟨a1, a2⟩, ⟨a3, a4⟩, ⟨a5, a6⟩, ⟨a7, a8⟩, ⟨a9, a10⟩, a11, a12⟩ := KC.out _ X.out
  go_wp2_with fail
  refine (T1.out _ X.out).mono ?_
  rintro e we ⟨rfl, hb⟩
  replace X := hid hb
  clear hb a1 a2 a3 a4 a5 a6 a7 a8 a9 a10 a11 a12 T1
  obtain ⟨⟨a1, a2⟩, ⟨a3, a4⟩, ⟨a5, a6⟩, ⟨a7, a8⟩, ⟨a9, a10⟩, a11, a12⟩ := KC.out _ X.out
  go_wp2_with fail
  refine (T2.out _ X.out).mono ?_
  rintro e wf ⟨rfl, hb⟩
  replace X := hid hb
  clear hb a1 a2 a3 a4 a5 a6 a7 a8 a9 a10 a11 a12 T2
  obtain ⟨⟨a1, a2⟩, ⟨a3, a4⟩, ⟨a5, a6⟩, ⟨a7, a8⟩, ⟨a9, a10⟩, a11, a12⟩ := KC.out _ X.out
  go_wp2_with fail
  refine (T3.out _ X.out).mono ?_
  rintro e wg ⟨rfl, hb⟩
  replace X := hid hb
  clear hb a1 a2 a3 a4 a5 a6 a7 a8 a9 a10 a11 a12 T3
  go_wp2_with fail
  go_ret
  exact ⟨rfl, BWx.out.trans (X.out.mono BWx.out.size)⟩
end Go.Proofs.Ytihddkdkhdallaa
