/- The walk of the law MinorsSays. -/
import Derived.Test.YtkebhhpfnalbfacMSaysPQ
import Derived.Deep.CutRange
namespace Go.Proofs.Ytkebhhpfnalbfac
open Go.RowKit

theorem cells_back {w w1 : World} {B : Nat} {x y : Value} (hx : w.cell? ⟨B, 0, none⟩ = some x ∧ w.cell? ⟨B, 1, none⟩ = some y) (hb : Below w.heap.size w w1) (hB : B < w.heap.size) : w1.cell? ⟨B, 0, none⟩ = some x ∧ w1.cell? ⟨B, 1, none⟩ = some y :=
  ⟨(hb.cell (p := ⟨B, 0, none⟩) hB).trans hx.1, (hb.cell (p := ⟨B, 1, none⟩) hB).trans hx.2⟩
theorem setB_true {m : Nat} {s : Nat} (hm : m ≤ 8) (h : s < 2 ^ m) : setB m s = true := by
  unfold setB
  rw [decide_eq_true_eq, Int.toNat_natCast]
  have e : ((2 ^ m : Nat) : Int) = (2 : Int) ^ m := by simp
  exact ⟨by omega, by omega, by omega, by omega⟩
theorem setB_false {m : Nat} {s : Int} (h : setR m s = 1) : setB m s = false := by
  unfold setR at h
  unfold setB
  rw [decide_eq_false_iff_not]
  intro h2
  rw [if_pos h2] at h
  cases h
/-- A variable of the law: a block, and what it holds. -/
def VarM (B : Nat) (W : World) (b : Nat) (q n : Int) (l : List Nat) : Prop := ∃ nn a L c, W.heap[b]? = some (.cells #[.int .i64 nn, .slice a L c] 24 (0, 0)) ∧ GoodM B W q n l nn (.slice a L c)
theorem VarM.below {B : Nat} {W W' : World} {b : Nat} {q n : Int} {l : List Nat} (h : VarM B W b q n l) (hb : Below W.heap.size W W') (hB : b < W.heap.size) : VarM B W' b q n l := by
  obtain ⟨nn, a, L, c, h1, h2⟩ := h
  exact ⟨nn, a, L, c, (hb.block b hB).trans h1, h2.below hb⟩
theorem VarM.other {B : Nat} {W : World} {b b' : Nat} {q n : Int} {l : List Nat} {x y : Value} (h : VarM B W b q n l) (hne : b ≠ b') (hB : b' < B) : VarM B ((W.setCell ⟨b', 0, none⟩ x).setCell ⟨b', 1, none⟩ y) b q n l := by
  obtain ⟨nn, a, L, c, h1, h2⟩ := h
  exact ⟨nn, a, L, c, (Below.heap_setCell _ _ _ b (by show b ≠ b'; exact hne)).trans ((Below.heap_setCell _ _ _ b (by show b ≠ b'; exact hne)).trans h1), h2.set2 hB⟩
theorem set_blk {W : World} {b : Nat} {p q x y : Value} {t : TypeId} (h : W.heap[b]? = some (.cells #[p, q] t (0, 0))) : ((W.setCell ⟨b, 0, none⟩ x).setCell ⟨b, 1, none⟩ y).heap[b]? = some (.cells #[x, y] t (0, 0)) := by
  obtain ⟨hlt, hk⟩ := Array.getElem?_eq_some_iff.1 h
  simp only [World.setCell, Array.getElem?_modify, ↓reduceIte, h, Option.map_some]
  rfl
theorem VarM.new {B : Nat} {W : World} {b : Nat} {q n nn : Int} {l : List Nat} {a : Option Addr} {L c : Nat} {p r : Value} (h : GoodM B W q n l nn (.slice a L c)) (hz : W.heap[b]? = some (.cells #[p, r] 24 (0, 0))) (hB : b < B) :
    VarM B ((W.setCell ⟨b, 0, none⟩ (.int .i64 nn)).setCell ⟨b, 1, none⟩ (.slice a L c)) b q n l := ⟨nn, a, L, c, set_blk hz, h.set2 hB⟩
theorem VarM.zero {B : Nat} {W : World} {b : Nat} {q n : Int} {l : List Nat} (hz : W.heap[b]? = some (.cells #[.int .i64 0, .slice none 0 0] 24 (0, 0))) (hq : q ≠ 0) : VarM B W b q n l := ⟨0, none, 0, 0, hz, .inr ⟨hq, rfl, rfl⟩⟩
def Zer (W : World) (b : Nat) : Prop := W.heap[b]? = some (.cells #[.int .i64 0, .slice none 0 0] 24 (0, 0))
theorem Zer.below {W W' : World} {b : Nat} (h : Zer W b) (hb : Below W.heap.size W W') : Zer W' b := (hb.block b (Array.getElem?_eq_some_iff.1 h).1).trans h
theorem Zer.other {W : World} {b b' : Nat} {x y : Value} (h : Zer W b) (hne : b ≠ b') : Zer ((W.setCell ⟨b', 0, none⟩ x).setCell ⟨b', 1, none⟩ y) b :=
  (Below.heap_setCell _ _ _ b (by show b ≠ b'; exact hne)).trans ((Below.heap_setCell _ _ _ b (by show b ≠ b'; exact hne)).trans h)

set_option maxRecDepth 20000 in
set_option maxHeartbeats 8000000 in
theorem msays_law (n : Int) (v : Value) (zs : List Int) (s k : Int) (w : World) (h : Ints w v zs) :
    Calls Try.prog 6 #[.agg #[.int .i64 n, v], .int .i64 s, .int .i64 k] w fun e w' => e = .returned (.bool true) ∧ Below w.heap.size w w' := by
  obtain ⟨qe, qf, qg, n1, ld, n2, l1, l2, l3, C⟩ := cfg_of n s k zs
  have CF := hid C
  clear C
  have HI := hid h
  obtain ⟨a, cap, rfl, _, _⟩ := h
  have B0 := hid (below_box w #[.int .i64 n, .slice a zs.length cap])
  have MA := hid (Matroid_ref n _ zs _ (HI.out.below B0.out))
  rw [CF.out.chk] at MA
  go_enter Try.func6, Try.ntmps6
  go_wp2_with fail
  refine MA.out.mono ?_
  rintro e w1 ⟨rfl, hb1⟩
  have X1 := hid (box_cells hb1)
  have B1 := hid (B0.out.trans (hb1.mono B0.out.size))
  have S1 : w.heap.size < w1.heap.size := by have := hb1.size; simp at this; omega
  clear hb1 MA
  go_upto_if 27 with fail
  have hk0 : Below w1.heap.size w1 ((((w1.alloc (.cells #[.int .i64 0, .slice none 0 0] 24)).alloc (.cells #[.int .i64 0, .slice none 0 0] 24)).alloc (.cells #[.int .i64 0, .slice none 0 0] 24)).alloc (.cells #[.int .i64 0, .slice none 0 0] 24)) := ((((Below.refl _ _).alloc (Nat.le_refl _) _).alloc (by simp) _).alloc (by simp; omega) _).alloc (by simp; omega) _
  have hsz : ((((w1.alloc (.cells #[.int .i64 0, .slice none 0 0] 24)).alloc (.cells #[.int .i64 0, .slice none 0 0] 24)).alloc (.cells #[.int .i64 0, .slice none 0 0] 24)).alloc (.cells #[.int .i64 0, .slice none 0 0] 24)).heap.size = w1.heap.size + 4 := by simp
  have z0 : Zer ((((w1.alloc (.cells #[.int .i64 0, .slice none 0 0] 24)).alloc (.cells #[.int .i64 0, .slice none 0 0] 24)).alloc (.cells #[.int .i64 0, .slice none 0 0] 24)).alloc (.cells #[.int .i64 0, .slice none 0 0] 24)) (w1.heap.size) := by
    unfold Zer
    have h9 := World.alloc_heap_new w1 (.cells #[.int .i64 0, .slice none 0 0] 24)
    rw [Below.heap_alloc _ _ _ (by simp; try omega)]
    rw [Below.heap_alloc _ _ _ (by simp; try omega)]
    rw [Below.heap_alloc _ _ _ (by simp; try omega)]
    exact h9
  have z1 : Zer ((((w1.alloc (.cells #[.int .i64 0, .slice none 0 0] 24)).alloc (.cells #[.int .i64 0, .slice none 0 0] 24)).alloc (.cells #[.int .i64 0, .slice none 0 0] 24)).alloc (.cells #[.int .i64 0, .slice none 0 0] 24)) (w1.heap.size + 1) := by
    unfold Zer
    have h9 := World.alloc_heap_new (w1.alloc (.cells #[.int .i64 0, .slice none 0 0] 24)) (.cells #[.int .i64 0, .slice none 0 0] 24)
    simp only [World.size_alloc] at h9
    rw [Below.heap_alloc _ _ _ (by simp; try omega)]
    rw [Below.heap_alloc _ _ _ (by simp; try omega)]
    exact h9
  have z2 : Zer ((((w1.alloc (.cells #[.int .i64 0, .slice none 0 0] 24)).alloc (.cells #[.int .i64 0, .slice none 0 0] 24)).alloc (.cells #[.int .i64 0, .slice none 0 0] 24)).alloc (.cells #[.int .i64 0, .slice none 0 0] 24)) (w1.heap.size + 1 + 1) := by
    unfold Zer
    have h9 := World.alloc_heap_new ((w1.alloc (.cells #[.int .i64 0, .slice none 0 0] 24)).alloc (.cells #[.int .i64 0, .slice none 0 0] 24)) (.cells #[.int .i64 0, .slice none 0 0] 24)
    simp only [World.size_alloc] at h9
    rw [Below.heap_alloc _ _ _ (by simp; try omega)]
    exact h9
  have z3 : Zer ((((w1.alloc (.cells #[.int .i64 0, .slice none 0 0] 24)).alloc (.cells #[.int .i64 0, .slice none 0 0] 24)).alloc (.cells #[.int .i64 0, .slice none 0 0] 24)).alloc (.cells #[.int .i64 0, .slice none 0 0] 24)) (w1.heap.size + 1 + 1 + 1) := by
    unfold Zer
    have h9 := World.alloc_heap_new (((w1.alloc (.cells #[.int .i64 0, .slice none 0 0] 24)).alloc (.cells #[.int .i64 0, .slice none 0 0] 24)).alloc (.cells #[.int .i64 0, .slice none 0 0] 24)) (.cells #[.int .i64 0, .slice none 0 0] 24)
    simp only [World.size_alloc] at h9
    exact h9
  revert hk0 hsz z0 z1 z2 z3
  generalize ((((w1.alloc (.cells #[.int .i64 0, .slice none 0 0] 24)).alloc (.cells #[.int .i64 0, .slice none 0 0] 24)).alloc (.cells #[.int .i64 0, .slice none 0 0] 24)).alloc (.cells #[.int .i64 0, .slice none 0 0] 24)) = W0
  intro hk0 hsz z0 z1 z2 z3
  have HK0 := hid hk0
  have Z0 := hid z0
  have Z1 := hid z1
  have Z2 := hid z2
  have Z3 := hid z3
  clear hk0 z0 z1 z2 z3
  go_cut [8, 9] from 28 to 46 (fun f g W => f = .int .i64 qf ∧ g = .int .i64 qg ∧ Hid (Below w1.heap.size w1 W ∧ w1.heap.size + 4 ≤ W.heap.size ∧ VarM (w1.heap.size + 4) W w1.heap.size qe n1 ld ∧ Zer W (w1.heap.size + 1) ∧ Zer W (w1.heap.size + 1 + 1) ∧ Zer W (w1.heap.size + 1 + 1 + 1)))
  case first =>
    rcases CF.out with ⟨hch, hq, rfl, rfl⟩ | ⟨rfl, m, l, rfl, rfl, hm, hf, hb, rfl, rfl, hs, hk⟩
    · have hq' := beq_eq_false_iff_ne.2 hq
      go_wp2_with fail
      go_meet
      exact ⟨rfl, rfl, HK0.out, by omega, VarM.zero Z0.out hq, Z1.out, Z2.out, Z3.out⟩
    · have HM := hid (fun w' (hb' : Below w.heap.size w w') => HI.out.below hb')
      rw [N_len] at *
      have W0b := hid (B1.out.trans (HK0.out.mono B1.out.size))
      have DR := hid (Dual_ref m _ l W0 hm hf hb (HM.out _ W0b.out))
      have x0 := (HK0.out.cell (p := ⟨w.heap.size, 0, none⟩) S1).trans X1.out.1
      have x1 := (HK0.out.cell (p := ⟨w.heap.size, 1, none⟩) S1).trans X1.out.2
      have HDL : Hid ((cmp m l).length ≤ 17592186044416) := len_of hm (cmp_fam hf)
      have IS := hid (fun w' => IsSet_any m s w')
      have BD1 : Hid (∀ w', Calls Try.prog 15 #[.bool (setB m s), .int .i64 1] w' fun r w'' => r = .returned (.int .i64 qf) ∧ w'' = w') := fun w' => by
        rcases hs with ⟨rfl, hs⟩ | ⟨rfl, sn, rfl, hs, _⟩
        · rw [setB_false hs]; exact bad_no 1 w'
        · rw [setB_true hm hs]; exact bad_yes 1 w'
      obtain ⟨l0, lr, hl0⟩ : ∃ l0 lr, l = l0 :: lr := by
        cases l with
        | nil => exact absurd rfl hb.ne
        | cons x y => exact ⟨x, y, rfl⟩
      have HRT : Hid (rk l (2 ^ m - 1) = pop l0) := bas_top hf hb (by rw [hl0]; simp)
      have h08 : l0 < 256 := hf.lt256 hm l0 (by rw [hl0]; simp)
      have SZ := hid (fun w' => Size_any l0 w' h08)
      have hp8 := pop_le l0 h08
      have HLL : Hid (l.getD 0 0 = l0) := by show _ = _; rw [hl0]; rfl
      have HLP : Hid (0 < l.length) := by show _ < _; rw [hl0]; simp
      clear hl0 hs
      rw [HRT.out] at hk
      generalize setB m s = sb at *
      generalize cmp m l = ld at *
      generalize pop l0 = R at *
      go_wp2_with fail
      refine DR.out.mono ?_
      rintro e w2 ⟨r2, rfl, ho2, hb2⟩
      obtain ⟨a2, c2, hr2⟩ := ownsRow_form' ho2
      subst hr2
      have hZ0 := Z0.out.below hb2
      have hZ1 := Z1.out.below hb2
      have hZ2 := Z2.out.below hb2
      have hZ3 := Z3.out.below hb2
      have hw2 := HK0.out.trans (hb2.mono HK0.out.size)
      have hs2 := hb2.size
      have V0 := hid (VarM.new (q := 0) (n := m) (l := ld) (nn := m) (p := .int .i64 0) (r := .slice none 0 0) (.inl ⟨rfl, rfl, HDL.out, ho2.mono (by omega)⟩ : GoodM (w1.heap.size + 4) w2 0 m ld m (.slice a2 ld.length c2)) hZ0 (by omega))
      have Y1 := hid (hZ1.other (b' := w1.heap.size) (x := .int .i64 m) (y := .slice a2 ld.length c2) (by omega))
      have Y2 := hid (hZ2.other (b' := w1.heap.size) (x := .int .i64 m) (y := .slice a2 ld.length c2) (by omega))
      have Y3 := hid (hZ3.other (b' := w1.heap.size) (x := .int .i64 m) (y := .slice a2 ld.length c2) (by omega))
      have hw3 := below_two (b := w1.heap.size) (x := .int .i64 m) (y := .slice a2 ld.length c2) hw2 (Nat.le_refl _)
      have hsz3 : ((w2.setCell ⟨w1.heap.size, 0, none⟩ (.int .i64 m)).setCell ⟨w1.heap.size, 1, none⟩ (.slice a2 ld.length c2)).heap.size = w2.heap.size := by simp [World.setCell]
      obtain ⟨u0, u1, f0, f1⟩ := two_cells (show w2.heap[w1.heap.size]? = _ from hZ0)
      have x0' := (hw3.cell (p := ⟨w.heap.size, 0, none⟩) S1).trans X1.out.1
      have x1' := (hw3.cell (p := ⟨w.heap.size, 1, none⟩) S1).trans X1.out.2
      obtain ⟨aa, cc, hval, _, hcl⟩ := (HM.out _ (B1.out.trans (hw3.mono B1.out.size))).nats
      obtain ⟨rfl, rfl⟩ : a = aa ∧ cap = cc := by simpa using hval
      obtain ⟨bb, off, rfl, _, hcell⟩ := hcl HLP.out
      have hc0 := hcell 0 HLP.out
      rw [HLL.out, Nat.add_zero] at hc0
      have HW3 := hid hw3
      have hlp := HLP.out
      clear hcell hcl hval hZ0 hZ1 hZ2 hZ3 hw2 hb2 ho2 x0 x1 hw3
      revert HW3 V0 Y1 Y2 Y3 hsz3 x0' x1' hc0
      generalize hW3 : ((w2.setCell ⟨w1.heap.size, 0, none⟩ (.int .i64 m)).setCell ⟨w1.heap.size, 1, none⟩ (.slice a2 ld.length c2)) = W3
      intro V0 Y1 Y2 Y3 hsz3 x0' x1' hc0 HW3
      go_wp2_with fail
      clear hW3
      refine (IS.out _).mono ?_
      rintro e w' ⟨rfl, rfl⟩
      go_wp2_with fail
      refine (BD1.out _).mono ?_
      rintro e w' ⟨rfl, rfl⟩
      have hszw : w1.heap.size + 4 ≤ w'.heap.size := by omega
      by_cases hk0 : 0 ≤ k
      · by_cases hkR : k ≤ (R : Int)
        · skip
          obtain rfl : qg = 0 := by
            rcases hk with ⟨h1, h2⟩ | ⟨h1, kn, h2, h3, _⟩
            · omega
            · omega
          clear hk
          go_wp2_with fail
          refine (SZ.out _).mono ?_
          rintro e w5 ⟨rfl, hb5⟩
          have HB5 := hid hb5
          clear hb5
          go_wp2_with fail
          refine (bad_yes 1 _).mono ?_
          rintro e w6 ⟨rfl, rfl⟩
          go_wp2_with fail
          go_meet
          exact ⟨rfl, rfl, HW3.out.trans (HB5.out.mono HW3.out.size), by have := HB5.out.size; omega, V0.out.below HB5.out (by omega), Y1.out.below HB5.out, Y2.out.below HB5.out, Y3.out.below HB5.out⟩
        · have hkR' : decide (k ≤ (R : Int)) = false := decide_eq_false hkR
          obtain rfl : qg = 1 := by
            rcases hk with ⟨h1, h2⟩ | ⟨h1, kn, h2, h3, _⟩
            · omega
            · omega
          clear hk
          go_wp2_with fail
          refine (SZ.out _).mono ?_
          rintro e w5 ⟨rfl, hb5⟩
          have HB5 := hid hb5
          clear hb5
          go_wp2_with fail
          refine (bad_no 1 _).mono ?_
          rintro e w6 ⟨rfl, rfl⟩
          go_wp2_with fail
          go_meet
          exact ⟨rfl, rfl, HW3.out.trans (HB5.out.mono HW3.out.size), by have := HB5.out.size; omega, V0.out.below HB5.out (by omega), Y1.out.below HB5.out, Y2.out.below HB5.out, Y3.out.below HB5.out⟩
      · skip
        obtain rfl : qg = 1 := by
          rcases hk with ⟨h1, h2⟩ | ⟨h1, kn, h2, h3, _⟩
          · exact h1
          · omega
        clear hk
        have hk0' : decide (0 ≤ k) = false := by simp; omega
        go_wp2_with fail
        refine (bad_no 1 _).mono ?_
        rintro e w6 ⟨rfl, rfl⟩
        go_wp2_with fail
        go_meet
        exact ⟨rfl, rfl, HW3.out, hszw, V0.out, Y1.out, Y2.out, Y3.out⟩
  case rest =>
    obtain ⟨rfl, rfl, HC⟩ := hcut
    obtain ⟨hb2, hs2, v0, z1, z2, z3⟩ := HC.out
    have HB2 := hid hb2
    have V0 := hid v0
    replace Z1 := hid z1
    replace Z2 := hid z2
    replace Z3 := hid z3
    clear HC hb2 v0 z1 z2 z3 Z0 HK0 hsz
    go_upto_if 48 with fail
    go_cut [8] from 49 to 54 (fun f W => f = .int .i64 qf ∧ Hid (Below w1.heap.size w1 W ∧ w1.heap.size + 4 ≤ W.heap.size ∧ VarM (w1.heap.size + 4) W w1.heap.size qe n1 ld ∧ VarM (w1.heap.size + 4) W (w1.heap.size + 1) qf n2 l1 ∧ VarM (w1.heap.size + 4) W (w1.heap.size + 1 + 1) qf n2 l2 ∧ Zer W (w1.heap.size + 1 + 1 + 1)))
    case first =>
      by_cases hqf : qf = 0
      · have hgood : ∃ (m : Nat) (l : List Nat) (sn : Nat), n = m ∧ zs = N l ∧ m ≤ 8 ∧ Fam m l ∧ Bas l ∧ s = sn ∧ sn < 2 ^ m ∧ n2 = (pop (dif (2 ^ m - 1) sn) : Nat) ∧ l1 = minL m l sn 0 ∧ l2 = minL m l sn sn := by
            rcases CF.out with ⟨_, hq, h1, _⟩ | ⟨_, m, l, h1, h2, h3, h4, h5, _, _, hs, _⟩
            · exact absurd (h1.symm.trans hqf) hq
            · rcases hs with ⟨h6, _⟩ | ⟨_, sn, h6, h7, h8, h9, h10⟩
              · omega
              · exact ⟨m, l, sn, h1, h2, h3, h4, h5, h6, h7, h8, h9, h10⟩
        obtain ⟨m, l, sn, rfl, rfl, hm, hf, hb, rfl, hsn, rfl, rfl, rfl⟩ := hgood
        subst hqf
        rw [N_len] at *
        have HM := hid (fun w' (hb' : Below w.heap.size w w') => HI.out.below hb')
        have F1 := hid (fun w' (hb' : Below w.heap.size w w') => Deleted_ref m sn _ l w' hm hf hb (HM.out _ hb') hsn)
        have F2 := hid (fun w' (hb' : Below w.heap.size w w') => Contracted_ref m sn _ l w' hm hf hb (HM.out _ hb') hsn)
        have G1 : Hid ((minL m l sn 0).length ≤ 17592186044416) := len_of (kept_le hm sn) (min_fam _ _ _ _)
        have G2 : Hid ((minL m l sn sn).length ≤ 17592186044416) := len_of (kept_le hm sn) (min_fam _ _ _ _)
        generalize minL m l sn 0 = l1 at *
        generalize minL m l sn sn = l2 at *
        generalize pop (dif (2 ^ m - 1) sn) = n2 at *
        have X2 := hid (⟨(HB2.out.cell (p := ⟨w.heap.size, 0, none⟩) S1).trans X1.out.1, (HB2.out.cell (p := ⟨w.heap.size, 1, none⟩) S1).trans X1.out.2⟩ : wc.cell? ⟨w.heap.size, 0, none⟩ = some (.int .i64 m) ∧ wc.cell? ⟨w.heap.size, 1, none⟩ = some (.slice a l.length cap))
        obtain ⟨x0, x1⟩ := X2.out
        have BW := hid (B1.out.trans (HB2.out.mono B1.out.size))
        have ne0 : ¬ w1.heap.size + 1 = w.heap.size := by omega
        have ne1 : ¬ w.heap.size = w1.heap.size + 1 := by omega
        have ne2 : ¬ w1.heap.size + 1 + 1 = w.heap.size := by omega
        have ne3 : ¬ w.heap.size = w1.heap.size + 1 + 1 := by omega
        have ne4 : ¬ w1.heap.size + 1 = w1.heap.size + 1 + 1 := by omega
        have ne5 : ¬ w1.heap.size + 1 + 1 = w1.heap.size + 1 := by omega
        go_wp2_with fail
        go_region_held3 (fun w' => w'.cell? ⟨w.heap.size, 0, none⟩ = some (.int .i64 m) ∧ w'.cell? ⟨w.heap.size, 1, none⟩ = some (.slice a l.length cap)) (go_keep)
         (first
          | (go_at_call 44; refine (F1.out _ BW.out.drew).mono ?_; rintro e w2 ⟨r2, rfl, ho2, hb2'⟩; have hb2 := (Below.refl wc.heap.size wc).drew.trans hb2'; obtain ⟨a2, c2, hr2⟩ := ownsRow_form' ho2; subst hr2; have q0 := (hb2.cell (p := ⟨w.heap.size, 0, none⟩) (by show w.heap.size < _; omega)).trans x0; have q1 := (hb2.cell (p := ⟨w.heap.size, 1, none⟩) (by show w.heap.size < _; omega)).trans x1; have HB3 := hid hb2; have O2 := hid (ho2.mono (by have : wc.drew.heap.size = wc.heap.size := rfl; omega) : Own (w1.heap.size + 4) w2 (.slice a2 l1.length c2) l1); have BW2 := hid (BW.out.trans (hb2.mono BW.out.size)); clear hb2 hb2' ho2)
          | (go_at_call 45; refine (F2.out _ BW2.out).mono ?_; rintro e w3 ⟨r3, rfl, ho3, hb3⟩; obtain ⟨a3, c3, hr3⟩ := ownsRow_form' ho3; subst hr3; have hs3 := HB3.out.size; have hb4 := HB3.out.trans (hb3.mono hs3); have q2 := (hb4.cell (p := ⟨w.heap.size, 0, none⟩) (by show w.heap.size < _; omega)).trans x0; have q3 := (hb4.cell (p := ⟨w.heap.size, 1, none⟩) (by show w.heap.size < _; omega)).trans x1; have HB4 := hid hb4; have O3 := hid (ho3.mono (by omega) : Own (w1.heap.size + 4) w3 (.slice a3 l2.length c3) l2); have O2' := hid (O2.out.below hb3); have Y1 := hid (Z1.out.below hb4); have Y2 := hid (Z2.out.below hb4); obtain ⟨u0, u1, f0, f1⟩ := two_cells (show w3.heap[w1.heap.size + 1]? = _ from Y1.out); obtain ⟨u2, u3, f2, f3⟩ := two_cells (show w3.heap[w1.heap.size + 1 + 1]? = _ from Y2.out); clear hb4 hb3 ho3))
        have hsz4 := HB4.out.size
        have v0 := V0.out.below HB4.out (by omega)
        have z3 := Z3.out.below HB4.out
        have v1 := VarM.new (q := 0) (n := n2) (l := l1) (nn := n2) (.inl ⟨rfl, rfl, G1.out, O2'.out⟩ : GoodM (w1.heap.size + 4) w3 0 n2 l1 n2 (.slice a2 l1.length c2)) Y1.out (by omega : w1.heap.size + 1 < (w1.heap.size + 4))
        have v0' := v0.other (b' := w1.heap.size + 1) (x := .int .i64 n2) (y := .slice a2 l1.length c2) (by omega) (by omega)
        have z3' := z3.other (b' := w1.heap.size + 1) (x := .int .i64 n2) (y := .slice a2 l1.length c2) (by omega)
        have y2' := Y2.out.other (b' := w1.heap.size + 1) (x := .int .i64 n2) (y := .slice a2 l1.length c2) (by omega)
        have o3' := O3.out.set2 (b := w1.heap.size + 1) (x := .int .i64 n2) (y := .slice a2 l1.length c2) (by omega)
        have bb1 := below_two (b := w1.heap.size + 1) (x := .int .i64 n2) (y := .slice a2 l1.length c2) (HB2.out.trans (HB4.out.mono HB2.out.size)) (by omega)
        have v2 := VarM.new (q := 0) (n := n2) (l := l2) (nn := n2) (.inl ⟨rfl, rfl, G2.out, o3'⟩ : GoodM (w1.heap.size + 4) _ 0 n2 l2 n2 (.slice a3 l2.length c3)) y2' (by omega : w1.heap.size + 1 + 1 < (w1.heap.size + 4))
        have v1' := v1.other (b' := w1.heap.size + 1 + 1) (x := .int .i64 n2) (y := .slice a3 l2.length c3) (by omega) (by omega)
        have v0'' := v0'.other (b' := w1.heap.size + 1 + 1) (x := .int .i64 n2) (y := .slice a3 l2.length c3) (by omega) (by omega)
        have z3'' := z3'.other (b' := w1.heap.size + 1 + 1) (x := .int .i64 n2) (y := .slice a3 l2.length c3) (by omega)
        have bb2 := below_two (b := w1.heap.size + 1 + 1) (x := .int .i64 n2) (y := .slice a3 l2.length c3) bb1 (by omega)
        have R0 := hid v0''
        have R1 := hid v1'
        have R2 := hid v2
        have R3 := hid z3''
        have R4 := hid bb2
        have R5 : Hid (w1.heap.size + 4 ≤ ((((w3.setCell ⟨w1.heap.size + 1, 0, none⟩ (.int .i64 n2)).setCell ⟨w1.heap.size + 1, 1, none⟩ (.slice a2 l1.length c2)).setCell ⟨w1.heap.size + 1 + 1, 0, none⟩ (.int .i64 n2)).setCell ⟨w1.heap.size + 1 + 1, 1, none⟩ (.slice a3 l2.length c3)).heap.size) := by
          show _ ≤ _
          simp only [World.setCell, Array.size_modify]
          omega
        clear v0 z3 v1 v0' z3' y2' o3' bb1 v2 v1' v0'' z3'' bb2
        go_wp2_with fail
        go_meet
        exact ⟨rfl, R4.out, R5.out, R0.out, R1.out, R2.out, R3.out⟩
      · have hqf' : (qf == 0) = false := by rw [beq_eq_false_iff_ne]; exact hqf
        go_wp2_with fail
        go_meet
        exact ⟨rfl, HB2.out, hs2, V0.out, VarM.zero Z1.out hqf, VarM.zero Z2.out hqf, Z3.out⟩
    case rest =>
      rename_i wd
      obtain ⟨rfl, HC⟩ := hcut
      obtain ⟨hb3, hs3, v0, v1, v2, z3⟩ := HC.out
      have HB3 := hid hb3
      replace V0 := hid v0
      have V1 := hid v1
      have V2 := hid v2
      replace Z3 := hid z3
      clear HC hb3 v0 v1 v2 z3 Z1 Z2 HB2 hs2
      go_upto_if 56 with fail
      go_cut [9] from 57 to 59 (fun g W => g = .int .i64 qg ∧ Hid (Below w1.heap.size w1 W ∧ w1.heap.size + 4 ≤ W.heap.size ∧ VarM (w1.heap.size + 4) W w1.heap.size qe n1 ld ∧ VarM (w1.heap.size + 4) W (w1.heap.size + 1) qf n2 l1 ∧ VarM (w1.heap.size + 4) W (w1.heap.size + 1 + 1) qf n2 l2 ∧ VarM (w1.heap.size + 4) W (w1.heap.size + 1 + 1 + 1) qg n1 l3))
      case first =>
        by_cases hqg : qg = 0
        · have hgood : ∃ (m : Nat) (l : List Nat) (kn : Nat), n = m ∧ zs = N l ∧ m ≤ 8 ∧ Fam m l ∧ Bas l ∧ n1 = m ∧ k = kn ∧ l3 = cutL m l kn := by
              rcases CF.out with ⟨_, hq, _, h1⟩ | ⟨_, m, l, h1, h2, h3, h4, h5, h0, _, _, hk⟩
              · exact absurd (h1.symm.trans hqg) hq
              · rcases hk with ⟨h6, _⟩ | ⟨_, kn, h6, h7, h8⟩
                · omega
                · exact ⟨m, l, kn, h1, h2, h3, h4, h5, h0, h6, h8⟩
          obtain ⟨m, l, kn, rfl, rfl, hm, hf, hb, rfl, rfl, rfl⟩ := hgood
          subst hqg
          rw [N_len] at *
          have BW := hid (B1.out.trans (HB3.out.mono B1.out.size))
          have F1 := hid (Cut_ref m kn _ l wc hm hf hb (HI.out.below BW.out))
          have G1 : Hid ((cutL m l kn).length ≤ 17592186044416) := len_of hm (cut_fam _ _ _)
          generalize cutL m l kn = l3 at *
          have x0 := (HB3.out.cell (p := ⟨w.heap.size, 0, none⟩) S1).trans X1.out.1
          have x1 := (HB3.out.cell (p := ⟨w.heap.size, 1, none⟩) S1).trans X1.out.2
          go_wp2_with fail
          refine F1.out.mono ?_
          rintro e w2 ⟨r2, rfl, ho2, hb2⟩
          obtain ⟨a2, c2, hr2⟩ := ownsRow_form' ho2
          subst hr2
          have hs2 := hb2.size
          have hZ := Z3.out.below hb2
          have v3 := VarM.new (q := 0) (n := m) (l := l3) (nn := m) (.inl ⟨rfl, rfl, G1.out, ho2.mono (by omega)⟩ : GoodM (w1.heap.size + 4) w2 0 m l3 m (.slice a2 l3.length c2)) hZ (by omega : w1.heap.size + 1 + 1 + 1 < (w1.heap.size + 4))
          have v0 := (V0.out.below hb2 (by omega)).other (b' := w1.heap.size + 1 + 1 + 1) (x := .int .i64 m) (y := .slice a2 l3.length c2) (by omega) (by omega)
          have v1 := (V1.out.below hb2 (by omega)).other (b' := w1.heap.size + 1 + 1 + 1) (x := .int .i64 m) (y := .slice a2 l3.length c2) (by omega) (by omega)
          have v2 := (V2.out.below hb2 (by omega)).other (b' := w1.heap.size + 1 + 1 + 1) (x := .int .i64 m) (y := .slice a2 l3.length c2) (by omega) (by omega)
          have bb := below_two (b := w1.heap.size + 1 + 1 + 1) (x := .int .i64 m) (y := .slice a2 l3.length c2) (HB3.out.trans (hb2.mono HB3.out.size)) (by omega)
          have R0 := hid v0
          have R1 := hid v1
          have R2 := hid v2
          have R3 := hid v3
          have R4 := hid bb
          have R5 : Hid (w1.heap.size + 4 ≤ ((w2.setCell ⟨w1.heap.size + 1 + 1 + 1, 0, none⟩ (.int .i64 m)).setCell ⟨w1.heap.size + 1 + 1 + 1, 1, none⟩ (.slice a2 l3.length c2)).heap.size) := by
            show _ ≤ _
            simp only [World.setCell, Array.size_modify]
            omega
          obtain ⟨u0, u1, f0, f1⟩ := two_cells (show w2.heap[w1.heap.size + 1 + 1 + 1]? = _ from hZ)
          clear v0 v1 v2 v3 bb hZ hb2 ho2 x0 x1
          go_wp2_with fail
          go_meet
          exact ⟨rfl, R4.out, R5.out, R0.out, R1.out, R2.out, R3.out⟩
        · have hqg' : (qg == 0) = false := by rw [beq_eq_false_iff_ne]; exact hqg
          go_wp2_with fail
          go_meet
          exact ⟨rfl, HB3.out, hs3, V0.out, V1.out, V2.out, VarM.zero Z3.out hqg⟩
      case rest =>
        obtain ⟨rfl, HC⟩ := hcut
        obtain ⟨hb4, hs4, v0, v1, v2, v3⟩ := HC.out
        have HB4 := hid hb4
        replace V0 := hid v0
        replace V1 := hid v1
        replace V2 := hid v2
        have V3 := hid v3
        clear HC hb4 v0 v1 v2 v3 Z3 HB3 hs3
        have BW := hid (B1.out.trans (HB4.out.mono B1.out.size))
        have X4 := hid (⟨(HB4.out.cell (p := ⟨w.heap.size, 0, none⟩) S1).trans X1.out.1, (HB4.out.cell (p := ⟨w.heap.size, 1, none⟩) S1).trans X1.out.2⟩ : wc.cell? ⟨w.heap.size, 0, none⟩ = some (.int .i64 n) ∧ wc.cell? ⟨w.heap.size, 1, none⟩ = some (.slice a zs.length cap))
        have S4 : w.heap.size < wc.heap.size := by omega
        obtain ⟨x0, x1⟩ := X4.out
        go_wp2_with fail
        refine (CF.out.dual (HI.out.below BW.out)).mono ?_
        rintro e w5 ⟨m5, r5, rfl, hg5, hb5'⟩
        obtain ⟨a5, L5, c5, hr5⟩ := hg5.form
        subst hr5
        have hk5 := below_box w5 #[.int .i64 m5, .slice a5 L5 c5]
        have hb5 := hb5'.trans (hk5.mono hb5'.size)
        have hz5 := World.size_alloc w5 (.cells #[.int .i64 m5, .slice a5 L5 c5] 24)
        have hy5 := hb5'.size
        have X5 := hid (cells_back X4.out hb5 (by omega))
        have B5 := hid (BW.out.trans (hb5.mono BW.out.size))
        replace V0 := hid (V0.out.below hb5 (by omega))
        replace V1 := hid (V1.out.below hb5 (by omega))
        replace V2 := hid (V2.out.below hb5 (by omega))
        replace V3 := hid (V3.out.below hb5 (by omega))
        have P5 := hid (box_cells (w := w5) (n := m5) (u := .slice a5 L5 c5) (Below.refl _ _))
        have M5 := hid (hg5.below hk5)
        clear hb5 hb5' hk5 x0 x1 X4 hg5
        obtain ⟨x0, x1⟩ := X5.out
        go_wp2_with fail
        refine (CF.out.del (HI.out.below B5.out)).mono ?_
        rintro e w6 ⟨m6, r6, rfl, hg6, hb6'⟩
        obtain ⟨a6, L6, c6, hr6⟩ := hg6.form
        subst hr6
        have hk6 := below_box w6 #[.int .i64 m6, .slice a6 L6 c6]
        have hb6 := hb6'.trans (hk6.mono hb6'.size)
        have hz6 := World.size_alloc w6 (.cells #[.int .i64 m6, .slice a6 L6 c6] 24)
        have hy6 := hb6'.size
        have X6 := hid (cells_back X5.out hb6 (by omega))
        have B6 := hid (B5.out.trans (hb6.mono B5.out.size))
        replace V0 := hid (V0.out.below hb6 (by omega))
        replace V1 := hid (V1.out.below hb6 (by omega))
        replace V2 := hid (V2.out.below hb6 (by omega))
        replace V3 := hid (V3.out.below hb6 (by omega))
        replace P5 := hid (cells_back P5.out hb6 (by omega))
        replace M5 := hid (M5.out.below hb6)
        have P6 := hid (box_cells (w := w6) (n := m6) (u := .slice a6 L6 c6) (Below.refl _ _))
        have M6 := hid (hg6.below hk6)
        clear hb6 hb6' hk6 x0 x1 X5 hg6
        obtain ⟨x0, x1⟩ := X6.out
        go_wp2_with fail
        refine (CF.out.con (HI.out.below B6.out)).mono ?_
        rintro e w7 ⟨m7, r7, rfl, hg7, hb7'⟩
        obtain ⟨a7, L7, c7, hr7⟩ := hg7.form
        subst hr7
        have hk7 := below_box w7 #[.int .i64 m7, .slice a7 L7 c7]
        have hb7 := hb7'.trans (hk7.mono hb7'.size)
        have hz7 := World.size_alloc w7 (.cells #[.int .i64 m7, .slice a7 L7 c7] 24)
        have hy7 := hb7'.size
        have X7 := hid (cells_back X6.out hb7 (by omega))
        have B7 := hid (B6.out.trans (hb7.mono B6.out.size))
        replace V0 := hid (V0.out.below hb7 (by omega))
        replace V1 := hid (V1.out.below hb7 (by omega))
        replace V2 := hid (V2.out.below hb7 (by omega))
        replace V3 := hid (V3.out.below hb7 (by omega))
        replace P5 := hid (cells_back P5.out hb7 (by omega))
        replace M5 := hid (M5.out.below hb7)
        replace P6 := hid (cells_back P6.out hb7 (by omega))
        replace M6 := hid (M6.out.below hb7)
        have P7 := hid (box_cells (w := w7) (n := m7) (u := .slice a7 L7 c7) (Below.refl _ _))
        have M7 := hid (hg7.below hk7)
        clear hb7 hb7' hk7 x0 x1 X6 hg7
        obtain ⟨x0, x1⟩ := X7.out
        go_wp2_with fail
        refine (CF.out.tru (HI.out.below B7.out)).mono ?_
        rintro e w8 ⟨m8, r8, rfl, hg8, hb8'⟩
        obtain ⟨a8, L8, c8, hr8⟩ := hg8.form
        subst hr8
        have hk8 := below_box w8 #[.int .i64 m8, .slice a8 L8 c8]
        have hb8 := hb8'.trans (hk8.mono hb8'.size)
        have hz8 := World.size_alloc w8 (.cells #[.int .i64 m8, .slice a8 L8 c8] 24)
        have hy8 := hb8'.size
        have X8 := hid (cells_back X7.out hb8 (by omega))
        have B8 := hid (B7.out.trans (hb8.mono B7.out.size))
        replace V0 := hid (V0.out.below hb8 (by omega))
        replace V1 := hid (V1.out.below hb8 (by omega))
        replace V2 := hid (V2.out.below hb8 (by omega))
        replace V3 := hid (V3.out.below hb8 (by omega))
        replace P5 := hid (cells_back P5.out hb8 (by omega))
        replace M5 := hid (M5.out.below hb8)
        replace P6 := hid (cells_back P6.out hb8 (by omega))
        replace M6 := hid (M6.out.below hb8)
        replace P7 := hid (cells_back P7.out hb8 (by omega))
        replace M7 := hid (M7.out.below hb8)
        have P8 := hid (box_cells (w := w8) (n := m8) (u := .slice a8 L8 c8) (Below.refl _ _))
        have M8 := hid (hg8.below hk8)
        clear hb8 hb8' hk8 x0 x1 X7 hg8
        obtain ⟨nn0, va0, vl0, vc0, hv0, hg0⟩ := V0.out
        have T0 := hid (two_cells hv0)
        have GG0 := hid hg0
        have hvb0 : w1.heap.size < (w8.alloc (.cells #[.int .i64 m8, .slice a8 L8 c8] 24)).heap.size := by omega
        clear hv0 hg0 V0
        obtain ⟨nn1, va1, vl1, vc1, hv1, hg1⟩ := V1.out
        have T1 := hid (two_cells hv1)
        have GG1 := hid hg1
        have hvb1 : w1.heap.size + 1 < (w8.alloc (.cells #[.int .i64 m8, .slice a8 L8 c8] 24)).heap.size := by omega
        clear hv1 hg1 V1
        obtain ⟨nn2, va2, vl2, vc2, hv2, hg2⟩ := V2.out
        have T2 := hid (two_cells hv2)
        have GG2 := hid hg2
        have hvb2 : w1.heap.size + 1 + 1 < (w8.alloc (.cells #[.int .i64 m8, .slice a8 L8 c8] 24)).heap.size := by omega
        clear hv2 hg2 V2
        obtain ⟨nn3, va3, vl3, vc3, hv3, hg3⟩ := V3.out
        have T3 := hid (two_cells hv3)
        have GG3 := hid hg3
        have hvb3 : w1.heap.size + 1 + 1 + 1 < (w8.alloc (.cells #[.int .i64 m8, .slice a8 L8 c8] 24)).heap.size := by omega
        clear hv3 hg3 V3
        obtain ⟨y0, y1⟩ := P5.out
        obtain ⟨t0, t1, _, _⟩ := T0.out
        go_wp2_with fail
        refine (told_any M5.out GG0.out).mono ?_
        rintro e w9 ⟨rfl, hb9⟩
        have hy9 := hb9.size
        have B9 := hid (B8.out.trans (hb9.mono B8.out.size))
        clear y0 y1 t0 t1
        replace P6 := hid (cells_back P6.out hb9 (by omega))
        replace M6 := hid (M6.out.below hb9)
        have U19 := hid (cells_back ⟨T1.out.1, T1.out.2.1⟩ hb9 (by omega))
        replace GG1 := hid (GG1.out.below hb9)
        replace P7 := hid (cells_back P7.out hb9 (by omega))
        replace M7 := hid (M7.out.below hb9)
        have U29 := hid (cells_back ⟨T2.out.1, T2.out.2.1⟩ hb9 (by omega))
        replace GG2 := hid (GG2.out.below hb9)
        replace P8 := hid (cells_back P8.out hb9 (by omega))
        replace M8 := hid (M8.out.below hb9)
        have U39 := hid (cells_back ⟨T3.out.1, T3.out.2.1⟩ hb9 (by omega))
        replace GG3 := hid (GG3.out.below hb9)
        clear hb9
        obtain ⟨y0, y1⟩ := P6.out
        obtain ⟨t0, t1⟩ := U19.out
        go_wp2_with fail
        refine (told_any M6.out GG1.out).mono ?_
        rintro e w10 ⟨rfl, hb10⟩
        have hy10 := hb10.size
        have B10 := hid (B9.out.trans (hb10.mono B9.out.size))
        clear y0 y1 t0 t1
        replace P7 := hid (cells_back P7.out hb10 (by omega))
        replace M7 := hid (M7.out.below hb10)
        have U210 := hid (cells_back U29.out hb10 (by omega))
        replace GG2 := hid (GG2.out.below hb10)
        replace P8 := hid (cells_back P8.out hb10 (by omega))
        replace M8 := hid (M8.out.below hb10)
        have U310 := hid (cells_back U39.out hb10 (by omega))
        replace GG3 := hid (GG3.out.below hb10)
        clear hb10
        obtain ⟨y0, y1⟩ := P7.out
        obtain ⟨t0, t1⟩ := U210.out
        go_wp2_with fail
        refine (told_any M7.out GG2.out).mono ?_
        rintro e w11 ⟨rfl, hb11⟩
        have hy11 := hb11.size
        have B11 := hid (B10.out.trans (hb11.mono B10.out.size))
        clear y0 y1 t0 t1
        replace P8 := hid (cells_back P8.out hb11 (by omega))
        replace M8 := hid (M8.out.below hb11)
        have U311 := hid (cells_back U310.out hb11 (by omega))
        replace GG3 := hid (GG3.out.below hb11)
        clear hb11
        obtain ⟨y0, y1⟩ := P8.out
        obtain ⟨t0, t1⟩ := U311.out
        go_wp2_with fail
        refine (told_any M8.out GG3.out).mono ?_
        rintro e w12 ⟨rfl, hb12⟩
        have hy12 := hb12.size
        have B12 := hid (B11.out.trans (hb12.mono B11.out.size))
        clear y0 y1 t0 t1
        clear hb12
        go_wp2_with fail
        go_ret
        exact ⟨rfl, B12.out⟩
end Go.Proofs.Ytkebhhpfnalbfac
