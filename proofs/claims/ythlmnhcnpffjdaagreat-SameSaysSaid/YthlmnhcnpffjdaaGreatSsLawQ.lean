/- The law rotalaw.SameSays. -/
import Derived.Test.YthlmnhcnpffjdaaGreatCanWQ
import Derived.Test.YthlmnhcnpffjdaaGreatCanRQ
import Derived.Test.YthlmnhcnpffjdaaGreatGrpRQ
import Derived.Test.YthlmnhcnpffjdaaGreatDorXQ
import Derived.Test.YthlmnhcnpffjdaaGreatOrdQQ
import Derived.Test.YthlmnhcnpffjdaaGreatTolJQ
import Derived.Test.YthlmnhcnpffjdaaGreatRefAxEQ
namespace Go.Proofs.YthlmnhcnpffjdaaGreat
open Go.RowKit

/-- What stays while the law runs. -/
def StS (w W : World) (n : Int) (v : Value) (k : Int) (u : Value) : Prop := Below w.heap.size w W ∧ w.heap.size + 2 ≤ W.heap.size ∧ W.heap[w.heap.size]? = some (.cells #[.int .i64 n, v] 24 (0, 0)) ∧ W.heap[w.heap.size + 1]? = some (.cells #[.int .i64 k, u] 24 (0, 0))
theorem StS.next {w W W' : World} {n : Int} {v : Value} {k : Int} {u : Value} (h : StS w W n v k u) (hb : Below W.heap.size W W') : StS w W' n v k u := by
  obtain ⟨h1, h2, h3, h4⟩ := h
  exact ⟨h1.trans (hb.mono h1.size), Nat.le_trans h2 hb.size, (hb.block w.heap.size (by omega)).trans h3, (hb.block (w.heap.size + 1) (by omega)).trans h4⟩
theorem StS.cells {w W : World} {n : Int} {v : Value} {k : Int} {u : Value} (h : StS w W n v k u) : W.cell? ⟨w.heap.size, 0, none⟩ = some (.int .i64 n) ∧ W.cell? ⟨w.heap.size, 1, none⟩ = some v ∧ W.cell? ⟨w.heap.size + 1, 0, none⟩ = some (.int .i64 k) ∧ W.cell? ⟨w.heap.size + 1, 1, none⟩ = some u := by
  obtain ⟨_, _, h3, h4⟩ := h
  exact ⟨(cells2 h3).1, (cells2 h3).2, (cells2 h4).1, (cells2 h4).2⟩
theorem StS.new (w : World) (n : Int) (v : Value) (k : Int) (u : Value) : StS w (box2 w n v k u) n v k u := by
  obtain ⟨y0, y1⟩ := box2_blocks (Below.refl _ (box2 w n v k u))
  exact ⟨box2_below w n v k u, by rw [box2_size]; exact Nat.le_refl _, y0, y1⟩
theorem save_two (W : World) (b : Nat) (x y : Value) : Save (fun k => k = b) W ((W.setCell ⟨b, 0, none⟩ x).setCell ⟨b, 1, none⟩ y) := (Save.setCell (X := fun k => k = b) (Save.refl _ W) (p := ⟨b, 0, none⟩) (.inl rfl) _).setCell (p := ⟨b, 1, none⟩) (.inl rfl) _
theorem StS.set {w W : World} {n : Int} {v : Value} {k : Int} {u : Value} (h : StS w W n v k u) {b : Nat} (hb : w.heap.size + 2 ≤ b) (x y : Value) : StS w ((W.setCell ⟨b, 0, none⟩ x).setCell ⟨b, 1, none⟩ y) n v k u := by
  obtain ⟨h1, h2, h3, h4⟩ := h
  have hs := save_two W b x y
  exact ⟨below_two h1 (by omega), Nat.le_trans h2 hs.size, (hs.block _ (by omega) (by omega)).trans h3, (hs.block _ (by omega) (by omega)).trans h4⟩
/-- A struct variable. -/
def VbS (W : World) (b : Nat) (n : Int) (r : Value) : Prop := W.heap[b]? = some (.cells #[.int .i64 n, r] 24 (0, 0))
theorem VbS.lt {W : World} {b : Nat} {n : Int} {r : Value} (h : VbS W b n r) : b < W.heap.size := (Array.getElem?_eq_some_iff.1 h).1
theorem VbS.next {W W' : World} {b : Nat} {n : Int} {r : Value} (h : VbS W b n r) (hb : Below W.heap.size W W') : VbS W' b n r := (hb.block b h.lt).trans h
theorem VbS.new (W : World) (n : Int) (r : Value) : VbS (W.alloc (.cells #[.int .i64 n, r] 24)) W.heap.size n r := World.alloc_heap_new W _
theorem VbS.put {W : World} {b : Nat} {n : Int} {r : Value} (h : VbS W b n r) (n' : Int) (r' : Value) : VbS ((W.setCell ⟨b, 0, none⟩ (.int .i64 n')).setCell ⟨b, 1, none⟩ r') b n' r' := set_one (set_nil h)
theorem VbS.set {W : World} {b : Nat} {n : Int} {r : Value} (h : VbS W b n r) {b' : Nat} (hne : b ≠ b') (x y : Value) : VbS ((W.setCell ⟨b', 0, none⟩ x).setCell ⟨b', 1, none⟩ y) b n r := ((save_two W b' x y).block b h.lt hne).trans h
theorem GoodJ.set {B : Nat} {W : World} {q n : Int} {l : List Nat} {nn : Int} {vv : Value} (h : GoodJ B W q n l nn vv) {b : Nat} (hb : b < B) (x y : Value) : GoodJ B ((W.setCell ⟨b, 0, none⟩ x).setCell ⟨b, 1, none⟩ y) q n l nn vv := h.imp (fun ⟨h1, h2, h4⟩ => ⟨h1, h2, h4.set2 hb⟩) id
theorem Own.nextS {B : Nat} {W W' : World} {v : Value} {l : List Nat} (h : Own B W v l) (hb : Below W.heap.size W W') : Own B W' v l := h.below hb
/-- A list, or none where there is an error. -/
def TlS (B : Nat) (W : World) (q : Int) (r : Value) (l : List Nat) : Prop := (q ≠ 0 ∧ ∃ a c, r = .slice a 0 c) ∨ (q = 0 ∧ Own B W r l)
theorem TlS.below {B : Nat} {W W' : World} {q : Int} {r : Value} {l : List Nat} (h : TlS B W q r l) (hb : Below W.heap.size W W') : TlS B W' q r l := h.imp id (fun ⟨h1, h2⟩ => ⟨h1, h2.below hb⟩)
theorem TlS.set {B : Nat} {W : World} {q : Int} {r : Value} {l : List Nat} (h : TlS B W q r l) {b : Nat} (hb : b < B) (x y : Value) : TlS B ((W.setCell ⟨b, 0, none⟩ x).setCell ⟨b, 1, none⟩ y) q r l := h.imp id (fun ⟨h1, h2⟩ => ⟨h1, h2.set2 hb⟩)
theorem TlS.form {B : Nat} {W : World} {q : Int} {r : Value} {l : List Nat} (h : TlS B W q r l) : ∃ a L c, r = .slice a L c := by
  rcases h with ⟨_, a, c, rfl⟩ | ⟨_, h2⟩
  · exact ⟨_, _, _, rfl⟩
  · obtain ⟨a, c, e⟩ := ownsRow_form' h2
    exact ⟨a, _, c, e⟩
theorem listE (w : World) (a : Option Addr) (c : Nat) (q : Int) (hq : (q != 0) = true) (a2 : Option Addr) (l2 c2 : Nat) : Calls Tryz.prog 17 #[.slice a 0 c, .int .i64 q, .slice a2 l2 c2, .int .i64 q] w fun e w' => e = .returned (.bool true) ∧ w' = w := by
  have h2 : (q == q) = true := by simp
  go_enter Tryz.func17, Tryz.ntmps17
  go_wp2_with fail
  go_ret
  exact ⟨rfl, rfl⟩
theorem listS {B B' : Nat} {q : Int} {r r' : Value} {l : List Nat} (w : World) (h : TlS B w q r l) (h' : TlS B' w q r' l) (hl : l.length ≤ 256) : Calls Tryz.prog 17 #[r, .int .i64 q, r', .int .i64 q] w fun e w' => e = .returned (.bool true) ∧ Below w.heap.size w w' := by
  obtain ⟨a2, l2, c2, rfl⟩ := h'.form
  rcases h with ⟨h1, a, c, rfl⟩ | ⟨rfl, h2⟩
  · refine (listE w a c q (by simp [h1]) a2 l2 c2).mono ?_
    rintro e w' ⟨rfl, rfl⟩
    exact ⟨rfl, Below.refl _ _⟩
  · rcases h' with ⟨h1, _⟩ | ⟨_, h3⟩
    · exact absurd rfl h1
    · exact list_good w _ _ _ (h2.ints (by omega)) (h3.ints (by omega))
theorem badG (b : Bool) (q : Int) (w : World) : Calls Tryz.prog 5 #[.bool b, .int .i64 q] w fun r w' => r = .returned (.int .i64 (if b = true then 0 else q)) ∧ w' = w := by
  cases b
  · go_enter Tryz.func5, Tryz.ntmps5
    go_wp2_with fail
    go_ret
    exact ⟨rfl, rfl⟩
  · go_enter Tryz.func5, Tryz.ntmps5
    go_wp2_with fail
    go_ret
    exact ⟨rfl, rfl⟩
theorem ordB_iff {n : Nat} {zs : List Int} : ordB n zs = true ↔ OrdZ n zs := by
  constructor
  · exact ord_of
  · rintro ⟨o, rfl, h1, h2⟩
    unfold ordB
    rw [Bool.and_eq_true, List.all_eq_true, decide_eq_true_iff]
    refine ⟨fun i hi => ?_, by rw [N_len]; exact h2⟩
    obtain ⟨j, hj, e⟩ := h1.all h2 (List.mem_range.1 hi)
    rw [memZ_N]
    unfold memB
    have hj2 : j < o.length := by omega
    exact decide_eq_true (by rw [← e]; simp [List.getD, hj2])
set_option maxRecDepth 100000 in
set_option maxHeartbeats 4000000 in
theorem ss_bad (m : Int) (v u t : Value) (zs : List Int) (ps : List Int) (k : Int) (ys : List Int) (w : World) (h : Ints w v zs) (h' : Ints w u ys) (ht : Ints w t ps) (hq : chkR m zs ≠ 0) :
    Calls Tryz.prog 3 #[.agg #[.int .i64 m, v], .agg #[.int .i64 k, u], t] w fun e w' => e = .returned (.bool true) ∧ Below w.heap.size w w' := by
  have MA := hid (fun w' (hb0 : Below w.heap.size w w') => Matroid_ref m v zs w' (h.below hb0))
  have RP := hid (fun w' (hb0 : Below w.heap.size w w') => Rename_bad m v t zs w' (h.below hb0) hq)
  have hc2 : chk2 m zs k ys = chkR m zs := by unfold chk2; rw [if_neg hq]
  have IP := hid (fun w' (hb0 : Below w.heap.size w w') => Isomorphic_bad m k v u zs ys w' (h.below hb0) (h'.below hb0) (by rw [hc2]; exact hq))
  rw [hc2] at IP
  have GP := hid (fun w' (hb0 : Below w.heap.size w w') => Group_bad m v zs w' (h.below hb0) hq)
  have OP := hid (fun w' (hb0 : Below w.heap.size w w') => Orbits_bad m v zs w' (h.below hb0) hq)
  have CP := hid (fun w' (hb0 : Below w.heap.size w w') => Canon_bad m v zs w' (h.below hb0) hq)
  obtain ⟨a0, c0, hv, -, -⟩ := id h
  obtain ⟨a1, c1, hu, -, -⟩ := id h'
  obtain ⟨a2, c2, ht2, -, -⟩ := id ht
  subst hv
  subst hu
  subst ht2
  clear h h' ht
  generalize chkR m zs = qm at *
  have hk1 : (qm == 0) = false := by simp [hq]
  have hk2 : (qm != 0) = true := by simp [hq]
  have hw2 : (w.alloc (.cells #[.int .i64 m, .slice a0 zs.length c0] 24)).alloc (.cells #[.int .i64 k, .slice a1 ys.length c1] 24) = box2 w m (.slice a0 zs.length c0) k (.slice a1 ys.length c1) := rfl
  have S0 := hid (StS.new w m (.slice a0 zs.length c0) k (.slice a1 ys.length c1))
  generalize box2 w m (.slice a0 zs.length c0) k (.slice a1 ys.length c1) = W2 at *
  obtain ⟨z0, z1, z2, z3⟩ := S0.out.cells
  go_enter Tryz.func3, Tryz.ntmps3
  have CC := hid (MA.out W2 S0.out.1)
  go_wp2_with fail
  refine CC.out.mono ?_
  rintro e w3 ⟨rfl, hb⟩
  have S_1 := hid (S0.out.next hb)
  clear CC hb z0 z1 z2 z3 S0 MA hw2
  obtain ⟨z0, z1, z2, z3⟩ := S_1.out.cells
  have hw34 : w3 = w3 := rfl
  clear hw34
  have hbA : Below w3.heap.size w3 (w3.alloc (.cells #[.int .i64 0, .slice none 0 0] 24)) := (Below.refl _ _).alloc (Nat.le_refl _) _
  have hbB : Below (w3.alloc (.cells #[.int .i64 0, .slice none 0 0] 24)).heap.size (w3.alloc (.cells #[.int .i64 0, .slice none 0 0] 24)) ((w3.alloc (.cells #[.int .i64 0, .slice none 0 0] 24)).alloc (.cells #[.int .i64 0, .slice none 0 0] 24)) := (Below.refl _ _).alloc (Nat.le_refl _) _
  have VA0 := hid (VbS.next (VbS.new w3 0 (.slice none 0 0)) hbB)
  have VB0 : Hid (VbS ((w3.alloc (.cells #[.int .i64 0, .slice none 0 0] 24)).alloc (.cells #[.int .i64 0, .slice none 0 0] 24)) (w3.heap.size + 1) 0 (.slice none 0 0)) := by have := VbS.new (w3.alloc (.cells #[.int .i64 0, .slice none 0 0] 24)) 0 (.slice none 0 0); rwa [World.size_alloc] at this
  have hb := hbA.trans (hbB.mono hbA.size)
  have S5 := hid (S_1.out.next hb)
  have hzz : ((w3.alloc (.cells #[.int .i64 0, .slice none 0 0] 24)).alloc (.cells #[.int .i64 0, .slice none 0 0] 24)).heap.size = w3.heap.size + 2 := by simp
  have hs4 : w.heap.size + 2 ≤ w3.heap.size := S_1.out.2.1
  obtain ⟨WV, hWV⟩ : ∃ WV, (w3.alloc (.cells #[.int .i64 0, .slice none 0 0] 24)).alloc (.cells #[.int .i64 0, .slice none 0 0] 24) = WV := ⟨_, rfl⟩
  rw [hWV] at VA0 VB0 S5 hzz
  clear hbA hbB hb z0 z1 z2 z3 S_1
  obtain ⟨z0, z1, z2, z3⟩ := S5.out.cells
  have CC := hid (RP.out WV S5.out.1)
  go_wp2_with fail
  refine CC.out.mono ?_
  rintro e w12 ⟨rfl, hb⟩
  have S_2 := hid (S5.out.next hb)
  have VA_2 := hid (VA0.out.next hb)
  have VB_2 := hid (VB0.out.next hb)
  have GQ0 : Hid (GoodJ WV.heap.size w12 qm 0 [] 0 (.slice none 0 0)) := .inr ⟨hq, rfl, rfl⟩
  clear CC hb z0 z1 z2 z3 S5 VA0 VB0 RP hWV
  obtain ⟨z0, z1, z2, z3⟩ := S_2.out.cells
  have hb : Below w12.heap.size w12 (w12.alloc (.cells #[.int .i64 0, (.slice none 0 0)] 24)) := (Below.refl _ _).alloc (Nat.le_refl _) _
  have VQn := hid (VbS.new w12 0 (.slice none 0 0))
  have S_3 := hid (S_2.out.next hb)
  have VA_3 := hid (VA_2.out.next hb)
  have VB_3 := hid (VB_2.out.next hb)
  have GQ_3 := hid (GQ0.out.below hb)
  clear hb z0 z1 z2 z3 S_2 VA_2 VB_2 GQ0
  obtain ⟨z0, z1, z2, z3⟩ := S_3.out.cells
  have CC := hid (IP.out (w12.alloc (.cells #[.int .i64 0, (.slice none 0 0)] 24)) S_3.out.1)
  go_wp2_with fail
  refine CC.out.mono ?_
  rintro e w14 ⟨rfl, hb⟩
  have S_4 := hid (S_3.out.next hb)
  have VA_4 := hid (VA_3.out.next hb)
  have VB_4 := hid (VB_3.out.next hb)
  have GQ_4 := hid (GQ_3.out.below hb)
  have VQ_4 := hid (VQn.out.next hb)
  have I0 : Hid (TlS (w12.alloc (.cells #[.int .i64 0, (.slice none 0 0)] 24)).heap.size w14 qm (.slice none 0 0) []) := .inl ⟨hq, _, _, rfl⟩
  clear CC hb z0 z1 z2 z3 S_3 VA_3 VB_3 GQ_3 VQn IP
  obtain ⟨z0, z1, z2, z3⟩ := S_4.out.cells
  have CC := hid (GP.out w14 S_4.out.1)
  go_wp2_with fail
  refine CC.out.mono ?_
  rintro e w15 ⟨rfl, hb⟩
  have S_5 := hid (S_4.out.next hb)
  have VA_5 := hid (VA_4.out.next hb)
  have VB_5 := hid (VB_4.out.next hb)
  have GQ_5 := hid (GQ_4.out.below hb)
  have VQ_5 := hid (VQ_4.out.next hb)
  have I_5 := hid (I0.out.below hb)
  clear CC hb z0 z1 z2 z3 S_4 VA_4 VB_4 GQ_4 VQ_4 I0 GP
  obtain ⟨z0, z1, z2, z3⟩ := S_5.out.cells
  have CC := hid (OP.out w15 S_5.out.1)
  go_wp2_with fail
  refine CC.out.mono ?_
  rintro e w16 ⟨rfl, hb⟩
  have S_6 := hid (S_5.out.next hb)
  have VA_6 := hid (VA_5.out.next hb)
  have VB_6 := hid (VB_5.out.next hb)
  have GQ_6 := hid (GQ_5.out.below hb)
  have VQ_6 := hid (VQ_5.out.next hb)
  have I_6 := hid (I_5.out.below hb)
  have T0 : Hid (TlS w15.heap.size w16 qm (.slice none 0 0) []) := .inl ⟨hq, _, _, rfl⟩
  clear CC hb z0 z1 z2 z3 S_5 VA_5 VB_5 GQ_5 VQ_5 I_5 OP
  obtain ⟨z0, z1, z2, z3⟩ := S_6.out.cells
  have CC := hid (CP.out w16 S_6.out.1)
  go_wp2_with fail
  refine CC.out.mono ?_
  rintro e w17 ⟨rfl, hb⟩
  have S_7 := hid (S_6.out.next hb)
  have VA_7 := hid (VA_6.out.next hb)
  have VB_7 := hid (VB_6.out.next hb)
  have GQ_7 := hid (GQ_6.out.below hb)
  have VQ_7 := hid (VQ_6.out.next hb)
  have I_7 := hid (I_6.out.below hb)
  have T_7 := hid (T0.out.below hb)
  have GU0 : Hid (GoodJ w16.heap.size w17 qm 0 [] 0 (.slice none 0 0)) := .inr ⟨hq, rfl, rfl⟩
  clear CC hb z0 z1 z2 z3 S_6 VA_6 VB_6 GQ_6 VQ_6 I_6 T0 CP
  obtain ⟨z0, z1, z2, z3⟩ := S_7.out.cells
  have hb : Below w17.heap.size w17 (w17.alloc (.cells #[.int .i64 0, (.slice none 0 0)] 24)) := (Below.refl _ _).alloc (Nat.le_refl _) _
  have VUn := hid (VbS.new w17 0 (.slice none 0 0))
  have S_8 := hid (S_7.out.next hb)
  have VA_8 := hid (VA_7.out.next hb)
  have VB_8 := hid (VB_7.out.next hb)
  have GQ_8 := hid (GQ_7.out.below hb)
  have VQ_8 := hid (VQ_7.out.next hb)
  have I_8 := hid (I_7.out.below hb)
  have T_8 := hid (T_7.out.below hb)
  have GU_8 := hid (GU0.out.below hb)
  clear hb z0 z1 z2 z3 S_7 VA_7 VB_7 GQ_7 VQ_7 I_7 T_7 GU0
  obtain ⟨z0, z1, z2, z3⟩ := S_8.out.cells
  obtain ⟨va0, va1, -, -⟩ := two_cells VA_8.out
  obtain ⟨vb0, vb1, -, -⟩ := two_cells VB_8.out
  obtain ⟨vq0, vq1, -, -⟩ := two_cells VQ_8.out
  obtain ⟨vu0, vu1, -, -⟩ := two_cells VUn.out
  have CC := hid (toldJ (w17.alloc (.cells #[.int .i64 0, (.slice none 0 0)] 24)) GQ_8.out (.inr ⟨hq, rfl, rfl⟩ : GoodJ 0 (w17.alloc (.cells #[.int .i64 0, (.slice none 0 0)] 24)) qm 0 [] 0 (.slice none 0 0)) (Nat.zero_le _))
  go_wp2_with fail
  refine CC.out.mono ?_
  rintro e wf1 ⟨rfl, hb⟩
  have S_9 := hid (S_8.out.next hb)
  have VA_9 := hid (VA_8.out.next hb)
  have VB_9 := hid (VB_8.out.next hb)
  have GQ_9 := hid (GQ_8.out.below hb)
  have VQ_9 := hid (VQ_8.out.next hb)
  have I_9 := hid (I_8.out.below hb)
  have T_9 := hid (T_8.out.below hb)
  have GU_9 := hid (GU_8.out.below hb)
  have VU_9 := hid (VUn.out.next hb)
  clear CC hb z0 z1 z2 z3 va0 va1 vb0 vb1 vq0 vq1 vu0 vu1 S_8 VA_8 VB_8 GQ_8 VQ_8 I_8 T_8 GU_8 VUn
  obtain ⟨z0, z1, z2, z3⟩ := S_9.out.cells
  obtain ⟨va0, va1, -, -⟩ := two_cells VA_9.out
  obtain ⟨vb0, vb1, -, -⟩ := two_cells VB_9.out
  obtain ⟨vq0, vq1, -, -⟩ := two_cells VQ_9.out
  obtain ⟨vu0, vu1, -, -⟩ := two_cells VU_9.out
  have CC := hid (listS wf1 I_9.out (.inl ⟨hq, _, _, rfl⟩ : TlS 0 wf1 qm (.slice none 0 0) []) (Nat.zero_le _))
  go_wp2_with fail
  refine CC.out.mono ?_
  rintro e wf2 ⟨rfl, hb⟩
  have S_10 := hid (S_9.out.next hb)
  have VA_10 := hid (VA_9.out.next hb)
  have VB_10 := hid (VB_9.out.next hb)
  have GQ_10 := hid (GQ_9.out.below hb)
  have VQ_10 := hid (VQ_9.out.next hb)
  have I_10 := hid (I_9.out.below hb)
  have T_10 := hid (T_9.out.below hb)
  have GU_10 := hid (GU_9.out.below hb)
  have VU_10 := hid (VU_9.out.next hb)
  clear CC hb z0 z1 z2 z3 va0 va1 vb0 vb1 vq0 vq1 vu0 vu1 S_9 VA_9 VB_9 GQ_9 VQ_9 I_9 T_9 GU_9 VU_9
  obtain ⟨z0, z1, z2, z3⟩ := S_10.out.cells
  obtain ⟨va0, va1, -, -⟩ := two_cells VA_10.out
  obtain ⟨vb0, vb1, -, -⟩ := two_cells VB_10.out
  obtain ⟨vq0, vq1, -, -⟩ := two_cells VQ_10.out
  obtain ⟨vu0, vu1, -, -⟩ := two_cells VU_10.out
  have CC := hid (oneJ 0 qm wf2 (fun _ => rfl))
  go_wp2_with fail
  refine CC.out.mono ?_
  rintro e w' ⟨rfl, hw'⟩
  obtain rfl := hw'.symm
  clear CC va0 va1 vb0 vb1 vq0 vq1 vu0 vu1
  obtain ⟨va0, va1, -, -⟩ := two_cells VA_10.out
  obtain ⟨vb0, vb1, -, -⟩ := two_cells VB_10.out
  obtain ⟨vq0, vq1, -, -⟩ := two_cells VQ_10.out
  obtain ⟨vu0, vu1, -, -⟩ := two_cells VU_10.out
  have CC := hid (listS wf2 T_10.out (.inl ⟨hq, _, _, rfl⟩ : TlS 0 wf2 qm (.slice none 0 0) []) (Nat.zero_le _))
  go_wp2_with fail
  refine CC.out.mono ?_
  rintro e wf3 ⟨rfl, hb⟩
  have S_11 := hid (S_10.out.next hb)
  have VA_11 := hid (VA_10.out.next hb)
  have VB_11 := hid (VB_10.out.next hb)
  have GQ_11 := hid (GQ_10.out.below hb)
  have VQ_11 := hid (VQ_10.out.next hb)
  have I_11 := hid (I_10.out.below hb)
  have T_11 := hid (T_10.out.below hb)
  have GU_11 := hid (GU_10.out.below hb)
  have VU_11 := hid (VU_10.out.next hb)
  clear CC hb z0 z1 z2 z3 va0 va1 vb0 vb1 vq0 vq1 vu0 vu1 S_10 VA_10 VB_10 GQ_10 VQ_10 I_10 T_10 GU_10 VU_10
  obtain ⟨z0, z1, z2, z3⟩ := S_11.out.cells
  obtain ⟨va0, va1, -, -⟩ := two_cells VA_11.out
  obtain ⟨vb0, vb1, -, -⟩ := two_cells VB_11.out
  obtain ⟨vq0, vq1, -, -⟩ := two_cells VQ_11.out
  obtain ⟨vu0, vu1, -, -⟩ := two_cells VU_11.out
  have CC := hid (toldJ wf3 GU_11.out (.inr ⟨hq, rfl, rfl⟩ : GoodJ 0 wf3 qm 0 [] 0 (.slice none 0 0)) (Nat.zero_le _))
  go_wp2_with fail
  refine CC.out.mono ?_
  rintro e wf4 ⟨rfl, hb⟩
  have SE := hid (S_11.out.next hb)
  clear CC hb
  go_wp2_with fail
  go_ret
  exact ⟨rfl, SE.out.1⟩
set_option maxRecDepth 100000 in
set_option maxHeartbeats 4000000 in
theorem ss_oi (m : Nat) (v u t : Value) (l : List Nat) (p : List Nat) (j : Nat) (l' : List Nat) (w : World) (h : Ints w v (N l)) (h' : Ints w u (N l')) (ht : Ints w t (N p)) (hm : m ≤ 8) (hf : Fam m l) (hb : Bas l) (hp : Beg m p) (hpl : p.length = m) (hj : j ≤ 8) (hf' : Fam j l') (hb' : Bas l') :
    Calls Tryz.prog 3 #[.agg #[.int .i64 m, v], .agg #[.int .i64 j, u], t] w fun e w' => e = .returned (.bool true) ∧ Below w.heap.size w w' := by
  have MA := hid (fun w' (hb0 : Below w.heap.size w w') => Matroid_ref m v (N l) w' (h.below hb0))
  rw [chk_mk hm hf hb] at MA
  have MB := hid (fun w' (hb0 : Below w.heap.size w w') => Matroid_ref j u (N l') w' (h'.below hb0))
  rw [chk_mk hj hf' hb'] at MB
  have IO := hid (fun w' (hb0 : Below w.heap.size w w') => RIsOrder_any m t (N p) w' hm (ht.below hb0))
  rw [show ordB m (N p) = true from ordB_iff.2 ⟨p, rfl, hp, hpl⟩] at IO
  have GD := hid (fun w' (hb0 : Below w.heap.size w w') => GroupR_ok m v l w' hm hf hb (h.below hb0))
  have CD := hid (fun w' (hb0 : Below w.heap.size w w') => CanonR_ok m v l w' hm hf hb (h.below hb0))
  have RD := hid (fun w' (hb0 : Below w.heap.size w w') => Renamed_ok m v t l p w' hm hf (h.below hb0) (ht.below hb0) hp hpl)
  have ID := hid (fun w' (hb0 : Below w.heap.size w w') => IsoR_ok m j v u l l' w' hm hf hb (h.below hb0) hj hf' hb' (h'.below hb0))
  have RP := hid (fun w' (hb0 : Below w.heap.size w w') => Rename_ok m v t l p w' hm hf hb (h.below hb0) (ht.below hb0) hp hpl)
  have IP := hid (fun w' (hb0 : Below w.heap.size w w') => Isomorphic_ok m j v u l l' w' hm hf hb (h.below hb0) hj hf' hb' (h'.below hb0))
  have GP := hid (fun w' (hb0 : Below w.heap.size w w') => Group_ok m v l w' hm hf hb (h.below hb0))
  have OP := hid (fun w' (hb0 : Below w.heap.size w w') => Orbits_ok m v l w' hm hf hb (h.below hb0))
  have CP := hid (fun w' (hb0 : Below w.heap.size w w') => Canon_ok m v l w' hm hf hb (h.below hb0))
  have lO : (orbL m l).length ≤ 256 := fam_len hm (orb_fam m l)
  have lC : (canL m l).length ≤ 256 := fam_len hm (can_fam m l)
  have lR : (renL m p l).length ≤ 256 := fam_len hm (ren_fam m p l)
  have lI : ((isoK m l j l').head?.getD []).length ≤ 256 := by
    rcases hh : (isoK m l j l').head? with _ | q
    · exact Nat.zero_le _
    · have hq := List.mem_of_mem_head? (show q ∈ (isoK m l j l').head? from hh)
      unfold isoK at hq
      split at hq
      · have := (isoL_mem.1 hq).1.2
        show q.length ≤ 256
        omega
      · cases hq
  obtain ⟨a0, c0, hv, -, -⟩ := h.nats
  obtain ⟨a1, c1, hu, -, -⟩ := h'.nats
  obtain ⟨a2, c2, ht2, -, -⟩ := ht.nats
  subst hv
  subst hu
  subst ht2
  clear hf hb h h' ht hp hpl hf' hb'
  generalize (isoL m l l).length = GN at *
  generalize orbL m l = OL at *
  generalize canL m l = CL at *
  generalize renL m p l = RL at *
  generalize (isoK m l j l').head? = IH at *
  have HIT : Hid (∀ (B : Nat) (W : World) (r : Value), Own B W r (IH.getD []) → TlS B W (ansE IH) r (IH.getD [])) := fun B W r hoX => by
    rcases IH with _ | q
    · obtain ⟨xa, xc, hx⟩ := ownsRow_form' hoX
      exact .inl ⟨by decide, xa, xc, hx⟩
    · exact .inr ⟨rfl, hoX⟩
  have hw2 : (w.alloc (.cells #[.int .i64 m, .slice a0 l.length c0] 24)).alloc (.cells #[.int .i64 j, .slice a1 l'.length c1] 24) = box2 w m (.slice a0 l.length c0) j (.slice a1 l'.length c1) := rfl
  have S0 := hid (StS.new w m (.slice a0 l.length c0) j (.slice a1 l'.length c1))
  generalize box2 w m (.slice a0 l.length c0) j (.slice a1 l'.length c1) = W2 at *
  obtain ⟨z0, z1, z2, z3⟩ := S0.out.cells
  go_enter Tryz.func3, Tryz.ntmps3
  have CC := hid (MA.out W2 S0.out.1)
  go_wp2_with fail
  refine CC.out.mono ?_
  rintro e w3 ⟨rfl, hb⟩
  have S_1 := hid (S0.out.next hb)
  clear CC hb z0 z1 z2 z3 S0 MA hw2
  obtain ⟨z0, z1, z2, z3⟩ := S_1.out.cells
  have CC := hid (MB.out w3 S_1.out.1)
  go_wp2_with fail
  refine CC.out.mono ?_
  rintro e w4 ⟨rfl, hb⟩
  have S_2 := hid (S_1.out.next hb)
  clear CC hb z0 z1 z2 z3 S_1 MB
  obtain ⟨z0, z1, z2, z3⟩ := S_2.out.cells
  have hbA : Below w4.heap.size w4 (w4.alloc (.cells #[.int .i64 0, .slice none 0 0] 24)) := (Below.refl _ _).alloc (Nat.le_refl _) _
  have hbB : Below (w4.alloc (.cells #[.int .i64 0, .slice none 0 0] 24)).heap.size (w4.alloc (.cells #[.int .i64 0, .slice none 0 0] 24)) ((w4.alloc (.cells #[.int .i64 0, .slice none 0 0] 24)).alloc (.cells #[.int .i64 0, .slice none 0 0] 24)) := (Below.refl _ _).alloc (Nat.le_refl _) _
  have VA0 := hid (VbS.next (VbS.new w4 0 (.slice none 0 0)) hbB)
  have VB0 : Hid (VbS ((w4.alloc (.cells #[.int .i64 0, .slice none 0 0] 24)).alloc (.cells #[.int .i64 0, .slice none 0 0] 24)) (w4.heap.size + 1) 0 (.slice none 0 0)) := by have := VbS.new (w4.alloc (.cells #[.int .i64 0, .slice none 0 0] 24)) 0 (.slice none 0 0); rwa [World.size_alloc] at this
  have hb := hbA.trans (hbB.mono hbA.size)
  have S5 := hid (S_2.out.next hb)
  have hzz : ((w4.alloc (.cells #[.int .i64 0, .slice none 0 0] 24)).alloc (.cells #[.int .i64 0, .slice none 0 0] 24)).heap.size = w4.heap.size + 2 := by simp
  have hs4 : w.heap.size + 2 ≤ w4.heap.size := S_2.out.2.1
  obtain ⟨WV, hWV⟩ : ∃ WV, (w4.alloc (.cells #[.int .i64 0, .slice none 0 0] 24)).alloc (.cells #[.int .i64 0, .slice none 0 0] 24) = WV := ⟨_, rfl⟩
  rw [hWV] at VA0 VB0 S5 hzz
  clear hbA hbB hb z0 z1 z2 z3 S_2
  obtain ⟨z0, z1, z2, z3⟩ := S5.out.cells
  go_wp2_with fail
  refine (IO.out _ S5.out.1).mono ?_
  rintro e w' ⟨rfl, hw'⟩
  obtain rfl := hw'.symm
  clear hWV IO
  go_wp2_with fail
  refine (badG _ 1 _).mono ?_
  rintro e w' ⟨rfl, hw'⟩
  obtain rfl := hw'.symm
  simp only [if_true]
  have CC := hid (GD.out WV S5.out.1)
  go_wp2_with fail
  refine CC.out.mono ?_
  rintro e w6 ⟨rY, rfl, hoY, hb⟩
  have S_3 := hid (S5.out.next hb)
  have VA_3 := hid (VA0.out.next hb)
  have VB_3 := hid (VB0.out.next hb)
  have hz6 := hb.size
  have Y0 : Hid (TlS WV.heap.size w6 0 rY OL) := .inr ⟨rfl, hoY⟩
  obtain ⟨ya, yc, hy⟩ := ownsRow_form' hoY
  subst hy
  clear CC hb z0 z1 z2 z3 S5 VA0 VB0 GD hoY
  obtain ⟨z0, z1, z2, z3⟩ := S_3.out.cells
  have CC := hid (CD.out w6 S_3.out.1)
  go_wp2_with fail
  refine CC.out.mono ?_
  rintro e w7 ⟨rC, rfl, hoC, hb⟩
  have S_4 := hid (S_3.out.next hb)
  have VA_4 := hid (VA_3.out.next hb)
  have VB_4 := hid (VB_3.out.next hb)
  have Y_4 := hid (Y0.out.below hb)
  have GB0 : Hid (GoodJ w6.heap.size w7 0 m CL m rC) := .inl ⟨rfl, rfl, hoC⟩
  obtain ⟨ca, cc, hcx⟩ := ownsRow_form' hoC
  subst hcx
  skip
  clear CC hb z0 z1 z2 z3 S_3 VA_3 VB_3 Y0 CD hoC
  obtain ⟨z0, z1, z2, z3⟩ := S_4.out.cells
  obtain ⟨s0, s1, s2, s3⟩ := two_cells VB_4.out
  have S_5 := hid (S_4.out.set (b := w4.heap.size + 1) (by omega) (.int .i64 m) (.slice ca CL.length cc))
  have VA_5 := hid (VA_4.out.set (b' := w4.heap.size + 1) (by omega) (.int .i64 m) (.slice ca CL.length cc))
  have VB_5 := hid (VB_4.out.put m (.slice ca CL.length cc))
  have Y_5 := hid (Y_4.out.set (b := w4.heap.size + 1) (by omega) (.int .i64 m) (.slice ca CL.length cc))
  have GB_5 := hid (GB0.out.set (b := w4.heap.size + 1) (by omega) (.int .i64 m) (.slice ca CL.length cc))
  obtain ⟨W8, hW8⟩ : ∃ WW, ((w7.setCell ⟨w4.heap.size + 1, 0, none⟩ (.int .i64 m)).setCell ⟨w4.heap.size + 1, 1, none⟩ (.slice ca CL.length cc)) = WW := ⟨_, rfl⟩
  rw [hW8] at S_5 VA_5 VB_5 Y_5 GB_5
  clear z0 z1 z2 z3 S_4 VA_4 VB_4 Y_4 GB0
  obtain ⟨z0, z1, z2, z3⟩ := S_5.out.cells
  have hz8 := VB_5.out.lt
  have CC := hid (RD.out W8 S_5.out.1)
  go_wp2_with fail
  refine CC.out.mono ?_
  rintro e w9 ⟨rA, rfl, hoA, hb⟩
  have S_6 := hid (S_5.out.next hb)
  have VA_6 := hid (VA_5.out.next hb)
  have VB_6 := hid (VB_5.out.next hb)
  have Y_6 := hid (Y_5.out.below hb)
  have GB_6 := hid (GB_5.out.below hb)
  have GA0 : Hid (GoodJ W8.heap.size w9 0 m RL m rA) := .inl ⟨rfl, rfl, hoA⟩
  obtain ⟨aa, ac, hax⟩ := ownsRow_form' hoA
  subst hax
  clear CC hb z0 z1 z2 z3 S_5 VA_5 VB_5 Y_5 GB_5 RD hoA hW8
  obtain ⟨z0, z1, z2, z3⟩ := S_6.out.cells
  obtain ⟨s0, s1, s2, s3⟩ := two_cells VA_6.out
  have S_7 := hid (S_6.out.set (b := w4.heap.size) (by omega) (.int .i64 m) (.slice aa RL.length ac))
  have VA_7 := hid (VA_6.out.put m (.slice aa RL.length ac))
  have VB_7 := hid (VB_6.out.set (b' := w4.heap.size) (by omega) (.int .i64 m) (.slice aa RL.length ac))
  have Y_7 := hid (Y_6.out.set (b := w4.heap.size) (by omega) (.int .i64 m) (.slice aa RL.length ac))
  have GB_7 := hid (GB_6.out.set (b := w4.heap.size) (by omega) (.int .i64 m) (.slice aa RL.length ac))
  have GA_7 := hid (GA0.out.set (b := w4.heap.size) (by omega) (.int .i64 m) (.slice aa RL.length ac))
  obtain ⟨W10, hW10⟩ : ∃ WW, ((w9.setCell ⟨w4.heap.size, 0, none⟩ (.int .i64 m)).setCell ⟨w4.heap.size, 1, none⟩ (.slice aa RL.length ac)) = WW := ⟨_, rfl⟩
  rw [hW10] at S_7 VA_7 VB_7 Y_7 GB_7 GA_7
  clear z0 z1 z2 z3 S_6 VA_6 VB_6 Y_6 GB_6 GA0
  obtain ⟨z0, z1, z2, z3⟩ := S_7.out.cells
  have CC := hid (ID.out W10 S_7.out.1)
  go_wp2_with fail
  refine CC.out.mono ?_
  rintro e w11 ⟨rX, rfl, hoX, hb⟩
  have S_8 := hid (S_7.out.next hb)
  have VA_8 := hid (VA_7.out.next hb)
  have VB_8 := hid (VB_7.out.next hb)
  have Y_8 := hid (Y_7.out.below hb)
  have GB_8 := hid (GB_7.out.below hb)
  have GA_8 := hid (GA_7.out.below hb)
  have X0 := hid (HIT.out _ _ _ hoX)
  obtain ⟨xa, xc, hx⟩ := ownsRow_form' hoX
  subst hx
  clear CC hb z0 z1 z2 z3 S_7 VA_7 VB_7 Y_7 GB_7 GA_7 ID hW10 hoX
  obtain ⟨z0, z1, z2, z3⟩ := S_8.out.cells
  go_wp2_with fail
  refine (badG _ 5 _).mono ?_
  rintro e w' ⟨rfl, hw'⟩
  obtain rfl := hw'.symm
  rw [show (if IH.isSome = true then (0 : Int) else 5) = ansE IH from rfl]
  generalize ansE IH = qf at *
  generalize IH.getD [] = XL at *
  have CC := hid (RP.out w11 S_8.out.1)
  go_wp2_with fail
  refine CC.out.mono ?_
  rintro e w12 ⟨rQ, rfl, hoQ, hb⟩
  have S_9 := hid (S_8.out.next hb)
  have VA_9 := hid (VA_8.out.next hb)
  have VB_9 := hid (VB_8.out.next hb)
  have Y_9 := hid (Y_8.out.below hb)
  have GB_9 := hid (GB_8.out.below hb)
  have GA_9 := hid (GA_8.out.below hb)
  have X_9 := hid (X0.out.below hb)
  have GQ0 : Hid (GoodJ w11.heap.size w12 0 m RL m rQ) := .inl ⟨rfl, rfl, hoQ⟩
  obtain ⟨qa, qc, hqx⟩ := ownsRow_form' hoQ
  subst hqx
  clear CC hb z0 z1 z2 z3 S_8 VA_8 VB_8 Y_8 GB_8 GA_8 X0 RP hoQ
  obtain ⟨z0, z1, z2, z3⟩ := S_9.out.cells
  have hb : Below w12.heap.size w12 (w12.alloc (.cells #[.int .i64 m, (.slice qa RL.length qc)] 24)) := (Below.refl _ _).alloc (Nat.le_refl _) _
  have VQn := hid (VbS.new w12 m (.slice qa RL.length qc))
  have S_10 := hid (S_9.out.next hb)
  have VA_10 := hid (VA_9.out.next hb)
  have VB_10 := hid (VB_9.out.next hb)
  have Y_10 := hid (Y_9.out.below hb)
  have GB_10 := hid (GB_9.out.below hb)
  have GA_10 := hid (GA_9.out.below hb)
  have X_10 := hid (X_9.out.below hb)
  have GQ_10 := hid (GQ0.out.below hb)
  obtain ⟨W13, hW13⟩ : ∃ WW, w12.alloc (.cells #[.int .i64 m, (.slice qa RL.length qc)] 24) = WW := ⟨_, rfl⟩
  rw [hW13] at S_10 VA_10 VB_10 Y_10 GB_10 GA_10 X_10 GQ_10 VQn
  clear hb z0 z1 z2 z3 S_9 VA_9 VB_9 Y_9 GB_9 GA_9 X_9 GQ0
  obtain ⟨z0, z1, z2, z3⟩ := S_10.out.cells
  have CC := hid (IP.out W13 S_10.out.1)
  go_wp2_with fail
  refine CC.out.mono ?_
  rintro e w14 ⟨rI, rfl, hoI, hb⟩
  have S_11 := hid (S_10.out.next hb)
  have VA_11 := hid (VA_10.out.next hb)
  have VB_11 := hid (VB_10.out.next hb)
  have Y_11 := hid (Y_10.out.below hb)
  have GB_11 := hid (GB_10.out.below hb)
  have GA_11 := hid (GA_10.out.below hb)
  have X_11 := hid (X_10.out.below hb)
  have GQ_11 := hid (GQ_10.out.below hb)
  have VQ_11 := hid (VQn.out.next hb)
  have I0 : Hid (TlS W13.heap.size w14 qf rI XL) := HIT.out _ _ _ hoI
  obtain ⟨ia, ic, hix⟩ := ownsRow_form' hoI
  subst hix
  clear CC hb z0 z1 z2 z3 S_10 VA_10 VB_10 Y_10 GB_10 GA_10 X_10 GQ_10 VQn IP hoI hW13
  obtain ⟨z0, z1, z2, z3⟩ := S_11.out.cells
  have CC := hid (GP.out w14 S_11.out.1)
  go_wp2_with fail
  refine CC.out.mono ?_
  rintro e w15 ⟨rfl, hb⟩
  have S_12 := hid (S_11.out.next hb)
  have VA_12 := hid (VA_11.out.next hb)
  have VB_12 := hid (VB_11.out.next hb)
  have Y_12 := hid (Y_11.out.below hb)
  have GB_12 := hid (GB_11.out.below hb)
  have GA_12 := hid (GA_11.out.below hb)
  have X_12 := hid (X_11.out.below hb)
  have GQ_12 := hid (GQ_11.out.below hb)
  have VQ_12 := hid (VQ_11.out.next hb)
  have I_12 := hid (I0.out.below hb)
  clear CC hb z0 z1 z2 z3 S_11 VA_11 VB_11 Y_11 GB_11 GA_11 X_11 GQ_11 VQ_11 I0 GP
  obtain ⟨z0, z1, z2, z3⟩ := S_12.out.cells
  have CC := hid (OP.out w15 S_12.out.1)
  go_wp2_with fail
  refine CC.out.mono ?_
  rintro e w16 ⟨rT, rfl, hoT, hb⟩
  have S_13 := hid (S_12.out.next hb)
  have VA_13 := hid (VA_12.out.next hb)
  have VB_13 := hid (VB_12.out.next hb)
  have Y_13 := hid (Y_12.out.below hb)
  have GB_13 := hid (GB_12.out.below hb)
  have GA_13 := hid (GA_12.out.below hb)
  have X_13 := hid (X_12.out.below hb)
  have GQ_13 := hid (GQ_12.out.below hb)
  have VQ_13 := hid (VQ_12.out.next hb)
  have I_13 := hid (I_12.out.below hb)
  have T0 : Hid (TlS w15.heap.size w16 0 rT OL) := .inr ⟨rfl, hoT⟩
  obtain ⟨ta, tc, htx⟩ := ownsRow_form' hoT
  subst htx
  clear CC hb z0 z1 z2 z3 S_12 VA_12 VB_12 Y_12 GB_12 GA_12 X_12 GQ_12 VQ_12 I_12 OP hoT
  obtain ⟨z0, z1, z2, z3⟩ := S_13.out.cells
  have CC := hid (CP.out w16 S_13.out.1)
  go_wp2_with fail
  refine CC.out.mono ?_
  rintro e w17 ⟨rU, rfl, hoU, hb⟩
  have S_14 := hid (S_13.out.next hb)
  have VA_14 := hid (VA_13.out.next hb)
  have VB_14 := hid (VB_13.out.next hb)
  have Y_14 := hid (Y_13.out.below hb)
  have GB_14 := hid (GB_13.out.below hb)
  have GA_14 := hid (GA_13.out.below hb)
  have X_14 := hid (X_13.out.below hb)
  have GQ_14 := hid (GQ_13.out.below hb)
  have VQ_14 := hid (VQ_13.out.next hb)
  have I_14 := hid (I_13.out.below hb)
  have T_14 := hid (T0.out.below hb)
  have GU0 : Hid (GoodJ w16.heap.size w17 0 m CL m rU) := .inl ⟨rfl, rfl, hoU⟩
  obtain ⟨ua, uc, hux⟩ := ownsRow_form' hoU
  subst hux
  clear CC hb z0 z1 z2 z3 S_13 VA_13 VB_13 Y_13 GB_13 GA_13 X_13 GQ_13 VQ_13 I_13 T0 CP hoU
  obtain ⟨z0, z1, z2, z3⟩ := S_14.out.cells
  have hb : Below w17.heap.size w17 (w17.alloc (.cells #[.int .i64 m, (.slice ua CL.length uc)] 24)) := (Below.refl _ _).alloc (Nat.le_refl _) _
  have VUn := hid (VbS.new w17 m (.slice ua CL.length uc))
  have S_15 := hid (S_14.out.next hb)
  have VA_15 := hid (VA_14.out.next hb)
  have VB_15 := hid (VB_14.out.next hb)
  have Y_15 := hid (Y_14.out.below hb)
  have GB_15 := hid (GB_14.out.below hb)
  have GA_15 := hid (GA_14.out.below hb)
  have X_15 := hid (X_14.out.below hb)
  have GQ_15 := hid (GQ_14.out.below hb)
  have VQ_15 := hid (VQ_14.out.next hb)
  have I_15 := hid (I_14.out.below hb)
  have T_15 := hid (T_14.out.below hb)
  have GU_15 := hid (GU0.out.below hb)
  obtain ⟨W18, hW18⟩ : ∃ WW, w17.alloc (.cells #[.int .i64 m, (.slice ua CL.length uc)] 24) = WW := ⟨_, rfl⟩
  rw [hW18] at S_15 VA_15 VB_15 Y_15 GB_15 GA_15 X_15 GQ_15 VQ_15 I_15 T_15 GU_15 VUn
  clear hb z0 z1 z2 z3 S_14 VA_14 VB_14 Y_14 GB_14 GA_14 X_14 GQ_14 VQ_14 I_14 T_14 GU0
  obtain ⟨z0, z1, z2, z3⟩ := S_15.out.cells
  obtain ⟨va0, va1, -, -⟩ := two_cells VA_15.out
  obtain ⟨vb0, vb1, -, -⟩ := two_cells VB_15.out
  obtain ⟨vq0, vq1, -, -⟩ := two_cells VQ_15.out
  obtain ⟨vu0, vu1, -, -⟩ := two_cells VUn.out
  have CC := hid (toldJ W18 GQ_15.out GA_15.out lR)
  go_wp2_with fail
  refine CC.out.mono ?_
  rintro e wf1 ⟨rfl, hb⟩
  have S_16 := hid (S_15.out.next hb)
  have VA_16 := hid (VA_15.out.next hb)
  have VB_16 := hid (VB_15.out.next hb)
  have Y_16 := hid (Y_15.out.below hb)
  have GB_16 := hid (GB_15.out.below hb)
  have GA_16 := hid (GA_15.out.below hb)
  have X_16 := hid (X_15.out.below hb)
  have GQ_16 := hid (GQ_15.out.below hb)
  have VQ_16 := hid (VQ_15.out.next hb)
  have I_16 := hid (I_15.out.below hb)
  have T_16 := hid (T_15.out.below hb)
  have GU_16 := hid (GU_15.out.below hb)
  have VU_16 := hid (VUn.out.next hb)
  clear CC hb z0 z1 z2 z3 va0 va1 vb0 vb1 vq0 vq1 vu0 vu1 hW18 S_15 VA_15 VB_15 Y_15 GB_15 GA_15 X_15 GQ_15 VQ_15 I_15 T_15 GU_15 VUn
  obtain ⟨z0, z1, z2, z3⟩ := S_16.out.cells
  obtain ⟨va0, va1, -, -⟩ := two_cells VA_16.out
  obtain ⟨vb0, vb1, -, -⟩ := two_cells VB_16.out
  obtain ⟨vq0, vq1, -, -⟩ := two_cells VQ_16.out
  obtain ⟨vu0, vu1, -, -⟩ := two_cells VU_16.out
  have CC := hid (listS wf1 I_16.out X_16.out lI)
  go_wp2_with fail
  refine CC.out.mono ?_
  rintro e wf2 ⟨rfl, hb⟩
  have S_17 := hid (S_16.out.next hb)
  have VA_17 := hid (VA_16.out.next hb)
  have VB_17 := hid (VB_16.out.next hb)
  have Y_17 := hid (Y_16.out.below hb)
  have GB_17 := hid (GB_16.out.below hb)
  have GA_17 := hid (GA_16.out.below hb)
  have X_17 := hid (X_16.out.below hb)
  have GQ_17 := hid (GQ_16.out.below hb)
  have VQ_17 := hid (VQ_16.out.next hb)
  have I_17 := hid (I_16.out.below hb)
  have T_17 := hid (T_16.out.below hb)
  have GU_17 := hid (GU_16.out.below hb)
  have VU_17 := hid (VU_16.out.next hb)
  clear CC hb z0 z1 z2 z3 va0 va1 vb0 vb1 vq0 vq1 vu0 vu1 S_16 VA_16 VB_16 Y_16 GB_16 GA_16 X_16 GQ_16 VQ_16 I_16 T_16 GU_16 VU_16
  obtain ⟨z0, z1, z2, z3⟩ := S_17.out.cells
  obtain ⟨va0, va1, -, -⟩ := two_cells VA_17.out
  obtain ⟨vb0, vb1, -, -⟩ := two_cells VB_17.out
  obtain ⟨vq0, vq1, -, -⟩ := two_cells VQ_17.out
  obtain ⟨vu0, vu1, -, -⟩ := two_cells VU_17.out
  have CC := hid (oneJ GN 0 wf2 (fun e => absurd rfl e))
  go_wp2_with fail
  refine CC.out.mono ?_
  rintro e w' ⟨rfl, hw'⟩
  obtain rfl := hw'.symm
  clear CC va0 va1 vb0 vb1 vq0 vq1 vu0 vu1
  obtain ⟨va0, va1, -, -⟩ := two_cells VA_17.out
  obtain ⟨vb0, vb1, -, -⟩ := two_cells VB_17.out
  obtain ⟨vq0, vq1, -, -⟩ := two_cells VQ_17.out
  obtain ⟨vu0, vu1, -, -⟩ := two_cells VU_17.out
  have CC := hid (listS wf2 T_17.out Y_17.out lO)
  go_wp2_with fail
  refine CC.out.mono ?_
  rintro e wf3 ⟨rfl, hb⟩
  have S_18 := hid (S_17.out.next hb)
  have VA_18 := hid (VA_17.out.next hb)
  have VB_18 := hid (VB_17.out.next hb)
  have Y_18 := hid (Y_17.out.below hb)
  have GB_18 := hid (GB_17.out.below hb)
  have GA_18 := hid (GA_17.out.below hb)
  have X_18 := hid (X_17.out.below hb)
  have GQ_18 := hid (GQ_17.out.below hb)
  have VQ_18 := hid (VQ_17.out.next hb)
  have I_18 := hid (I_17.out.below hb)
  have T_18 := hid (T_17.out.below hb)
  have GU_18 := hid (GU_17.out.below hb)
  have VU_18 := hid (VU_17.out.next hb)
  clear CC hb z0 z1 z2 z3 va0 va1 vb0 vb1 vq0 vq1 vu0 vu1 S_17 VA_17 VB_17 Y_17 GB_17 GA_17 X_17 GQ_17 VQ_17 I_17 T_17 GU_17 VU_17
  obtain ⟨z0, z1, z2, z3⟩ := S_18.out.cells
  obtain ⟨va0, va1, -, -⟩ := two_cells VA_18.out
  obtain ⟨vb0, vb1, -, -⟩ := two_cells VB_18.out
  obtain ⟨vq0, vq1, -, -⟩ := two_cells VQ_18.out
  obtain ⟨vu0, vu1, -, -⟩ := two_cells VU_18.out
  have CC := hid (toldJ wf3 GU_18.out GB_18.out lC)
  go_wp2_with fail
  refine CC.out.mono ?_
  rintro e wf4 ⟨rfl, hb⟩
  have SE := hid (S_18.out.next hb)
  clear CC hb
  go_wp2_with fail
  go_ret
  exact ⟨rfl, SE.out.1⟩
set_option maxRecDepth 100000 in
set_option maxHeartbeats 4000000 in
theorem ss_ob (m : Nat) (v u t : Value) (l : List Nat) (p : List Nat) (k : Int) (ys : List Int) (w : World) (h : Ints w v (N l)) (h' : Ints w u ys) (ht : Ints w t (N p)) (hm : m ≤ 8) (hf : Fam m l) (hb : Bas l) (hp : Beg m p) (hpl : p.length = m) (hk : chkR k ys ≠ 0) :
    Calls Tryz.prog 3 #[.agg #[.int .i64 m, v], .agg #[.int .i64 k, u], t] w fun e w' => e = .returned (.bool true) ∧ Below w.heap.size w w' := by
  have MA := hid (fun w' (hb0 : Below w.heap.size w w') => Matroid_ref m v (N l) w' (h.below hb0))
  rw [chk_mk hm hf hb] at MA
  have MB := hid (fun w' (hb0 : Below w.heap.size w w') => Matroid_ref k u ys w' (h'.below hb0))
  have IO := hid (fun w' (hb0 : Below w.heap.size w w') => RIsOrder_any m t (N p) w' hm (ht.below hb0))
  rw [show ordB m (N p) = true from ordB_iff.2 ⟨p, rfl, hp, hpl⟩] at IO
  have GD := hid (fun w' (hb0 : Below w.heap.size w w') => GroupR_ok m v l w' hm hf hb (h.below hb0))
  have CD := hid (fun w' (hb0 : Below w.heap.size w w') => CanonR_ok m v l w' hm hf hb (h.below hb0))
  have RD := hid (fun w' (hb0 : Below w.heap.size w w') => Renamed_ok m v t l p w' hm hf (h.below hb0) (ht.below hb0) hp hpl)
  have RP := hid (fun w' (hb0 : Below w.heap.size w w') => Rename_ok m v t l p w' hm hf hb (h.below hb0) (ht.below hb0) hp hpl)
  have hc2 : chk2 m (N l) k ys = chkR k ys := by unfold chk2; rw [if_pos (chk_mk hm hf hb)]
  have IP := hid (fun w' (hb0 : Below w.heap.size w w') => Isomorphic_bad m k v u (N l) ys w' (h.below hb0) (h'.below hb0) (by rw [hc2]; exact hk))
  rw [hc2] at IP
  have GP := hid (fun w' (hb0 : Below w.heap.size w w') => Group_ok m v l w' hm hf hb (h.below hb0))
  have OP := hid (fun w' (hb0 : Below w.heap.size w w') => Orbits_ok m v l w' hm hf hb (h.below hb0))
  have CP := hid (fun w' (hb0 : Below w.heap.size w w') => Canon_ok m v l w' hm hf hb (h.below hb0))
  have lO : (orbL m l).length ≤ 256 := fam_len hm (orb_fam m l)
  have lC : (canL m l).length ≤ 256 := fam_len hm (can_fam m l)
  have lR : (renL m p l).length ≤ 256 := fam_len hm (ren_fam m p l)
  obtain ⟨a0, c0, hv, -, -⟩ := h.nats
  obtain ⟨a1, c1, hu, -, -⟩ := id h'
  obtain ⟨a2, c2, ht2, -, -⟩ := ht.nats
  subst hv
  subst hu
  subst ht2
  clear hf hb h h' ht hp hpl
  generalize (isoL m l l).length = GN at *
  generalize orbL m l = OL at *
  generalize canL m l = CL at *
  generalize renL m p l = RL at *
  generalize chkR k ys = qk at *
  have hk1 : (qk == 0) = false := by simp [hk]
  have hk2 : (qk != 0) = true := by simp [hk]
  have hw2 : (w.alloc (.cells #[.int .i64 m, .slice a0 l.length c0] 24)).alloc (.cells #[.int .i64 k, .slice a1 ys.length c1] 24) = box2 w m (.slice a0 l.length c0) k (.slice a1 ys.length c1) := rfl
  have S0 := hid (StS.new w m (.slice a0 l.length c0) k (.slice a1 ys.length c1))
  generalize box2 w m (.slice a0 l.length c0) k (.slice a1 ys.length c1) = W2 at *
  obtain ⟨z0, z1, z2, z3⟩ := S0.out.cells
  go_enter Tryz.func3, Tryz.ntmps3
  have CC := hid (MA.out W2 S0.out.1)
  go_wp2_with fail
  refine CC.out.mono ?_
  rintro e w3 ⟨rfl, hb⟩
  have S_1 := hid (S0.out.next hb)
  clear CC hb z0 z1 z2 z3 S0 MA hw2
  obtain ⟨z0, z1, z2, z3⟩ := S_1.out.cells
  have CC := hid (MB.out w3 S_1.out.1)
  go_wp2_with fail
  refine CC.out.mono ?_
  rintro e w4 ⟨rfl, hb⟩
  have S_2 := hid (S_1.out.next hb)
  clear CC hb z0 z1 z2 z3 S_1 MB
  obtain ⟨z0, z1, z2, z3⟩ := S_2.out.cells
  have hbA : Below w4.heap.size w4 (w4.alloc (.cells #[.int .i64 0, .slice none 0 0] 24)) := (Below.refl _ _).alloc (Nat.le_refl _) _
  have hbB : Below (w4.alloc (.cells #[.int .i64 0, .slice none 0 0] 24)).heap.size (w4.alloc (.cells #[.int .i64 0, .slice none 0 0] 24)) ((w4.alloc (.cells #[.int .i64 0, .slice none 0 0] 24)).alloc (.cells #[.int .i64 0, .slice none 0 0] 24)) := (Below.refl _ _).alloc (Nat.le_refl _) _
  have VA0 := hid (VbS.next (VbS.new w4 0 (.slice none 0 0)) hbB)
  have VB0 : Hid (VbS ((w4.alloc (.cells #[.int .i64 0, .slice none 0 0] 24)).alloc (.cells #[.int .i64 0, .slice none 0 0] 24)) (w4.heap.size + 1) 0 (.slice none 0 0)) := by have := VbS.new (w4.alloc (.cells #[.int .i64 0, .slice none 0 0] 24)) 0 (.slice none 0 0); rwa [World.size_alloc] at this
  have hb := hbA.trans (hbB.mono hbA.size)
  have S5 := hid (S_2.out.next hb)
  have hzz : ((w4.alloc (.cells #[.int .i64 0, .slice none 0 0] 24)).alloc (.cells #[.int .i64 0, .slice none 0 0] 24)).heap.size = w4.heap.size + 2 := by simp
  have hs4 : w.heap.size + 2 ≤ w4.heap.size := S_2.out.2.1
  obtain ⟨WV, hWV⟩ : ∃ WV, (w4.alloc (.cells #[.int .i64 0, .slice none 0 0] 24)).alloc (.cells #[.int .i64 0, .slice none 0 0] 24) = WV := ⟨_, rfl⟩
  rw [hWV] at VA0 VB0 S5 hzz
  clear hbA hbB hb z0 z1 z2 z3 S_2
  obtain ⟨z0, z1, z2, z3⟩ := S5.out.cells
  go_wp2_with fail
  refine (IO.out _ S5.out.1).mono ?_
  rintro e w' ⟨rfl, hw'⟩
  obtain rfl := hw'.symm
  clear hWV IO
  go_wp2_with fail
  refine (badG _ 1 _).mono ?_
  rintro e w' ⟨rfl, hw'⟩
  obtain rfl := hw'.symm
  simp only [if_true]
  have CC := hid (GD.out WV S5.out.1)
  go_wp2_with fail
  refine CC.out.mono ?_
  rintro e w6 ⟨rY, rfl, hoY, hb⟩
  have S_3 := hid (S5.out.next hb)
  have VA_3 := hid (VA0.out.next hb)
  have VB_3 := hid (VB0.out.next hb)
  have hz6 := hb.size
  have Y0 : Hid (TlS WV.heap.size w6 0 rY OL) := .inr ⟨rfl, hoY⟩
  obtain ⟨ya, yc, hy⟩ := ownsRow_form' hoY
  subst hy
  clear CC hb z0 z1 z2 z3 S5 VA0 VB0 GD hoY
  obtain ⟨z0, z1, z2, z3⟩ := S_3.out.cells
  have CC := hid (CD.out w6 S_3.out.1)
  go_wp2_with fail
  refine CC.out.mono ?_
  rintro e w7 ⟨rC, rfl, hoC, hb⟩
  have S_4 := hid (S_3.out.next hb)
  have VA_4 := hid (VA_3.out.next hb)
  have VB_4 := hid (VB_3.out.next hb)
  have Y_4 := hid (Y0.out.below hb)
  have GB0 : Hid (GoodJ w6.heap.size w7 0 m CL m rC) := .inl ⟨rfl, rfl, hoC⟩
  obtain ⟨ca, cc, hcx⟩ := ownsRow_form' hoC
  subst hcx
  skip
  clear CC hb z0 z1 z2 z3 S_3 VA_3 VB_3 Y0 CD hoC
  obtain ⟨z0, z1, z2, z3⟩ := S_4.out.cells
  obtain ⟨s0, s1, s2, s3⟩ := two_cells VB_4.out
  have S_5 := hid (S_4.out.set (b := w4.heap.size + 1) (by omega) (.int .i64 m) (.slice ca CL.length cc))
  have VA_5 := hid (VA_4.out.set (b' := w4.heap.size + 1) (by omega) (.int .i64 m) (.slice ca CL.length cc))
  have VB_5 := hid (VB_4.out.put m (.slice ca CL.length cc))
  have Y_5 := hid (Y_4.out.set (b := w4.heap.size + 1) (by omega) (.int .i64 m) (.slice ca CL.length cc))
  have GB_5 := hid (GB0.out.set (b := w4.heap.size + 1) (by omega) (.int .i64 m) (.slice ca CL.length cc))
  obtain ⟨W8, hW8⟩ : ∃ WW, ((w7.setCell ⟨w4.heap.size + 1, 0, none⟩ (.int .i64 m)).setCell ⟨w4.heap.size + 1, 1, none⟩ (.slice ca CL.length cc)) = WW := ⟨_, rfl⟩
  rw [hW8] at S_5 VA_5 VB_5 Y_5 GB_5
  clear z0 z1 z2 z3 S_4 VA_4 VB_4 Y_4 GB0
  obtain ⟨z0, z1, z2, z3⟩ := S_5.out.cells
  have hz8 := VB_5.out.lt
  have CC := hid (RD.out W8 S_5.out.1)
  go_wp2_with fail
  refine CC.out.mono ?_
  rintro e w9 ⟨rA, rfl, hoA, hb⟩
  have S_6 := hid (S_5.out.next hb)
  have VA_6 := hid (VA_5.out.next hb)
  have VB_6 := hid (VB_5.out.next hb)
  have Y_6 := hid (Y_5.out.below hb)
  have GB_6 := hid (GB_5.out.below hb)
  have GA0 : Hid (GoodJ W8.heap.size w9 0 m RL m rA) := .inl ⟨rfl, rfl, hoA⟩
  obtain ⟨aa, ac, hax⟩ := ownsRow_form' hoA
  subst hax
  clear CC hb z0 z1 z2 z3 S_5 VA_5 VB_5 Y_5 GB_5 RD hoA hW8
  obtain ⟨z0, z1, z2, z3⟩ := S_6.out.cells
  obtain ⟨s0, s1, s2, s3⟩ := two_cells VA_6.out
  have S_7 := hid (S_6.out.set (b := w4.heap.size) (by omega) (.int .i64 m) (.slice aa RL.length ac))
  have VA_7 := hid (VA_6.out.put m (.slice aa RL.length ac))
  have VB_7 := hid (VB_6.out.set (b' := w4.heap.size) (by omega) (.int .i64 m) (.slice aa RL.length ac))
  have Y_7 := hid (Y_6.out.set (b := w4.heap.size) (by omega) (.int .i64 m) (.slice aa RL.length ac))
  have GB_7 := hid (GB_6.out.set (b := w4.heap.size) (by omega) (.int .i64 m) (.slice aa RL.length ac))
  have GA_7 := hid (GA0.out.set (b := w4.heap.size) (by omega) (.int .i64 m) (.slice aa RL.length ac))
  obtain ⟨W10, hW10⟩ : ∃ WW, ((w9.setCell ⟨w4.heap.size, 0, none⟩ (.int .i64 m)).setCell ⟨w4.heap.size, 1, none⟩ (.slice aa RL.length ac)) = WW := ⟨_, rfl⟩
  rw [hW10] at S_7 VA_7 VB_7 Y_7 GB_7 GA_7
  clear z0 z1 z2 z3 S_6 VA_6 VB_6 Y_6 GB_6 GA0
  obtain ⟨z0, z1, z2, z3⟩ := S_7.out.cells
  have CC := hid (RP.out W10 S_7.out.1)
  go_wp2_with fail
  refine CC.out.mono ?_
  rintro e w12 ⟨rQ, rfl, hoQ, hb⟩
  have S_8 := hid (S_7.out.next hb)
  have VA_8 := hid (VA_7.out.next hb)
  have VB_8 := hid (VB_7.out.next hb)
  have Y_8 := hid (Y_7.out.below hb)
  have GB_8 := hid (GB_7.out.below hb)
  have GA_8 := hid (GA_7.out.below hb)
  have GQ0 : Hid (GoodJ W10.heap.size w12 0 m RL m rQ) := .inl ⟨rfl, rfl, hoQ⟩
  obtain ⟨qa, qc, hqx⟩ := ownsRow_form' hoQ
  subst hqx
  clear CC hb z0 z1 z2 z3 S_7 VA_7 VB_7 Y_7 GB_7 GA_7 RP hoQ hW10
  obtain ⟨z0, z1, z2, z3⟩ := S_8.out.cells
  have hb : Below w12.heap.size w12 (w12.alloc (.cells #[.int .i64 m, (.slice qa RL.length qc)] 24)) := (Below.refl _ _).alloc (Nat.le_refl _) _
  have VQn := hid (VbS.new w12 m (.slice qa RL.length qc))
  have S_9 := hid (S_8.out.next hb)
  have VA_9 := hid (VA_8.out.next hb)
  have VB_9 := hid (VB_8.out.next hb)
  have Y_9 := hid (Y_8.out.below hb)
  have GB_9 := hid (GB_8.out.below hb)
  have GA_9 := hid (GA_8.out.below hb)
  have GQ_9 := hid (GQ0.out.below hb)
  obtain ⟨W13, hW13⟩ : ∃ WW, w12.alloc (.cells #[.int .i64 m, (.slice qa RL.length qc)] 24) = WW := ⟨_, rfl⟩
  rw [hW13] at S_9 VA_9 VB_9 Y_9 GB_9 GA_9 GQ_9 VQn
  clear hb z0 z1 z2 z3 S_8 VA_8 VB_8 Y_8 GB_8 GA_8 GQ0
  obtain ⟨z0, z1, z2, z3⟩ := S_9.out.cells
  have CC := hid (IP.out W13 S_9.out.1)
  go_wp2_with fail
  refine CC.out.mono ?_
  rintro e w14 ⟨rfl, hb⟩
  have S_10 := hid (S_9.out.next hb)
  have VA_10 := hid (VA_9.out.next hb)
  have VB_10 := hid (VB_9.out.next hb)
  have Y_10 := hid (Y_9.out.below hb)
  have GB_10 := hid (GB_9.out.below hb)
  have GA_10 := hid (GA_9.out.below hb)
  have GQ_10 := hid (GQ_9.out.below hb)
  have VQ_10 := hid (VQn.out.next hb)
  have I0 : Hid (TlS W13.heap.size w14 qk (.slice none 0 0) []) := .inl ⟨hk, _, _, rfl⟩
  clear CC hb z0 z1 z2 z3 S_9 VA_9 VB_9 Y_9 GB_9 GA_9 GQ_9 VQn IP hW13
  obtain ⟨z0, z1, z2, z3⟩ := S_10.out.cells
  have CC := hid (GP.out w14 S_10.out.1)
  go_wp2_with fail
  refine CC.out.mono ?_
  rintro e w15 ⟨rfl, hb⟩
  have S_11 := hid (S_10.out.next hb)
  have VA_11 := hid (VA_10.out.next hb)
  have VB_11 := hid (VB_10.out.next hb)
  have Y_11 := hid (Y_10.out.below hb)
  have GB_11 := hid (GB_10.out.below hb)
  have GA_11 := hid (GA_10.out.below hb)
  have GQ_11 := hid (GQ_10.out.below hb)
  have VQ_11 := hid (VQ_10.out.next hb)
  have I_11 := hid (I0.out.below hb)
  clear CC hb z0 z1 z2 z3 S_10 VA_10 VB_10 Y_10 GB_10 GA_10 GQ_10 VQ_10 I0 GP
  obtain ⟨z0, z1, z2, z3⟩ := S_11.out.cells
  have CC := hid (OP.out w15 S_11.out.1)
  go_wp2_with fail
  refine CC.out.mono ?_
  rintro e w16 ⟨rT, rfl, hoT, hb⟩
  have S_12 := hid (S_11.out.next hb)
  have VA_12 := hid (VA_11.out.next hb)
  have VB_12 := hid (VB_11.out.next hb)
  have Y_12 := hid (Y_11.out.below hb)
  have GB_12 := hid (GB_11.out.below hb)
  have GA_12 := hid (GA_11.out.below hb)
  have GQ_12 := hid (GQ_11.out.below hb)
  have VQ_12 := hid (VQ_11.out.next hb)
  have I_12 := hid (I_11.out.below hb)
  have T0 : Hid (TlS w15.heap.size w16 0 rT OL) := .inr ⟨rfl, hoT⟩
  obtain ⟨ta, tc, htx⟩ := ownsRow_form' hoT
  subst htx
  clear CC hb z0 z1 z2 z3 S_11 VA_11 VB_11 Y_11 GB_11 GA_11 GQ_11 VQ_11 I_11 OP hoT
  obtain ⟨z0, z1, z2, z3⟩ := S_12.out.cells
  have CC := hid (CP.out w16 S_12.out.1)
  go_wp2_with fail
  refine CC.out.mono ?_
  rintro e w17 ⟨rU, rfl, hoU, hb⟩
  have S_13 := hid (S_12.out.next hb)
  have VA_13 := hid (VA_12.out.next hb)
  have VB_13 := hid (VB_12.out.next hb)
  have Y_13 := hid (Y_12.out.below hb)
  have GB_13 := hid (GB_12.out.below hb)
  have GA_13 := hid (GA_12.out.below hb)
  have GQ_13 := hid (GQ_12.out.below hb)
  have VQ_13 := hid (VQ_12.out.next hb)
  have I_13 := hid (I_12.out.below hb)
  have T_13 := hid (T0.out.below hb)
  have GU0 : Hid (GoodJ w16.heap.size w17 0 m CL m rU) := .inl ⟨rfl, rfl, hoU⟩
  obtain ⟨ua, uc, hux⟩ := ownsRow_form' hoU
  subst hux
  clear CC hb z0 z1 z2 z3 S_12 VA_12 VB_12 Y_12 GB_12 GA_12 GQ_12 VQ_12 I_12 T0 CP hoU
  obtain ⟨z0, z1, z2, z3⟩ := S_13.out.cells
  have hb : Below w17.heap.size w17 (w17.alloc (.cells #[.int .i64 m, (.slice ua CL.length uc)] 24)) := (Below.refl _ _).alloc (Nat.le_refl _) _
  have VUn := hid (VbS.new w17 m (.slice ua CL.length uc))
  have S_14 := hid (S_13.out.next hb)
  have VA_14 := hid (VA_13.out.next hb)
  have VB_14 := hid (VB_13.out.next hb)
  have Y_14 := hid (Y_13.out.below hb)
  have GB_14 := hid (GB_13.out.below hb)
  have GA_14 := hid (GA_13.out.below hb)
  have GQ_14 := hid (GQ_13.out.below hb)
  have VQ_14 := hid (VQ_13.out.next hb)
  have I_14 := hid (I_13.out.below hb)
  have T_14 := hid (T_13.out.below hb)
  have GU_14 := hid (GU0.out.below hb)
  obtain ⟨W18, hW18⟩ : ∃ WW, w17.alloc (.cells #[.int .i64 m, (.slice ua CL.length uc)] 24) = WW := ⟨_, rfl⟩
  rw [hW18] at S_14 VA_14 VB_14 Y_14 GB_14 GA_14 GQ_14 VQ_14 I_14 T_14 GU_14 VUn
  clear hb z0 z1 z2 z3 S_13 VA_13 VB_13 Y_13 GB_13 GA_13 GQ_13 VQ_13 I_13 T_13 GU0
  obtain ⟨z0, z1, z2, z3⟩ := S_14.out.cells
  obtain ⟨va0, va1, -, -⟩ := two_cells VA_14.out
  obtain ⟨vb0, vb1, -, -⟩ := two_cells VB_14.out
  obtain ⟨vq0, vq1, -, -⟩ := two_cells VQ_14.out
  obtain ⟨vu0, vu1, -, -⟩ := two_cells VUn.out
  have CC := hid (toldJ W18 GQ_14.out GA_14.out lR)
  go_wp2_with fail
  refine CC.out.mono ?_
  rintro e wf1 ⟨rfl, hb⟩
  have S_15 := hid (S_14.out.next hb)
  have VA_15 := hid (VA_14.out.next hb)
  have VB_15 := hid (VB_14.out.next hb)
  have Y_15 := hid (Y_14.out.below hb)
  have GB_15 := hid (GB_14.out.below hb)
  have GA_15 := hid (GA_14.out.below hb)
  have GQ_15 := hid (GQ_14.out.below hb)
  have VQ_15 := hid (VQ_14.out.next hb)
  have I_15 := hid (I_14.out.below hb)
  have T_15 := hid (T_14.out.below hb)
  have GU_15 := hid (GU_14.out.below hb)
  have VU_15 := hid (VUn.out.next hb)
  clear CC hb z0 z1 z2 z3 va0 va1 vb0 vb1 vq0 vq1 vu0 vu1 hW18 S_14 VA_14 VB_14 Y_14 GB_14 GA_14 GQ_14 VQ_14 I_14 T_14 GU_14 VUn
  obtain ⟨z0, z1, z2, z3⟩ := S_15.out.cells
  obtain ⟨va0, va1, -, -⟩ := two_cells VA_15.out
  obtain ⟨vb0, vb1, -, -⟩ := two_cells VB_15.out
  obtain ⟨vq0, vq1, -, -⟩ := two_cells VQ_15.out
  obtain ⟨vu0, vu1, -, -⟩ := two_cells VU_15.out
  have CC := hid (listS wf1 I_15.out (.inl ⟨hk, _, _, rfl⟩ : TlS 0 wf1 qk (.slice none 0 0) []) (Nat.zero_le _))
  go_wp2_with fail
  refine CC.out.mono ?_
  rintro e wf2 ⟨rfl, hb⟩
  have S_16 := hid (S_15.out.next hb)
  have VA_16 := hid (VA_15.out.next hb)
  have VB_16 := hid (VB_15.out.next hb)
  have Y_16 := hid (Y_15.out.below hb)
  have GB_16 := hid (GB_15.out.below hb)
  have GA_16 := hid (GA_15.out.below hb)
  have GQ_16 := hid (GQ_15.out.below hb)
  have VQ_16 := hid (VQ_15.out.next hb)
  have I_16 := hid (I_15.out.below hb)
  have T_16 := hid (T_15.out.below hb)
  have GU_16 := hid (GU_15.out.below hb)
  have VU_16 := hid (VU_15.out.next hb)
  clear CC hb z0 z1 z2 z3 va0 va1 vb0 vb1 vq0 vq1 vu0 vu1 S_15 VA_15 VB_15 Y_15 GB_15 GA_15 GQ_15 VQ_15 I_15 T_15 GU_15 VU_15
  obtain ⟨z0, z1, z2, z3⟩ := S_16.out.cells
  obtain ⟨va0, va1, -, -⟩ := two_cells VA_16.out
  obtain ⟨vb0, vb1, -, -⟩ := two_cells VB_16.out
  obtain ⟨vq0, vq1, -, -⟩ := two_cells VQ_16.out
  obtain ⟨vu0, vu1, -, -⟩ := two_cells VU_16.out
  have CC := hid (oneJ GN 0 wf2 (fun e => absurd rfl e))
  go_wp2_with fail
  refine CC.out.mono ?_
  rintro e w' ⟨rfl, hw'⟩
  obtain rfl := hw'.symm
  clear CC va0 va1 vb0 vb1 vq0 vq1 vu0 vu1
  obtain ⟨va0, va1, -, -⟩ := two_cells VA_16.out
  obtain ⟨vb0, vb1, -, -⟩ := two_cells VB_16.out
  obtain ⟨vq0, vq1, -, -⟩ := two_cells VQ_16.out
  obtain ⟨vu0, vu1, -, -⟩ := two_cells VU_16.out
  have CC := hid (listS wf2 T_16.out Y_16.out lO)
  go_wp2_with fail
  refine CC.out.mono ?_
  rintro e wf3 ⟨rfl, hb⟩
  have S_17 := hid (S_16.out.next hb)
  have VA_17 := hid (VA_16.out.next hb)
  have VB_17 := hid (VB_16.out.next hb)
  have Y_17 := hid (Y_16.out.below hb)
  have GB_17 := hid (GB_16.out.below hb)
  have GA_17 := hid (GA_16.out.below hb)
  have GQ_17 := hid (GQ_16.out.below hb)
  have VQ_17 := hid (VQ_16.out.next hb)
  have I_17 := hid (I_16.out.below hb)
  have T_17 := hid (T_16.out.below hb)
  have GU_17 := hid (GU_16.out.below hb)
  have VU_17 := hid (VU_16.out.next hb)
  clear CC hb z0 z1 z2 z3 va0 va1 vb0 vb1 vq0 vq1 vu0 vu1 S_16 VA_16 VB_16 Y_16 GB_16 GA_16 GQ_16 VQ_16 I_16 T_16 GU_16 VU_16
  obtain ⟨z0, z1, z2, z3⟩ := S_17.out.cells
  obtain ⟨va0, va1, -, -⟩ := two_cells VA_17.out
  obtain ⟨vb0, vb1, -, -⟩ := two_cells VB_17.out
  obtain ⟨vq0, vq1, -, -⟩ := two_cells VQ_17.out
  obtain ⟨vu0, vu1, -, -⟩ := two_cells VU_17.out
  have CC := hid (toldJ wf3 GU_17.out GB_17.out lC)
  go_wp2_with fail
  refine CC.out.mono ?_
  rintro e wf4 ⟨rfl, hb⟩
  have SE := hid (S_17.out.next hb)
  clear CC hb
  go_wp2_with fail
  go_ret
  exact ⟨rfl, SE.out.1⟩
set_option maxRecDepth 100000 in
set_option maxHeartbeats 4000000 in
theorem ss_ni (m : Nat) (v u t : Value) (l : List Nat) (ps : List Int) (j : Nat) (l' : List Nat) (w : World) (h : Ints w v (N l)) (h' : Ints w u (N l')) (ht : Ints w t ps) (hm : m ≤ 8) (hf : Fam m l) (hb : Bas l) (hno : ¬ OrdZ m ps) (hj : j ≤ 8) (hf' : Fam j l') (hb' : Bas l') :
    Calls Tryz.prog 3 #[.agg #[.int .i64 m, v], .agg #[.int .i64 j, u], t] w fun e w' => e = .returned (.bool true) ∧ Below w.heap.size w w' := by
  have MA := hid (fun w' (hb0 : Below w.heap.size w w') => Matroid_ref m v (N l) w' (h.below hb0))
  rw [chk_mk hm hf hb] at MA
  have MB := hid (fun w' (hb0 : Below w.heap.size w w') => Matroid_ref j u (N l') w' (h'.below hb0))
  rw [chk_mk hj hf' hb'] at MB
  have IO := hid (fun w' (hb0 : Below w.heap.size w w') => RIsOrder_any m t ps w' hm (ht.below hb0))
  rw [show ordB m ps = false from Bool.eq_false_iff.2 fun e => hno (ordB_iff.1 e)] at IO
  have GD := hid (fun w' (hb0 : Below w.heap.size w w') => GroupR_ok m v l w' hm hf hb (h.below hb0))
  have CD := hid (fun w' (hb0 : Below w.heap.size w w') => CanonR_ok m v l w' hm hf hb (h.below hb0))
  have ID := hid (fun w' (hb0 : Below w.heap.size w w') => IsoR_ok m j v u l l' w' hm hf hb (h.below hb0) hj hf' hb' (h'.below hb0))
  have RP := hid (fun w' (hb0 : Below w.heap.size w w') => Rename_arg m v t l ps w' hm hf hb (h.below hb0) (ht.below hb0) hno)
  have IP := hid (fun w' (hb0 : Below w.heap.size w w') => Isomorphic_ok m j v u l l' w' hm hf hb (h.below hb0) hj hf' hb' (h'.below hb0))
  have GP := hid (fun w' (hb0 : Below w.heap.size w w') => Group_ok m v l w' hm hf hb (h.below hb0))
  have OP := hid (fun w' (hb0 : Below w.heap.size w w') => Orbits_ok m v l w' hm hf hb (h.below hb0))
  have CP := hid (fun w' (hb0 : Below w.heap.size w w') => Canon_ok m v l w' hm hf hb (h.below hb0))
  have lO : (orbL m l).length ≤ 256 := fam_len hm (orb_fam m l)
  have lC : (canL m l).length ≤ 256 := fam_len hm (can_fam m l)
  have lI : ((isoK m l j l').head?.getD []).length ≤ 256 := by
    rcases hh : (isoK m l j l').head? with _ | q
    · exact Nat.zero_le _
    · have hq := List.mem_of_mem_head? (show q ∈ (isoK m l j l').head? from hh)
      unfold isoK at hq
      split at hq
      · have := (isoL_mem.1 hq).1.2
        show q.length ≤ 256
        omega
      · cases hq
  obtain ⟨a0, c0, hv, -, -⟩ := h.nats
  obtain ⟨a1, c1, hu, -, -⟩ := h'.nats
  obtain ⟨a2, c2, ht2, -, -⟩ := id ht
  subst hv
  subst hu
  subst ht2
  clear hf hb h h' ht hno hf' hb'
  generalize (isoL m l l).length = GN at *
  generalize orbL m l = OL at *
  generalize canL m l = CL at *
  generalize (isoK m l j l').head? = IH at *
  have HIT : Hid (∀ (B : Nat) (W : World) (r : Value), Own B W r (IH.getD []) → TlS B W (ansE IH) r (IH.getD [])) := fun B W r hoX => by
    rcases IH with _ | q
    · obtain ⟨xa, xc, hx⟩ := ownsRow_form' hoX
      exact .inl ⟨by decide, xa, xc, hx⟩
    · exact .inr ⟨rfl, hoX⟩
  have hw2 : (w.alloc (.cells #[.int .i64 m, .slice a0 l.length c0] 24)).alloc (.cells #[.int .i64 j, .slice a1 l'.length c1] 24) = box2 w m (.slice a0 l.length c0) j (.slice a1 l'.length c1) := rfl
  have S0 := hid (StS.new w m (.slice a0 l.length c0) j (.slice a1 l'.length c1))
  generalize box2 w m (.slice a0 l.length c0) j (.slice a1 l'.length c1) = W2 at *
  obtain ⟨z0, z1, z2, z3⟩ := S0.out.cells
  go_enter Tryz.func3, Tryz.ntmps3
  have CC := hid (MA.out W2 S0.out.1)
  go_wp2_with fail
  refine CC.out.mono ?_
  rintro e w3 ⟨rfl, hb⟩
  have S_1 := hid (S0.out.next hb)
  clear CC hb z0 z1 z2 z3 S0 MA hw2
  obtain ⟨z0, z1, z2, z3⟩ := S_1.out.cells
  have CC := hid (MB.out w3 S_1.out.1)
  go_wp2_with fail
  refine CC.out.mono ?_
  rintro e w4 ⟨rfl, hb⟩
  have S_2 := hid (S_1.out.next hb)
  clear CC hb z0 z1 z2 z3 S_1 MB
  obtain ⟨z0, z1, z2, z3⟩ := S_2.out.cells
  have hbA : Below w4.heap.size w4 (w4.alloc (.cells #[.int .i64 0, .slice none 0 0] 24)) := (Below.refl _ _).alloc (Nat.le_refl _) _
  have hbB : Below (w4.alloc (.cells #[.int .i64 0, .slice none 0 0] 24)).heap.size (w4.alloc (.cells #[.int .i64 0, .slice none 0 0] 24)) ((w4.alloc (.cells #[.int .i64 0, .slice none 0 0] 24)).alloc (.cells #[.int .i64 0, .slice none 0 0] 24)) := (Below.refl _ _).alloc (Nat.le_refl _) _
  have VA0 := hid (VbS.next (VbS.new w4 0 (.slice none 0 0)) hbB)
  have VB0 : Hid (VbS ((w4.alloc (.cells #[.int .i64 0, .slice none 0 0] 24)).alloc (.cells #[.int .i64 0, .slice none 0 0] 24)) (w4.heap.size + 1) 0 (.slice none 0 0)) := by have := VbS.new (w4.alloc (.cells #[.int .i64 0, .slice none 0 0] 24)) 0 (.slice none 0 0); rwa [World.size_alloc] at this
  have hb := hbA.trans (hbB.mono hbA.size)
  have S5 := hid (S_2.out.next hb)
  have hzz : ((w4.alloc (.cells #[.int .i64 0, .slice none 0 0] 24)).alloc (.cells #[.int .i64 0, .slice none 0 0] 24)).heap.size = w4.heap.size + 2 := by simp
  have hs4 : w.heap.size + 2 ≤ w4.heap.size := S_2.out.2.1
  obtain ⟨WV, hWV⟩ : ∃ WV, (w4.alloc (.cells #[.int .i64 0, .slice none 0 0] 24)).alloc (.cells #[.int .i64 0, .slice none 0 0] 24) = WV := ⟨_, rfl⟩
  rw [hWV] at VA0 VB0 S5 hzz
  clear hbA hbB hb z0 z1 z2 z3 S_2
  obtain ⟨z0, z1, z2, z3⟩ := S5.out.cells
  go_wp2_with fail
  refine (IO.out _ S5.out.1).mono ?_
  rintro e w' ⟨rfl, hw'⟩
  obtain rfl := hw'.symm
  clear hWV IO
  go_wp2_with fail
  refine (badG _ 1 _).mono ?_
  rintro e w' ⟨rfl, hw'⟩
  obtain rfl := hw'.symm
  simp only [Bool.false_eq_true, if_false]
  have CC := hid (GD.out WV S5.out.1)
  go_wp2_with fail
  refine CC.out.mono ?_
  rintro e w6 ⟨rY, rfl, hoY, hb⟩
  have S_3 := hid (S5.out.next hb)
  have VA_3 := hid (VA0.out.next hb)
  have VB_3 := hid (VB0.out.next hb)
  have hz6 := hb.size
  have Y0 : Hid (TlS WV.heap.size w6 0 rY OL) := .inr ⟨rfl, hoY⟩
  obtain ⟨ya, yc, hy⟩ := ownsRow_form' hoY
  subst hy
  clear CC hb z0 z1 z2 z3 S5 VA0 VB0 GD hoY
  obtain ⟨z0, z1, z2, z3⟩ := S_3.out.cells
  have CC := hid (CD.out w6 S_3.out.1)
  go_wp2_with fail
  refine CC.out.mono ?_
  rintro e w7 ⟨rC, rfl, hoC, hb⟩
  have S_4 := hid (S_3.out.next hb)
  have VA_4 := hid (VA_3.out.next hb)
  have VB_4 := hid (VB_3.out.next hb)
  have Y_4 := hid (Y0.out.below hb)
  have GB0 : Hid (GoodJ w6.heap.size w7 0 m CL m rC) := .inl ⟨rfl, rfl, hoC⟩
  obtain ⟨ca, cc, hcx⟩ := ownsRow_form' hoC
  subst hcx
  skip
  clear CC hb z0 z1 z2 z3 S_3 VA_3 VB_3 Y0 CD hoC
  obtain ⟨z0, z1, z2, z3⟩ := S_4.out.cells
  obtain ⟨s0, s1, s2, s3⟩ := two_cells VB_4.out
  have S_5 := hid (S_4.out.set (b := w4.heap.size + 1) (by omega) (.int .i64 m) (.slice ca CL.length cc))
  have VA_5 := hid (VA_4.out.set (b' := w4.heap.size + 1) (by omega) (.int .i64 m) (.slice ca CL.length cc))
  have VB_5 := hid (VB_4.out.put m (.slice ca CL.length cc))
  have Y_5 := hid (Y_4.out.set (b := w4.heap.size + 1) (by omega) (.int .i64 m) (.slice ca CL.length cc))
  have GB_5 := hid (GB0.out.set (b := w4.heap.size + 1) (by omega) (.int .i64 m) (.slice ca CL.length cc))
  obtain ⟨W8, hW8⟩ : ∃ WW, ((w7.setCell ⟨w4.heap.size + 1, 0, none⟩ (.int .i64 m)).setCell ⟨w4.heap.size + 1, 1, none⟩ (.slice ca CL.length cc)) = WW := ⟨_, rfl⟩
  rw [hW8] at S_5 VA_5 VB_5 Y_5 GB_5
  clear z0 z1 z2 z3 S_4 VA_4 VB_4 Y_4 GB0
  obtain ⟨z0, z1, z2, z3⟩ := S_5.out.cells
  have hz8 := VB_5.out.lt
  have CC := hid (ID.out W8 S_5.out.1)
  go_wp2_with fail
  refine CC.out.mono ?_
  rintro e w11 ⟨rX, rfl, hoX, hb⟩
  have S_6 := hid (S_5.out.next hb)
  have VA_6 := hid (VA_5.out.next hb)
  have VB_6 := hid (VB_5.out.next hb)
  have Y_6 := hid (Y_5.out.below hb)
  have GB_6 := hid (GB_5.out.below hb)
  have X0 := hid (HIT.out _ _ _ hoX)
  obtain ⟨xa, xc, hx⟩ := ownsRow_form' hoX
  subst hx
  clear CC hb z0 z1 z2 z3 S_5 VA_5 VB_5 Y_5 GB_5 ID hW8 hoX
  obtain ⟨z0, z1, z2, z3⟩ := S_6.out.cells
  go_wp2_with fail
  refine (badG _ 5 _).mono ?_
  rintro e w' ⟨rfl, hw'⟩
  obtain rfl := hw'.symm
  rw [show (if IH.isSome = true then (0 : Int) else 5) = ansE IH from rfl]
  generalize ansE IH = qf at *
  generalize IH.getD [] = XL at *
  have CC := hid (RP.out w11 S_6.out.1)
  go_wp2_with fail
  refine CC.out.mono ?_
  rintro e w12 ⟨rfl, hb⟩
  have S_7 := hid (S_6.out.next hb)
  have VA_7 := hid (VA_6.out.next hb)
  have VB_7 := hid (VB_6.out.next hb)
  have Y_7 := hid (Y_6.out.below hb)
  have GB_7 := hid (GB_6.out.below hb)
  have X_7 := hid (X0.out.below hb)
  have GQ0 : Hid (GoodJ w11.heap.size w12 1 0 [] 0 (.slice none 0 0)) := .inr ⟨by decide, rfl, rfl⟩
  clear CC hb z0 z1 z2 z3 S_6 VA_6 VB_6 Y_6 GB_6 X0 RP
  obtain ⟨z0, z1, z2, z3⟩ := S_7.out.cells
  have hb : Below w12.heap.size w12 (w12.alloc (.cells #[.int .i64 0, (.slice none 0 0)] 24)) := (Below.refl _ _).alloc (Nat.le_refl _) _
  have VQn := hid (VbS.new w12 0 (.slice none 0 0))
  have S_8 := hid (S_7.out.next hb)
  have VA_8 := hid (VA_7.out.next hb)
  have VB_8 := hid (VB_7.out.next hb)
  have Y_8 := hid (Y_7.out.below hb)
  have GB_8 := hid (GB_7.out.below hb)
  have X_8 := hid (X_7.out.below hb)
  have GQ_8 := hid (GQ0.out.below hb)
  clear hb z0 z1 z2 z3 S_7 VA_7 VB_7 Y_7 GB_7 X_7 GQ0
  obtain ⟨z0, z1, z2, z3⟩ := S_8.out.cells
  have CC := hid (IP.out (w12.alloc (.cells #[.int .i64 0, (.slice none 0 0)] 24)) S_8.out.1)
  go_wp2_with fail
  refine CC.out.mono ?_
  rintro e w14 ⟨rI, rfl, hoI, hb⟩
  have S_9 := hid (S_8.out.next hb)
  have VA_9 := hid (VA_8.out.next hb)
  have VB_9 := hid (VB_8.out.next hb)
  have Y_9 := hid (Y_8.out.below hb)
  have GB_9 := hid (GB_8.out.below hb)
  have X_9 := hid (X_8.out.below hb)
  have GQ_9 := hid (GQ_8.out.below hb)
  have VQ_9 := hid (VQn.out.next hb)
  have I0 : Hid (TlS (w12.alloc (.cells #[.int .i64 0, (.slice none 0 0)] 24)).heap.size w14 qf rI XL) := HIT.out _ _ _ hoI
  obtain ⟨ia, ic, hix⟩ := ownsRow_form' hoI
  subst hix
  clear CC hb z0 z1 z2 z3 S_8 VA_8 VB_8 Y_8 GB_8 X_8 GQ_8 VQn IP hoI
  obtain ⟨z0, z1, z2, z3⟩ := S_9.out.cells
  have CC := hid (GP.out w14 S_9.out.1)
  go_wp2_with fail
  refine CC.out.mono ?_
  rintro e w15 ⟨rfl, hb⟩
  have S_10 := hid (S_9.out.next hb)
  have VA_10 := hid (VA_9.out.next hb)
  have VB_10 := hid (VB_9.out.next hb)
  have Y_10 := hid (Y_9.out.below hb)
  have GB_10 := hid (GB_9.out.below hb)
  have X_10 := hid (X_9.out.below hb)
  have GQ_10 := hid (GQ_9.out.below hb)
  have VQ_10 := hid (VQ_9.out.next hb)
  have I_10 := hid (I0.out.below hb)
  clear CC hb z0 z1 z2 z3 S_9 VA_9 VB_9 Y_9 GB_9 X_9 GQ_9 VQ_9 I0 GP
  obtain ⟨z0, z1, z2, z3⟩ := S_10.out.cells
  have CC := hid (OP.out w15 S_10.out.1)
  go_wp2_with fail
  refine CC.out.mono ?_
  rintro e w16 ⟨rT, rfl, hoT, hb⟩
  have S_11 := hid (S_10.out.next hb)
  have VA_11 := hid (VA_10.out.next hb)
  have VB_11 := hid (VB_10.out.next hb)
  have Y_11 := hid (Y_10.out.below hb)
  have GB_11 := hid (GB_10.out.below hb)
  have X_11 := hid (X_10.out.below hb)
  have GQ_11 := hid (GQ_10.out.below hb)
  have VQ_11 := hid (VQ_10.out.next hb)
  have I_11 := hid (I_10.out.below hb)
  have T0 : Hid (TlS w15.heap.size w16 0 rT OL) := .inr ⟨rfl, hoT⟩
  obtain ⟨ta, tc, htx⟩ := ownsRow_form' hoT
  subst htx
  clear CC hb z0 z1 z2 z3 S_10 VA_10 VB_10 Y_10 GB_10 X_10 GQ_10 VQ_10 I_10 OP hoT
  obtain ⟨z0, z1, z2, z3⟩ := S_11.out.cells
  have CC := hid (CP.out w16 S_11.out.1)
  go_wp2_with fail
  refine CC.out.mono ?_
  rintro e w17 ⟨rU, rfl, hoU, hb⟩
  have S_12 := hid (S_11.out.next hb)
  have VA_12 := hid (VA_11.out.next hb)
  have VB_12 := hid (VB_11.out.next hb)
  have Y_12 := hid (Y_11.out.below hb)
  have GB_12 := hid (GB_11.out.below hb)
  have X_12 := hid (X_11.out.below hb)
  have GQ_12 := hid (GQ_11.out.below hb)
  have VQ_12 := hid (VQ_11.out.next hb)
  have I_12 := hid (I_11.out.below hb)
  have T_12 := hid (T0.out.below hb)
  have GU0 : Hid (GoodJ w16.heap.size w17 0 m CL m rU) := .inl ⟨rfl, rfl, hoU⟩
  obtain ⟨ua, uc, hux⟩ := ownsRow_form' hoU
  subst hux
  clear CC hb z0 z1 z2 z3 S_11 VA_11 VB_11 Y_11 GB_11 X_11 GQ_11 VQ_11 I_11 T0 CP hoU
  obtain ⟨z0, z1, z2, z3⟩ := S_12.out.cells
  have hb : Below w17.heap.size w17 (w17.alloc (.cells #[.int .i64 m, (.slice ua CL.length uc)] 24)) := (Below.refl _ _).alloc (Nat.le_refl _) _
  have VUn := hid (VbS.new w17 m (.slice ua CL.length uc))
  have S_13 := hid (S_12.out.next hb)
  have VA_13 := hid (VA_12.out.next hb)
  have VB_13 := hid (VB_12.out.next hb)
  have Y_13 := hid (Y_12.out.below hb)
  have GB_13 := hid (GB_12.out.below hb)
  have X_13 := hid (X_12.out.below hb)
  have GQ_13 := hid (GQ_12.out.below hb)
  have VQ_13 := hid (VQ_12.out.next hb)
  have I_13 := hid (I_12.out.below hb)
  have T_13 := hid (T_12.out.below hb)
  have GU_13 := hid (GU0.out.below hb)
  obtain ⟨W18, hW18⟩ : ∃ WW, w17.alloc (.cells #[.int .i64 m, (.slice ua CL.length uc)] 24) = WW := ⟨_, rfl⟩
  rw [hW18] at S_13 VA_13 VB_13 Y_13 GB_13 X_13 GQ_13 VQ_13 I_13 T_13 GU_13 VUn
  clear hb z0 z1 z2 z3 S_12 VA_12 VB_12 Y_12 GB_12 X_12 GQ_12 VQ_12 I_12 T_12 GU0
  obtain ⟨z0, z1, z2, z3⟩ := S_13.out.cells
  obtain ⟨va0, va1, -, -⟩ := two_cells VA_13.out
  obtain ⟨vb0, vb1, -, -⟩ := two_cells VB_13.out
  obtain ⟨vq0, vq1, -, -⟩ := two_cells VQ_13.out
  obtain ⟨vu0, vu1, -, -⟩ := two_cells VUn.out
  have CC := hid (toldJ W18 GQ_13.out (.inr ⟨by decide, rfl, rfl⟩ : GoodJ 0 W18 1 0 [] 0 (.slice none 0 0)) (Nat.zero_le _))
  go_wp2_with fail
  refine CC.out.mono ?_
  rintro e wf1 ⟨rfl, hb⟩
  have S_14 := hid (S_13.out.next hb)
  have VA_14 := hid (VA_13.out.next hb)
  have VB_14 := hid (VB_13.out.next hb)
  have Y_14 := hid (Y_13.out.below hb)
  have GB_14 := hid (GB_13.out.below hb)
  have X_14 := hid (X_13.out.below hb)
  have GQ_14 := hid (GQ_13.out.below hb)
  have VQ_14 := hid (VQ_13.out.next hb)
  have I_14 := hid (I_13.out.below hb)
  have T_14 := hid (T_13.out.below hb)
  have GU_14 := hid (GU_13.out.below hb)
  have VU_14 := hid (VUn.out.next hb)
  clear CC hb z0 z1 z2 z3 va0 va1 vb0 vb1 vq0 vq1 vu0 vu1 hW18 S_13 VA_13 VB_13 Y_13 GB_13 X_13 GQ_13 VQ_13 I_13 T_13 GU_13 VUn
  obtain ⟨z0, z1, z2, z3⟩ := S_14.out.cells
  obtain ⟨va0, va1, -, -⟩ := two_cells VA_14.out
  obtain ⟨vb0, vb1, -, -⟩ := two_cells VB_14.out
  obtain ⟨vq0, vq1, -, -⟩ := two_cells VQ_14.out
  obtain ⟨vu0, vu1, -, -⟩ := two_cells VU_14.out
  have CC := hid (listS wf1 I_14.out X_14.out lI)
  go_wp2_with fail
  refine CC.out.mono ?_
  rintro e wf2 ⟨rfl, hb⟩
  have S_15 := hid (S_14.out.next hb)
  have VA_15 := hid (VA_14.out.next hb)
  have VB_15 := hid (VB_14.out.next hb)
  have Y_15 := hid (Y_14.out.below hb)
  have GB_15 := hid (GB_14.out.below hb)
  have X_15 := hid (X_14.out.below hb)
  have GQ_15 := hid (GQ_14.out.below hb)
  have VQ_15 := hid (VQ_14.out.next hb)
  have I_15 := hid (I_14.out.below hb)
  have T_15 := hid (T_14.out.below hb)
  have GU_15 := hid (GU_14.out.below hb)
  have VU_15 := hid (VU_14.out.next hb)
  clear CC hb z0 z1 z2 z3 va0 va1 vb0 vb1 vq0 vq1 vu0 vu1 S_14 VA_14 VB_14 Y_14 GB_14 X_14 GQ_14 VQ_14 I_14 T_14 GU_14 VU_14
  obtain ⟨z0, z1, z2, z3⟩ := S_15.out.cells
  obtain ⟨va0, va1, -, -⟩ := two_cells VA_15.out
  obtain ⟨vb0, vb1, -, -⟩ := two_cells VB_15.out
  obtain ⟨vq0, vq1, -, -⟩ := two_cells VQ_15.out
  obtain ⟨vu0, vu1, -, -⟩ := two_cells VU_15.out
  have CC := hid (oneJ GN 0 wf2 (fun e => absurd rfl e))
  go_wp2_with fail
  refine CC.out.mono ?_
  rintro e w' ⟨rfl, hw'⟩
  obtain rfl := hw'.symm
  clear CC va0 va1 vb0 vb1 vq0 vq1 vu0 vu1
  obtain ⟨va0, va1, -, -⟩ := two_cells VA_15.out
  obtain ⟨vb0, vb1, -, -⟩ := two_cells VB_15.out
  obtain ⟨vq0, vq1, -, -⟩ := two_cells VQ_15.out
  obtain ⟨vu0, vu1, -, -⟩ := two_cells VU_15.out
  have CC := hid (listS wf2 T_15.out Y_15.out lO)
  go_wp2_with fail
  refine CC.out.mono ?_
  rintro e wf3 ⟨rfl, hb⟩
  have S_16 := hid (S_15.out.next hb)
  have VA_16 := hid (VA_15.out.next hb)
  have VB_16 := hid (VB_15.out.next hb)
  have Y_16 := hid (Y_15.out.below hb)
  have GB_16 := hid (GB_15.out.below hb)
  have X_16 := hid (X_15.out.below hb)
  have GQ_16 := hid (GQ_15.out.below hb)
  have VQ_16 := hid (VQ_15.out.next hb)
  have I_16 := hid (I_15.out.below hb)
  have T_16 := hid (T_15.out.below hb)
  have GU_16 := hid (GU_15.out.below hb)
  have VU_16 := hid (VU_15.out.next hb)
  clear CC hb z0 z1 z2 z3 va0 va1 vb0 vb1 vq0 vq1 vu0 vu1 S_15 VA_15 VB_15 Y_15 GB_15 X_15 GQ_15 VQ_15 I_15 T_15 GU_15 VU_15
  obtain ⟨z0, z1, z2, z3⟩ := S_16.out.cells
  obtain ⟨va0, va1, -, -⟩ := two_cells VA_16.out
  obtain ⟨vb0, vb1, -, -⟩ := two_cells VB_16.out
  obtain ⟨vq0, vq1, -, -⟩ := two_cells VQ_16.out
  obtain ⟨vu0, vu1, -, -⟩ := two_cells VU_16.out
  have CC := hid (toldJ wf3 GU_16.out GB_16.out lC)
  go_wp2_with fail
  refine CC.out.mono ?_
  rintro e wf4 ⟨rfl, hb⟩
  have SE := hid (S_16.out.next hb)
  clear CC hb
  go_wp2_with fail
  go_ret
  exact ⟨rfl, SE.out.1⟩
set_option maxRecDepth 100000 in
set_option maxHeartbeats 4000000 in
theorem ss_nb (m : Nat) (v u t : Value) (l : List Nat) (ps : List Int) (k : Int) (ys : List Int) (w : World) (h : Ints w v (N l)) (h' : Ints w u ys) (ht : Ints w t ps) (hm : m ≤ 8) (hf : Fam m l) (hb : Bas l) (hno : ¬ OrdZ m ps) (hk : chkR k ys ≠ 0) :
    Calls Tryz.prog 3 #[.agg #[.int .i64 m, v], .agg #[.int .i64 k, u], t] w fun e w' => e = .returned (.bool true) ∧ Below w.heap.size w w' := by
  have MA := hid (fun w' (hb0 : Below w.heap.size w w') => Matroid_ref m v (N l) w' (h.below hb0))
  rw [chk_mk hm hf hb] at MA
  have MB := hid (fun w' (hb0 : Below w.heap.size w w') => Matroid_ref k u ys w' (h'.below hb0))
  have IO := hid (fun w' (hb0 : Below w.heap.size w w') => RIsOrder_any m t ps w' hm (ht.below hb0))
  rw [show ordB m ps = false from Bool.eq_false_iff.2 fun e => hno (ordB_iff.1 e)] at IO
  have GD := hid (fun w' (hb0 : Below w.heap.size w w') => GroupR_ok m v l w' hm hf hb (h.below hb0))
  have CD := hid (fun w' (hb0 : Below w.heap.size w w') => CanonR_ok m v l w' hm hf hb (h.below hb0))
  have RP := hid (fun w' (hb0 : Below w.heap.size w w') => Rename_arg m v t l ps w' hm hf hb (h.below hb0) (ht.below hb0) hno)
  have hc2 : chk2 m (N l) k ys = chkR k ys := by unfold chk2; rw [if_pos (chk_mk hm hf hb)]
  have IP := hid (fun w' (hb0 : Below w.heap.size w w') => Isomorphic_bad m k v u (N l) ys w' (h.below hb0) (h'.below hb0) (by rw [hc2]; exact hk))
  rw [hc2] at IP
  have GP := hid (fun w' (hb0 : Below w.heap.size w w') => Group_ok m v l w' hm hf hb (h.below hb0))
  have OP := hid (fun w' (hb0 : Below w.heap.size w w') => Orbits_ok m v l w' hm hf hb (h.below hb0))
  have CP := hid (fun w' (hb0 : Below w.heap.size w w') => Canon_ok m v l w' hm hf hb (h.below hb0))
  have lO : (orbL m l).length ≤ 256 := fam_len hm (orb_fam m l)
  have lC : (canL m l).length ≤ 256 := fam_len hm (can_fam m l)
  obtain ⟨a0, c0, hv, -, -⟩ := h.nats
  obtain ⟨a1, c1, hu, -, -⟩ := id h'
  obtain ⟨a2, c2, ht2, -, -⟩ := id ht
  subst hv
  subst hu
  subst ht2
  clear hf hb h h' ht hno
  generalize (isoL m l l).length = GN at *
  generalize orbL m l = OL at *
  generalize canL m l = CL at *
  generalize chkR k ys = qk at *
  have hk1 : (qk == 0) = false := by simp [hk]
  have hk2 : (qk != 0) = true := by simp [hk]
  have hw2 : (w.alloc (.cells #[.int .i64 m, .slice a0 l.length c0] 24)).alloc (.cells #[.int .i64 k, .slice a1 ys.length c1] 24) = box2 w m (.slice a0 l.length c0) k (.slice a1 ys.length c1) := rfl
  have S0 := hid (StS.new w m (.slice a0 l.length c0) k (.slice a1 ys.length c1))
  generalize box2 w m (.slice a0 l.length c0) k (.slice a1 ys.length c1) = W2 at *
  obtain ⟨z0, z1, z2, z3⟩ := S0.out.cells
  go_enter Tryz.func3, Tryz.ntmps3
  have CC := hid (MA.out W2 S0.out.1)
  go_wp2_with fail
  refine CC.out.mono ?_
  rintro e w3 ⟨rfl, hb⟩
  have S_1 := hid (S0.out.next hb)
  clear CC hb z0 z1 z2 z3 S0 MA hw2
  obtain ⟨z0, z1, z2, z3⟩ := S_1.out.cells
  have CC := hid (MB.out w3 S_1.out.1)
  go_wp2_with fail
  refine CC.out.mono ?_
  rintro e w4 ⟨rfl, hb⟩
  have S_2 := hid (S_1.out.next hb)
  clear CC hb z0 z1 z2 z3 S_1 MB
  obtain ⟨z0, z1, z2, z3⟩ := S_2.out.cells
  have hbA : Below w4.heap.size w4 (w4.alloc (.cells #[.int .i64 0, .slice none 0 0] 24)) := (Below.refl _ _).alloc (Nat.le_refl _) _
  have hbB : Below (w4.alloc (.cells #[.int .i64 0, .slice none 0 0] 24)).heap.size (w4.alloc (.cells #[.int .i64 0, .slice none 0 0] 24)) ((w4.alloc (.cells #[.int .i64 0, .slice none 0 0] 24)).alloc (.cells #[.int .i64 0, .slice none 0 0] 24)) := (Below.refl _ _).alloc (Nat.le_refl _) _
  have VA0 := hid (VbS.next (VbS.new w4 0 (.slice none 0 0)) hbB)
  have VB0 : Hid (VbS ((w4.alloc (.cells #[.int .i64 0, .slice none 0 0] 24)).alloc (.cells #[.int .i64 0, .slice none 0 0] 24)) (w4.heap.size + 1) 0 (.slice none 0 0)) := by have := VbS.new (w4.alloc (.cells #[.int .i64 0, .slice none 0 0] 24)) 0 (.slice none 0 0); rwa [World.size_alloc] at this
  have hb := hbA.trans (hbB.mono hbA.size)
  have S5 := hid (S_2.out.next hb)
  have hzz : ((w4.alloc (.cells #[.int .i64 0, .slice none 0 0] 24)).alloc (.cells #[.int .i64 0, .slice none 0 0] 24)).heap.size = w4.heap.size + 2 := by simp
  have hs4 : w.heap.size + 2 ≤ w4.heap.size := S_2.out.2.1
  obtain ⟨WV, hWV⟩ : ∃ WV, (w4.alloc (.cells #[.int .i64 0, .slice none 0 0] 24)).alloc (.cells #[.int .i64 0, .slice none 0 0] 24) = WV := ⟨_, rfl⟩
  rw [hWV] at VA0 VB0 S5 hzz
  clear hbA hbB hb z0 z1 z2 z3 S_2
  obtain ⟨z0, z1, z2, z3⟩ := S5.out.cells
  go_wp2_with fail
  refine (IO.out _ S5.out.1).mono ?_
  rintro e w' ⟨rfl, hw'⟩
  obtain rfl := hw'.symm
  clear hWV IO
  go_wp2_with fail
  refine (badG _ 1 _).mono ?_
  rintro e w' ⟨rfl, hw'⟩
  obtain rfl := hw'.symm
  simp only [Bool.false_eq_true, if_false]
  have CC := hid (GD.out WV S5.out.1)
  go_wp2_with fail
  refine CC.out.mono ?_
  rintro e w6 ⟨rY, rfl, hoY, hb⟩
  have S_3 := hid (S5.out.next hb)
  have VA_3 := hid (VA0.out.next hb)
  have VB_3 := hid (VB0.out.next hb)
  have hz6 := hb.size
  have Y0 : Hid (TlS WV.heap.size w6 0 rY OL) := .inr ⟨rfl, hoY⟩
  obtain ⟨ya, yc, hy⟩ := ownsRow_form' hoY
  subst hy
  clear CC hb z0 z1 z2 z3 S5 VA0 VB0 GD hoY
  obtain ⟨z0, z1, z2, z3⟩ := S_3.out.cells
  have CC := hid (CD.out w6 S_3.out.1)
  go_wp2_with fail
  refine CC.out.mono ?_
  rintro e w7 ⟨rC, rfl, hoC, hb⟩
  have S_4 := hid (S_3.out.next hb)
  have VA_4 := hid (VA_3.out.next hb)
  have VB_4 := hid (VB_3.out.next hb)
  have Y_4 := hid (Y0.out.below hb)
  have GB0 : Hid (GoodJ w6.heap.size w7 0 m CL m rC) := .inl ⟨rfl, rfl, hoC⟩
  obtain ⟨ca, cc, hcx⟩ := ownsRow_form' hoC
  subst hcx
  skip
  clear CC hb z0 z1 z2 z3 S_3 VA_3 VB_3 Y0 CD hoC
  obtain ⟨z0, z1, z2, z3⟩ := S_4.out.cells
  obtain ⟨s0, s1, s2, s3⟩ := two_cells VB_4.out
  have S_5 := hid (S_4.out.set (b := w4.heap.size + 1) (by omega) (.int .i64 m) (.slice ca CL.length cc))
  have VA_5 := hid (VA_4.out.set (b' := w4.heap.size + 1) (by omega) (.int .i64 m) (.slice ca CL.length cc))
  have VB_5 := hid (VB_4.out.put m (.slice ca CL.length cc))
  have Y_5 := hid (Y_4.out.set (b := w4.heap.size + 1) (by omega) (.int .i64 m) (.slice ca CL.length cc))
  have GB_5 := hid (GB0.out.set (b := w4.heap.size + 1) (by omega) (.int .i64 m) (.slice ca CL.length cc))
  obtain ⟨W8, hW8⟩ : ∃ WW, ((w7.setCell ⟨w4.heap.size + 1, 0, none⟩ (.int .i64 m)).setCell ⟨w4.heap.size + 1, 1, none⟩ (.slice ca CL.length cc)) = WW := ⟨_, rfl⟩
  rw [hW8] at S_5 VA_5 VB_5 Y_5 GB_5
  clear z0 z1 z2 z3 S_4 VA_4 VB_4 Y_4 GB0
  obtain ⟨z0, z1, z2, z3⟩ := S_5.out.cells
  have hz8 := VB_5.out.lt
  have CC := hid (RP.out W8 S_5.out.1)
  go_wp2_with fail
  refine CC.out.mono ?_
  rintro e w12 ⟨rfl, hb⟩
  have S_6 := hid (S_5.out.next hb)
  have VA_6 := hid (VA_5.out.next hb)
  have VB_6 := hid (VB_5.out.next hb)
  have Y_6 := hid (Y_5.out.below hb)
  have GB_6 := hid (GB_5.out.below hb)
  have GQ0 : Hid (GoodJ W8.heap.size w12 1 0 [] 0 (.slice none 0 0)) := .inr ⟨by decide, rfl, rfl⟩
  clear CC hb z0 z1 z2 z3 S_5 VA_5 VB_5 Y_5 GB_5 RP hW8
  obtain ⟨z0, z1, z2, z3⟩ := S_6.out.cells
  have hb : Below w12.heap.size w12 (w12.alloc (.cells #[.int .i64 0, (.slice none 0 0)] 24)) := (Below.refl _ _).alloc (Nat.le_refl _) _
  have VQn := hid (VbS.new w12 0 (.slice none 0 0))
  have S_7 := hid (S_6.out.next hb)
  have VA_7 := hid (VA_6.out.next hb)
  have VB_7 := hid (VB_6.out.next hb)
  have Y_7 := hid (Y_6.out.below hb)
  have GB_7 := hid (GB_6.out.below hb)
  have GQ_7 := hid (GQ0.out.below hb)
  clear hb z0 z1 z2 z3 S_6 VA_6 VB_6 Y_6 GB_6 GQ0
  obtain ⟨z0, z1, z2, z3⟩ := S_7.out.cells
  have CC := hid (IP.out (w12.alloc (.cells #[.int .i64 0, (.slice none 0 0)] 24)) S_7.out.1)
  go_wp2_with fail
  refine CC.out.mono ?_
  rintro e w14 ⟨rfl, hb⟩
  have S_8 := hid (S_7.out.next hb)
  have VA_8 := hid (VA_7.out.next hb)
  have VB_8 := hid (VB_7.out.next hb)
  have Y_8 := hid (Y_7.out.below hb)
  have GB_8 := hid (GB_7.out.below hb)
  have GQ_8 := hid (GQ_7.out.below hb)
  have VQ_8 := hid (VQn.out.next hb)
  have I0 : Hid (TlS (w12.alloc (.cells #[.int .i64 0, (.slice none 0 0)] 24)).heap.size w14 qk (.slice none 0 0) []) := .inl ⟨hk, _, _, rfl⟩
  clear CC hb z0 z1 z2 z3 S_7 VA_7 VB_7 Y_7 GB_7 GQ_7 VQn IP
  obtain ⟨z0, z1, z2, z3⟩ := S_8.out.cells
  have CC := hid (GP.out w14 S_8.out.1)
  go_wp2_with fail
  refine CC.out.mono ?_
  rintro e w15 ⟨rfl, hb⟩
  have S_9 := hid (S_8.out.next hb)
  have VA_9 := hid (VA_8.out.next hb)
  have VB_9 := hid (VB_8.out.next hb)
  have Y_9 := hid (Y_8.out.below hb)
  have GB_9 := hid (GB_8.out.below hb)
  have GQ_9 := hid (GQ_8.out.below hb)
  have VQ_9 := hid (VQ_8.out.next hb)
  have I_9 := hid (I0.out.below hb)
  clear CC hb z0 z1 z2 z3 S_8 VA_8 VB_8 Y_8 GB_8 GQ_8 VQ_8 I0 GP
  obtain ⟨z0, z1, z2, z3⟩ := S_9.out.cells
  have CC := hid (OP.out w15 S_9.out.1)
  go_wp2_with fail
  refine CC.out.mono ?_
  rintro e w16 ⟨rT, rfl, hoT, hb⟩
  have S_10 := hid (S_9.out.next hb)
  have VA_10 := hid (VA_9.out.next hb)
  have VB_10 := hid (VB_9.out.next hb)
  have Y_10 := hid (Y_9.out.below hb)
  have GB_10 := hid (GB_9.out.below hb)
  have GQ_10 := hid (GQ_9.out.below hb)
  have VQ_10 := hid (VQ_9.out.next hb)
  have I_10 := hid (I_9.out.below hb)
  have T0 : Hid (TlS w15.heap.size w16 0 rT OL) := .inr ⟨rfl, hoT⟩
  obtain ⟨ta, tc, htx⟩ := ownsRow_form' hoT
  subst htx
  clear CC hb z0 z1 z2 z3 S_9 VA_9 VB_9 Y_9 GB_9 GQ_9 VQ_9 I_9 OP hoT
  obtain ⟨z0, z1, z2, z3⟩ := S_10.out.cells
  have CC := hid (CP.out w16 S_10.out.1)
  go_wp2_with fail
  refine CC.out.mono ?_
  rintro e w17 ⟨rU, rfl, hoU, hb⟩
  have S_11 := hid (S_10.out.next hb)
  have VA_11 := hid (VA_10.out.next hb)
  have VB_11 := hid (VB_10.out.next hb)
  have Y_11 := hid (Y_10.out.below hb)
  have GB_11 := hid (GB_10.out.below hb)
  have GQ_11 := hid (GQ_10.out.below hb)
  have VQ_11 := hid (VQ_10.out.next hb)
  have I_11 := hid (I_10.out.below hb)
  have T_11 := hid (T0.out.below hb)
  have GU0 : Hid (GoodJ w16.heap.size w17 0 m CL m rU) := .inl ⟨rfl, rfl, hoU⟩
  obtain ⟨ua, uc, hux⟩ := ownsRow_form' hoU
  subst hux
  clear CC hb z0 z1 z2 z3 S_10 VA_10 VB_10 Y_10 GB_10 GQ_10 VQ_10 I_10 T0 CP hoU
  obtain ⟨z0, z1, z2, z3⟩ := S_11.out.cells
  have hb : Below w17.heap.size w17 (w17.alloc (.cells #[.int .i64 m, (.slice ua CL.length uc)] 24)) := (Below.refl _ _).alloc (Nat.le_refl _) _
  have VUn := hid (VbS.new w17 m (.slice ua CL.length uc))
  have S_12 := hid (S_11.out.next hb)
  have VA_12 := hid (VA_11.out.next hb)
  have VB_12 := hid (VB_11.out.next hb)
  have Y_12 := hid (Y_11.out.below hb)
  have GB_12 := hid (GB_11.out.below hb)
  have GQ_12 := hid (GQ_11.out.below hb)
  have VQ_12 := hid (VQ_11.out.next hb)
  have I_12 := hid (I_11.out.below hb)
  have T_12 := hid (T_11.out.below hb)
  have GU_12 := hid (GU0.out.below hb)
  obtain ⟨W18, hW18⟩ : ∃ WW, w17.alloc (.cells #[.int .i64 m, (.slice ua CL.length uc)] 24) = WW := ⟨_, rfl⟩
  rw [hW18] at S_12 VA_12 VB_12 Y_12 GB_12 GQ_12 VQ_12 I_12 T_12 GU_12 VUn
  clear hb z0 z1 z2 z3 S_11 VA_11 VB_11 Y_11 GB_11 GQ_11 VQ_11 I_11 T_11 GU0
  obtain ⟨z0, z1, z2, z3⟩ := S_12.out.cells
  obtain ⟨va0, va1, -, -⟩ := two_cells VA_12.out
  obtain ⟨vb0, vb1, -, -⟩ := two_cells VB_12.out
  obtain ⟨vq0, vq1, -, -⟩ := two_cells VQ_12.out
  obtain ⟨vu0, vu1, -, -⟩ := two_cells VUn.out
  have CC := hid (toldJ W18 GQ_12.out (.inr ⟨by decide, rfl, rfl⟩ : GoodJ 0 W18 1 0 [] 0 (.slice none 0 0)) (Nat.zero_le _))
  go_wp2_with fail
  refine CC.out.mono ?_
  rintro e wf1 ⟨rfl, hb⟩
  have S_13 := hid (S_12.out.next hb)
  have VA_13 := hid (VA_12.out.next hb)
  have VB_13 := hid (VB_12.out.next hb)
  have Y_13 := hid (Y_12.out.below hb)
  have GB_13 := hid (GB_12.out.below hb)
  have GQ_13 := hid (GQ_12.out.below hb)
  have VQ_13 := hid (VQ_12.out.next hb)
  have I_13 := hid (I_12.out.below hb)
  have T_13 := hid (T_12.out.below hb)
  have GU_13 := hid (GU_12.out.below hb)
  have VU_13 := hid (VUn.out.next hb)
  clear CC hb z0 z1 z2 z3 va0 va1 vb0 vb1 vq0 vq1 vu0 vu1 hW18 S_12 VA_12 VB_12 Y_12 GB_12 GQ_12 VQ_12 I_12 T_12 GU_12 VUn
  obtain ⟨z0, z1, z2, z3⟩ := S_13.out.cells
  obtain ⟨va0, va1, -, -⟩ := two_cells VA_13.out
  obtain ⟨vb0, vb1, -, -⟩ := two_cells VB_13.out
  obtain ⟨vq0, vq1, -, -⟩ := two_cells VQ_13.out
  obtain ⟨vu0, vu1, -, -⟩ := two_cells VU_13.out
  have CC := hid (listS wf1 I_13.out (.inl ⟨hk, _, _, rfl⟩ : TlS 0 wf1 qk (.slice none 0 0) []) (Nat.zero_le _))
  go_wp2_with fail
  refine CC.out.mono ?_
  rintro e wf2 ⟨rfl, hb⟩
  have S_14 := hid (S_13.out.next hb)
  have VA_14 := hid (VA_13.out.next hb)
  have VB_14 := hid (VB_13.out.next hb)
  have Y_14 := hid (Y_13.out.below hb)
  have GB_14 := hid (GB_13.out.below hb)
  have GQ_14 := hid (GQ_13.out.below hb)
  have VQ_14 := hid (VQ_13.out.next hb)
  have I_14 := hid (I_13.out.below hb)
  have T_14 := hid (T_13.out.below hb)
  have GU_14 := hid (GU_13.out.below hb)
  have VU_14 := hid (VU_13.out.next hb)
  clear CC hb z0 z1 z2 z3 va0 va1 vb0 vb1 vq0 vq1 vu0 vu1 S_13 VA_13 VB_13 Y_13 GB_13 GQ_13 VQ_13 I_13 T_13 GU_13 VU_13
  obtain ⟨z0, z1, z2, z3⟩ := S_14.out.cells
  obtain ⟨va0, va1, -, -⟩ := two_cells VA_14.out
  obtain ⟨vb0, vb1, -, -⟩ := two_cells VB_14.out
  obtain ⟨vq0, vq1, -, -⟩ := two_cells VQ_14.out
  obtain ⟨vu0, vu1, -, -⟩ := two_cells VU_14.out
  have CC := hid (oneJ GN 0 wf2 (fun e => absurd rfl e))
  go_wp2_with fail
  refine CC.out.mono ?_
  rintro e w' ⟨rfl, hw'⟩
  obtain rfl := hw'.symm
  clear CC va0 va1 vb0 vb1 vq0 vq1 vu0 vu1
  obtain ⟨va0, va1, -, -⟩ := two_cells VA_14.out
  obtain ⟨vb0, vb1, -, -⟩ := two_cells VB_14.out
  obtain ⟨vq0, vq1, -, -⟩ := two_cells VQ_14.out
  obtain ⟨vu0, vu1, -, -⟩ := two_cells VU_14.out
  have CC := hid (listS wf2 T_14.out Y_14.out lO)
  go_wp2_with fail
  refine CC.out.mono ?_
  rintro e wf3 ⟨rfl, hb⟩
  have S_15 := hid (S_14.out.next hb)
  have VA_15 := hid (VA_14.out.next hb)
  have VB_15 := hid (VB_14.out.next hb)
  have Y_15 := hid (Y_14.out.below hb)
  have GB_15 := hid (GB_14.out.below hb)
  have GQ_15 := hid (GQ_14.out.below hb)
  have VQ_15 := hid (VQ_14.out.next hb)
  have I_15 := hid (I_14.out.below hb)
  have T_15 := hid (T_14.out.below hb)
  have GU_15 := hid (GU_14.out.below hb)
  have VU_15 := hid (VU_14.out.next hb)
  clear CC hb z0 z1 z2 z3 va0 va1 vb0 vb1 vq0 vq1 vu0 vu1 S_14 VA_14 VB_14 Y_14 GB_14 GQ_14 VQ_14 I_14 T_14 GU_14 VU_14
  obtain ⟨z0, z1, z2, z3⟩ := S_15.out.cells
  obtain ⟨va0, va1, -, -⟩ := two_cells VA_15.out
  obtain ⟨vb0, vb1, -, -⟩ := two_cells VB_15.out
  obtain ⟨vq0, vq1, -, -⟩ := two_cells VQ_15.out
  obtain ⟨vu0, vu1, -, -⟩ := two_cells VU_15.out
  have CC := hid (toldJ wf3 GU_15.out GB_15.out lC)
  go_wp2_with fail
  refine CC.out.mono ?_
  rintro e wf4 ⟨rfl, hb⟩
  have SE := hid (S_15.out.next hb)
  clear CC hb
  go_wp2_with fail
  go_ret
  exact ⟨rfl, SE.out.1⟩
theorem ssays_law (n : Int) (v : Value) (zs : List Int) (k : Int) (u : Value) (ys : List Int) (t : Value) (ps : List Int) (w : World) (h : Ints w v zs) (h' : Ints w u ys) (ht : Ints w t ps) :
    Calls Tryz.prog 3 #[.agg #[.int .i64 n, v], .agg #[.int .i64 k, u], t] w fun e w' => e = .returned (.bool true) ∧ Below w.heap.size w w' := by
  by_cases hc : chkR n zs = 0
  · obtain ⟨m, l, rfl, hm, rfl, hf, hb⟩ := chk_of hc
    by_cases ho : OrdZ m ps
    · obtain ⟨p, rfl, hp, hpl⟩ := ho
      by_cases hk : chkR k ys = 0
      · obtain ⟨j, l', rfl, hj, rfl, hf', hb'⟩ := chk_of hk
        exact ss_oi m v u t l p j l' w h h' ht hm hf hb hp hpl hj hf' hb'
      · exact ss_ob m v u t l p k ys w h h' ht hm hf hb hp hpl hk
    · by_cases hk : chkR k ys = 0
      · obtain ⟨j, l', rfl, hj, rfl, hf', hb'⟩ := chk_of hk
        exact ss_ni m v u t l ps j l' w h h' ht hm hf hb ho hj hf' hb'
      · exact ss_nb m v u t l ps k ys w h h' ht hm hf hb ho hk
  · exact ss_bad n v u t zs ps k ys w h h' ht hc
end Go.Proofs.YthlmnhcnpffjdaaGreat
