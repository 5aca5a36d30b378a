/- links.Ways. -/
import Derived.Test.YtjnifcfcigcngaaLkXQ
import Derived.Deep.RegionHeld3
import Derived.Deep.CutRange
namespace Go.Proofs.Ytjnifcfcigcngaa
open Go.RowKit

theorem Try.infoRowW : (Try.prog.info? 43).map (fun i => (i.zero, i.size, i.bytes)) = some (some (.slice none 0 0), 1, 24) := by kernel_rfl
theorem Try.undRowsW : Try.prog.underlying 29 = some (.slice 43) := by kernel_rfl
theorem info_rowW : ∃ i0, Try.prog.info? 43 = some i0 ∧ i0.zero = some (.slice none 0 0) ∧ i0.size = 1 ∧ i0.bytes = 24 := by
  obtain ⟨i0, h0, hiz⟩ := Option.map_eq_some_iff.1 Try.infoRowW
  obtain ⟨h1, h2, h3⟩ : i0.zero = some (.slice none 0 0) ∧ i0.size = 1 ∧ i0.bytes = 24 := by simpa using hiz
  exact ⟨i0, h0, h1, h2, h3⟩
/-- Ways of the call's own, one behind the other. -/
def WysO (B : Nat) (W : World) (v : Value) (l : List (List Nat)) : Prop := ∃ us : List Value, us.length = l.length ∧ W.ownsRow B 43 1 v l.length us ∧ ∀ i, i < l.length → ∃ u, us[i]? = some u ∧ Own B W u (l.getD i [])
theorem Own.sameW {B : Nat} {W W' : World} {u : Value} {l : List Nat} (h : Own B W u l) (hb : ∀ (g : Nat) (c : Array Value), W.heap[g]? = some (Obj.cells c 3 (0, 0)) → W'.heap[g]? = W.heap[g]?) : Own B W' u l := by
  obtain ⟨h0, h1⟩ := h
  refine ⟨h0, h1.imp_right ?_⟩
  rintro ⟨g, cap, cur, hv, hg, hheap, hr⟩
  exact ⟨g, cap, cur, hv, hg, (hb g cur hheap).trans hheap, hr⟩
theorem WysO.nil (B : Nat) (W : World) : WysO B W (.slice none 0 0) [] := ⟨[], rfl, World.ownsRow_nil _ _ _ _, fun i hi => by simp at hi⟩
theorem WysO.below {B : Nat} {W W' : World} {v : Value} {l : List (List Nat)} (h : WysO B W v l) (hb : Below W.heap.size W W') : WysO B W' v l := by
  obtain ⟨us, h1, ⟨h2, h3⟩, h4⟩ := h
  refine ⟨us, h1, ⟨h2, h3.imp_right ?_⟩, fun i hi => ?_⟩
  · rintro ⟨g, cap, cur, hv, hg, hheap, hr⟩
    exact ⟨g, cap, cur, hv, hg, (hb.block g (Array.getElem?_eq_some_iff.1 hheap).1).trans hheap, hr⟩
  · obtain ⟨u, h5, h6⟩ := h4 i hi
    exact ⟨u, h5, h6.below hb⟩
theorem WysO.mono {B B' : Nat} {W : World} {v : Value} {l : List (List Nat)} (h : WysO B W v l) (hB : B' ≤ B) : WysO B' W v l := by
  obtain ⟨us, h1, ⟨h2, h3⟩, h4⟩ := h
  refine ⟨us, h1, ⟨h2, h3.imp_right ?_⟩, fun i hi => ?_⟩
  · rintro ⟨g, cap, cur, hv, hg, hheap, hr⟩
    exact ⟨g, cap, cur, hv, Nat.le_trans hB hg, hheap, hr⟩
  · obtain ⟨u, h5, h6⟩ := h4 i hi
    exact ⟨u, h5, h6.mono hB⟩
theorem WysO.form {B : Nat} {W : World} {v : Value} {l : List (List Nat)} (h : WysO B W v l) : ∃ a c, v = .slice a l.length c := by
  obtain ⟨us, h1, h2, -⟩ := h
  rcases Go.Joins.ownsRow_forms h2 with ⟨rfl, h0⟩ | ⟨g, cap, rfl⟩
  · exact ⟨_, _, by rw [h0]⟩
  · exact ⟨_, _, rfl⟩
theorem WysO.at_ {B : Nat} {W : World} {v : Value} {l : List (List Nat)} (h : WysO B W v l) {i : Nat} (hi : i < l.length) : ∃ g c u, v = .slice (some ⟨g, 0, none⟩) l.length c ∧ g < W.heap.size ∧ W.cell? ⟨g, i, none⟩ = some u ∧ Own B W u (l.getD i []) := by
  obtain ⟨us, h1, h2, h3⟩ := h
  obtain ⟨u, h5, h6⟩ := h3 i hi
  rcases Go.Joins.ownsRow_forms h2 with ⟨rfl, h0⟩ | ⟨g, cap, rfl⟩
  · omega
  · exact ⟨g, cap, u, rfl, (World.ownsRow.lt h2 g rfl).2, by rw [World.ownsRow.cellAt h2 i (by omega), h5], h6⟩
theorem keepW {B k : Nat} {W W' : World} {v : Value} {us : List Value} {o : Obj} (h2 : W.ownsRow B 43 1 v k us) (hgr : (W.alloc o).grownBy W' v.ownBlock) : ∀ (g : Nat) (c : Array Value), W.heap[g]? = some (Obj.cells c 3 (0, 0)) → W'.heap[g]? = W.heap[g]? := fun g c hc => by
  have hlt := (Array.getElem?_eq_some_iff.1 hc).1
  have h5 : (W.alloc o).heap[g]? = W.heap[g]? := Below.heap_alloc _ _ _ hlt
  rw [← h5]
  refine hgr.block g (by simp; omega) fun e => ?_
  obtain ⟨-, h7⟩ := h2
  rcases h7 with ⟨rfl, -⟩ | ⟨g', cap, cur, rfl, -, hh, -⟩
  · cases e
  · have : g' = g := by simpa [Value.ownBlock] using e.symm
    subst this
    rw [hc] at hh
    simp at hh
theorem WysO.snoc {B : Nat} {W W' : World} {v v' u : Value} {l : List (List Nat)} {us : List Value} {x : List Nat} {o : Obj} (h1 : us.length = l.length) (h2 : W.ownsRow B 43 1 v l.length us) (h3 : ∀ i, i < l.length → ∃ u, us[i]? = some u ∧ Own B W u (l.getD i [])) (hx : Own B W u x) (hown : W'.ownsRow B 43 1 v' (l.length + 1) (us ++ [u])) (hgr : (W.alloc o).grownBy W' v.ownBlock) : WysO B W' v' (l ++ [x]) := by
  have keep := keepW h2 hgr
  refine ⟨us ++ [u], by simp [h1], by rw [List.length_append]; exact hown, fun i hi => ?_⟩
  rw [List.length_append] at hi
  by_cases e : i < l.length
  · obtain ⟨y, h5, h6⟩ := h3 i e
    refine ⟨y, by rw [List.getElem?_append_left (by omega)]; exact h5, ?_⟩
    rw [List.getD_eq_getElem?_getD, List.getElem?_append_left e, ← List.getD_eq_getElem?_getD]
    exact h6.sameW keep
  · obtain rfl : i = l.length := by simp at hi; omega
    refine ⟨u, by rw [List.getElem?_append_right (by omega), h1]; simp, ?_⟩
    rw [List.getD_eq_getElem?_getD, List.getElem?_append_right (Nat.le_refl _)]
    simp
    exact hx.sameW keep
theorem wys_len {f : Nat → Nat} {n T F : Nat} : ∀ k, (wysF f n T F k).2.length ≤ k
  | 0 => Nat.le_refl _
  | k + 1 => by
    have := wys_len (f := f) (n := n) (T := T) (F := F) k
    cases e : F.testBit k
    · rw [wys_miss e]; omega
    · rw [wys_hit e]; simp; omega
set_option maxRecDepth 20000 in
set_option maxHeartbeats 4000000 in
theorem LWays_ok (m a b : Nat) (v : Value) (F : List (Int × Int)) (w : World) (hg : lnkE m F a b = 0) (hl : lkB (nxE F) m b (2 ^ m - 1) a = true) (h : EdgesI w v F) :
    Calls Try.prog 12 #[.agg #[.int .i64 m, v], .int .i64 a, .int .i64 b] w fun e w' => ∃ r, e = .returned (.tuple #[r, .int .i64 0]) ∧ WysO w.heap.size w' r (wysF (nxE F) m b a m).2 ∧ Below w.heap.size w w' := by
  obtain ⟨i0, hi0, hz0, hz1, hz2⟩ := info_rowW
  obtain ⟨m', a', b', e1, e2, e3, h1, h7, h8, hall, ha, hb, hE⟩ := lnk_good hg
  obtain rfl : m = m' := by omega
  obtain rfl : a = a' := by omega
  obtain rfl : b = b' := by omega
  clear e1 e2 e3
  have hm8 : m ≤ 8 := by omega
  have HB0 := hid (below_boxGr w #[.int .i64 m, v])
  have HN := hid (World.alloc_heap_new w (.cells #[.int .i64 m, v] 24))
  have CG := hid (lcheck_any m a b v F _ (h.below HB0.out))
  rw [hg] at CG
  have NX : Hid (∀ W, EdgesI W v F → Calls Try.prog 26 #[.agg #[.int .i64 m, v]] W fun e w' => ∃ g c, e = .returned (.slice (some ⟨g, 0, none⟩) m c) ∧ W.heap.size ≤ g ∧ RkAt w' (.slice (some ⟨g, 0, none⟩) m c) m (nxE F) ∧ Below W.heap.size W w') := fun W hW => nexts_own m v (natE F) W h1 h7 hE (hW.nat h8 hall)
  have WH := hid (fun w => wholeSet_any m w hm8)
  have FL : Hid (∀ i, i < m → nxE F i < 2 ^ m) := fun i _ => nxE_lt hE i
  have LI : Hid (∀ (u : Value) (W : World), RkAt W u m (nxE F) → Calls Try.prog 28 #[u, .int .i64 ((2 ^ m - 1 : Nat) : Int), .int .i64 a, .int .i64 b] W fun e w' => e = .returned (.bool true) ∧ w' = W) := fun u W hW => by
    have := linked_any m (2 ^ m - 1) a b (nxE F) u W hm8 (full_lt m) ha hb (fun i hi => lt256 hm8 (FL.out i hi)) hW
    change Calls _ _ _ _ (fun e w' => e = .returned (.bool (lkB (nxE F) m b (2 ^ m - 1) a)) ∧ w' = W) at this
    rw [hl] at this
    exact this
  have FW : Hid (∀ (u : Value) (W : World) (L B k : Nat), RkAt W u m (nxE F) → WayH (nxE F) m b B m L k → Calls Try.prog 30 #[u, .int .i64 L, .int .i64 k, .int .i64 B, .int .i64 b] W fun e w' => ∃ r, e = .returned r ∧ Own W.heap.size w' r (wayF (nxE F) m b B m L k) ∧ Below W.heap.size W w') := fun u W L B k hW hH =>
    firstWay_any m L B b k (nxE F) u W hm8 hb FL.out hW hH
  have WY : Hid (∀ k, k < m → a.testBit k = true → WayH (nxE F) m b (hiB a (k + 1)) m (wysF (nxE F) m b a k).1 k) := fun k hk e => wys_way hm8 ha hl hk e
  have HHT : Hid (∀ k, a.testBit k = true → wysF (nxE F) m b a (k + 1) = (setW (wysF (nxE F) m b a k).1 (wayF (nxE F) m b (hiB a (k + 1)) m (wysF (nxE F) m b a k).1 k), (wysF (nxE F) m b a k).2 ++ [wayF (nxE F) m b (hiB a (k + 1)) m (wysF (nxE F) m b a k).1 k])) := fun k e => wys_hit e
  have HMS : Hid (∀ k, a.testBit k = false → wysF (nxE F) m b a (k + 1) = wysF (nxE F) m b a k) := fun k e => wys_miss e
  have HIV : Hid (∀ k, k ≤ m → (wysF (nxE F) m b a k).1 < 256) := fun k hk => lt256 hm8 (wys_inv hm8 ha hl k hk).1
  have HLN : Hid (∀ k, (wysF (nxE F) m b a k).2.length ≤ k) := wys_len
  have HWX : Hid (∀ k, k < m → a.testBit k = true → (wayF (nxE F) m b (hiB a (k + 1)) m (wysF (nxE F) m b a k).1 k).length ≤ 8 ∧ ∀ x ∈ wayF (nxE F) m b (hiB a (k + 1)) m (wysF (nxE F) m b a k).1 k, x < 8) := fun k hk e => by
    have hw := wys_way (f := nxE F) hm8 ha hl hk e
    have ok := (way_ok hm8 _ _ _ hw).1
    refine ⟨Nat.le_trans (okW_len hm8 _ _ hw.ll ok) (pop_le _ (lt256 hm8 hw.ll)), fun x hx => ?_⟩
    have := bit_n hw.ll (okW_mem _ _ ok x hx)
    omega
  have HZ : Hid (wysF (nxE F) m b a 0 = (2 ^ m - 1, [])) := rfl
  have HI := hid h
  obtain ⟨ad, cap, rfl, hlen, hc⟩ := h
  have ha8 := lt256 hm8 ha
  have HA := hid (fun k v w hv => has_any (hiB a k) v w (lt256 hm8 (hi_lt ha)) hv)
  clear hc hg hall h8 hE hl
  generalize hM : 2 ^ m - 1 = M at *
  go_enter Try.func12, Try.ntmps12
  go_wp2_with fail
  refine CG.out.mono ?_
  rintro e W ⟨rfl, hb1⟩
  have HB1 := hid (HB0.out.trans (hb1.mono HB0.out.size))
  have hwl : w.heap.size < W.heap.size := Nat.lt_of_lt_of_le (Array.getElem?_eq_some_iff.1 HN.out).1 hb1.size
  have hx := (hb1.block w.heap.size (Array.getElem?_eq_some_iff.1 HN.out).1).trans HN.out
  obtain ⟨z0, z1, _, _⟩ := two_cells hx
  have HX := hid hx
  clear hb1 hx HB0 HN CG
  have CELL : Hid (∀ w', Below W.heap.size W w' → w'.cell? ⟨w.heap.size, 0, none⟩ = some (.int .i64 m) ∧ w'.cell? ⟨w.heap.size, 1, none⟩ = some (.slice ad F.length cap)) := fun w' hb => by
    obtain ⟨y0, y1, _, _⟩ := two_cells ((hb.block w.heap.size hwl).trans HX.out)
    exact ⟨y0, y1⟩
  have NXB : Hid (∀ w', Below W.heap.size W w' → Calls Try.prog 26 #[.agg #[.int .i64 m, .slice ad F.length cap]] w' fun e w2 => ∃ g c, e = .returned (.slice (some ⟨g, 0, none⟩) m c) ∧ RkAt w2 (.slice (some ⟨g, 0, none⟩) m c) m (nxE F) ∧ Below W.heap.size W w2) := fun w' hb =>
    (NX.out w' ((HI.out.below HB1.out).below hb)).mono fun e w2 ⟨g, c, h1, _, h2, h3⟩ => ⟨g, c, h1, h2, hb.trans (h3.mono hb.size)⟩
  clear NX HI
  go_upto_region 4 with fail
  go_cut [9, 10] from 21 to 25 (fun x y Z => ∃ g c, x = .slice (some ⟨g, 0, none⟩) m c ∧ y = .int .i64 M ∧ Hid (RkAt Z (.slice (some ⟨g, 0, none⟩) m c) m (nxE F)) ∧ Hid (Below W.heap.size W Z))
  case first =>
    go_region_with (first
      | (go_at_call 26; refine (NXB.out _ (Below.refl _ W).drew).mono ?_; rintro e w5 ⟨gb, gc, rfl, hr5, hb5⟩; have HR5 := hid hr5; obtain ⟨q0, q1⟩ := CELL.out w5 hb5; have HB5 := hid hb5; clear hr5 hb5)
      | (go_at_call 27; refine (WH.out _).mono ?_; rintro e w6 ⟨rfl, rfl⟩))
    all_goals go_wp2_with fail
    all_goals go_meet
    all_goals exact ⟨_, _, rfl, rfl, HR5, HB5⟩
  case rest =>
  obtain ⟨g, c, rfl, rfl, RK, BZ⟩ := hcut
  have B5 := hid (HB1.out.trans (BZ.out.mono HB1.out.size))
  have L5 := hid (LI.out _ _ RK.out)
  clear z0 z1 NXB CELL WH LI
  go_wp2_with fail
  refine L5.out.mono ?_
  rintro e W6 ⟨rfl, rfl⟩
  clear L5
  go_wp2_with fail
  go_loopw [1, 10, 11, 12, 13, 34] (fun fr le al _ _ i wr => ∃ k : Nat, k ≤ m ∧ i = .int .i64 k ∧ fr = .int .i64 (hiB a k : Nat) ∧ le = .int .i64 ((wysF (nxE F) m b a k).1 : Nat) ∧ WysO W6.heap.size wr al (wysF (nxE F) m b a k).2 ∧ Hid (Below W6.heap.size W6 wr)) (fun _ _ _ _ _ i _ => m - (intOf i).toNat)
  case atStart => exact ⟨0, Nat.zero_le _, rfl, by rw [hi_zero], by rw [HZ.out], by rw [HZ.out]; exact WysO.nil _ _, Below.refl _ _⟩
  case round =>
    obtain ⟨k, hk, rfl, rfl, rfl, hwy, hnx⟩ := hrel
    have hsz := hnx.out.size
    have HWY := hid hwy
    have RKr := hid (RK.out.below hnx.out)
    clear hwy
    by_cases hlt : k < m
    · have hki : (k : Int) < (m : Int) := by omega
      have H1 := hid (HA.out k k wr (by omega))
      have hb1 : (hiB a k).testBit k = a.testBit k := by rw [hi_bit]; simp
      rw [hb1] at H1
      have hiv := HIV.out k hk
      have hln := HLN.out k
      rcases hbit : a.testBit k with _ | _
      · rw [hbit] at H1
        have MS := hid (HMS.out k hbit)
        have HO := hid (hi_out hbit)
        clear hbit hb1
        go_wp2_with fail
        refine H1.out.mono ?_
        rintro e w2 ⟨rfl, rfl⟩
        go_wp2_with fail
        go_roundw
        case rel => exact ⟨k + 1, by omega, by go_num, by rw [HO.out], by rw [MS.out], by rw [MS.out]; exact HWY.out, hnx.out⟩
        case measure => simp [intOf]; omega
      · rw [hbit] at H1
        have HT := hid (HHT.out k hbit)
        have HW := hid (WY.out k hlt hbit)
        obtain ⟨hwl8, hwx⟩ := HWX.out k hlt hbit
        have HH3 := hid (hi_in hbit).2.2
        have hi8 : hiB a k < 256 := lt256 hm8 (hi_lt ha)
        have hpw : wrap64 (2 ^ k) = ((2 ^ k : Nat) : Int) := (pow_wrap _ (by omega)).1
        have hp2 : 2 ^ k < 256 := two_pow8 (by omega)
        have han : bits .andNot .i64 ((hiB a k : Nat) : Int) ((2 ^ k : Nat) : Int) = ((hiB a (k + 1) : Nat) : Int) := by rw [i64_andNot_nat _ _ (by omega) (by omega)]; exact congrArg _ HH3.out.symm
        have hk64 : (k : Int) < 64 := by omega
        have F1 := hid (FW.out _ wr _ _ k RKr.out HW.out)
        clear hbit hb1 HW HH3
        generalize hwq : wayF (nxE F) m b (hiB a (k + 1)) m (wysF (nxE F) m b a k).1 k = WQ at *
        have WO : Hid (∀ u W, Ints W u (N WQ) → Calls Try.prog 31 #[.int .i64 ((wysF (nxE F) m b a k).1 : Nat), u] W fun e w' => e = .returned (.int .i64 (setW (wysF (nxE F) m b a k).1 WQ : Nat)) ∧ w' = W) := fun u W hu => lwithout_any _ u WQ W hiv hwx hu
        obtain ⟨Y1, hY1⟩ : ∃ Y1, wysF (nxE F) m b a (k + 1) = Y1 := ⟨_, rfl⟩
        have HY1 := hid hY1
        rw [hY1] at HT
        clear hY1 hwq hwx
        generalize hX : wysF (nxE F) m b a k = X at *
        obtain ⟨X1, X2⟩ := X
        dsimp only at *
        generalize setW X1 WQ = S1 at *
        obtain ⟨HB2, hHB2⟩ : ∃ HB2, hiB a (k + 1) = HB2 := ⟨_, rfl⟩
        have HHB := hid hHB2
        rw [hHB2] at han F1
        clear hHB2 hX
        generalize hiB a k = HB1' at *
        generalize hE2 : 2 ^ k = E2 at *
        go_wp2_with fail
        refine H1.out.mono ?_
        rintro e w2 ⟨rfl, rfl⟩
        go_wp2_with fail
        refine F1.out.mono ?_
        rintro e w3 ⟨r3, rfl, hr3, hb3⟩
        have B3 := hid (hnx.out.trans (hb3.mono hnx.out.size))
        have WY3 := hid (HWY.out.below hb3)
        have hr3' := hid (hr3.mono hnx.out.size)
        obtain ⟨ra, rc, hr⟩ := ownsRow_form' hr3
        subst hr
        clear hr3 hb3
        obtain ⟨us, u1, u2, u3⟩ := WY3.out
        have U3 := hid u3
        have hs3 := B3.out.size
        clear u3
        go_wp2_with (at_builtin; refine wpList_append_own _ rfl _ _ 29 rfl W6.heap.size 43 i0 (.slice none 0 0) 1 24 Try.undRowsW hi0 hz0 hz1 hz2 rfl (by decide) _ _ _ rfl (u2.alloc _) ⟨w3.heap.size, 0, none⟩ 1 1 [.slice ra WQ.length rc] rfl rfl ?d1 ?d2 ?d3 ?d4 ?d5 ?_)
        case d1 =>
          intro j u hu
          have hj : j < 1 := (List.getElem?_eq_some_iff.1 hu).1
          obtain rfl : j = 0 := by omega
          simp only [List.getElem?_cons_zero] at hu
          rw [← hu]
          exact (one_at (World.alloc_heap_new w3 (.cells #[.slice ra WQ.length rc] 43))).1.1
        case d2 => intro u hu; simp at hu; subst hu; rfl
        case d3 => unfold maxLen; omega
        case d4 => omega
        case d5 => simp; omega
        intro v' w4 hown' hgrow _
        have R4 := hid (WysO.snoc u1 u2 U3.out (hr3'.out) hown' hgrow)
        have Q4 := hid ((hr3'.out).sameW (keepW u2 hgrow))
        have B4 : Hid (Below W6.heap.size W6 w4) := (B3.out.alloc hs3 _).grown hgrow (by simp; omega) (fun j hj => (World.ownsRow.lt u2 j hj).1)
        have W4 := hid (WO.out _ w4 (Q4.out.ints (by omega)))
        obtain ⟨av, Lv, cv, hv'⟩ : ∃ av Lv cv, v' = .slice av Lv cv := by
          obtain ⟨a9, c9, e9⟩ := R4.out.form
          exact ⟨_, _, _, e9⟩
        subst hv'
        clear hown' hgrow
        go_wp2_with fail
        refine W4.out.mono ?_
        rintro e w9 ⟨rfl, rfl⟩
        go_wp2_with fail
        go_roundw
        case rel => exact ⟨k + 1, by omega, by go_num, by rw [HHB.out], by rw [HY1.out, HT.out], by rw [HY1.out, HT.out]; exact R4.out, B4.out⟩
        case measure => simp [intOf]; omega
    · obtain rfl : k = m := by omega
      have R9 := hid (HWY.out.mono B5.out.size)
      have B9 := hid (B5.out.trans (hnx.out.mono B5.out.size))
      obtain ⟨a9, c9, e9⟩ := HWY.out.form
      generalize hal : (wysF (nxE F) k b a k).2 = AL at *
      subst e9
      go_wp2_with fail
      go_ret2
      exact ⟨_, rfl, by rw [hal]; exact R9.out, B9.out⟩
set_option maxRecDepth 20000 in
set_option maxHeartbeats 4000000 in
theorem LWays_none (m a b : Nat) (v : Value) (F : List (Int × Int)) (w : World) (hg : lnkE m F a b = 0) (hl : lkB (nxE F) m b (2 ^ m - 1) a = false) (h : EdgesI w v F) :
    Calls Try.prog 12 #[.agg #[.int .i64 m, v], .int .i64 a, .int .i64 b] w fun e w' => e = .returned (.tuple #[.slice none 0 0, .int .i64 5]) ∧ Below w.heap.size w w' := by
  obtain ⟨m', a', b', e1, e2, e3, h1, h7, h8, hall, ha, hb, hE⟩ := lnk_good hg
  obtain rfl : m = m' := by omega
  obtain rfl : a = a' := by omega
  obtain rfl : b = b' := by omega
  clear e1 e2 e3
  have hm8 : m ≤ 8 := by omega
  have HB0 := hid (below_boxGr w #[.int .i64 m, v])
  have HN := hid (World.alloc_heap_new w (.cells #[.int .i64 m, v] 24))
  have CG := hid (lcheck_any m a b v F _ (h.below HB0.out))
  rw [hg] at CG
  have NX : Hid (∀ W, EdgesI W v F → Calls Try.prog 26 #[.agg #[.int .i64 m, v]] W fun e w' => ∃ g c, e = .returned (.slice (some ⟨g, 0, none⟩) m c) ∧ W.heap.size ≤ g ∧ RkAt w' (.slice (some ⟨g, 0, none⟩) m c) m (nxE F) ∧ Below W.heap.size W w') := fun W hW => nexts_own m v (natE F) W h1 h7 hE (hW.nat h8 hall)
  have WH := hid (fun w => wholeSet_any m w hm8)
  have FL : Hid (∀ i, i < m → nxE F i < 2 ^ m) := fun i _ => nxE_lt hE i
  have LI : Hid (∀ (u : Value) (W : World), RkAt W u m (nxE F) → Calls Try.prog 28 #[u, .int .i64 ((2 ^ m - 1 : Nat) : Int), .int .i64 a, .int .i64 b] W fun e w' => e = .returned (.bool false) ∧ w' = W) := fun u W hW => by
    have := linked_any m (2 ^ m - 1) a b (nxE F) u W hm8 (full_lt m) ha hb (fun i hi => lt256 hm8 (FL.out i hi)) hW
    change Calls _ _ _ _ (fun e w' => e = .returned (.bool (lkB (nxE F) m b (2 ^ m - 1) a)) ∧ w' = W) at this
    rw [hl] at this
    exact this
  have HI := hid h
  obtain ⟨ad, cap, rfl, hlen, hc⟩ := h
  clear hc hg hall h8 hE hl
  generalize hM : 2 ^ m - 1 = M at *
  go_enter Try.func12, Try.ntmps12
  go_wp2_with fail
  refine CG.out.mono ?_
  rintro e W ⟨rfl, hb1⟩
  have HB1 := hid (HB0.out.trans (hb1.mono HB0.out.size))
  have hwl : w.heap.size < W.heap.size := Nat.lt_of_lt_of_le (Array.getElem?_eq_some_iff.1 HN.out).1 hb1.size
  have hx := (hb1.block w.heap.size (Array.getElem?_eq_some_iff.1 HN.out).1).trans HN.out
  obtain ⟨z0, z1, _, _⟩ := two_cells hx
  have HX := hid hx
  clear hb1 hx HB0 HN CG
  have CELL : Hid (∀ w', Below W.heap.size W w' → w'.cell? ⟨w.heap.size, 0, none⟩ = some (.int .i64 m) ∧ w'.cell? ⟨w.heap.size, 1, none⟩ = some (.slice ad F.length cap)) := fun w' hb => by
    obtain ⟨y0, y1, _, _⟩ := two_cells ((hb.block w.heap.size hwl).trans HX.out)
    exact ⟨y0, y1⟩
  have NXB : Hid (∀ w', Below W.heap.size W w' → Calls Try.prog 26 #[.agg #[.int .i64 m, .slice ad F.length cap]] w' fun e w2 => ∃ g c, e = .returned (.slice (some ⟨g, 0, none⟩) m c) ∧ RkAt w2 (.slice (some ⟨g, 0, none⟩) m c) m (nxE F) ∧ Below W.heap.size W w2) := fun w' hb =>
    (NX.out w' ((HI.out.below HB1.out).below hb)).mono fun e w2 ⟨g, c, h1, _, h2, h3⟩ => ⟨g, c, h1, h2, hb.trans (h3.mono hb.size)⟩
  clear NX HI
  go_upto_region 4 with fail
  go_cut [9, 10] from 21 to 25 (fun x y Z => ∃ g c, x = .slice (some ⟨g, 0, none⟩) m c ∧ y = .int .i64 M ∧ Hid (RkAt Z (.slice (some ⟨g, 0, none⟩) m c) m (nxE F)) ∧ Hid (Below W.heap.size W Z))
  case first =>
    go_region_with (first
      | (go_at_call 26; refine (NXB.out _ (Below.refl _ W).drew).mono ?_; rintro e w5 ⟨gb, gc, rfl, hr5, hb5⟩; have HR5 := hid hr5; obtain ⟨q0, q1⟩ := CELL.out w5 hb5; have HB5 := hid hb5; clear hr5 hb5)
      | (go_at_call 27; refine (WH.out _).mono ?_; rintro e w6 ⟨rfl, rfl⟩))
    all_goals go_wp2_with fail
    all_goals go_meet
    all_goals exact ⟨_, _, rfl, rfl, HR5, HB5⟩
  case rest =>
  obtain ⟨g, c, rfl, rfl, RK, BZ⟩ := hcut
  have B5 := hid (HB1.out.trans (BZ.out.mono HB1.out.size))
  have L5 := hid (LI.out _ _ RK.out)
  clear z0 z1 NXB CELL WH LI
  go_wp2_with fail
  refine L5.out.mono ?_
  rintro e W6 ⟨rfl, rfl⟩
  clear L5
  go_wp2_with fail
  go_ret2
  exact ⟨rfl, B5.out⟩
set_option maxRecDepth 20000 in
set_option maxHeartbeats 1600000 in
theorem LWays_bad (n s t : Int) (v : Value) (F : List (Int × Int)) (w : World) (hg : lnkE n F s t ≠ 0) (h : EdgesI w v F) :
    Calls Try.prog 12 #[.agg #[.int .i64 n, v], .int .i64 s, .int .i64 t] w fun e w' => e = .returned (.tuple #[.slice none 0 0, .int .i64 (lnkE n F s t)]) ∧ Below w.heap.size w w' := by
  have HB0 := hid (below_boxGr w #[.int .i64 n, v])
  have CG := hid (lcheck_any n s t v F _ (h.below HB0.out))
  have HN := hid (World.alloc_heap_new w (.cells #[.int .i64 n, v] 24))
  have hq : (lnkE n F s t == 0) = false := by simpa using hg
  generalize lnkE n F s t = Q at *
  obtain ⟨ad, cap, rfl, hlen, hc⟩ := h
  clear hc
  go_enter Try.func12, Try.ntmps12
  go_wp2_with fail
  refine CG.out.mono ?_
  rintro e W ⟨rfl, hb1⟩
  have HB1 := hid (HB0.out.trans (hb1.mono HB0.out.size))
  clear hb1 HB0 HN CG
  go_wp2_with fail
  go_ret2
  exact ⟨rfl, HB1.out⟩
end Go.Proofs.Ytjnifcfcigcngaa
