/- axioms.RanksOfBoth. -/
import Derived.Test.YtgdcfogikchjeaaAxW
import Derived.Test.YtgdcfogikchjeaaOrdBW
namespace Go.Proofs.Ytgdcfogikchjeaa
open Go.RowKit

/-- What two matroids are answered, if one is none. -/
def chk2 (n : Int) (zs : List Int) (k : Int) (ys : List Int) : Int := if chkR n zs = 0 then chkR k ys else chkR n zs
def box2 (w : World) (n : Int) (v : Value) (k : Int) (u : Value) : World := (w.alloc (.cells #[.int .i64 n, v] 33)).alloc (.cells #[.int .i64 k, u] 33)
theorem box2_below (w : World) (n : Int) (v : Value) (k : Int) (u : Value) : Below w.heap.size w (box2 w n v k u) := ((Below.refl _ _).alloc (Nat.le_refl _) _).alloc (by simp) _
theorem box2_size (w : World) (n : Int) (v : Value) (k : Int) (u : Value) : (box2 w n v k u).heap.size = w.heap.size + 2 := by unfold box2; simp
theorem box2_blocks {w w2 : World} {n : Int} {v : Value} {k : Int} {u : Value} (hb2 : Below (box2 w n v k u).heap.size (box2 w n v k u) w2) :
    w2.heap[w.heap.size]? = some (.cells #[.int .i64 n, v] 33 (0, 0)) ∧ w2.heap[w.heap.size + 1]? = some (.cells #[.int .i64 k, u] 33 (0, 0)) := by
  have hs := box2_size w n v k u
  refine ⟨(hb2.block _ (by omega)).trans ?_, (hb2.block _ (by omega)).trans ?_⟩
  · unfold box2
    rw [Below.heap_alloc _ _ _ (by simp)]
    exact World.alloc_heap_new w _
  · unfold box2
    have := World.alloc_heap_new (w.alloc (.cells #[.int .i64 n, v] 33)) (.cells #[.int .i64 k, u] 33)
    simpa using this
theorem cells2 {w : World} {b : Nat} {x y : Value} {t : TypeId} (h : w.heap[b]? = some (.cells #[x, y] t (0, 0))) : w.cell? ⟨b, 0, none⟩ = some x ∧ w.cell? ⟨b, 1, none⟩ = some y := by
  refine ⟨?_, ?_⟩ <;> simp [World.cell?, h]
set_option maxHeartbeats 1000000 in
theorem both_bad (n k : Int) (v u : Value) (zs ys : List Int) (w : World) (h : Ints w v zs) (h' : Ints w u ys) (hc : chk2 n zs k ys ≠ 0) :
    Calls Try.prog 87 #[.agg #[.int .i64 n, v], .agg #[.int .i64 k, u]] w fun e w' => e = .returned (.tuple #[.slice none 0 0, .slice none 0 0, .int .i64 (chk2 n zs k ys)]) ∧ Below w.heap.size w w' := by
  have HI := hid h
  have HI' := hid h'
  obtain ⟨a, cap, rfl, _, _⟩ := h
  obtain ⟨a', cap', rfl, _, _⟩ := h'
  have HB0 := hid (box2_below w n (.slice a zs.length cap) k (.slice a' ys.length cap'))
  by_cases h1 : chkR n zs = 0
  · have e2 : chk2 n zs k ys = chkR k ys := by unfold chk2; rw [if_pos h1]
    rw [e2] at hc ⊢
    obtain ⟨m, l, rfl, hm, rfl, hf, hb⟩ := chk_of h1
    rw [N_len] at *
    have R1 := hid (Ranks_ok m _ l _ hm hf hb (HI.out.below HB0.out))
    have R2 := hid (fun w' (hb' : Below w.heap.size w w') => Ranks_bad k _ ys w' (HI'.out.below hb') hc)
    generalize chkR k ys = q at *
    have hc' : (q == 0) = false := by rw [beq_eq_false_iff_ne]; exact hc
    clear e2 h1
    generalize 2 ^ m = T at *
    go_enter Try.func87, Try.ntmps87
    go_wp2_with fail
    refine R1.out.mono ?_
    rintro e w1 ⟨r, rfl, hr, hb1⟩
    obtain ⟨b1, b2⟩ := box2_blocks hb1
    obtain ⟨x0, x1⟩ := cells2 b1
    obtain ⟨y0, y1⟩ := cells2 b2
    have HB1 := hid (HB0.out.trans (hb1.mono HB0.out.size))
    obtain ⟨rb, roff, rcap, rfl, _, _⟩ := hr
    clear hb1 b1 b2
    go_wp2_with fail
    refine (R2.out _ HB1.out).mono ?_
    rintro e w2 ⟨rfl, hb2⟩
    have HB2 := hid (HB1.out.trans (hb2.mono HB1.out.size))
    clear hb2
    go_wp2_with fail
    refine bodyPost_ret (v := .tuple #[.slice none 0 0, .slice none 0 0, .int .i64 q]) ?_ rfl ⟨rfl, HB2.out⟩
    simp [results, Try.f87, go_sem]
  · have e2 : chk2 n zs k ys = chkR n zs := by unfold chk2; rw [if_neg h1]
    rw [e2] at hc ⊢
    have R1 := hid (Ranks_bad n _ zs _ (HI.out.below HB0.out) h1)
    generalize chkR n zs = q at *
    have hc' : (q == 0) = false := by rw [beq_eq_false_iff_ne]; exact hc
    clear e2 h1
    go_enter Try.func87, Try.ntmps87
    go_wp2_with fail
    refine R1.out.mono ?_
    rintro e w1 ⟨rfl, hb1⟩
    have HB1 := hid (HB0.out.trans (hb1.mono HB0.out.size))
    clear hb1
    go_wp2_with fail
    refine bodyPost_ret (v := .tuple #[.slice none 0 0, .slice none 0 0, .int .i64 q]) ?_ rfl ⟨rfl, HB1.out⟩
    simp [results, Try.f87, go_sem]
set_option maxHeartbeats 1000000 in
theorem both_ok (m k : Nat) (v u : Value) (l l' : List Nat) (w : World) (hm : m ≤ 8) (hf : Fam m l) (hb : Bas l) (h : Ints w v (N l)) (hk : k ≤ 8) (hf' : Fam k l') (hb' : Bas l') (h' : Ints w u (N l')) :
    Calls Try.prog 87 #[.agg #[.int .i64 m, v], .agg #[.int .i64 k, u]] w fun e w' => ∃ r r', e = .returned (.tuple #[r, r', .int .i64 0]) ∧ RkAt w' r (2 ^ m) (rk l) ∧ RkAt w' r' (2 ^ k) (rk l') ∧ Below w.heap.size w w' := by
  have HI := hid h
  have HI' := hid h'
  obtain ⟨a, cap, hv, _, _⟩ := h
  obtain ⟨a', cap', hv', _, _⟩ := h'
  rw [N_len] at hv hv'
  subst hv
  subst hv'
  have HB0 := hid (box2_below w m (.slice a l.length cap) k (.slice a' l'.length cap'))
  have R1 := hid (Ranks_ok m _ l _ hm hf hb (HI.out.below HB0.out))
  have R2 := hid (fun w' (hb0 : Below w.heap.size w w') => Ranks_ok k _ l' w' hk hf' hb' (HI'.out.below hb0))
  generalize 2 ^ m = T at *
  generalize 2 ^ k = T' at *
  go_enter Try.func87, Try.ntmps87
  go_wp2_with fail
  refine R1.out.mono ?_
  rintro e w1 ⟨r, rfl, hr, hb1⟩
  obtain ⟨b1, b2⟩ := box2_blocks hb1
  obtain ⟨x0, x1⟩ := cells2 b1
  obtain ⟨y0, y1⟩ := cells2 b2
  have HB1 := hid (HB0.out.trans (hb1.mono HB0.out.size))
  have HR := hid hr
  obtain ⟨rb, roff, rcap, rfl, _, _⟩ := hr
  clear hb1 b1 b2
  go_wp2_with fail
  refine (R2.out _ HB1.out).mono ?_
  rintro e w2 ⟨r', rfl, hr', hb2⟩
  have HB2 := hid (HB1.out.trans (hb2.mono HB1.out.size))
  have HR1 := hid (HR.out.below hb2)
  have HR2 := hid hr'
  obtain ⟨rb', roff', rcap', rfl, _, _⟩ := hr'
  clear hb2
  go_wp2_with fail
  refine bodyPost_ret (v := .tuple #[.slice (some ⟨rb, roff, none⟩) T rcap, .slice (some ⟨rb', roff', none⟩) T' rcap', .int .i64 0]) ?_ rfl ⟨_, _, rfl, HR1.out, HR2.out, HB2.out⟩
  simp [results, Try.f87, go_sem]
end Go.Proofs.Ytgdcfogikchjeaa

namespace Go.Proofs.Ytgdcfogikchjeaa
open Go.RowKit

/-- A table of ranks that lies from block B on. -/
def RkOw (B : Nat) (w : World) (v : Value) (T : Nat) (r : Nat → Nat) : Prop := ∃ b off cap, v = .slice (some ⟨b, off, none⟩) T cap ∧ B ≤ b ∧ b < w.heap.size ∧ ∀ i, i < T → w.cell? ⟨b, off + i, none⟩ = some (.int .i64 (r i : Nat))
theorem RkOw.rkAt {B : Nat} {w : World} {v : Value} {T : Nat} {r : Nat → Nat} (h : RkOw B w v T r) : RkAt w v T r := by
  obtain ⟨b, off, cap, rfl, _, h1, h2⟩ := h
  exact ⟨b, off, cap, rfl, h1, h2⟩
theorem RkOw.below {B : Nat} {w w' : World} {v : Value} {T : Nat} {r : Nat → Nat} (h : RkOw B w v T r) (hb : Below w.heap.size w w') : RkOw B w' v T r := by
  obtain ⟨b, off, cap, rfl, h0, h1, h2⟩ := h
  exact ⟨b, off, cap, rfl, h0, Nat.lt_of_lt_of_le h1 hb.size, fun i hi => (hb.cell (p := ⟨b, off + i, none⟩) h1).trans (h2 i hi)⟩
theorem RkOw.mono {B B' : Nat} {w : World} {v : Value} {T : Nat} {r : Nat → Nat} (h : RkOw B w v T r) (hB : B' ≤ B) : RkOw B' w v T r := by
  obtain ⟨b, off, cap, rfl, h0, h1, h2⟩ := h
  exact ⟨b, off, cap, rfl, Nat.le_trans hB h0, h1, h2⟩
theorem RkOw.save {X : Nat → Prop} {B : Nat} {w w' : World} {v : Value} {T : Nat} {r : Nat → Nat} (h : RkOw B w v T r) (hs : Save X w w') (hX : ∀ k, X k → k < B) : RkOw B w' v T r := by
  obtain ⟨b, off, cap, rfl, h0, h1, h2⟩ := h
  exact ⟨b, off, cap, rfl, h0, Nat.lt_of_lt_of_le h1 hs.size, fun i hi => (World.cell?_of_block (w := w) (hs.block b h1 fun hx => by have := hX b hx; omega)).trans (h2 i hi)⟩
theorem Tbl.rkOw {B g : Nat} {w : World} {T cap : Nat} {f : Nat → Nat} (h : Tbl g w T f) (hB : B ≤ g) : RkOw B w (.slice (some ⟨g, 0, none⟩) T cap) T f := ⟨g, 0, cap, rfl, hB, h.size, fun i hi => by rw [Nat.zero_add]; exact h.cell i hi⟩

set_option maxRecDepth 20000 in
set_option maxHeartbeats 4000000 in
theorem ranks_own (n : Nat) (v : Value) (l : List Nat) (w : World) (hn : n ≤ 8) (hl : ∀ s ∈ l, s < 256) (h : Ints w v (N l)) :
    Calls Try.prog 83 #[.agg #[.int .i64 n, v]] w fun e w' => ∃ r, e = .returned r ∧ RkOw w.heap.size w' r (2 ^ n) (rk l) ∧ Below w.heap.size w w' := by
  obtain ⟨T, HT, hT2, hT1, hTw⟩ : ∃ T : Nat, Hid (T = 2 ^ n) ∧ T ≤ 256 ∧ 1 ≤ T ∧ wrap64 (2 ^ n) = (T : Int) := ⟨2 ^ n, rfl, (pow_wrap _ hn).2, Nat.one_le_two_pow, (pow_wrap _ hn).1⟩
  rw [← HT.out]
  obtain ⟨a, cap, rfl, hlen, hc⟩ := h.nats
  clear h
  have hmk := fun w => run_make_row' (P := Try.prog) 31 3 (.int .i64 0) 8 Try.underlying31 Try.infoInt rfl .i64 .i64 T (by omega) (by omega) w
  go_enter Try.func83, Try.ntmps83
  go_wp2_with fail
  obtain ⟨W1, hW1⟩ : ∃ W1, (w.alloc (.cells #[.int .i64 n, .slice a l.length cap] 33)).alloc (.cells (madeCells #[.int .i64 0] T) 3) = W1 := ⟨_, rfl⟩
  have hx1 : W1.cell? ⟨w.heap.size, 1, none⟩ = some (.slice a l.length cap) := by
    rw [← hW1]
    exact cellA _ (by rw [World.cell?_alloc_at _ _ _ _ rfl]; rfl)
  have tb : Tbl (w.heap.size + 1) W1 T (fun i => if i < 0 then rk l i else 0) := by
    have := Tbl.new (w.alloc (.cells #[.int .i64 n, .slice a l.length cap] 33)) T
    rw [World.size_alloc, hW1] at this
    exact this.congr (by simp)
  have hB0 : Below w.heap.size w W1 := by
    rw [← hW1]
    exact ((Below.refl _ w).alloc (Nat.le_refl _) _).alloc (by simp) _
  have hsz : W1.heap.size = w.heap.size + 1 + 1 := by rw [← hW1]; simp
  rw [hW1]
  clear hW1 hmk
  go_loopw [13] (fun i wr => ∃ k : Nat, k ≤ T ∧ i = .int .i64 k ∧ Tbl (w.heap.size + 1) wr T (fun i => if i < k then rk l i else 0) ∧ Below (w.heap.size + 1) W1 wr) (fun i _ => T - (intOf i).toNat)
  case atStart => exact ⟨0, Nat.zero_le _, rfl, tb, Below.refl _ _⟩
  case round =>
    obtain ⟨k, hk, rfl, htb, hnx⟩ := hrel
    have hx : wr.cell? ⟨w.heap.size, 1, none⟩ = some (.slice a l.length cap) := (hnx.cell (p := ⟨w.heap.size, 1, none⟩) (by show w.heap.size < _; omega)).trans hx1
    by_cases hlt : k < T
    · go_wp2_with fail
      go_loopw [19] (fun i wr => ∃ j : Nat, j ≤ l.length ∧ i = .int .i64 j ∧ Tbl (w.heap.size + 1) wr T (fun i => if i < k then rk l i else if i = k then rkTo l j k else 0) ∧ Below (w.heap.size + 1) W1 wr) (fun i _ => l.length - (intOf i).toNat)
      case atStart => exact ⟨0, Nat.zero_le _, rfl, htb.congr (fun i hi => by
        by_cases h1 : i < k
        · simp [h1]
        · by_cases h2 : i = k <;> simp [h1, h2, rkTo, rk]), hnx⟩
      case round =>
        rename_i wr0 _
        obtain ⟨j, hj, rfl, htb', hnx'⟩ := hrel
        by_cases hlt' : j < l.length
        · obtain ⟨b, off, rfl, hb, hcell⟩ := hc (by omega)
          have hck : wr.cell? ⟨b, off + j, none⟩ = some (.int .i64 (l.getD j 0 : Nat)) := (hnx'.cell (p := ⟨b, off + j, none⟩) (by show b < _; omega)).trans ((hB0.cell (p := ⟨b, off + j, none⟩) hb).trans (hcell j hlt'))
          have hcr := htb'.cell k hlt
          have hfr := htb'.frozen k
          simp only [Nat.lt_irrefl, if_false, if_true] at hcr
          have R := hid (rkTo_succ hlt' k)
          have hx8 := getD_lt hl j
          have h8 : rkTo l j k ≤ 8 := rk_le8 _ (fun s hs => hl s (List.mem_of_mem_take hs)) k
          clear hcell
          generalize l.getD j 0 = x at *
          generalize rkTo l j k = y at *
          have hand : bits .and .i64 (k : Int) (x : Int) = ((k &&& x : Nat) : Int) := i64_and_nat k x (by omega) (by omega)
          have hkx : k &&& x < 256 := and_lt (by omega)
          have hp8 := pop_le _ hkx
          generalize k &&& x = z at *
          have fin : ∀ (u : Nat), max y (pop z) = u → (∃ j_1 : Nat, j_1 ≤ l.length ∧ ((j : Int) + 1) = (j_1 : Int) ∧ (Tbl (w.heap.size + 1) (wr.setCell ⟨w.heap.size + 1, k, none⟩ (Value.int IntKind.i64 (u : Int))).drew T fun i => if i < k then rk l i else if i = k then rkTo l j_1 k else 0) ∧ Below (w.heap.size + 1) W1 (wr.setCell ⟨w.heap.size + 1, k, none⟩ (Value.int IntKind.i64 (u : Int))).drew) ∧ l.length - (intOf (Value.int IntKind.i64 ((j : Int) + 1))).toNat < l.length - (intOf (Value.int IntKind.i64 (j : Int))).toNat := fun u hu => by
            refine ⟨⟨j + 1, by omega, by omega, (htb'.set k u hlt (fun i hi => ?_)).drew, (hnx'.setCell (p := ⟨w.heap.size + 1, k, none⟩) (Nat.le_refl _) _).drew⟩, by simp [intOf]; omega⟩
            by_cases h1 : i < k
            · simp [h1]; omega
            · by_cases h2 : i = k
              · subst h2; simp [R.out, hu]
              · have h3 : ¬ k = i := fun e => h2 e.symm
                simp [h1, h2, h3]
          have FIN := hid fin
          clear fin
          go_wp2_with fail
          go_region_with (go_at_call 10; refine (size_any _ _ (by assumption)).mono ?_; rintro e w' ⟨rfl, rfl⟩)
          all_goals go_wp2_with fail
          all_goals first
            | exact FIN.out _ (Nat.max_eq_right (by omega))
            | exact FIN.out _ (Nat.max_eq_left (by omega))
        · have hj' : j = l.length := by omega
          subst hj'
          have HT' := hid (htb'.congr (f' := fun i => if i < k + 1 then rk l i else 0) (fun i hi => by
            by_cases h1 : i < k
            · have h3 : i < k + 1 := by omega
              simp [h1, h3]
            · by_cases h2 : i = k
              · subst h2; simp [rkTo]
              · have h3 : ¬ i < k + 1 := by omega
                simp [h1, h2, h3]))
          go_wp2_with fail
          go_roundw
          case rel => exact ⟨k + 1, by omega, by go_num, HT'.out, hnx'⟩
          case measure => simp [intOf]; omega
    · have hk' : k = T := by omega
      subst hk'
      have HT' := hid (htb.congr (f' := rk l) (fun i hi => by simp [hi]))
      go_wp2_with fail
      go_ret
      exact ⟨_, rfl, HT'.out.rkOw (by omega), hB0.trans (hnx.mono (by omega))⟩
set_option maxHeartbeats 1000000 in
theorem Ranks_own (m : Nat) (v : Value) (l : List Nat) (w : World) (hm : m ≤ 8) (hf : Fam m l) (hb : Bas l) (h : Ints w v (N l)) :
    Calls Try.prog 69 #[.agg #[.int .i64 m, v]] w fun e w' => ∃ r, e = .returned (.tuple #[r, .int .i64 0]) ∧ RkOw w.heap.size w' r (2 ^ m) (rk l) ∧ Below w.heap.size w w' := by
  have HI := hid h
  obtain ⟨a, cap, hv, _, _⟩ := h
  rw [N_len] at hv
  subst hv
  have hB0 : Below w.heap.size w (w.alloc (.cells #[.int .i64 m, .slice a l.length cap] 33)) := (Below.refl _ _).alloc (Nat.le_refl _) _
  have HC := hid (check_any m _ (N l) _ (HI.out.below hB0))
  have H0 := hid (chk_mk hm hf hb)
  have HR := hid (fun w' (hb' : Below w.heap.size w w') => ranks_own m _ l w' hm (hf.lt256 hm) (HI.out.below hb'))
  have HB0 := hid hB0
  clear hB0
  generalize 2 ^ m = T at *
  go_enter Try.func69, Try.ntmps69
  go_wp2_with fail
  refine HC.out.mono ?_
  rw [H0.out]
  rintro e w2 ⟨rfl, hb2⟩
  obtain ⟨x0, x1⟩ := box_cells hb2
  have HB2 := hid (HB0.out.trans (hb2.mono HB0.out.size))
  clear hb2
  go_wp2_with fail
  refine (HR.out _ HB2.out).mono ?_
  rintro e w3 ⟨r, rfl, hr, hb3⟩
  have HB3 := hid (HB2.out.trans (hb3.mono HB2.out.size))
  have HRK := hid (hr.mono HB2.out.size)
  obtain ⟨rb, roff, rcap, rfl, _, _, _⟩ := hr
  clear hb3
  go_wp2_with fail
  go_ret2
  exact ⟨_, rfl, HRK.out, HB3.out⟩
set_option maxHeartbeats 1000000 in
theorem both_own (m k : Nat) (v u : Value) (l l' : List Nat) (w : World) (hm : m ≤ 8) (hf : Fam m l) (hb : Bas l) (h : Ints w v (N l)) (hk : k ≤ 8) (hf' : Fam k l') (hb' : Bas l') (h' : Ints w u (N l')) :
    Calls Try.prog 87 #[.agg #[.int .i64 m, v], .agg #[.int .i64 k, u]] w fun e w' => ∃ r r', e = .returned (.tuple #[r, r', .int .i64 0]) ∧ RkOw w.heap.size w' r (2 ^ m) (rk l) ∧ RkOw w.heap.size w' r' (2 ^ k) (rk l') ∧ Below w.heap.size w w' := by
  have HI := hid h
  have HI' := hid h'
  obtain ⟨a, cap, hv, _, _⟩ := h
  obtain ⟨a', cap', hv', _, _⟩ := h'
  rw [N_len] at hv hv'
  subst hv
  subst hv'
  have HB0 := hid (box2_below w m (.slice a l.length cap) k (.slice a' l'.length cap'))
  have R1 := hid (Ranks_own m _ l _ hm hf hb (HI.out.below HB0.out))
  have R2 := hid (fun w' (hb0 : Below w.heap.size w w') => Ranks_own k _ l' w' hk hf' hb' (HI'.out.below hb0))
  generalize 2 ^ m = T at *
  generalize 2 ^ k = T' at *
  go_enter Try.func87, Try.ntmps87
  go_wp2_with fail
  refine R1.out.mono ?_
  rintro e w1 ⟨r, rfl, hr, hb1⟩
  obtain ⟨b1, b2⟩ := box2_blocks hb1
  obtain ⟨x0, x1⟩ := cells2 b1
  obtain ⟨y0, y1⟩ := cells2 b2
  have HB1 := hid (HB0.out.trans (hb1.mono HB0.out.size))
  have HR := hid (hr.mono HB0.out.size)
  obtain ⟨rb, roff, rcap, rfl, _, _, _⟩ := hr
  clear hb1 b1 b2
  go_wp2_with fail
  refine (R2.out _ HB1.out).mono ?_
  rintro e w2 ⟨r', rfl, hr', hb2⟩
  have HB2 := hid (HB1.out.trans (hb2.mono HB1.out.size))
  have HR1 := hid (HR.out.below hb2)
  have HR2 := hid (hr'.mono HB1.out.size)
  obtain ⟨rb', roff', rcap', rfl, _, _, _⟩ := hr'
  clear hb2
  go_wp2_with fail
  refine bodyPost_ret (v := .tuple #[.slice (some ⟨rb, roff, none⟩) T rcap, .slice (some ⟨rb', roff', none⟩) T' rcap', .int .i64 0]) ?_ rfl ⟨_, _, rfl, HR1.out, HR2.out, HB2.out⟩
  simp [results, Try.f87, go_sem]
end Go.Proofs.Ytgdcfogikchjeaa
