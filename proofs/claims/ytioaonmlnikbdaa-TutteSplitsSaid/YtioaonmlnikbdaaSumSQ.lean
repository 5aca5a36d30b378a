/- minors.Sum. -/
import Derived.Test.YtioaonmlnikbdaaBothQ
import Derived.Test.YtioaonmlnikbdaaIsIndW
import Derived.Test.YtioaonmlnikbdaaWithIndQ
import Derived.Test.YtioaonmlnikbdaaCplW
import Derived.Test.YtioaonmlnikbdaaPlainAll
namespace Go.Proofs.Ytioaonmlnikbdaa
open Go.RowKit

/-- Independent in a sum. -/
def sumI (n : Nat) (r r' : Nat → Nat) (s : Nat) : Bool := r (s % 2 ^ n) == pop (s % 2 ^ n) && r' (s / 2 ^ n) == pop (s / 2 ^ n)
set_option maxRecDepth 20000 in
set_option maxHeartbeats 1600000 in
theorem SumQ_ok (s n k p1 p2 p3 p4 : Nat) (va vb : Value) (r r' : Nat → Nat) (w : World) (hnk : n + k ≤ 8) (hs : s < 2 ^ (n + k))
    (h1 : w.cell? ⟨p1, 0, none⟩ = some va) (h2 : w.cell? ⟨p2, 0, none⟩ = some (.int .i64 (2 ^ n - 1 : Nat))) (h3 : w.cell? ⟨p3, 0, none⟩ = some vb) (h4 : w.cell? ⟨p4, 0, none⟩ = some (.int .i64 n)) (hA : RkAt w va (2 ^ n) r) (hB : RkAt w vb (2 ^ k) r') :
    Calls Try.prog 36 #[.int .i64 s, .pointer (some ⟨p1, 0, none⟩), .pointer (some ⟨p2, 0, none⟩), .pointer (some ⟨p3, 0, none⟩), .pointer (some ⟨p4, 0, none⟩)] w fun e w' => e = .returned (.bool (sumI n r r' s)) ∧ Below w.heap.size w w' := by
  have hTn := (pow_wrap n (by omega)).2
  have hTk := (pow_wrap k (by omega)).2
  have hx : s % 2 ^ n < 2 ^ n := mod_ltn n s
  have hy : s / 2 ^ n < 2 ^ k := div_ltn hs
  have hs8 : s < 256 := lt256 hnk hs
  have hn0 := Nat.two_pow_pos n
  have hm : s &&& (2 ^ n - 1) = s % 2 ^ n := Nat.and_two_pow_sub_one_eq_mod s n
  have hand : bits .and .i64 (s : Int) ((2 ^ n - 1 : Nat) : Int) = ((s % 2 ^ n : Nat) : Int) := by rw [i64_and_nat _ _ (by omega) (by omega), hm]
  have hdiv : (s : Int) / 2 ^ n = ((s / 2 ^ n : Nat) : Int) := by rw [Int.natCast_ediv]; simp
  have hnn : ¬ (n : Int) < 0 := by omega
  have I1 := hid (fun q => isInd_q va (2 ^ n) r (s % 2 ^ n) (w.drewN q) hTn hx (hA.below ⟨rfl, rfl, rfl, Nat.le_refl _, fun _ _ => rfl⟩))
  have I2 := hid (fun q => isInd_q vb (2 ^ k) r' (s / 2 ^ n) (w.drewN q) hTk hy (hB.below ⟨rfl, rfl, rfl, Nat.le_refl _, fun _ _ => rfl⟩))
  have HS : Hid (sumI n r r' s = (r (s % 2 ^ n) == pop (s % 2 ^ n) && r' (s / 2 ^ n) == pop (s / 2 ^ n))) := rfl
  have HWD : Hid (∀ q, Below w.heap.size w (w.drewN q)) := fun q => ⟨rfl, rfl, rfl, Nat.le_refl _, fun _ _ => rfl⟩
  obtain ⟨ab, aoff, acap, rfl, _, _⟩ := hA
  obtain ⟨bb, boff, bcap, rfl, _, _⟩ := hB
  clear hm
  generalize sumI n r r' s = Q at *
  generalize (r (s % 2 ^ n) == pop (s % 2 ^ n)) = q1 at *
  generalize (r' (s / 2 ^ n) == pop (s / 2 ^ n)) = q2 at *
  generalize s / 2 ^ n = y at *
  generalize s % 2 ^ n = x at *
  generalize 2 ^ n - 1 = F at *
  obtain ⟨A, HA⟩ : ∃ A, Hid (2 ^ n = A) := ⟨2 ^ n, Eq.refl (2 ^ n)⟩
  obtain ⟨B, HB⟩ : ∃ B, Hid (2 ^ k = B) := ⟨2 ^ k, Eq.refl (2 ^ k)⟩
  rw [HA.out] at h1 I1
  rw [HB.out] at h3 I2
  rcases q1 with _ | _
  · have HQ : Hid (Q = false) := by show _ = _; rw [HS.out]; simp
    go_enter Try.func36, Try.ntmps36
    go_wp2_with fail
    go_quiet ((first | (go_at_call 37; (with_reducible refine (I1.out _).mono ?_); rintro e w' ⟨rfl, k, rfl⟩; exact ⟨rfl, _, World.drewN_drewN _ _ _⟩) | (go_at_call 37; (with_reducible refine (I2.out _).mono ?_); rintro e w' ⟨rfl, k, rfl⟩; exact ⟨rfl, _, World.drewN_drewN _ _ _⟩)))
    go_wp2_with fail
    go_ret
    exact ⟨by rw [HQ.out]; rfl, HWD.out _⟩
  · have HQ : Hid (Q = q2) := by show _ = _; rw [HS.out]; simp
    go_enter Try.func36, Try.ntmps36
    go_wp2_with fail
    go_quiet ((first | (go_at_call 37; (with_reducible refine (I1.out _).mono ?_); rintro e w' ⟨rfl, k, rfl⟩; exact ⟨rfl, _, World.drewN_drewN _ _ _⟩) | (go_at_call 37; (with_reducible refine (I2.out _).mono ?_); rintro e w' ⟨rfl, k, rfl⟩; exact ⟨rfl, _, World.drewN_drewN _ _ _⟩)))
    go_wp2_with fail
    go_ret
    exact ⟨by rw [HQ.out]; rfl, HWD.out _⟩
theorem sumI_eq {n k : Nat} {r q : Nat → Nat} (hnk : n + k ≤ 8) (hr : RkOn n r) (hq : RkOn k q) {s : Nat} (hs : s < 2 ^ (n + k)) : sumI n r q s = (sumR n r q s == pop s) := by
  unfold sumI
  rw [Bool.eq_iff_iff, Bool.and_eq_true, beq_iff_eq, beq_iff_eq, beq_iff_eq, sum_ind hnk hr hq hs]
def BadU (w : World) (q : Int) (e : Ending) (w' : World) : Prop := e = .returned (.tuple #[.agg #[.int .i64 0, .slice none 0 0], .int .i64 q]) ∧ Below w.heap.size w w'
def box3 (w : World) (n : Int) (v : Value) (k : Int) (u : Value) : World := (box2 w n v k u).alloc (.cells #[.int .i64 0, .slice none 0 0] 24)
theorem box3_below (w : World) (n : Int) (v : Value) (k : Int) (u : Value) : Below w.heap.size w (box3 w n v k u) := (box2_below w n v k u).alloc (by rw [box2_size]; omega) _
theorem box3_size (w : World) (n : Int) (v : Value) (k : Int) (u : Value) : (box3 w n v k u).heap.size = w.heap.size + 3 := by unfold box3; simp [box2_size]
theorem box3_blocks {w w2 : World} {n : Int} {v : Value} {k : Int} {u : Value} (hb2 : Below (box3 w n v k u).heap.size (box3 w n v k u) w2) :
    w2.heap[w.heap.size]? = some (.cells #[.int .i64 n, v] 24 (0, 0)) ∧ w2.heap[w.heap.size + 1]? = some (.cells #[.int .i64 k, u] 24 (0, 0)) ∧ w2.heap[w.heap.size + 1 + 1]? = some (.cells #[.int .i64 0, .slice none 0 0] 24 (0, 0)) := by
  have hs := box3_size w n v k u
  have hs2 := box2_size w n v k u
  have h3 : Below (box2 w n v k u).heap.size (box2 w n v k u) (box3 w n v k u) := (Below.refl _ _).alloc (Nat.le_refl _) _
  obtain ⟨c0, c1⟩ := box2_blocks h3
  refine ⟨(hb2.block _ (by omega)).trans c0, (hb2.block _ (by omega)).trans c1, (hb2.block _ (by omega)).trans ?_⟩
  have := World.alloc_heap_new (box2 w n v k u) (.cells #[.int .i64 0, .slice none 0 0] 24)
  rw [hs2] at this
  exact this
theorem boxes_below (w : World) (x y : Value) : Below w.heap.size w ((w.alloc (.cells #[x] 22)).alloc (.cells #[y] 22)) := ((Below.refl _ _).alloc (Nat.le_refl _) _).alloc (by simp) _
theorem boxes_size (w : World) (x y : Value) : ((w.alloc (.cells #[x] 22)).alloc (.cells #[y] 22)).heap.size = w.heap.size + 2 := by simp
theorem boxes_cells (w : World) (x y : Value) : ((w.alloc (.cells #[x] 22)).alloc (.cells #[y] 22)).cell? ⟨w.heap.size, 0, none⟩ = some x ∧ ((w.alloc (.cells #[x] 22)).alloc (.cells #[y] 22)).cell? ⟨w.heap.size + 1, 0, none⟩ = some y := by
  have b1 := ((Boxed.new w 22 x).alloc (.cells #[y] 22)).cell
  have b2 := (Boxed.new (w.alloc (.cells #[x] 22)) 22 y).cell
  rw [World.size_alloc] at b2
  exact ⟨b1, b2⟩
set_option maxHeartbeats 1600000 in
theorem Sum_ok (m k : Nat) (v u : Value) (l l' : List Nat) (w : World) (hmk : m + k ≤ 8) (hf : Fam m l) (hb : Bas l) (h : Ints w v (N l)) (hf' : Fam k l') (hb' : Bas l') (h' : Ints w u (N l')) :
    Calls Try.prog 20 #[.agg #[.int .i64 m, v], .agg #[.int .i64 k, u]] w (GivesO w ((m + k : Nat) : Int) (sumL m l k l')) := by
  have hm : m ≤ 8 := by omega
  have hk : k ≤ 8 := by omega
  have HI := hid h
  have HI' := hid h'
  obtain ⟨a, cap, hv, -, -⟩ := h.nats
  subst hv
  obtain ⟨a', cap', hv, -, -⟩ := h'.nats
  subst hv
  have HB0 := hid (box3_below w m (.slice a l.length cap) k (.slice a' l'.length cap'))
  have HX : Hid (∀ w2, Below (box3 w m (.slice a l.length cap) k (.slice a' l'.length cap')).heap.size (box3 w m (.slice a l.length cap) k (.slice a' l'.length cap')) w2 → _) := fun w2 h => box3_blocks h
  have HSZ := hid (box3_size w m (.slice a l.length cap) k (.slice a' l'.length cap'))
  have R1 := hid (both_ok m k _ _ l l' _ hm hf hb (HI.out.below HB0.out) hk hf' hb' (HI'.out.below HB0.out))
  obtain ⟨acc, HACC⟩ : ∃ acc : List Nat, Hid (sumL m l k l' = acc) := ⟨_, rfl⟩
  rw [HACC.out]
  have hadd : wrap64 ((m : Int) + (k : Int)) = ((m + k : Nat) : Int) := by
    rw [← IntWalk.i64_left, show ((m : Int) + (k : Int)) = ((m + k : Nat) : Int) by omega]
    exact wrap_i64_nat _ (by omega)
  have hle : ¬ (8 : Int) < ((m + k : Nat) : Int) := by omega
  go_enter Try.func20, Try.ntmps20
  go_wp2_with fail
  refine R1.out.mono ?_
  rintro e w1 ⟨r, r', rfl, hr, hr', hb1⟩
  obtain ⟨hx0, hx1, hx2⟩ := HX.out w1 hb1
  have HB1 := hid (HB0.out.trans (hb1.mono HB0.out.size))
  have hsz1 : w.heap.size + 3 ≤ w1.heap.size := by have := hb1.size; have := HSZ.out; omega
  have HR1 := hid hr
  have HR2 := hid hr'
  obtain ⟨rb, roff, rcap, rfl, -, -⟩ := hr
  obtain ⟨rb', roff', rcap', rfl, -, -⟩ := hr'
  have hbb := boxes_below w1 (.slice (some ⟨rb, roff, none⟩) (2 ^ m) rcap) (.slice (some ⟨rb', roff', none⟩) (2 ^ k) rcap')
  obtain ⟨q1, q2⟩ := boxes_cells w1 (.slice (some ⟨rb, roff, none⟩) (2 ^ m) rcap) (.slice (some ⟨rb', roff', none⟩) (2 ^ k) rcap')
  have hsz2 := boxes_size w1 (.slice (some ⟨rb, roff, none⟩) (2 ^ m) rcap) (.slice (some ⟨rb', roff', none⟩) (2 ^ k) rcap')
  obtain ⟨z0, z1, _, _⟩ := two_cells ((hbb.block (w.heap.size) (by omega)).trans hx0)
  obtain ⟨z2, z3, _, _⟩ := two_cells ((hbb.block (w.heap.size + 1) (by omega)).trans hx1)
  have HW := hid (HB1.out.trans (hbb.mono HB1.out.size))
  have HRA := hid (HR1.out.below hbb)
  have HRB := hid (HR2.out.below hbb)
  have HZ0 := hid ((hbb.block (w.heap.size) (by omega)).trans hx0)
  have HZ2 := hid ((hbb.block (w.heap.size + 1 + 1) (by omega)).trans hx2)
  have WH := hid (fun w' => wholeSet_any m w' hm)
  have HQ1 := hid q1
  have HQ2 := hid q2
  clear hb1 HX HSZ R1 hx0 hx1 hx2 hbb HR1 HR2
  generalize hWB : (w1.alloc (.cells #[.slice (some ⟨rb, roff, none⟩) (2 ^ m) rcap] 22)).alloc (.cells #[.slice (some ⟨rb', roff', none⟩) (2 ^ k) rcap'] 22) = WB at *
  go_wp2_with fail
  refine (WH.out _).mono ?_
  rintro e w' ⟨rfl, hw'⟩
  obtain rfl := hw'.symm
  clear hWB q1 q2 WH
  have b3 : Below WB.heap.size WB (WB.alloc (.cells #[.int .i64 ((2 ^ m - 1 : Nat) : Int)] 3)) := (Below.refl _ _).alloc (Nat.le_refl _) _
  have x3 := (Boxed.new WB 3 (.int .i64 ((2 ^ m - 1 : Nat) : Int))).cell
  have OI := hid (ofInd_any (m + k) 36 #[.pointer (some ⟨w1.heap.size, 0, none⟩), .pointer (some ⟨WB.heap.size, 0, none⟩), .pointer (some ⟨w1.heap.size + 1, 0, none⟩), .pointer (some ⟨w.heap.size, 0, none⟩)] (sumI m (rk l) (rk l')) (WB.alloc (.cells #[.int .i64 ((2 ^ m - 1 : Nat) : Int)] 3)) hmk (fun args w => enters_of Try.func36 (by kernel_rfl) rfl args w)
    (fun x hx w3 hb3 _ => by
      have hbb := b3.trans (hb3.mono b3.size)
      exact SumQ_ok x m k w1.heap.size WB.heap.size (w1.heap.size + 1) w.heap.size _ _ (rk l) (rk l') w3 hmk hx ((hbb.cell (p := ⟨w1.heap.size, 0, none⟩) (by show w1.heap.size < _; omega)).trans HQ1.out) ((hb3.cell (p := ⟨WB.heap.size, 0, none⟩) (by show WB.heap.size < _; simp)).trans x3) ((hbb.cell (p := ⟨w1.heap.size + 1, 0, none⟩) (by show w1.heap.size + 1 < _; omega)).trans HQ2.out) ((hbb.cell (p := ⟨w.heap.size, 0, none⟩) (by show w.heap.size < _; omega)).trans (two_cells HZ0.out).1) (HRA.out.below hbb) (HRB.out.below hbb)))
  rw [ofInd_eq (r := sumR m (rk l) (rk l')) hmk (sum_rkOn hmk (hb.rkOn m) (hb'.rkOn k)) (fun s hs => sumI_eq hmk (hb.rkOn m) (hb'.rkOn k) hs), show basR (m + k) (sumR m (rk l) (rk l')) = acc from HACC.out] at OI
  have z3 := World.size_alloc WB (.cells #[.int .i64 ((2 ^ m - 1 : Nat) : Int)] 3)
  have hxx := hid ((b3.block (w.heap.size + 1 + 1) (by omega)).trans HZ2.out)
  obtain ⟨y0, y1, _, _⟩ := two_cells ((b3.block (w.heap.size) (by omega)).trans HZ0.out)
  obtain ⟨y2, y3⟩ : (WB.alloc (.cells #[.int .i64 ((2 ^ m - 1 : Nat) : Int)] 3)).cell? ⟨w.heap.size + 1, 0, none⟩ = some (.int .i64 k) ∧ True := ⟨(b3.cell (p := ⟨w.heap.size + 1, 0, none⟩) (by show w.heap.size + 1 < _; omega)).trans z2, trivial⟩
  have HW3 := hid (HW.out.trans (b3.mono HW.out.size))
  push_cast at OI
  clear b3 x3 HRA HRB HQ1 HQ2 z0 z1 z2 y3
  generalize (2 ^ m - 1 : Nat) = F at *
  generalize 2 ^ m = T at *
  generalize 2 ^ k = T' at *
  rw [hsz2] at OI
  go_wp2_with fail
  refine OI.out.mono ?_
  rintro e w4 ⟨r4, rfl, hr4, hb4⟩
  obtain ⟨ra, rc, hr⟩ := ownsRow_form' hr4
  subst hr
  have hx4 := (hb4.block (w.heap.size + 1 + 1) (by omega)).trans hxx.out
  obtain ⟨y4, y5, g2, g3⟩ := two_cells hx4
  have HC := hid (set_two (x := .int .i64 ((m : Int) + (k : Int))) (y := .slice ra acc.length rc) hx4)
  have HD := hid (below_two (b := w.heap.size + 1 + 1) (x := .int .i64 ((m : Int) + (k : Int))) (y := .slice ra acc.length rc) (HW3.out.trans (hb4.mono HW3.out.size)) (by omega))
  have HII := hid ((hr4.set2 (b := w.heap.size + 1 + 1) (x := .int .i64 ((m : Int) + (k : Int))) (y := .slice ra acc.length rc) (by omega)).mono (by omega : w.heap.size ≤ _))
  clear hb4 hr4 hx4 hxx OI y0 y1 y2 z3 HZ0 HZ2
  go_wp2_with fail
  obtain ⟨c0, c1⟩ := HC.out
  refine bodyPost_ret (v := .tuple #[.agg #[.int .i64 ((m : Int) + (k : Int)), .slice ra _ rc], .int .i64 0]) ?_ rfl ⟨_, by rw [show ((m + k : Nat) : Int) = (m : Int) + (k : Int) by omega], HII.out, HD.out⟩
  simp [results, Try.f20, go_sem, c0, c1]
set_option maxHeartbeats 1600000 in
/-- Two matroids with more than eight elements together: ErrLarge. -/
theorem Sum_large (m k : Nat) (v u : Value) (l l' : List Nat) (w : World) (hm : m ≤ 8) (hk : k ≤ 8) (hmk : 8 < m + k) (hf : Fam m l) (hb : Bas l) (h : Ints w v (N l)) (hf' : Fam k l') (hb' : Bas l') (h' : Ints w u (N l')) :
    Calls Try.prog 20 #[.agg #[.int .i64 m, v], .agg #[.int .i64 k, u]] w (BadU w 2) := by
  have HI := hid h
  have HI' := hid h'
  obtain ⟨a, cap, hv, -, -⟩ := h.nats
  subst hv
  obtain ⟨a', cap', hv, -, -⟩ := h'.nats
  subst hv
  have HB0 := hid (box3_below w m (.slice a l.length cap) k (.slice a' l'.length cap'))
  have HX : Hid (∀ w2, Below (box3 w m (.slice a l.length cap) k (.slice a' l'.length cap')).heap.size (box3 w m (.slice a l.length cap) k (.slice a' l'.length cap')) w2 → _) := fun w2 h => box3_blocks h
  have HSZ := hid (box3_size w m (.slice a l.length cap) k (.slice a' l'.length cap'))
  have R1 := hid (both_ok m k _ _ l l' _ hm hf hb (HI.out.below HB0.out) hk hf' hb' (HI'.out.below HB0.out))
  have hadd : wrap64 ((m : Int) + (k : Int)) = ((m + k : Nat) : Int) := by
    rw [← IntWalk.i64_left, show ((m : Int) + (k : Int)) = ((m + k : Nat) : Int) by omega]
    exact wrap_i64_nat _ (by omega)
  have hle : (8 : Int) < ((m + k : Nat) : Int) := by omega
  have hle' : (8 : Int) < (m : Int) + (k : Int) := by omega
  generalize 2 ^ m = T at *
  generalize 2 ^ k = T' at *
  go_enter Try.func20, Try.ntmps20
  go_wp2_with fail
  refine R1.out.mono ?_
  rintro e w1 ⟨r, r', rfl, hr, hr', hb1⟩
  obtain ⟨hx0, hx1, hx2⟩ := HX.out w1 hb1
  have HB1 := hid (HB0.out.trans (hb1.mono HB0.out.size))
  have hsz1 : w.heap.size + 3 ≤ w1.heap.size := by have := hb1.size; have := HSZ.out; omega
  obtain ⟨rb, roff, rcap, rfl, -, -⟩ := hr
  obtain ⟨rb', roff', rcap', rfl, -, -⟩ := hr'
  have hbb := boxes_below w1 (.slice (some ⟨rb, roff, none⟩) T rcap) (.slice (some ⟨rb', roff', none⟩) T' rcap')
  have hxx := (hbb.block (w.heap.size + 1 + 1) (by omega)).trans hx2
  obtain ⟨z0, _, _, _⟩ := two_cells ((hbb.block (w.heap.size) (by omega)).trans hx0)
  obtain ⟨z1, _, _, _⟩ := two_cells ((hbb.block (w.heap.size + 1) (by omega)).trans hx1)
  have HW := hid (HB1.out.trans (hbb.mono HB1.out.size))
  obtain ⟨y2, y3, g2, g3⟩ := two_cells hxx
  have HC := hid (set_two (x := .int .i64 0) (y := .slice none 0 0) hxx)
  have HD := hid (below_two (b := w.heap.size + 1 + 1) (x := .int .i64 0) (y := .slice none 0 0) HW.out (by omega))
  clear hb1 HX HSZ R1 hx0 hx1 hbb hxx hx2
  go_wp2_with fail
  obtain ⟨c0, c1⟩ := HC.out
  refine bodyPost_ret (v := .tuple #[.agg #[.int .i64 0, .slice none 0 0], .int .i64 2]) ?_ rfl ⟨rfl, HD.out⟩
  simp [results, Try.f20, go_sem, c0, c1]
end Go.Proofs.Ytioaonmlnikbdaa
