/- minors.classes, minors.Classes. -/
import Derived.Test.YthbldeloocmakabGreatCompW
import Derived.Test.YthbldeloocmakabGreatWithoutQ
namespace Go.Proofs.YthbldeloocmakabGreat
open Go.RowKit

theorem drewN_b (B : Nat) (w : World) (n : Nat) : Below B w (w.drewN n) := ⟨rfl, rfl, rfl, Nat.le_refl _, fun _ _ => rfl⟩
/-- Two elements that are loops, or that lie together on one line. -/
def par (r : Nat → Nat) (i j : Nat) : Bool := r (bt i ||| bt j) == r (bt i) && r (bt i ||| bt j) == r (bt j)
set_option maxRecDepth 20000 in
set_option maxHeartbeats 1600000 in
theorem ClsQ_ok (i j m bR : Nat) (v : Value) (r : Nat → Nat) (w : World) (hi : i < m) (hj : j < m) (hm : m ≤ 8) (hb : w.cell? ⟨bR, 0, none⟩ = some v) (h : RkAt w v (2 ^ m) r) :
    Calls Tryz.prog 84 #[.int .i64 (bt i : Nat), .int .i64 (bt j : Nat), .pointer (some ⟨bR, 0, none⟩)] w fun e w' => e = .returned (.bool (par r i j)) ∧ Below w.heap.size w w' := by
  obtain ⟨rb, roff, rcap, rfl, hrb, hrc⟩ := h
  have hi2 : bt i < 2 ^ m := Nat.pow_lt_pow_right (by decide) hi
  have hj2 : bt j < 2 ^ m := Nat.pow_lt_pow_right (by decide) hj
  have hij : bt i ||| bt j < 2 ^ m := Nat.or_lt_two_pow hi2 hj2
  have hT := (pow_wrap m hm).2
  have c1 := hrc _ hi2
  have c2 := hrc _ hj2
  have c3 := hrc _ hij
  have hor : bits .or .i64 (bt i : Int) (bt j : Int) = ((bt i ||| bt j : Nat) : Int) := i64_or_nat _ _ (by omega) (by omega)
  have HP : Hid (par r i j = (r (bt i ||| bt j) == r (bt i) && r (bt i ||| bt j) == r (bt j))) := rfl
  generalize par r i j = Q at *
  generalize bt i ||| bt j = z at *
  generalize bt i = x at *
  generalize bt j = y at *
  generalize 2 ^ m = T at *
  have hxi : (x : Int) < (T : Int) := by omega
  have hyi : (y : Int) < (T : Int) := by omega
  have hzi : (z : Int) < (T : Int) := by omega
  clear hrc
  generalize r x = rx at *
  generalize r y = ry at *
  generalize r z = rz at *
  by_cases h1 : rz = rx
  · subst h1
    by_cases h2 : rz = ry
    · subst h2
      have HQ : Hid (Q = true) := by show _ = _; rw [HP.out]; simp
      go_enter Tryz.func84, Tryz.ntmps84
      go_wp2_with fail
      go_quiet (fail)
      go_wp2_with fail
      go_ret
      exact ⟨by rw [HQ.out]; exact ret_bool (by simp), drewN_b _ _ _⟩
    · have HQ : Hid (Q = false) := by show _ = _; rw [HP.out]; simp [h2]
      have h2' : ((rz : Int) == (ry : Int)) = false := by simp; omega
      go_enter Tryz.func84, Tryz.ntmps84
      go_wp2_with fail
      go_quiet (fail)
      go_wp2_with fail
      go_ret
      exact ⟨by rw [HQ.out]; exact ret_bool (by simp), drewN_b _ _ _⟩
  · have HQ : Hid (Q = false) := by show _ = _; rw [HP.out]; simp [h1]
    have h1' : ((rz : Int) == (rx : Int)) = false := by simp; omega
    go_enter Tryz.func84, Tryz.ntmps84
    go_wp2_with fail
    go_quiet (fail)
    go_wp2_with fail
    go_ret
    exact ⟨by rw [HQ.out]; exact ret_bool (by simp), drewN_b _ _ _⟩
/-- What classes tells: the classes, in rising order. -/
def ClsS (m : Nat) (r : Nat → Nat) (L' : List Nat) : Prop := ∃ L, Prts (par r) (2 ^ m - 1) L ∧ L'.Perm L ∧ L'.Pairwise (· ≤ ·)
set_option maxHeartbeats 1600000 in
theorem classes_any (m : Nat) (v : Value) (r : Nat → Nat) (w : World) (hm : m ≤ 8) (h : RkAt w v (2 ^ m) r) :
    Calls Tryz.prog 56 #[.int .i64 m, v] w fun e w' => ∃ q L', e = .returned q ∧ ClsS m r L' ∧ Own w.heap.size w' q L' ∧ Below w.heap.size w w' := by
  have hmf : ∀ (fn : Fn) (first cap : Array Value) (w : World), (Instr.makeFunc fn first cap).run Tryz.prog w = .ok (.func fn first cap) w := fun _ _ _ _ => rfl
  have hB3 : Below w.heap.size w (w.alloc (.cells #[v] 22)) := (Below.refl _ _).alloc (Nat.le_refl _) _
  have hs3 : (w.alloc (.cells #[v] 22)).heap.size = w.heap.size + 1 := by simp
  have b2 := (cellN w v 22).1
  have PA := hid (part_any m 84 #[.pointer (some ⟨w.heap.size, 0, none⟩)] (par r) (w.alloc (.cells #[v] 22)) hm (fun args w => enters_of Tryz.func84 (by kernel_rfl) rfl args w)
    (fun i j hi hj w3 hb3 _ => ClsQ_ok i j m w.heap.size v r w3 hi hj hm ((hb3.cell (p := ⟨w.heap.size, 0, none⟩) (by simp)).trans b2) ((h.below hB3).below hb3)))
  have HB3 := hid hB3
  obtain ⟨rb, roff, rcap, rfl, _, _⟩ := h
  clear b2 hB3
  go_enter Tryz.func56, Tryz.ntmps56
  go_wp2_with fail
  refine PA.out.mono ?_
  rintro e w4 ⟨r4, L, L', rfl, hP, hperm, hpair, ho4, hb4⟩
  have HCM : Hid (ClsS m r L') := ⟨L, hP, hperm, hpair⟩
  have HO4 := hid (ho4.mono (by omega : w.heap.size ≤ _))
  have HB4 := hid (HB3.out.trans (hb4.mono HB3.out.size))
  clear hP hperm hpair ho4 hb4
  go_wp2_with fail
  go_ret
  exact ⟨_, _, rfl, HCM.out, HO4.out, HB4.out⟩
set_option maxHeartbeats 1600000 in
theorem Classes_ok (m : Nat) (v : Value) (l : List Nat) (w : World) (hm : m ≤ 8) (hf : Fam m l) (hb : Bas l) (h : Ints w v (N l)) :
    Calls Tryz.prog 20 #[.agg #[.int .i64 m, v]] w fun e w' => ∃ q L', e = .returned (.tuple #[q, .int .i64 0]) ∧ ClsS m (rk l) L' ∧ Own w.heap.size w' q L' ∧ Below w.heap.size w w' := by
  have HB0 := hid (below_boxR w #[.int .i64 m, v])
  have RK := hid (Ranks_ok m _ l _ hm hf hb (h.below HB0.out))
  have HN := hid (World.alloc_heap_new w (.cells #[.int .i64 m, v] 24))
  have hsz : (w.alloc (.cells #[.int .i64 m, v] 24)).heap.size = w.heap.size + 1 := by simp
  obtain ⟨a, cap, rfl, _, _⟩ := h.nats
  go_enter Tryz.func20, Tryz.ntmps20
  go_wp2_with fail
  refine RK.out.mono ?_
  rintro e w1 ⟨r1, rfl, hr1, hb1⟩
  have HR1 := hid hr1
  have HB1 := hid (HB0.out.trans (hb1.mono HB0.out.size))
  obtain ⟨x0, x1, _, _⟩ := two_cells ((hb1.block _ (by omega)).trans HN.out)
  have CA := hid (classes_any m r1 (rk l) w1 hm hr1)
  obtain ⟨rb, roff, rcap, rfl, _, _⟩ := hr1
  clear hb1
  go_wp2_with fail
  refine CA.out.mono ?_
  rintro e w2 ⟨q2, L', rfl, hc, ho2, hb2⟩
  have HC := hid hc
  have HO2 := hid (ho2.mono HB1.out.size)
  have HB2 := hid (HB1.out.trans (hb2.mono HB1.out.size))
  clear hc ho2 hb2
  go_wp2_with fail
  go_ret2
  exact ⟨_, _, rfl, HC.out, HO2.out, HB2.out⟩
theorem Classes_bad (n : Int) (v : Value) (zs : List Int) (w : World) (h : Ints w v zs) (hc : chkR n zs ≠ 0) :
    Calls Tryz.prog 20 #[.agg #[.int .i64 n, v]] w fun e w' => e = .returned (.tuple #[.slice none 0 0, .int .i64 (chkR n zs)]) ∧ Below w.heap.size w w' := by
  have HB0 := hid (below_boxR w #[.int .i64 n, v])
  have RK := hid (Ranks_bad n _ zs _ (h.below HB0.out) hc)
  have hq : ((chkR n zs) != 0) = true := by rw [bne_iff_ne]; exact hc
  obtain ⟨a, cap, rfl, _, _⟩ := h
  generalize chkR n zs = q at *
  go_enter Tryz.func20, Tryz.ntmps20
  go_wp2_with fail
  refine RK.out.mono ?_
  rintro e w1 ⟨rfl, hb1⟩
  have HB := hid ((HB0.out.trans (hb1.mono HB0.out.size)))
  clear hb1
  go_wp2_with fail
  go_ret2
  exact ⟨rfl, HB.out⟩
end Go.Proofs.YthbldeloocmakabGreat

namespace Go.Proofs.YthbldeloocmakabGreat
open Go.RowKit

set_option maxHeartbeats 800000 in
theorem Delete_ok (m s : Nat) (v : Value) (l : List Nat) (w : World) (hm : m ≤ 8) (hf : Fam m l) (hb : Bas l) (h : Ints w v (N l)) (hs : s < 2 ^ m) :
    Calls Tryz.prog 63 #[.agg #[.int .i64 m, v], .int .i64 s] w (GivesO w (pop (dif (2 ^ m - 1) s) : Nat) (minL m l s 0)) := by
  have HI := hid h
  obtain ⟨a, cap, hv, _, _⟩ := h.nats
  subst hv
  have HB0 := hid (boxM_below w m (.slice a l.length cap))
  have HC := hid (without_ok m s 0 _ l _ hm hf hb (HI.out.below HB0.out) hs (Nat.two_pow_pos m))
  have HX : Hid (∀ w2, Below (boxM w m (.slice a l.length cap)).heap.size (boxM w m (.slice a l.length cap)) w2 → _) := fun w2 h => boxM_blocks h
  have HS := hid (boxM_size w m (.slice a l.length cap))
  generalize pop (dif (2 ^ m - 1) s) = n2 at *
  generalize minL m l s 0 = acc at *
  go_enter Tryz.func63, Tryz.ntmps63
  go_wp2_with fail
  refine HC.out.mono ?_
  rintro e w4 ⟨r4, rfl, hr4, hb4⟩
  obtain ⟨_, hx1⟩ := HX.out w4 hb4
  have HB4 := hid (HB0.out.trans (hb4.mono HB0.out.size))
  have HF := hid (ownsRow_form' hr4)
  obtain ⟨ra, rc, hr⟩ := HF.out
  subst hr
  have HC := hid (set_two (x := .int .i64 n2) (y := .slice ra acc.length rc) hx1)
  have HD := hid (below_two (b := w.heap.size + 1) (x := .int .i64 n2) (y := .slice ra acc.length rc) HB4.out (by omega))
  have HII := hid ((hr4.set2 (b := w.heap.size + 1) (x := .int .i64 n2) (y := .slice ra acc.length rc) (by have := HS.out; omega)).mono (by have := HS.out; omega : w.heap.size ≤ _))
  obtain ⟨y2, y3, g2, g3⟩ := two_cells hx1
  clear hb4 hr4 hx1
  go_wp2_with fail
  obtain ⟨c0, c1⟩ := HC.out
  refine bodyPost_ret (v := .tuple #[.agg #[.int .i64 n2, .slice ra _ rc], .int .i64 0]) ?_ rfl ⟨_, rfl, HII.out, HD.out⟩
  simp [results, Tryz.f63, go_sem, c0, c1]
set_option maxHeartbeats 800000 in
theorem Delete_bad (n s : Int) (v : Value) (zs : List Int) (w : World) (h : Ints w v zs) (hc : chkR n zs ≠ 0) :
    Calls Tryz.prog 63 #[.agg #[.int .i64 n, v], .int .i64 s] w (BadM w (chkR n zs)) := by
  have HI := hid h
  obtain ⟨a, cap, rfl, _, _⟩ := h
  have HB0 := hid (boxM_below w n (.slice a zs.length cap))
  have HC := hid (without_bad n s 0 _ zs _ (HI.out.below HB0.out) hc)
  have HX : Hid (∀ w2, Below (boxM w n (.slice a zs.length cap)).heap.size (boxM w n (.slice a zs.length cap)) w2 → _) := fun w2 h => boxM_blocks h
  generalize chkR n zs = q at *
  go_enter Tryz.func63, Tryz.ntmps63
  go_wp2_with fail
  refine HC.out.mono ?_
  rintro e w4 ⟨rfl, hb4⟩
  obtain ⟨_, hx1⟩ := HX.out w4 hb4
  have HB4 := hid (HB0.out.trans (hb4.mono HB0.out.size))
  have HC := hid (set_two (x := .int .i64 0) (y := .slice none 0 0) hx1)
  have HD := hid (below_two (b := w.heap.size + 1) (x := .int .i64 0) (y := .slice none 0 0) HB4.out (by omega))
  obtain ⟨y2, y3, g2, g3⟩ := two_cells hx1
  clear hb4 hx1
  go_wp2_with fail
  obtain ⟨c0, c1⟩ := HC.out
  refine bodyPost_ret (v := .tuple #[.agg #[.int .i64 0, .slice none 0 0], .int .i64 q]) ?_ rfl ⟨rfl, HD.out⟩
  simp [results, Tryz.f63, go_sem, c0, c1]
set_option maxHeartbeats 800000 in
theorem Delete_arg (m : Nat) (s : Int) (v : Value) (l : List Nat) (w : World) (hm : m ≤ 8) (hf : Fam m l) (hb : Bas l) (h : Ints w v (N l)) (hs : setR m s = 1) :
    Calls Tryz.prog 63 #[.agg #[.int .i64 m, v], .int .i64 s] w (BadM w 1) := by
  have HI := hid h
  obtain ⟨a, cap, hv, _, _⟩ := h.nats
  subst hv
  have HB0 := hid (boxM_below w m (.slice a l.length cap))
  have HC := hid (without_arg m s 0 _ l _ hm hf hb (HI.out.below HB0.out) hs)
  have HX : Hid (∀ w2, Below (boxM w m (.slice a l.length cap)).heap.size (boxM w m (.slice a l.length cap)) w2 → _) := fun w2 h => boxM_blocks h
  go_enter Tryz.func63, Tryz.ntmps63
  go_wp2_with fail
  refine HC.out.mono ?_
  rintro e w4 ⟨rfl, hb4⟩
  obtain ⟨_, hx1⟩ := HX.out w4 hb4
  have HB4 := hid (HB0.out.trans (hb4.mono HB0.out.size))
  have HC := hid (set_two (x := .int .i64 0) (y := .slice none 0 0) hx1)
  have HD := hid (below_two (b := w.heap.size + 1) (x := .int .i64 0) (y := .slice none 0 0) HB4.out (by omega))
  obtain ⟨y2, y3, g2, g3⟩ := two_cells hx1
  clear hb4 hx1
  go_wp2_with fail
  obtain ⟨c0, c1⟩ := HC.out
  refine bodyPost_ret (v := .tuple #[.agg #[.int .i64 0, .slice none 0 0], .int .i64 1]) ?_ rfl ⟨rfl, HD.out⟩
  simp [results, Tryz.f63, go_sem, c0, c1]
end Go.Proofs.YthbldeloocmakabGreat
