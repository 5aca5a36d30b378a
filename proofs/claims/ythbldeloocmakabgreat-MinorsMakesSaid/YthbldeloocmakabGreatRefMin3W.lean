/- The document's minors: the ranks' functions of rotaref.Deleted, Contracted, Dual, Cut. -/
import Derived.Test.YthbldeloocmakabGreatRefMinQ
import Derived.Test.YthbldeloocmakabGreatIndQ
import Derived.Test.YthbldeloocmakabGreatRefAxCQ
import Derived.Test.YthbldeloocmakabGreatWithoutQ
namespace Go.Proofs.YthbldeloocmakabGreat
open Go.RowKit

theorem DeletedQ_ok (t bR bM bS n g : Nat) (v : Value) (r : Nat → Nat) (w : World) (hn : n ≤ 8) (hg : g < 256) (ht : t < 256) (hx : old (els (dif (2 ^ n - 1) g)) t < 2 ^ n)
    (hR : w.cell? ⟨bR, 0, none⟩ = some v) (hM : w.cell? ⟨bM, 0, none⟩ = some (.int .i64 n)) (hS : w.cell? ⟨bS, 0, none⟩ = some (.int .i64 g)) (hv : RkAt w v (2 ^ n) r) :
    Calls Tryz.prog 70 #[.int .i64 t, .pointer (some ⟨bR, 0, none⟩), .pointer (some ⟨bM, 0, none⟩), .pointer (some ⟨bS, 0, none⟩)] w fun e w' => e = .returned (.int .i64 (r (old (els (dif (2 ^ n - 1) g)) t) : Nat)) ∧ Below w.heap.size w w' := by
  obtain ⟨rb, roff, rcap, rfl, h1, h2⟩ := hv
  have hc := h2 _ hx
  have SP := hid (fun w' => Spread_any n g t w' hn hg ht)
  clear h2
  generalize old (els (dif (2 ^ n - 1) g)) t = o at *
  generalize 2 ^ n = T at *
  go_enter Tryz.func70, Tryz.ntmps70
  go_wp2_with fail
  go_quiet ((go_at_call 71; refine (SP.out _).mono ?_; rintro e w' ⟨rfl, rfl⟩; exact ⟨rfl, _, rfl⟩))
  go_wp2_with fail
  go_ret
  exact ⟨rfl, drewN_below _ _ _⟩
end Go.Proofs.YthbldeloocmakabGreat

namespace Go.Proofs.YthbldeloocmakabGreat
open Go.RowKit

set_option maxRecDepth 20000 in
set_option maxHeartbeats 3200000 in
theorem Deleted_ref (m s : Nat) (v : Value) (l : List Nat) (w : World) (hm : m ≤ 8) (hf : Fam m l) (hb : Bas l) (h : Ints w v (N l)) (hs : s < 2 ^ m) :
    Calls Tryz.prog 40 #[.agg #[.int .i64 m, v], .int .i64 s] w fun e w' => ∃ r, e = .returned (.agg #[.int .i64 (pop (dif (2 ^ m - 1) s) : Nat), r]) ∧ Own w.heap.size w' r (minL m l s 0) ∧ Below w.heap.size w w' := by
  have HI := hid h
  obtain ⟨a, cap, hv, _, _⟩ := h.nats
  subst hv
  have HB0 := hid (boxW_below w m (.slice a l.length cap) s)
  have HRK := hid (Ranks_ref m _ l _ hm (hf.lt256 hm) (HI.out.below HB0.out))
  have HX : Hid (∀ w2, Below (boxW w m (.slice a l.length cap) s).heap.size (boxW w m (.slice a l.length cap) s) w2 → _) := fun w2 h => boxW_blocks h
  have HSZ := hid (boxW_size w m (.slice a l.length cap) s)
  have s8 := lt256 hm hs
  have HKP := hid (kept_pop hm hs)
  have HSI := hid (fun w' => Size_any s w' s8)
  obtain ⟨acc, HACC⟩ : ∃ acc : List Nat, Hid (minL m l s 0 = acc) := ⟨_, rfl⟩
  obtain ⟨n2, HN2⟩ : ∃ n2 : Nat, Hid (pop (dif (2 ^ m - 1) s) = n2) := ⟨_, rfl⟩
  rw [HACC.out, HN2.out]
  rw [HN2.out] at HKP
  have hsub : (m : Int) - (pop s : Int) = (n2 : Int) := by have := HKP.out; omega
  have hps : pop s ≤ m := by have := HKP.out; omega
  have HN8 : Hid (n2 ≤ 8) := by show _ ≤ _; rw [← HN2.out]; exact kept_le hm s
  go_enter Tryz.func40, Tryz.ntmps40
  go_wp2_with fail
  refine HRK.out.mono ?_
  rintro e w1 ⟨r1, rfl, hr1, hb1⟩
  obtain ⟨hx0, hx1, hx2⟩ := HX.out w1 hb1
  have HR1 := hid hr1
  obtain ⟨rb, roff, rcap, rfl, _, _⟩ := hr1
  have HY0 := hid hx0
  have HY1 := hid hx1
  have HY2 := hid hx2
  have HB1 := hid (HB0.out.trans (hb1.mono HB0.out.size))
  have hsz1 : w.heap.size + 3 ≤ w1.heap.size := by have := hb1.size; have := HSZ.out; omega
  clear hb1 hx0 hx1 hx2
  go_wp2_with fail
  have bR := Boxed.new w1 22 (.slice (some ⟨rb, roff, none⟩) (2 ^ m) rcap)
  have hBK : Below w1.heap.size w1 (w1.alloc (.cells #[.slice (some ⟨rb, roff, none⟩) (2 ^ m) rcap] 22)) := (Below.refl _ _).alloc (Nat.le_refl _) _
  have hszK : (w1.alloc (.cells #[.slice (some ⟨rb, roff, none⟩) (2 ^ m) rcap] 22)).heap.size = w1.heap.size + 1 := by simp
  have HbR := hid bR
  have HBK := hid hBK
  clear bR hBK
  revert hszK HbR HBK
  generalize (w1.alloc (.cells #[.slice (some ⟨rb, roff, none⟩) (2 ^ m) rcap] 22)) = W2
  intro hszK HbR HBK
  have HW2 := hid (HB1.out.trans (HBK.out.mono HB1.out.size))
  have HZ0 : Hid (W2.heap[w.heap.size]? = some (.cells #[.int .i64 m, .slice a l.length cap] 24 (0, 0))) := (HBK.out.block _ (by omega)).trans HY0.out
  have HZ1 : Hid (Boxed W2 (w.heap.size + 1) 3 (.int .i64 s)) := (HBK.out.block _ (by omega)).trans HY1.out
  have HZ2 : Hid (W2.heap[w.heap.size + 1 + 1]? = some (.cells #[.int .i64 0, .slice none 0 0] 24 (0, 0))) := (HBK.out.block _ (by omega)).trans HY2.out
  obtain ⟨x0, _, _, _⟩ := two_cells HZ0.out
  have x1 := HZ1.out.cell
  have HRA := hid (HR1.out.below HBK.out)
  have ORK := hid (fun w' (hb' : Below W2.heap.size W2 w') => OfRank_any n2 70 #[.pointer (some ⟨w1.heap.size, 0, none⟩), .pointer (some ⟨w.heap.size, 0, none⟩), .pointer (some ⟨w.heap.size + 1, 0, none⟩)] (minR (rk l) (dif (2 ^ m - 1) s) 0) w' HN8.out (fun args w => enters_of Tryz.func70 (by kernel_rfl) rfl args w)
    (fun x hx w3 hb3 _ => by
      have hbb := hb'.trans (hb3.mono hb'.size)
      have hx2 : x < 2 ^ pop (dif (2 ^ m - 1) s) := by rw [HN2.out]; exact hx
      have c1 := (hbb.cell (p := ⟨w1.heap.size, 0, none⟩) (by show w1.heap.size < _; omega)).trans HbR.out.cell
      have c2 := (hbb.cell (p := ⟨w.heap.size, 0, none⟩) (by show w.heap.size < _; omega)).trans x0
      have c3 := (hbb.cell (p := ⟨w.heap.size + 1, 0, none⟩) (by show w.heap.size + 1 < _; omega)).trans x1
      have hq := DeletedQ_ok x w1.heap.size w.heap.size (w.heap.size + 1) m s _ (rk l) w3 hm s8 (lt256 HN8.out hx) (old_ltn hm s x) c1 c2 c3 (HRA.out.below hbb)
      rw [← min_zero hb] at hq
      exact hq))
  rw [show basR n2 (minR (rk l) (dif (2 ^ m - 1) s) 0) = acc by rw [← HACC.out, ← HN2.out]; rfl] at ORK
  have hn8 := HN8.out
  have hwr : IntKind.i64.wrap (n2 : Int) = (n2 : Int) := wrap_i64_nat n2 (by omega)
  have ne1 : ¬ w.heap.size + 1 + 1 = w.heap.size := by omega
  have ne2 : ¬ w.heap.size = w.heap.size + 1 + 1 := by omega
  have ne3 : ¬ w.heap.size + 1 + 1 = w.heap.size + 1 := by omega
  have ne4 : ¬ w.heap.size + 1 = w.heap.size + 1 + 1 := by omega
  generalize pop s = ps at *
  go_region_held3 (fun w' => w'.cell? ⟨w.heap.size, 0, none⟩ = some (.int .i64 m) ∧ w'.cell? ⟨w.heap.size + 1, 0, none⟩ = some (.int .i64 s)) (go_keep)
   (first
    | (go_at_call 26; refine (HSI.out _).mono ?_; rintro e w2 ⟨rfl, hb2'⟩; have hb2 := (Below.refl W2.heap.size W2).drew.trans hb2'; have q0 := (hb2.cell (p := ⟨w.heap.size, 0, none⟩) (by show w.heap.size < _; omega)).trans x0; have q1 := (hb2.cell (p := ⟨w.heap.size + 1, 0, none⟩) (by show w.heap.size + 1 < _; omega)).trans x1; have HB2 := hid hb2; clear hb2 hb2')
    | (go_at_call 41; refine (ORK.out _ HB2.out).mono ?_; rintro e w4 ⟨r4, rfl, hr4, hb4⟩; have hs2 := HB2.out.size; have hW4 := HB2.out.trans (hb4.mono hs2); have q2 := (hW4.cell (p := ⟨w.heap.size, 0, none⟩) (by show w.heap.size < _; omega)).trans x0; have q3 := (hW4.cell (p := ⟨w.heap.size + 1, 0, none⟩) (by show w.heap.size + 1 < _; omega)).trans x1; obtain ⟨ra, rc, hr⟩ := ownsRow_form' hr4; subst hr; have hxx := (hW4.block (w.heap.size + 1 + 1) (by omega)).trans HZ2.out; obtain ⟨y2, y3, g2, g3⟩ := two_cells hxx; have HC := hid (set_two (x := .int .i64 n2) (y := .slice ra acc.length rc) hxx); have HB4 := hid (HW2.out.trans (hW4.mono HW2.out.size)); have HD := hid (below_two (b := w.heap.size + 1 + 1) (x := .int .i64 n2) (y := .slice ra acc.length rc) HB4.out (by omega)); have HII := hid ((hr4.set2 (b := w.heap.size + 1 + 1) (x := .int .i64 n2) (y := .slice ra acc.length rc) (by omega)).mono (by omega : w.heap.size ≤ _)); clear hb4 hr4 hxx hW4))
  all_goals go_wp2_with fail
  all_goals obtain ⟨c0, c1⟩ := HC.out
  all_goals refine bodyPost_ret (v := .agg #[.int .i64 n2, .slice ra _ rc]) ?_ rfl ⟨_, rfl, HII.out, HD.out⟩
  all_goals simp [results, Tryz.f40, go_sem, c0, c1]
end Go.Proofs.YthbldeloocmakabGreat
