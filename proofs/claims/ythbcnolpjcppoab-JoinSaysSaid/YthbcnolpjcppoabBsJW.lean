/- rotaref.Stacked: the whole. -/
import Derived.Test.YthbcnolpjcppoabStkQ
import Derived.Test.YthbcnolpjcppoabJsUQ
import Derived.Test.YthbcnolpjcppoabWkDQ
import Derived.Test.YthbcnolpjcppoabAlkQ
namespace Go.Proofs.Ythbcnolpjcppoab
open Go.RowKit

set_option maxHeartbeats 2000000 in
theorem Stacked_ok (m R : Nat) (v : Value) (l : List Nat) (w : World) (hP : Pk m l R) (h : Ints w v (N l)) :
    Calls Try.prog 34 #[.agg #[.int .i64 m, v]] w fun e w' => ∃ a c, e = .returned (.slice a (packL m l).length c) ∧ Own w.heap.size w' (.slice a (packL m l).length c) (packL m l) ∧ Below w.heap.size w w' := by
  have HST := hid (stk_is hP)
  have hlen := fam_len hP.n8 hP.fam
  have FO := hid (fun gb gm gf B h1 h2 h3 h4 w4 v4 u4 => from_ok l w v gb gm gf B (fun b hb => ⟨Nat.pos_of_ne_zero (hP.ne hb), hP.fam.lt256 hP.n8 b hb⟩) (fam_len hP.n8 hP.fam) h h1 h2 h3 h4 9 [] 0 [] w4 v4 u4 (by decide) (by decide) (by decide) (by decide))
  obtain ⟨a, cap, hv, -, -⟩ := h.nats
  subst hv
  have g1 := World.grownBy_alloc w (.cells #[.int .i64 m, .slice a l.length cap] 24) none
  have n1 := World.alloc_heap_new w (.cells #[.int .i64 m, .slice a l.length cap] 24)
  have z1 := World.size_alloc w (.cells #[.int .i64 m, .slice a l.length cap] 24)
  generalize hW1 : w.alloc (.cells #[.int .i64 m, .slice a l.length cap] 24) = W1 at *
  have g2 := World.grownBy_alloc W1 (.cells #[.slice none 0 0] 22) none
  have n2 := Boxed.new W1 22 (.slice none 0 0)
  have z2 := World.size_alloc W1 (.cells #[.slice none 0 0] 22)
  generalize hW2 : W1.alloc (.cells #[.slice none 0 0] 22) = W2 at *
  have hsf := fun (a : Addr) (c : Array Value) (w : World) => run_store Try.prog w a (.func (.func 81) #[] c) .plain rfl
  rw [z1] at n2 z2
  have g4 := World.grownBy_alloc W2 (.cells #[(fromV (w.heap.size + 1) w.heap.size (w.heap.size + 1 + 1))] 81) none
  have n4 := Boxed.new W2 81 (fromV (w.heap.size + 1) w.heap.size (w.heap.size + 1 + 1))
  have z4 := World.size_alloc W2 (.cells #[(fromV (w.heap.size + 1) w.heap.size (w.heap.size + 1 + 1))] 81)
  rw [z2] at n4 z4
  generalize hW4 : W2.alloc (.cells #[(fromV (w.heap.size + 1) w.heap.size (w.heap.size + 1 + 1))] 81) = W4 at *
  have n24 : Boxed W4 (w.heap.size + 1) 22 (.slice none 0 0) := n2.kept g4 (by simp)
  have c14 : W4.cell? ⟨w.heap.size, 1, none⟩ = some (.slice a l.length cap) := (g2.trans g4).cell (show W1.cell? ⟨w.heap.size, 1, none⟩ = some (.slice a l.length cap) by simp [World.cell?, n1]) (by simp)
  have b4 : Below w.heap.size w W4 := grown_below (g1.trans (g2.trans g4))
  have cb := n24.cell
  have F := hid (FO.out (w.heap.size + 1) w.heap.size (w.heap.size + 1 + 1) (w.heap.size + 3) (by omega) (by omega) (by omega) (by omega) W4 (.slice none 0 0) (.slice none 0 0) (Own.nil _ _) n24 (Own.nil _ _) c14 n4.cell b4 (by omega))
  rw [show ((0 : Nat) : Int) = 0 from rfl] at F
  rw [HST.out] at F
  have c44 := n4.cell
  have HB4 := hid b4
  clear FO g1 n1 z1 g2 n2 z2 z4 g4 n4 n24 c14 b4 HST
  generalize packL m l = L at *
  unfold fromV at *
  subst hW4
  subst hW2
  subst hW1
  go_enter Try.func34, Try.ntmps34
  go_wp2_with fail
  refine F.out.mono ?_
  rintro e w5 ⟨rfl, ub, hbx, ho, hl5, hg5⟩
  have c5 := hbx.cell
  have HO5 := hid ho
  have HB5 := hid (HB4.out.grown hg5 HB4.out.size (fun k e => by cases e; omega))
  obtain ⟨a5, k5, rfl⟩ := ownsRow_form' ho
  clear ho hg5 hbx c44 cb HB4 F
  go_wp2_with fail
  go_ret
  exact ⟨a5, k5, rfl, HO5.out.mono (by omega), HB5.out⟩
end Go.Proofs.Ythbcnolpjcppoab

namespace Go.Proofs.Ythbcnolpjcppoab
open Go.RowKit

/-- Pack and Weak. -/
theorem packs_is (n : Int) (zs : List Int) : ∃ (L : List Nat) (d : Int), L.length ≤ 256 ∧ (ranQ n zs ≠ 0 → d = 0) ∧
    (∀ v w, Ints w v zs → Calls Try.prog 39 #[.agg #[.int .i64 n, v]] w (ResL w (ranQ n zs) L)) ∧
    (∀ v w, Ints w v zs → Calls Try.prog 40 #[.agg #[.int .i64 n, v]] w (ResN w (ranQ n zs) d)) ∧
    (ranQ n zs = 0 →
      (∀ v w, Ints w v zs → Calls Try.prog 34 #[.agg #[.int .i64 n, v]] w fun e w' => ∃ a c, e = .returned (.slice a L.length c) ∧ Own w.heap.size w' (.slice a L.length c) L ∧ Below w.heap.size w w') ∧
      (∀ v w, Ints w v zs → Calls Try.prog 35 #[.agg #[.int .i64 n, v]] w fun e w' => e = .returned (.int .i64 d) ∧ Below w.heap.size w w')) := by
  by_cases hq : ranQ n zs = 0
  · obtain ⟨m, l, rfl, hm, rfl, hf, hb, hP⟩ := ranQ_of hq
    refine ⟨packL m l, ((weS m (rk l) (2 ^ m)).1 : Nat), ?_, fun e => absurd hq e, fun v w h => ?_, fun v w h => ?_, fun _ => ⟨fun v w h => ?_, fun v w h => ?_⟩⟩
    · exact Nat.le_trans (takeF_len_le _ 9 _) (by decide)
    · refine (Pack_ok m _ v l w hP h).mono ?_
      rintro e w' ⟨u, rfl, ho, hb⟩
      obtain ⟨a, c, rfl⟩ := ownsRow_form' ho
      exact ⟨a, _, c, by rw [hq], .inr ⟨hq, ho⟩, hb⟩
    · refine (Weak_ok m _ v l w hP h).mono ?_
      rintro e w' ⟨rfl, hb⟩
      exact ⟨by rw [hq], hb⟩
    · exact Stacked_ok m _ v l w hP h
    · exact Thin_ok m _ v l w hP h
  · refine ⟨[], 0, by simp, fun _ => rfl, fun v w h => ?_, fun v w h => ?_, fun hc => absurd hc hq⟩
    · refine (Pack_bad n v zs w h hq).mono ?_
      rintro e w' ⟨rfl, hb⟩
      exact ⟨none, 0, 0, rfl, .inl ⟨hq, rfl⟩, hb⟩
    · exact Weak_bad n v zs w h hq
end Go.Proofs.Ythbcnolpjcppoab

namespace Go.Proofs.Ythbcnolpjcppoab
open Go.RowKit

/-- What stays while the law runs: the two that were handed in. -/
def BaseJ (w W : World) (n : Int) (v : Value) (k : Int) (u : Value) : Prop := Below w.heap.size w W ∧ w.heap.size + 2 ≤ W.heap.size ∧ W.heap[w.heap.size]? = some (.cells #[.int .i64 n, v] 24 (0, 0)) ∧ W.heap[w.heap.size + 1]? = some (.cells #[.int .i64 k, u] 24 (0, 0))
theorem BaseJ.next {w W W' : World} {n : Int} {v : Value} {k : Int} {u : Value} (h : BaseJ w W n v k u) (hb : Below W.heap.size W W') : BaseJ w W' n v k u := by
  obtain ⟨h1, h2, h3, h4⟩ := h
  exact ⟨h1.trans (hb.mono h1.size), Nat.le_trans h2 hb.size, (hb.block w.heap.size (by omega)).trans h3, (hb.block (w.heap.size + 1) (by omega)).trans h4⟩
theorem BaseJ.cells {w W : World} {n : Int} {v : Value} {k : Int} {u : Value} (h : BaseJ w W n v k u) : W.cell? ⟨w.heap.size, 0, none⟩ = some (.int .i64 n) ∧ W.cell? ⟨w.heap.size, 1, none⟩ = some v ∧ W.cell? ⟨w.heap.size + 1, 0, none⟩ = some (.int .i64 k) ∧ W.cell? ⟨w.heap.size + 1, 1, none⟩ = some u := by
  obtain ⟨_, _, h3, h4⟩ := h
  exact ⟨(cells2 h3).1, (cells2 h3).2, (cells2 h4).1, (cells2 h4).2⟩
theorem uniQ_is (n k : Int) (zs ys : List Int) : uniQ n zs k ys = if chkR n zs = 0 then (if chkR k ys = 0 then (if n = k then 0 else 3) else chkR k ys) else chkR n zs := by
  unfold uniQ chk2
  by_cases h1 : chkR n zs = 0
  · rw [if_pos h1, if_pos h1]
    by_cases h2 : chkR k ys = 0
    · rw [if_pos h2, if_neg (fun h => h h2)]
    · rw [if_neg h2, if_pos h2]
  · rw [if_neg h1, if_neg h1, if_pos h1]
end Go.Proofs.Ythbcnolpjcppoab
