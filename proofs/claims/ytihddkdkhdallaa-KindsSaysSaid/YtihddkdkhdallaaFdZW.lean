/- rotaref.IsReduced, rotaref.Nought. -/
import Derived.Test.YtihddkdkhdallaaFdSQ
import Derived.Test.YtihddkdkhdallaaFdRQ
import Derived.Test.YtihddkdkhdallaaFdOQ
namespace Go.Proofs.Ytihddkdkhdallaa
open Go.RowKit

theorem RowsI.reads {w : World} {v : Value} {Q : List (List Int)} {c : Nat} (h : RowsI w v Q) (hl : ∀ k, k < Q.length → (Q.getD k []).length = c) : ∃ a cap, v = .slice a Q.length cap ∧ ∀ k, k < Q.length → ∃ b off, a = some ⟨b, off, none⟩ ∧ ∃ ra rc, ∀ wr, Below w.heap.size w wr → wr.cell? ⟨b, off + k, none⟩ = some (.slice ra c rc) ∧ Ints wr (.slice ra c rc) ((List.range c).map (rowF Q k)) ∧ ∀ m, m < c → ∃ rb ro, ra = some ⟨rb, ro, none⟩ ∧ wr.cell? ⟨rb, ro + m, none⟩ = some (.int .i64 (rowF Q k m)) := by
  obtain ⟨a, cap, rfl, -, hcc⟩ := h
  refine ⟨a, cap, rfl, fun k hk => ?_⟩
  obtain ⟨b, off, h1, h2, h3⟩ := hcc (by omega)
  obtain ⟨u, h4, h5⟩ := h3 k hk
  have hl2 := hl k hk
  have e : (List.range c).map (rowF Q k) = Q.getD k [] := by
    refine List.ext_getElem (by rw [List.length_map, List.length_range, hl2]) fun r g1 g2 => ?_
    rw [List.getElem_map, List.getElem_range]
    show (Q.getD k []).getD r 0 = _
    generalize Q.getD k [] = l at *
    simp [List.getD, g2]
  have h5' := h5
  obtain ⟨ra, rc, rfl, -, -⟩ := h5
  rw [hl2] at h4 h5'
  refine ⟨b, off, h1, ra, rc, fun wr hbw => ⟨?_, by rw [e]; exact h5'.below hbw, fun m hmc => ?_⟩⟩
  · rw [hbw.cell (p := ⟨b, off + k, none⟩) h2, h4]
  · obtain ⟨ra2, rc2, e1, -, e3⟩ := h5'.below hbw
    have e1' := e1
    cases e1'
    obtain ⟨rb, ro, e4, -, e6⟩ := e3 (by omega)
    exact ⟨rb, ro, e4, e6 m (by omega)⟩
theorem MatOK.lens {p : Int} {c : Nat} {Q : List (List Int)} (hm : MatOK p c Q) : ∀ k, k < Q.length → (Q.getD k []).length = c := fun k hk => by have := hm.len k hk; omega
/-- Where the row ahead begins. -/
def lastI (b : Nat → Nat) : Nat → Int
  | 0 => -1
  | i + 1 => b i
theorem sm_le {n : Nat} {f : Nat → Int} {m : Int} (h : ∀ i, i < n → 0 ≤ f i ∧ f i ≤ m) : ∀ j, j ≤ n → 0 ≤ sm j f ∧ sm j f ≤ j * m
  | 0, _ => ⟨Int.le_refl 0, by show (0 : Int) ≤ 0 * m; rw [Int.zero_mul]; exact Int.le_refl 0⟩
  | j + 1, hj => by
    have ih := sm_le h j (by omega)
    have h1 := h j (by omega)
    have e : ((j + 1 : Nat) : Int) * m = j * m + m := by rw [Int.natCast_add, Int.add_mul]; simp
    show 0 ≤ sm j f + f j ∧ sm j f + f j ≤ _
    rw [e]
    omega
end Go.Proofs.Ytihddkdkhdallaa

namespace Go.Proofs.Ytihddkdkhdallaa
open Go.RowKit

set_option maxRecDepth 20000 in
set_option maxHeartbeats 2000000 in
theorem Column_own (p : Int) (c : Nat) (v : Value) (R : List (List Int)) (k : Nat) (w : World) (h : RowsI w v R) (hm : MatOK p c R) (hk : k < c) :
    Calls Try.prog 26 #[.agg #[.int .i64 p, .int .i64 c, v], .int .i64 k] w fun e w' => ∃ r, e = .returned r ∧ OwnZ 3 w.heap.size w' r ((List.range R.length).map fun i => rowF R i k) ∧ Below w.heap.size w w' := by
  obtain ⟨j0, hj0, hy0, hy1, hy2⟩ := info_parts Try.infoInt
  have B0 := hid (below_boxMx w #[.int .i64 p, .int .i64 c, v])
  have X0 := hid (World.alloc_heap_new w (.cells #[.int .i64 p, .int .i64 c, v] 27))
  have hlen6 := hm.rl
  have hc8 := hm.c8'
  have hki : (k : Int) < (c : Int) := by omega
  obtain ⟨a, cap, rfl, hc⟩ := h.reads hm.lens
  have HC := hid hc
  clear hc h hm
  go_enter Try.func26, Try.ntmps26
  go_wp2_with fail
  obtain ⟨W0, hW0⟩ : ∃ W0, w.alloc (.cells #[.int .i64 p, .int .i64 c, .slice a R.length cap] 27) = W0 := ⟨_, rfl⟩
  rw [hW0] at B0 X0 ⊢
  clear hW0
  obtain ⟨D, HD⟩ : ∃ D, Hid (W0.heap.size = D) := ⟨_, rfl⟩
  go_loopw [5, 6] (fun vl i wr => ∃ (u : Nat) (la : Option Addr) (lc : Nat), u ≤ R.length ∧ i = .int .i64 u ∧ vl = .slice la u lc ∧ Hid (wr.ownsRow D 3 1 (.slice la u lc) u (VZ ((List.range u).map fun i => rowF R i k))) ∧ Hid (Below D W0 wr)) (fun _ i _ => R.length - (intOf i).toNat)
  case atStart => exact ⟨0, none, 0, Nat.zero_le _, rfl, rfl, World.ownsRow_nil _ _ _ _, by rw [← HD.out]; exact Below.refl _ _⟩
  case round =>
    obtain ⟨u, la, lc, hu, rfl, rfl, HO, HB⟩ := hrel
    have hDw : D ≤ wr.heap.size := by rw [← HD.out]; exact (show W0.heap.size ≤ wr.heap.size from HB.out.size)
    have HB2 : Hid (Below W0.heap.size W0 wr) := by rw [HD.out]; exact HB.out
    have BW := hid (B0.out.trans (HB2.out.mono B0.out.size))
    obtain ⟨x0, x1, x2⟩ := three_cells (box_keep X0.out HB2.out)
    by_cases hun : u < R.length
    · have hui : (u : Int) < (R.length : Int) := by omega
      obtain ⟨lb, lo, rfl, ra, rc, hh⟩ := HC.out u hun
      obtain ⟨c0, -, hh2⟩ := hh wr BW.out
      obtain ⟨rb, ro, rfl, c1⟩ := hh2 k hk
      obtain ⟨x, hx⟩ : ∃ x, rowF R u k = x := ⟨_, rfl⟩
      have XE := hid hx
      rw [hx] at c1
      clear hh hh2 hx
      go_wp2_with (at_builtin; refine wpList_append_own _ rfl _ _ 32 rfl D 3 j0 (.int .i64 0) 1 8 Try.underlying32 hj0 hy0 hy1 hy2 rfl (by decide) _ _ _ rfl (HO.out.alloc _) ⟨wr.heap.size, 0, none⟩ 1 1 [.int .i64 x] rfl rfl ?d1 ?d2 ?d3 ?d4 ?d5 ?_)
      all_goals first | exact cell_one_new _ _ _ | rfl | (intro u hu; simp at hu; subst hu; rfl) | (unfold maxLen; omega) | omega | (simp; omega) | skip
      intro v' w7 hown' hgrow _
      obtain ⟨gv, cv', rfl⟩ : ∃ gv cv, v' = .slice (some ⟨gv, 0, none⟩) (u + 1) cv := by
        rcases Go.Joins.ownsRow_forms hown' with ⟨rfl, h0⟩ | ⟨g', cap', rfl⟩
        · omega
        · exact ⟨_, _, rfl⟩
      have HO7 : Hid (w7.ownsRow D 3 1 (.slice (some ⟨gv, 0, none⟩) (u + 1) cv') (u + 1) (VZ ((List.range (u + 1)).map fun i => rowF R i k))) := by
        show World.ownsRow _ _ _ _ _ _ _
        rw [List.range_succ, List.map_append, List.map_singleton, XE.out, VZ_snoc]
        exact hown'
      have HB7 : Hid (Below D W0 w7) := (HB.out.alloc hDw _).grown hgrow (by simp; omega) (fun j hj => (World.ownsRow.lt HO.out j hj).1)
      clear hown' hgrow
      go_wp2_with fail
      exact ⟨⟨u + 1, _, _, by omega, by go_num, rfl, HO7.out, HB7.out⟩, by simp [intOf]; omega⟩
    · obtain rfl : u = R.length := by omega
      have hnu : ¬ (R.length : Int) < (R.length : Int) := by omega
      have OZ : OwnZ 3 D wr (.slice la R.length lc) ((List.range R.length).map fun i => rowF R i k) := by
        unfold OwnZ
        rw [List.length_map, List.length_range]
        exact HO.out
      have RI := hid (OZ.mono (show w.heap.size ≤ D by rw [← HD.out]; exact B0.out.size))
      clear OZ HO
      go_wp2_with fail
      go_ret
      exact ⟨_, rfl, RI.out, BW.out⟩
theorem Column_ok (p : Int) (c : Nat) (v : Value) (R : List (List Int)) (k : Nat) (w : World) (h : RowsI w v R) (hm : MatOK p c R) (hk : k < c) :
    Calls Try.prog 26 #[.agg #[.int .i64 p, .int .i64 c, v], .int .i64 k] w fun e w' => ∃ r, e = .returned r ∧ Ints w' r ((List.range R.length).map fun i => rowF R i k) ∧ Below w.heap.size w w' :=
  (Column_own p c v R k w h hm hk).mono fun _ _ ⟨r, h1, h2, h3⟩ => ⟨r, h1, h2.ints (by have := hm.rl; simp; omega), h3⟩
end Go.Proofs.Ytihddkdkhdallaa
