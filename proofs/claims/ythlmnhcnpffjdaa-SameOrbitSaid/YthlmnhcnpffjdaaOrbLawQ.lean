/- The law rotakeep.SameOrbit. -/
import Derived.Test.YthlmnhcnpffjdaaOrbFQ
import Derived.Test.YthlmnhcnpffjdaaOrdMQ
namespace Go.Proofs.Ythlmnhcnpffjdaa
open Go.RowKit

theorem lit_iso : (isoL 2 [1] [1]).length = 1 := by decide +kernel
theorem lit1_fam : Fam 2 [1] := ⟨by decide, by decide⟩
theorem lit1_bas : Bas [1] := (bas_iff (by decide)).2 ⟨by decide, by decide +kernel, by decide +kernel⟩
theorem four (w : World) (x y z u : Obj) : ((((w.alloc x).alloc y).alloc z).alloc u).heap[w.heap.size]? = some x ∧ ((((w.alloc x).alloc y).alloc z).alloc u).heap[w.heap.size + 1]? = some y ∧ ((((w.alloc x).alloc y).alloc z).alloc u).heap[w.heap.size + 1 + 1]? = some z ∧ ((((w.alloc x).alloc y).alloc z).alloc u).heap[w.heap.size + 1 + 1 + 1]? = some u := by
  obtain ⟨h1, h2, h3⟩ := three w x y z
  refine ⟨(Below.heap_alloc _ _ _ (by simp only [World.size_alloc]; omega)).trans h1, (Below.heap_alloc _ _ _ (by simp only [World.size_alloc]; omega)).trans h2, (Below.heap_alloc _ _ _ (by simp only [World.size_alloc]; omega)).trans h3, ?_⟩
  have := World.alloc_heap_new (((w.alloc x).alloc y).alloc z) u
  rwa [World.size_alloc, World.size_alloc, World.size_alloc] at this
theorem orb_start (w w3 : World) (m : Nat) (v : Value) (hlt : w.heap.size < w3.heap.size) (hb : Below w.heap.size w w3) (hm : w3.heap[w.heap.size]? = some (.cells #[.int .i64 m, v] 24 (0, 0))) :
    OrbT w ((((w3.alloc (.cells #[.slice none 0 0] 49)).alloc (.cells #[.int .i64 0] 3)).alloc (.cells #[.slice none 0 0] 22)).alloc (.cells #[orbV w.heap.size w3.heap.size] 50)) m v w3.heap.size (.slice none 0 0) (.slice none 0 0) [] [] 0 := by
  obtain ⟨h1, h2, h3, h4⟩ := four w3 (.cells #[.slice none 0 0] 49) (.cells #[.int .i64 0] 3) (.cells #[.slice none 0 0] 22) (.cells #[orbV w.heap.size w3.heap.size] 50)
  have hb4 : Below w3.heap.size w3 ((((w3.alloc (.cells #[.slice none 0 0] 49)).alloc (.cells #[.int .i64 0] 3)).alloc (.cells #[.slice none 0 0] 22)).alloc (.cells #[orbV w.heap.size w3.heap.size] 50)) := ((((Below.refl _ _).alloc (Nat.le_refl _) _).alloc (by simp) _).alloc (by simp; omega) _).alloc (by simp; omega) _
  exact ⟨hlt, hb.trans (hb4.mono hb.size), by simp, (hb4.block _ hlt).trans hm, h2, h4, h3, Own.nil _ _, h1, LL.nil _ _ _, (fun L hL => by cases hL), Nat.le_refl _⟩
set_option maxRecDepth 100000 in
set_option maxHeartbeats 2000000 in
theorem orbit_law (n : Int) (v : Value) (zs : List Int) (w : World) (h : Ints w v zs) :
    Calls Try.prog 6 #[.agg #[.int .i64 n, v]] w fun e w' => e = .returned (.bool true) ∧ Below w.heap.size w w' := by
  have HB0 := hid (below_box w #[.int .i64 n, v])
  have HI := hid h
  obtain ⟨a0, cap, rfl, -, -⟩ := h
  have b1 : Below w.heap.size w ((w.alloc (.cells #[.int .i64 n, .slice a0 zs.length cap] 24)).alloc (.cells #[.int .i64 1] 3)) := HB0.out.alloc HB0.out.size _
  have hblk : ((w.alloc (.cells #[.int .i64 n, .slice a0 zs.length cap] 24)).alloc (.cells #[.int .i64 1] 3)).heap[w.heap.size]? = some (.cells #[.int .i64 n, .slice a0 zs.length cap] 24 (0, 0)) := (Below.heap_alloc _ _ _ (by simp)).trans (World.alloc_heap_new w _)
  have li : Ints ((w.alloc (.cells #[.int .i64 n, .slice a0 zs.length cap] 24)).alloc (.cells #[.int .i64 1] 3)) (.slice (some ⟨w.heap.size + 1, 0, none⟩) 1 1) (N [1]) := by
    have := litsAt (w.alloc (.cells #[.int .i64 n, .slice a0 zs.length cap] 24)) [1]
    rw [World.size_alloc] at this
    exact this
  have G1 := hid (Group_ok 2 _ [1] _ (by decide) lit1_fam lit1_bas li)
  rw [lit_iso] at G1
  have hz1 : ((w.alloc (.cells #[.int .i64 n, .slice a0 zs.length cap] 24)).alloc (.cells #[.int .i64 1] 3)).heap.size = w.heap.size + 2 := by simp
  have B1 := hid b1
  have K1 := hid hblk
  clear b1 hblk li
  go_enter Try.func6, Try.ntmps6
  go_wp2_with fail
  refine G1.out.mono ?_
  rintro e w2 ⟨rfl, hb2⟩
  have B2 := hid (B1.out.trans (hb2.mono B1.out.size))
  have k2 := (hb2.block w.heap.size (by rw [hz1]; omega)).trans K1.out
  have K2 := hid k2
  obtain ⟨x0, x1⟩ := cells2 k2
  have hs2 := hb2.size
  rw [hz1] at hs2
  clear hb2 G1 K1 B1 k2 HB0
  by_cases hc : chkR n zs = 0
  · obtain ⟨m, l, rfl, hm, rfl, hf, hb⟩ := chk_of hc
    have G2 := hid (Group_ok m _ l w2 hm hf hb (HI.out.below B2.out))
    rw [N_len] at *
    clear hc
    go_wp2_with fail
    refine G2.out.mono ?_
    rintro e w3 ⟨rfl, hb3⟩
    have B3 := hid (B2.out.trans (hb3.mono B2.out.size))
    have k3 := (hb3.block w.heap.size (by omega)).trans K2.out
    obtain ⟨y0, y1⟩ := cells2 k3
    have hs3 := hb3.size
    by_cases h5 : 5 < m
    · have h5' : (5 : Int) < (m : Int) := by omega
      clear hb3 G2 k3
      go_wp2_with fail
      go_ret
      exact ⟨rfl, B3.out⟩
    · have h5' : ¬ (5 : Int) < (m : Int) := by omega
      have LG := hid (lagrange (n := m) (A := l) hf)
      have hgl : (goes m m []).length ≤ 3125 := by
        have h1 := goes_len m m []
        have h2 : m ^ m ≤ 5 ^ 5 := Nat.le_trans (Nat.pow_le_pow_left (by omega) m) (Nat.pow_le_pow_right (by decide) (by omega))
        exact Nat.le_trans h1 (Nat.le_trans h2 (by decide))
      have T0 := orb_start w w3 m (.slice a0 l.length cap) (by omega) B3.out k3
      have O1 := hid (orb_ok w m (.slice a0 l.length cap) l w3.heap.size hm hf hb HI.out m [] [] 0 _ _ _ (by simp) (beg_nil m) T0 (by omega))
      have hsf := fun (a : Addr) (c : Array Value) (w : World) => run_store Try.prog w a (.func (.func 28) #[] c) .plain rfl
      have LG2 : Hid (((goes m m []).foldl (orbF m l) []).length * (isoL m l l).length = (goes m m []).length) := LG.out
      rw [Nat.zero_add] at O1
      obtain ⟨-, -, t3, -, -⟩ := T0.facts
      unfold orbV at t3 O1
      clear hb3 G2 k3 hf hb LG T0
      generalize (goes m m []).foldl (orbF m l) [] = LR at *
      generalize (isoL m l l).length = IC at *
      generalize (goes m m []).length = GC at *
      go_wp2_with fail
      refine O1.out.mono ?_
      rintro e w5 ⟨rfl, vP', vL', hT⟩
      obtain ⟨-, ⟨q2, -⟩, -, -, ⟨q4, -⟩⟩ := hT.facts
      obtain ⟨la, lc, hvl, -⟩ := hT.ll.read hT.lens
      subst hvl
      have HL := hid hT.low
      have hmz : (LR.length : Int) * (IC : Int) = (GC : Int) := by rw [← LG2.out]; simp
      have hww : wrap64 (GC : Int) = (GC : Int) := by rw [← IntWalk.i64_left]; exact wrap_i64_nat _ (by omega)
      have hgg : ((GC : Int) == (GC : Int)) = true := by simp
      clear O1 hT t3 y0 y1 hsf
      go_wp2_with fail
      go_ret
      exact ⟨ret_bool (by simp), HL.out⟩
  · have G2 := hid (Group_bad n _ zs w2 (HI.out.below B2.out) hc)
    generalize chkR n zs = q at *
    have hq1 : (q != 0) = true := by simp [hc]
    have hq2 : (q == 0) = false := by simp [hc]
    clear hc
    go_wp2_with fail
    refine G2.out.mono ?_
    rintro e w3 ⟨rfl, hb3⟩
    have B3 := hid (B2.out.trans (hb3.mono B2.out.size))
    clear hb3 G2
    go_wp2_with fail
    go_ret
    exact ⟨rfl, B3.out⟩
end Go.Proofs.Ythlmnhcnpffjdaa
