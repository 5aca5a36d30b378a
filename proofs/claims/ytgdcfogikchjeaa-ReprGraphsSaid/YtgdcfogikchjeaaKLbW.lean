/- repr.hasNone where there is none, and Regular. -/
import Derived.Test.YtgdcfogikchjeaaRgBW
import Derived.Test.YtgdcfogikchjeaaMnMQ
import Derived.Deep.RegionHeld3
import Derived.Test.YtgdcfogikchjeaaKLqW
namespace Go.Proofs.Ytgdcfogikchjeaa
open Go.RowKit

/-- Three matroids lie one behind the other. -/
structure Bars (w : World) (b : Nat) (n0 n1 n2 : Nat) (l0 l1 l2 : List Nat) (a0 a1 a2 : Option Addr) (c0 c1 c2 : Nat) : Prop where
  x0 : w.cell? ⟨b, 0, none⟩ = some (.int .i64 n0) ∧ w.cell? ⟨b, 1, none⟩ = some (.slice a0 l0.length c0)
  x1 : w.cell? ⟨b, 2, none⟩ = some (.int .i64 n1) ∧ w.cell? ⟨b, 3, none⟩ = some (.slice a1 l1.length c1)
  x2 : w.cell? ⟨b, 4, none⟩ = some (.int .i64 n2) ∧ w.cell? ⟨b, 5, none⟩ = some (.slice a2 l2.length c2)
  i0 : Ints w (.slice a0 l0.length c0) (N l0)
  i1 : Ints w (.slice a1 l1.length c1) (N l1)
  i2 : Ints w (.slice a2 l2.length c2) (N l2)
theorem Bars.below {w w' : World} {b n0 n1 n2 : Nat} {l0 l1 l2 : List Nat} {a0 a1 a2 : Option Addr} {c0 c1 c2 : Nat} (h : Bars w b n0 n1 n2 l0 l1 l2 a0 a1 a2 c0 c1 c2) (hb : Below w.heap.size w w') : Bars w' b n0 n1 n2 l0 l1 l2 a0 a1 a2 c0 c1 c2 := by
  have hl : b < w.heap.size := World.block_lt_of_cell? w _ h.x0.1
  exact ⟨⟨(hb.cell (p := ⟨b, 0, none⟩) hl).trans h.x0.1, (hb.cell (p := ⟨b, 1, none⟩) hl).trans h.x0.2⟩, ⟨(hb.cell (p := ⟨b, 2, none⟩) hl).trans h.x1.1, (hb.cell (p := ⟨b, 3, none⟩) hl).trans h.x1.2⟩, ⟨(hb.cell (p := ⟨b, 4, none⟩) hl).trans h.x2.1, (hb.cell (p := ⟨b, 5, none⟩) hl).trans h.x2.2⟩, h.i0.below hb, h.i1.below hb, h.i2.below hb⟩
set_option maxRecDepth 20000 in
set_option maxHeartbeats 4000000 in
theorem hasNone_ok (m : Nat) (a : Option Addr) (cap : Nat) (l : List Nat) (w : World) (hm : m ≤ 8) (hf : Fam m l) (hb : Bas l) (h : Ints w (.slice a l.length cap) (N l)) (b n0 n1 n2 : Nat) (l0 l1 l2 : List Nat) (a0 a1 a2 : Option Addr) (c0 c1 c2 : Nat) (hB : Bars w b n0 n1 n2 l0 l1 l2 a0 a1 a2 c0 c1 c2)
    (h0 : n0 ≤ 8 ∧ Fam n0 l0 ∧ Bas l0) (h1 : n1 ≤ 8 ∧ Fam n1 l1 ∧ Bas l1) (h2 : n2 ≤ 8 ∧ Fam n2 l2 ∧ Bas l2) (e0 : minO m l n0 l0 = none) (e1 : minO m l n1 l1 = none) (e2 : minO m l n2 l2 = none) :
    Calls Try.prog 19 #[.agg #[.int .i64 m, .slice a l.length cap], .slice (some ⟨b, 0, none⟩) 3 3] w fun e w' => e = .returned (.tuple #[.bool true, .int .i64 0]) ∧ Below w.heap.size w w' := by
  have b1 := below_boxR w #[.int .i64 m, .slice a l.length cap]
  have x1 := World.alloc_heap_new w (.cells #[.int .i64 m, .slice a l.length cap] 33)
  obtain ⟨W1, hW1⟩ : ∃ W1, w.alloc (.cells #[.int .i64 m, .slice a l.length cap] 33) = W1 := ⟨_, rfl⟩
  rw [hW1] at b1 x1
  have CK := hid (check_any m _ (N l) W1 (h.below b1))
  rw [chk_mk hm hf hb] at CK
  have KX := hid (fun W (hW : Below W1.heap.size W1 W) => two_cells ((hW.block _ (Array.getElem?_eq_some_iff.1 x1).1).trans x1))
  have KB := hid (fun W (hW : Below W1.heap.size W1 W) => (hB.below b1).below hW)
  have M0 : Hid (∀ W, Below W1.heap.size W1 W → Calls Try.prog 35 #[.agg #[.int .i64 m, .slice a l.length cap], .agg #[.int .i64 n0, .slice a0 l0.length c0]] W fun e w' => e = .returned (.tuple #[.int .i64 0, .int .i64 0, .int .i64 5]) ∧ Below W1.heap.size W1 w') := fun W hW => (Minor_ok m n0 _ _ l l0 W hm hf hb ((h.below b1).below hW) h0.1 h0.2.1 h0.2.2 (KB.out W hW).i0).mono fun e w' h9 => ⟨by rw [h9.1, e0]; rfl, hW.trans (h9.2.mono hW.size)⟩
  have M1 : Hid (∀ W, Below W1.heap.size W1 W → Calls Try.prog 35 #[.agg #[.int .i64 m, .slice a l.length cap], .agg #[.int .i64 n1, .slice a1 l1.length c1]] W fun e w' => e = .returned (.tuple #[.int .i64 0, .int .i64 0, .int .i64 5]) ∧ Below W1.heap.size W1 w') := fun W hW => (Minor_ok m n1 _ _ l l1 W hm hf hb ((h.below b1).below hW) h1.1 h1.2.1 h1.2.2 (KB.out W hW).i1).mono fun e w' h9 => ⟨by rw [h9.1, e1]; rfl, hW.trans (h9.2.mono hW.size)⟩
  have M2 : Hid (∀ W, Below W1.heap.size W1 W → Calls Try.prog 35 #[.agg #[.int .i64 m, .slice a l.length cap], .agg #[.int .i64 n2, .slice a2 l2.length c2]] W fun e w' => e = .returned (.tuple #[.int .i64 0, .int .i64 0, .int .i64 5]) ∧ Below W1.heap.size W1 w') := fun W hW => (Minor_ok m n2 _ _ l l2 W hm hf hb ((h.below b1).below hW) h2.1 h2.2.1 h2.2.2 (KB.out W hW).i2).mono fun e w' h9 => ⟨by rw [h9.1, e2]; rfl, hW.trans (h9.2.mono hW.size)⟩
  have HB1 := hid b1
  subst hW1
  clear h hf hb b1 x1 hB h0 h1 h2 e0 e1 e2
  go_enter Try.func19, Try.ntmps19
  go_wp2_with fail
  refine CK.out.mono ?_
  rintro e w1 ⟨rfl, hb1⟩
  have B1 := hid hb1
  clear hb1 CK
  go_wp2_with fail
  refine wp_loop_rounds 4 ?_
  rw [rounds_succ]
  obtain ⟨⟨u0, u1⟩, -, -, -, -, -⟩ := KB.out _ B1.out
  obtain ⟨k0, k1, -, -⟩ := KX.out _ B1.out
  have hk1 := B1.out.trans (((Below.refl _ w1).alloc (Nat.le_refl _) (.cells #[.int .i64 n0, .slice a0 l0.length c0] 33)).mono B1.out.size)
  have B2 := hid hk1
  obtain ⟨y0, y1, -, -⟩ := two_cells (World.alloc_heap_new w1 (.cells #[.int .i64 n0, .slice a0 l0.length c0] 33))
  obtain ⟨z0, z1, -, -⟩ := KX.out _ B2.out
  clear hk1
  go_wp2_with fail
  refine (M0.out _ B2.out).mono ?_
  rintro e w3 ⟨rfl, hb3⟩
  have B3 := hid hb3
  clear hb3 y0 y1 z0 z1 u0 u1 k0 k1 B1 B2
  go_wp2_with fail
  rw [rounds_succ]
  obtain ⟨-, ⟨u0, u1⟩, -, -, -, -⟩ := KB.out _ B3.out
  obtain ⟨k0, k1, -, -⟩ := KX.out _ B3.out
  have hk1 := B3.out.trans (((Below.refl _ w3).alloc (Nat.le_refl _) (.cells #[.int .i64 n1, .slice a1 l1.length c1] 33)).mono B3.out.size)
  have B4 := hid hk1
  obtain ⟨y0, y1, -, -⟩ := two_cells (World.alloc_heap_new w3 (.cells #[.int .i64 n1, .slice a1 l1.length c1] 33))
  obtain ⟨z0, z1, -, -⟩ := KX.out _ B4.out
  clear hk1
  go_wp2_with fail
  refine (M1.out _ B4.out).mono ?_
  rintro e w5 ⟨rfl, hb5⟩
  have B5 := hid hb5
  clear hb5 y0 y1 z0 z1 u0 u1 k0 k1 B3 B4
  go_wp2_with fail
  rw [rounds_succ]
  obtain ⟨-, -, ⟨u0, u1⟩, -, -, -⟩ := KB.out _ B5.out
  obtain ⟨k0, k1, -, -⟩ := KX.out _ B5.out
  have hk1 := B5.out.trans (((Below.refl _ w5).alloc (Nat.le_refl _) (.cells #[.int .i64 n2, .slice a2 l2.length c2] 33)).mono B5.out.size)
  have B6 := hid hk1
  obtain ⟨y0, y1, -, -⟩ := two_cells (World.alloc_heap_new w5 (.cells #[.int .i64 n2, .slice a2 l2.length c2] 33))
  obtain ⟨z0, z1, -, -⟩ := KX.out _ B6.out
  clear hk1
  go_wp2_with fail
  refine (M2.out _ B6.out).mono ?_
  rintro e w7 ⟨rfl, hb7⟩
  have B7 := hid hb7
  clear hb7 y0 y1 z0 z1 u0 u1 k0 k1 B5 B6
  go_wp2_with fail
  rw [rounds_succ]
  go_wp2_with fail
  exact bodyPost_ret (results_tmp2 rfl _ _ _) rfl ⟨rfl, HB1.out.trans (B7.out.mono HB1.out.size)⟩
end Go.Proofs.Ytgdcfogikchjeaa

namespace Go.Proofs.Ytgdcfogikchjeaa
open Go.RowKit

theorem pick_at (o : Nat → Nat → Int) (s n k : Nat) (hk : k < ((List.range n).filter fun i => s.testBit i).length) : ((pickL o s n).getD k fun _ => 0) = o (((List.range n).filter fun i => s.testBit i)[k]) := by
  unfold pickL
  simp [List.getD, hk]
theorem fore_pick (o : Nat → Nat → Int) (s n i : Nat) (hi : i < ((List.range n).filter fun i => s.testBit i).length) (x : Nat → Int) : Fore (fun k => (pickL o s n).getD k fun _ => 0) i x ↔ ∃ j, (lo s (((List.range n).filter fun i => s.testBit i)[i])).testBit j = true ∧ x = o j := by
  have hp : (((List.range n).filter fun i => s.testBit i)).Pairwise (· < ·) := List.Pairwise.filter _ List.pairwise_lt_range
  have hm : ∀ j, j ∈ ((List.range n).filter fun i => s.testBit i) ↔ j < n ∧ s.testBit j = true := fun j => by simp [List.mem_filter]
  have hat := pick_at o s n
  generalize (List.range n).filter (fun i => s.testBit i) = F at *
  rw [List.pairwise_iff_getElem] at hp
  constructor
  · rintro ⟨j, hj, rfl⟩
    refine ⟨F[j], ?_, hat j (by omega)⟩
    rw [lo_bit]
    have h1 := (hm F[j]).1 (List.getElem_mem _)
    have h2 := hp j i (by omega) hi hj
    simp [h1.2, h2]
  · rintro ⟨j, hj, rfl⟩
    rw [lo_bit] at hj
    simp only [Bool.and_eq_true, decide_eq_true_eq] at hj
    have hn := ((hm F[i]).1 (List.getElem_mem _)).1
    obtain ⟨k, hk, e⟩ := List.mem_iff_getElem.1 ((hm j).2 ⟨by omega, by first | exact hj.1 | exact hj.2⟩)
    refine ⟨k, ?_, by rw [← e]; exact (hat k hk).symm⟩
    rcases Nat.lt_trichotomy k i with h | h | h
    · exact h
    · subst h; omega
    · have := hp i k hi hk h
      omega
/-- Columns are free just if none hangs on those ahead. -/
theorem lin_iff {p : Int} (hp : isP p) {R : List (List Int)} (hin : ∀ j i, 0 ≤ mtF R j i ∧ mtF R j i < p) {n s : Nat} (hn : n ≤ 8) (hs : s < 2 ^ n) : linB p R n s = (depR n (depC p (mtF R)) s == pop s) := by
  rw [Bool.eq_iff_iff, beq_iff_eq, Dep.ind hn hs]
  unfold linB freeC
  rw [freeTo_iff, elim_free hp (fun k r => by
    by_cases hk : k < ((List.range n).filter fun i => s.testBit i).length
    · rw [pick_at _ _ _ _ hk]; exact hin _ _
    · have : ((pickL (mtF R) s n).getD k fun _ => 0) = fun _ => 0 := by
        unfold pickL
        simp [List.getD, hk]
      rw [this]
      have := hp.pos
      show 0 ≤ (0 : Int) ∧ (0 : Int) < p
      omega)]
  have hl : (pickL (mtF R) s n).length = ((List.range n).filter fun i => s.testBit i).length := by unfold pickL; rw [List.length_map]
  rw [hl]
  have hsp : ∀ i (hi : i < ((List.range n).filter fun i => s.testBit i).length), Span p (Fore (fun k => (pickL (mtF R) s n).getD k fun _ => 0) i) ((pickL (mtF R) s n).getD i fun _ => 0) ↔ depC p (mtF R) (lo s (((List.range n).filter fun i => s.testBit i)[i])) (((List.range n).filter fun i => s.testBit i)[i]) := fun i hi => by
    unfold depC
    rw [pick_at _ _ _ _ hi]
    have : Fore (fun k => (pickL (mtF R) s n).getD k fun _ => 0) i = fun x => ∃ j, (lo s (((List.range n).filter fun i => s.testBit i)[i])).testBit j = true ∧ x = mtF R j := funext fun x => propext (fore_pick (mtF R) s n i hi x)
    rw [this]
  constructor
  · intro h i hi hb
    obtain ⟨k, hk, e⟩ := List.mem_iff_getElem.1 (show i ∈ (List.range n).filter fun i => s.testBit i by simp [List.mem_filter, hi, hb])
    have h1 := h k hk
    rw [hsp k hk, e] at h1
    exact h1
  · intro h i hi
    rw [hsp i hi]
    have := List.getElem_mem hi
    rw [List.mem_filter, List.mem_range] at this
    exact h _ this.1 this.2
theorem lin_basR {p : Int} (hp : isP p) {R : List (List Int)} (hin : ∀ j i, 0 ≤ mtF R j i ∧ mtF R j i < p) {n : Nat} (hn : n ≤ 8) : bigL n (fun s => linB p R n s) = basR n (depR n (depC p (mtF R))) :=
  ofInd_eq hn ((depC_dep hp (mtF R) n).rkOn hn) fun _ hs => lin_iff hp hin hn hs
theorem lin_bas {p : Int} (hp : isP p) {R : List (List Int)} (hin : ∀ j i, 0 ≤ mtF R j i ∧ mtF R j i < p) {n : Nat} (hn : n ≤ 8) : Bas (bigL n fun s => linB p R n s) := by
  rw [lin_basR hp hin hn]
  exact ((depC_dep hp (mtF R) n).rkOn hn).bas hn
theorem graph_basR {E : List (Nat × Nat)} (hn : E.length ≤ 8) (hE : ∀ j, j < E.length → ea E j < 7 ∧ eb E j < 7) : bigL E.length (fun s => !ringB E s) = basR E.length (depR E.length (depG E)) :=
  ofInd_eq hn ((depG_dep E E.length).rkOn hn) fun _ hs => ring_iff hn hE hs
theorem graph_bas {E : List (Nat × Nat)} (hn : E.length ≤ 8) (hE : ∀ j, j < E.length → ea E j < 7 ∧ eb E j < 7) : Bas (bigL E.length fun s => !ringB E s) := by
  rw [graph_basR hn hE]
  exact ((depG_dep E E.length).rkOn hn).bas hn
end Go.Proofs.Ytgdcfogikchjeaa
