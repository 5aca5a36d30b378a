/- field.noughts, field.clearColumn. -/
import Derived.Test.YtpdfaenjmjphpaaFdBQ
namespace Go.Proofs.Ytpdfaenjmjphpaa
open Go.RowKit

/-- The world when noughts begins to lay its rows: the box of the result, the rows' block, the box of x. -/
def nulW (w : World) (p : Int) (N c : Nat) : World := (((w.alloc (.cells #[.int .i64 0, .int .i64 0, .slice none 0 0] 24)).alloc (.cells (madeCells #[.slice none 0 0] N) 35)).alloc (.cells #[.int .i64 p, .int .i64 c, .slice (some ⟨w.heap.size + 1, 0, none⟩) N N] 24))
theorem NulH.new (w : World) (p : Int) (N c : Nat) : NulH (nulW w p N c) w.heap.size N c 0 := by
  have e1 : (w.alloc (.cells #[.int .i64 0, .int .i64 0, .slice none 0 0] 24)).heap.size = w.heap.size + 1 := by simp
  have hb : Below (w.heap.size + 1 + 1) ((w.alloc (.cells #[.int .i64 0, .int .i64 0, .slice none 0 0] 24)).alloc (.cells (madeCells #[.slice none 0 0] N) 35)) (nulW w p N c) := (Below.refl _ _).alloc (by simp) _
  refine ⟨fun i hi => by omega, fun i _ hi => ?_, fun i => ?_, fun i hi => by omega, by simp [nulW]⟩
  · rw [hb.cell (p := ⟨w.heap.size + 1, i, none⟩) (by show w.heap.size + 1 < _; omega), World.cell?_alloc_at _ _ _ _ (by rw [e1])]
    simp [madeCells, hi, Nat.mod_one]
  · rw [froz_below hb (by omega)]
    exact World.frozen?_alloc_at _ _ _ _ (by rw [e1])
theorem nulW_below (w : World) (p : Int) (N c : Nat) : Below w.heap.size w (nulW w p N c) := (((Below.refl _ _).alloc (Nat.le_refl _) _).alloc (by simp) _).alloc (by simp; omega) _
theorem nulW_box (w : World) (p : Int) (N c : Nat) : (nulW w p N c).heap[w.heap.size + 1 + 1]? = some (.cells #[.int .i64 p, .int .i64 c, .slice (some ⟨w.heap.size + 1, 0, none⟩) N N] 24 (0, 0)) ∧ (nulW w p N c).heap[w.heap.size]? = some (.cells #[.int .i64 0, .int .i64 0, .slice none 0 0] 24 (0, 0)) := by
  constructor
  · have := World.alloc_heap_new ((w.alloc (.cells #[.int .i64 0, .int .i64 0, .slice none 0 0] 24)).alloc (.cells (madeCells #[.slice none 0 0] N) 35)) (.cells #[.int .i64 p, .int .i64 c, .slice (some ⟨w.heap.size + 1, 0, none⟩) N N] 24)
    rwa [show ((w.alloc (.cells #[.int .i64 0, .int .i64 0, .slice none 0 0] 24)).alloc (.cells (madeCells #[.slice none 0 0] N) 35)).heap.size = w.heap.size + 1 + 1 by simp] at this
  · have hb : Below (w.heap.size + 1) (w.alloc (.cells #[.int .i64 0, .int .i64 0, .slice none 0 0] 24)) (nulW w p N c) := ((Below.refl _ _).alloc (by simp) _).alloc (by simp) _
    exact (hb.block _ (by omega)).trans (World.alloc_heap_new w _)
theorem three_frozen {W : World} {b : Nat} {x y z : Value} {t : TypeId} (h : W.heap[b]? = some (.cells #[x, y, z] t (0, 0))) : W.frozen? ⟨b, 0, none⟩ = false ∧ W.frozen? ⟨b, 1, none⟩ = false ∧ W.frozen? ⟨b, 2, none⟩ = false := by
  refine ⟨?_, ?_, ?_⟩ <;> simp [World.frozen?, h]
theorem set_three {W : World} {b : Nat} {x y z x' y' z' : Value} {t : TypeId} (h : W.heap[b]? = some (.cells #[x, y, z] t (0, 0))) : (((W.setCell ⟨b, 0, none⟩ x').setCell ⟨b, 1, none⟩ y').setCell ⟨b, 2, none⟩ z').heap[b]? = some (.cells #[x', y', z'] t (0, 0)) := by
  simp only [World.setCell, Array.getElem?_modify, ↓reduceIte, h, Option.map_some]
  rfl
theorem save_three (w : World) (b : Nat) (x y z : Value) : Save (fun k => k = b) w (((w.setCell ⟨b, 0, none⟩ x).setCell ⟨b, 1, none⟩ y).setCell ⟨b, 2, none⟩ z) := ((save_cell w b 0 x).trans (save_cell _ b 1 y)).trans (save_cell _ b 2 z)
set_option maxRecDepth 20000 in
set_option maxHeartbeats 1000000 in
theorem noughts_ok (p : Int) (N c : Nat) (w : World) (hN : N ≤ 256) (hc : c ≤ 256) :
    Calls Try.prog 21 #[.int .i64 p, .int .i64 N, .int .i64 c] w fun e w' => e = .returned (.agg #[.int .i64 p, .int .i64 c, .slice (some ⟨w.heap.size + 1, 0, none⟩) N N]) ∧ MatB w' (w.heap.size + 1) N c (fun i => w.heap.size + 3 + i) (fun _ => c) (fun _ _ => 0) ∧ Below w.heap.size w w' := by
  have H0 := hid (NulH.new w p N c)
  have HB := hid (nulW_below w p N c)
  have HX := hid (nulW_box w p N c)
  have mk := fun w => run_make_rows N hN w
  have mk2 := fun w => run_make_to c c (Nat.le_refl _) hc w
  go_enter Try.func21, Try.ntmps21
  go_wp2_with fail
  clear mk
  unfold nulW at H0 HB HX
  revert H0 HB HX
  generalize ((w.alloc (.cells #[.int .i64 0, .int .i64 0, .slice none 0 0] 24)).alloc (.cells (madeCells #[.slice none 0 0] N) 35)).alloc (.cells #[.int .i64 p, .int .i64 c, .slice (some ⟨w.heap.size + 1, 0, none⟩) N N] 24) = W0
  intro H0 HB HX
  go_loopw [8, 17] (fun _ i wr => ∃ k : Nat, k ≤ N ∧ i = .int .i64 k ∧ Hid (NulH wr w.heap.size N c k) ∧ Hid (Save (fun b => b = w.heap.size + 1) W0 wr)) (fun _ i _ => N - (intOf i).toNat)
  case atStart => exact ⟨0, Nat.zero_le _, rfl, H0.out, Save.refl _ _⟩
  case round =>
    obtain ⟨k, hk, rfl, HK, HS⟩ := hrel
    have hs0 := H0.out.size
    have hB : Hid (wr.heap[w.heap.size + 1 + 1]? = some (.cells #[.int .i64 p, .int .i64 c, .slice (some ⟨w.heap.size + 1, 0, none⟩) N N] 24 (0, 0))) := (HS.out.block _ (by omega) (by omega)).trans HX.out.1
    have hB2 : Hid (wr.heap[w.heap.size]? = some (.cells #[.int .i64 0, .int .i64 0, .slice none 0 0] 24 (0, 0))) := (HS.out.block _ (by omega) (by omega)).trans HX.out.2
    obtain ⟨x0, x1, x2⟩ := three_cells hB.out
    have hsz := HK.out.size
    by_cases hlt : k < N
    · have hki : (k : Int) < (N : Int) := by omega
      have AB := hid (((Below.refl _ wr).alloc (Nat.le_refl _) (.cells (madeCells #[.int .i64 0] c) 3)))
      have x2' : (wr.alloc (.cells (madeCells #[.int .i64 0] c) 3)).cell? ⟨w.heap.size + 1 + 1, 2, none⟩ = some (.slice (some ⟨w.heap.size + 1, 0, none⟩) N N) := ((AB.out).cell (p := ⟨w.heap.size + 1 + 1, 2, none⟩) (by show w.heap.size + 1 + 1 < wr.heap.size; omega)).trans x2
      have t1 : (wr.alloc (.cells (madeCells #[.int .i64 0] c) 3)).cell? ⟨w.heap.size + 1, k, none⟩ = some (.slice none 0 0) := ((AB.out).cell (p := ⟨w.heap.size + 1, k, none⟩) (by show w.heap.size + 1 < wr.heap.size; omega)).trans (HK.out.todo k (Nat.le_refl _) hlt)
      have f1 : (wr.alloc (.cells (madeCells #[.int .i64 0] c) 3)).frozen? ⟨w.heap.size + 1, k, none⟩ = false := (froz_below AB.out (b := w.heap.size + 1) (off := k) (by show w.heap.size + 1 < wr.heap.size; omega)).trans (HK.out.frz k)
      have ST := hid (HK.out.step hlt 3).drew
      have SV : Hid (Save (fun b => b = w.heap.size + 1) W0 ((wr.alloc (.cells (madeCells #[.int .i64 0] c) 3)).setCell ⟨w.heap.size + 1, k, none⟩ (.slice (some ⟨wr.heap.size, 0, none⟩) c c))) := (HS.out.alloc _).trans (save_cell _ _ _ _)
      clear HS HK H0 HB HX hB hB2 AB
      have HSZ := hid hsz
      have HS0 := hid hs0
      clear hsz hs0
      go_wp2_with fail
      go_region_with fail
      all_goals go_wp2_with fail
      all_goals exact ⟨⟨k + 1, by omega, by go_num, ST.out, SV.out.drew⟩, by simp [intOf]; omega⟩
    · obtain rfl : k = N := by omega
      have HM := hid HK.out.full
      have hne : ¬ (k : Int) < (k : Int) := by omega
      clear mk2
      have HBW : Hid (Below w.heap.size w wr) := HS.out.below HB.out (by omega) (fun b e => by omega)
      obtain ⟨y0, y1, y2⟩ := three_cells hB2.out
      obtain ⟨z0, z1, z2⟩ := three_frozen hB2.out
      have HR := hid (set_three (x' := .int .i64 p) (y' := .int .i64 c) (z' := .slice (some ⟨w.heap.size + 1, 0, none⟩) k k) hB2.out)
      have SV := hid (save_three wr w.heap.size (.int .i64 p) (.int .i64 c) (.slice (some ⟨w.heap.size + 1, 0, none⟩) k k))
      have HM2 := hid (HM.out.save SV.out (by omega) fun i _ => by omega)
      have HB2 : Hid (Below w.heap.size w (((wr.setCell ⟨w.heap.size, 0, none⟩ (.int .i64 p)).setCell ⟨w.heap.size, 1, none⟩ (.int .i64 c)).setCell ⟨w.heap.size, 2, none⟩ (.slice (some ⟨w.heap.size + 1, 0, none⟩) k k))) := SV.out.below HBW.out (by omega) (fun b e => by omega)
      clear HK HS H0 HB HX hB hB2 HM SV HBW hs0 hsz
      go_wp2_with fail
      obtain ⟨g0, g1, g2⟩ := three_cells HR.out
      refine bodyPost_ret (v := .agg #[.int .i64 p, .int .i64 c, .slice (some ⟨w.heap.size + 1, 0, none⟩) k k]) ?_ rfl ⟨rfl, HM2.out, HB2.out⟩
      simp [results, Try.f21, go_sem, g0, g1, g2]
end Go.Proofs.Ytpdfaenjmjphpaa
