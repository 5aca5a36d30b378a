/- codes.word: eight numbers; plus, places. -/
import Derived.Test.YtcncaaeofcmefaaPlainAll2
import Derived.Test.YtcncaaeofcmefaaGiveW
import Derived.Test.YtcncaaeofcmefaaOwnW
import Derived.Test.YtcncaaeofcmefaaExchW
import Derived.Test.YtcncaaeofcmefaaOrdBW
import Derived.Deep.RegionWith
namespace Go.Proofs.Ytcncaaeofcmefaa
open Go.RowKit

/-- The eight numbers of a word. -/
def wdC (f : Nat → Nat) : Array Value := #[.int .i64 (f 0 : Nat), .int .i64 (f 1 : Nat), .int .i64 (f 2 : Nat), .int .i64 (f 3 : Nat), .int .i64 (f 4 : Nat), .int .i64 (f 5 : Nat), .int .i64 (f 6 : Nat), .int .i64 (f 7 : Nat)]
theorem wdC_at (f : Nat → Nat) {i : Nat} (hi : i < 8) : (wdC f)[i]? = some (.int .i64 (f i : Nat)) := by
  have : i = 0 ∨ i = 1 ∨ i = 2 ∨ i = 3 ∨ i = 4 ∨ i = 5 ∨ i = 6 ∨ i = 7 := by omega
  rcases this with rfl | rfl | rfl | rfl | rfl | rfl | rfl | rfl <;> rfl
theorem wdC_set (f : Nat → Nat) {i : Nat} (hi : i < 8) (x : Nat) : (wdC f).setIfInBounds i (.int .i64 (x : Nat)) = wdC (fun r => if r = i then x else f r) := by
  have : i = 0 ∨ i = 1 ∨ i = 2 ∨ i = 3 ∨ i = 4 ∨ i = 5 ∨ i = 6 ∨ i = 7 := by omega
  rcases this with rfl | rfl | rfl | rfl | rfl | rfl | rfl | rfl <;> rfl
theorem wdC_congr {f g : Nat → Nat} (h : ∀ i, i < 8 → f i = g i) : wdC f = wdC g := by
  unfold wdC
  rw [h 0 (by omega), h 1 (by omega), h 2 (by omega), h 3 (by omega), h 4 (by omega), h 5 (by omega), h 6 (by omega), h 7 (by omega)]
/-- A block that holds a word. -/
def WdAt (W : World) (g : Nat) (f : Nat → Nat) : Prop := W.heap[g]? = some (.cells (wdC f) 46 (0, 0))
theorem WdAt.lt {W : World} {g : Nat} {f : Nat → Nat} (h : WdAt W g f) : g < W.heap.size := (Array.getElem?_eq_some_iff.1 h).1
theorem WdAt.cell {W : World} {g : Nat} {f : Nat → Nat} (h : WdAt W g f) {i : Nat} (hi : i < 8) : W.cell? ⟨g, i, none⟩ = some (.int .i64 (f i : Nat)) := by
  have e : W.heap[g]? = some (.cells (wdC f) 46 (0, 0)) := h
  simp only [World.cell?, e]
  exact wdC_at f hi
theorem WdAt.frozen {W : World} {g : Nat} {f : Nat → Nat} (h : WdAt W g f) (i : Nat) : W.frozen? ⟨g, i, none⟩ = false := by
  have e : W.heap[g]? = some (.cells (wdC f) 46 (0, 0)) := h
  simp [World.frozen?, e]
theorem WdAt.below {W W' : World} {g : Nat} {f : Nat → Nat} (h : WdAt W g f) (hb : Below W.heap.size W W') : WdAt W' g f := (hb.block g h.lt).trans h
theorem WdAt.set {W : World} {g : Nat} {f : Nat → Nat} (h : WdAt W g f) {i : Nat} (hi : i < 8) (x : Nat) : WdAt (W.setCell ⟨g, i, none⟩ (.int .i64 (x : Nat))) g (fun r => if r = i then x else f r) := by
  have e : W.heap[g]? = some (.cells (wdC f) 46 (0, 0)) := h
  unfold WdAt
  simp only [World.setCell, Array.getElem?_modify, ↓reduceIte, e, Option.map_some]
  show some (Obj.cells ((wdC f).setIfInBounds i (.int .i64 (x : Nat))) 46 (0, 0)) = _
  rw [wdC_set f hi x]
theorem WdAt.other {W : World} {g g' : Nat} {f : Nat → Nat} (h : WdAt W g f) (hne : g ≠ g') (i : Nat) (x : Value) : WdAt (W.setCell ⟨g', i, none⟩ x) g f := (Below.heap_setCell _ _ _ _ (by simpa using hne)).trans h
theorem WdAt.congr {W : World} {g : Nat} {f f' : Nat → Nat} (h : WdAt W g f) (hf : ∀ i, i < 8 → f i = f' i) : WdAt W g f' := by
  unfold WdAt
  rw [← wdC_congr hf]
  exact h
theorem WdAt.new (W : World) (f : Nat → Nat) : WdAt (W.alloc (.cells (wdC f) 46)) W.heap.size f := World.alloc_heap_new W _
/-- A word is stored. -/
def put8 (W : World) (g : Nat) (x : Nat → Nat) : World := ((((((((W.setCell ⟨g, 0, none⟩ (.int .i64 (x 0 : Nat))).setCell ⟨g, 1, none⟩ (.int .i64 (x 1 : Nat))).setCell ⟨g, 2, none⟩ (.int .i64 (x 2 : Nat))).setCell ⟨g, 3, none⟩ (.int .i64 (x 3 : Nat))).setCell ⟨g, 4, none⟩ (.int .i64 (x 4 : Nat))).setCell ⟨g, 5, none⟩ (.int .i64 (x 5 : Nat))).setCell ⟨g, 6, none⟩ (.int .i64 (x 6 : Nat))).setCell ⟨g, 7, none⟩ (.int .i64 (x 7 : Nat)))
theorem WdAt.put8 {W : World} {g : Nat} {f : Nat → Nat} (h : WdAt W g f) (x : Nat → Nat) : WdAt (put8 W g x) g x := by
  refine ((((((((h.set (i := 0) (by omega) (x 0)).set (i := 1) (by omega) (x 1)).set (i := 2) (by omega) (x 2)).set (i := 3) (by omega) (x 3)).set (i := 4) (by omega) (x 4)).set (i := 5) (by omega) (x 5)).set (i := 6) (by omega) (x 6)).set (i := 7) (by omega) (x 7)).congr fun i hi => ?_
  have : i = 0 ∨ i = 1 ∨ i = 2 ∨ i = 3 ∨ i = 4 ∨ i = 5 ∨ i = 6 ∨ i = 7 := by omega
  rcases this with rfl | rfl | rfl | rfl | rfl | rfl | rfl | rfl <;> rfl
theorem below_put8 {B : Nat} {w W : World} {g : Nat} (x : Nat → Nat) (h : Below B w W) (hg : B ≤ g) : Below B w (put8 W g x) :=
  ((((((((h.setCell (p := ⟨g, 0, none⟩) hg _).setCell (p := ⟨g, 1, none⟩) hg _).setCell (p := ⟨g, 2, none⟩) hg _).setCell (p := ⟨g, 3, none⟩) hg _).setCell (p := ⟨g, 4, none⟩) hg _).setCell (p := ⟨g, 5, none⟩) hg _).setCell (p := ⟨g, 6, none⟩) hg _).setCell (p := ⟨g, 7, none⟩) hg _)
theorem WdAt.eight {W : World} {g : Nat} {f : Nat → Nat} (h : WdAt W g f) : (W.cell? ⟨g, 0, none⟩ = some (.int .i64 (f 0 : Nat)) ∧ W.cell? ⟨g, 1, none⟩ = some (.int .i64 (f 1 : Nat)) ∧ W.cell? ⟨g, 2, none⟩ = some (.int .i64 (f 2 : Nat)) ∧ W.cell? ⟨g, 3, none⟩ = some (.int .i64 (f 3 : Nat))) ∧ (W.cell? ⟨g, 4, none⟩ = some (.int .i64 (f 4 : Nat)) ∧ W.cell? ⟨g, 5, none⟩ = some (.int .i64 (f 5 : Nat)) ∧ W.cell? ⟨g, 6, none⟩ = some (.int .i64 (f 6 : Nat)) ∧ W.cell? ⟨g, 7, none⟩ = some (.int .i64 (f 7 : Nat))) :=
  ⟨⟨h.cell (by omega), h.cell (by omega), h.cell (by omega), h.cell (by omega)⟩, h.cell (by omega), h.cell (by omega), h.cell (by omega), h.cell (by omega)⟩
def wdV (f : Nat → Nat) : Value := .agg (wdC f)
/-- A row more. -/
def plW (p : Int) (L : Nat) (f : Nat → Nat) (h : Nat → Int) (r : Nat) : Nat := if r < L then (((f r : Int) + h r) % p).toNat else f r
set_option maxRecDepth 20000 in
set_option maxHeartbeats 2000000 in
theorem plus_any (p : Int) (f : Nat → Nat) (v : Value) (l : List Int) (w : World) (hp : 0 < p ∧ p ≤ 7) (hl : Ints w v l) (hl8 : l.length ≤ 8) (h : Nat → Int) (hf : ∀ r, f r < 7) (hh : ∀ r, r < l.length → l.getD r 0 = h r ∧ 0 ≤ h r ∧ h r < 7) :
    Calls Try.prog 27 #[wdV f, .int .i64 p, v] w fun e w' => e = .returned (wdV (plW p l.length f h)) ∧ Below w.heap.size w w' := by
  unfold wdV
  have HI := hid hl
  obtain ⟨a, cap, rfl, hlen, hc⟩ := hl
  have e1 : Below w.heap.size w (w.alloc (.cells (wdC f) 46)) := (Below.refl _ _).alloc (Nat.le_refl _) _
  have e2 : Below (w.heap.size + 1) (w.alloc (.cells (wdC f) 46)) ((w.alloc (.cells (wdC f) 46)).alloc (.cells (wdC (fun _ => 0)) 46)) := (Below.refl _ _).alloc (by simp) _
  have h5 := WdAt.new w f
  have hz := WdAt.new (w.alloc (.cells (wdC f) 46)) (fun _ => 0)
  rw [World.size_alloc] at hz
  have HB5 : Hid (WdAt ((w.alloc (.cells (wdC f) 46)).alloc (.cells (wdC (fun _ => 0)) 46)) w.heap.size f) := (e2.block w.heap.size (by omega)).trans h5
  have HBZ := hid hz
  have HBW := hid (e1.trans (e2.mono (by omega)))
  clear e1 e2 h5 hz
  have e9 : wdC (fun _ => 0) = #[.int .i64 0, .int .i64 0, .int .i64 0, .int .i64 0, .int .i64 0, .int .i64 0, .int .i64 0, .int .i64 0] := rfl
  rw [e9] at HB5 HBZ HBW
  clear e9
  obtain ⟨W0, hW0⟩ : ∃ W0, (w.alloc (.cells (wdC f) 46)).alloc (.cells #[.int .i64 0, .int .i64 0, .int .i64 0, .int .i64 0, .int .i64 0, .int .i64 0, .int .i64 0, .int .i64 0] 46) = W0 := ⟨_, rfl⟩
  rw [hW0] at HB5 HBZ HBW
  have HHH := hid hh
  have HFF := hid hf
  clear hc hh hf
  go_enter Try.func27, Try.ntmps27
  go_wp2_with fail
  clear hW0
  go_loopw [11] (fun i wr => ∃ j : Nat, j ≤ l.length ∧ i = .int .i64 j ∧ Hid (WdAt wr w.heap.size (plW p j f h)) ∧ Hid (WdAt wr (w.heap.size + 1) (fun _ => 0)) ∧ Hid (Below w.heap.size w wr)) (fun i _ => l.length - (intOf i).toNat)
  case atStart => exact ⟨0, by omega, rfl, HB5.out.congr (fun i _ => by unfold plW; rw [if_neg (by omega)]), HBZ.out, HBW.out⟩
  case round =>
    obtain ⟨j, hj, rfl, HJ, HZ, HW⟩ := hrel
    by_cases hlt : j < l.length
    · have hj8 : j < 8 := by omega
      have c1 := HJ.out.cell hj8
      have c2 := HJ.out.frozen j
      rw [show plW p j f h j = f j from by unfold plW; rw [if_neg (by omega)]] at c1
      obtain ⟨aa, cc2, hv2, -, hcc⟩ := HI.out
      obtain ⟨b, off, ha, hb, hcell⟩ := hcc (by omega)
      injection hv2 with q1 q2 q3
      subst ha
      subst q1
      have c3 := (HW.out.cell (p := ⟨b, off + j, none⟩) hb).trans (hcell j hlt)
      obtain ⟨bh0, bh⟩ := HHH.out j hlt
      rw [bh0] at c3
      clear bh0
      have bf := HFF.out j
      have hji : (j : Int) < (l.length : Int) := by omega
      obtain ⟨y, hy⟩ : ∃ y, h j = y := ⟨_, rfl⟩
      rw [hy] at c3
      obtain ⟨x, hx⟩ : ∃ x, f j = x := ⟨_, rfl⟩
      rw [hy] at bh
      rw [hx] at bf c1
      obtain ⟨m, hm⟩ : ∃ m, (x : Int) + y = m := ⟨_, rfl⟩
      have hm0 : 0 ≤ m ∧ m ≤ 14 := by omega
      obtain ⟨z, hz⟩ : ∃ z : Nat, Int.tmod m p = (z : Int) := ⟨(Int.tmod m p).toNat, by rw [Int.toNat_of_nonneg]; rw [Int.tmod_eq_emod_of_nonneg hm0.1]; exact Int.emod_nonneg _ (by omega)⟩
      have hz2 : m % p = (z : Int) := by rw [← hz, Int.tmod_eq_emod_of_nonneg hm0.1]
      have hz7 : (z : Int) < p := by rw [← hz2]; exact Int.emod_lt_of_pos _ hp.1
      have hw3 : IntKind.i64.wrap m = m := IntWalk.i64_in _ (by omega)
      have hw4 : IntKind.i64.wrap (z : Int) = (z : Int) := IntWalk.i64_in _ (by omega)
      have hp0 : (p == 0) = false := by rw [beq_eq_false_iff_ne]; omega
      have hp1 : ¬ p = 0 := by omega
      have G5 : Hid (WdAt (wr.setCell ⟨w.heap.size, j, none⟩ (.int .i64 (z : Nat))) w.heap.size (plW p (j + 1) f h)) := (HJ.out.set hj8 z).congr fun i _ => by
        unfold plW
        by_cases e : i = j
        · subst e
          rw [if_pos rfl, if_pos (by omega), hy, hx, hm, hz2, Int.toNat_natCast]
        · rw [if_neg e]
          by_cases e2 : i < j
          · rw [if_pos e2, if_pos (by omega)]
          · rw [if_neg e2, if_neg (by omega)]
      have GZ : Hid (WdAt (wr.setCell ⟨w.heap.size, j, none⟩ (.int .i64 (z : Nat))) (w.heap.size + 1) (fun _ => 0)) := HZ.out.other (by omega) j _
      have GW : Hid (Below w.heap.size w (wr.setCell ⟨w.heap.size, j, none⟩ (.int .i64 (z : Nat)))) := HW.out.setCell (p := ⟨w.heap.size, j, none⟩) (Nat.le_refl _) _
      have HJL := hid hlt
      clear HJ HZ HW hcell hcc hb hy hx hz2 hlt
      go_wp2_with fail
      go_roundw
      case rel => exact ⟨j + 1, HJL.out, by go_num, G5.out, GZ.out, GW.out⟩
      case measure => have := HJL.out; simp [intOf]; omega
    · have hjL : j = l.length := by omega
      have hji : ¬ (j : Int) < (l.length : Int) := by omega
      have H5 := hid HJ.out
      clear HJ
      obtain ⟨F, HFE⟩ : ∃ F, Hid (plW p j f h = F) := ⟨_, rfl⟩
      rw [HFE.out] at H5
      obtain ⟨⟨f0, f1, f2, f3⟩, f4, f5, f6, f7⟩ := H5.out.eight
      obtain ⟨⟨z0, z1, z2, z3⟩, z4, z5, z6, z7⟩ := HZ.out.eight
      have y0 := HZ.out.frozen 0
      have y1 := HZ.out.frozen 1
      have y2 := HZ.out.frozen 2
      have y3 := HZ.out.frozen 3
      have y4 := HZ.out.frozen 4
      have y5 := HZ.out.frozen 5
      have y6 := HZ.out.frozen 6
      have y7 := HZ.out.frozen 7
      have HS := hid (HZ.out.put8 F)
      have HF := hid (below_put8 F HW.out (show w.heap.size ≤ w.heap.size + 1 by omega))
      have HJL := hid hjL
      clear HZ H5 HW hjL
      go_wp2_with fail
      obtain ⟨⟨g0, g1, g2, g3⟩, g4, g5, g6, g7⟩ := HS.out.eight
      unfold put8 at g0 g1 g2 g3 g4 g5 g6 g7
      refine bodyPost_ret (v := .agg (wdC F)) ?_ rfl ⟨by rw [← HFE.out, HJL.out], HF.out⟩
      unfold wdC
      simp [results, Try.f27, go_sem, g0, g1, g2, g3, g4, g5, g6, g7]
theorem index_word (f : Nat → Nat) : ∀ (j : Nat), j < 8 → ∀ w : World, (Instr.index 46 (.agg #[.int .i64 (f 0 : Nat), .int .i64 (f 1 : Nat), .int .i64 (f 2 : Nat), .int .i64 (f 3 : Nat), .int .i64 (f 4 : Nat), .int .i64 (f 5 : Nat), .int .i64 (f 6 : Nat), .int .i64 (f 7 : Nat)]) (.int .i64 (j : Nat))).run Try.prog w = .ok (.int .i64 (f j : Nat)) w
  | 0, _, w => by kernel_rfl
  | 1, _, w => by kernel_rfl
  | 2, _, w => by kernel_rfl
  | 3, _, w => by kernel_rfl
  | 4, _, w => by kernel_rfl
  | 5, _, w => by kernel_rfl
  | 6, _, w => by kernel_rfl
  | 7, _, w => by kernel_rfl
  | _ + 8, h, _ => by omega
/-- The places below r at which it is not nought. -/
def plN (f : Nat → Nat) : Nat → Nat
  | 0 => 0
  | r + 1 => if f r = 0 then plN f r else plN f r ||| 2 ^ r
theorem plN_lt (f : Nat → Nat) : ∀ r, plN f r < 2 ^ r
  | 0 => by show (0 : Nat) < 1; decide
  | r + 1 => by
    have h := plN_lt f r
    rw [plN]
    have h2 : plN f r < 2 ^ (r + 1) := Nat.lt_of_lt_of_le h (Nat.pow_le_pow_right (by decide) (by omega))
    split
    · exact h2
    · exact Nat.or_lt_two_pow h2 (Nat.pow_lt_pow_right (by decide) (by omega))
set_option maxRecDepth 20000 in
set_option maxHeartbeats 2000000 in
theorem places_any (f : Nat → Nat) (w : World) :
    Calls Try.prog 21 #[wdV f] w fun e w' => e = .returned (.int .i64 (plN f 8 : Nat)) ∧ Below w.heap.size w w' := by
  unfold wdV
  have HBW : Hid (Below w.heap.size w (w.alloc (.cells (wdC f) 46))) := (Below.refl _ _).alloc (Nat.le_refl _) _
  have HB5 := WdAt.new w f
  obtain ⟨⟨f0, f1, f2, f3⟩, f4, f5, f6, f7⟩ := HB5.eight
  clear HB5
  obtain ⟨W0, hW0⟩ : ∃ W0, w.alloc (.cells (wdC f) 46) = W0 := ⟨_, rfl⟩
  rw [hW0] at HBW f0 f1 f2 f3 f4 f5 f6 f7
  go_enter Try.func21, Try.ntmps21
  go_wp2_with fail
  clear hW0
  go_loopw [3, 7] (fun s i wr => ∃ j : Nat, j ≤ 8 ∧ i = .int .i64 j ∧ s = .int .i64 (plN f j : Nat) ∧ wr = W0) (fun _ i _ => 8 - (intOf i).toNat)
  case atStart => exact ⟨0, by omega, rfl, rfl, rfl⟩
  case round =>
    obtain ⟨j, hj, rfl, rfl, rfl⟩ := hrel
    by_cases hlt : j < 8
    · have hpl := plN_lt f j
      have PS : Hid (plN f (j + 1) = if f j = 0 then plN f j else plN f j ||| 2 ^ j) := rfl
      have h128 : 2 ^ j ≤ 128 := Nat.le_trans (Nat.pow_le_pow_right (by omega) (show j ≤ 7 by omega)) (by decide)
      have hor : bits .or .i64 ((plN f j : Nat) : Int) ((2 ^ j : Nat) : Int) = ((plN f j ||| 2 ^ j : Nat) : Int) := i64_or_nat _ _ (by omega) (by omega)
      have hcast : (2 : Int) ^ j = ((2 ^ j : Nat) : Int) := by simp
      have hsh : wrap64 (2 ^ j) = ((2 ^ j : Nat) : Int) := by rw [hcast]; exact IntWalk.wrap64_in _ ⟨Int.le_trans (by decide) (Int.natCast_nonneg _), Int.le_trans (Int.ofNat_le.2 h128) (by decide)⟩
      have hsh2 : IntKind.i64.wrap (2 ^ j) = ((2 ^ j : Nat) : Int) := by rw [hcast]; exact IntWalk.i64_in _ ⟨Int.le_trans (by decide) (Int.natCast_nonneg _), Int.le_trans (Int.ofNat_le.2 h128) (by decide)⟩
      have hix := index_word f j hlt wr
      have hji : (j : Int) < 8 := by omega
      have HJL := hid hlt
      obtain ⟨A, hA⟩ : ∃ A, plN f j = A := ⟨_, rfl⟩
      rw [hA] at hor PS ⊢
      obtain ⟨Q, hQ⟩ : ∃ Q, 2 ^ j = Q := ⟨_, rfl⟩
      rw [hQ] at hor PS hsh hsh2
      obtain ⟨O, hO⟩ : ∃ O, A ||| Q = O := ⟨_, rfl⟩
      rw [hO] at hor PS
      clear hcast h128 hpl hA hQ hO
      by_cases hz : f j = 0
      · rw [if_pos hz] at PS
        have hzb : (((f j : Nat) : Int) != 0) = false := by simp [hz]
        have hzz : ((f j : Nat) : Int) = 0 := by omega
        clear hz
        go_wp2_with fail
        go_roundw
        case rel => exact ⟨j + 1, HJL.out, by go_num, by rw [PS.out], trivial⟩
        case measure => have := HJL.out; simp [intOf]; omega
      · rw [if_neg hz] at PS
        have hzb : (((f j : Nat) : Int) != 0) = true := by rw [bne_iff_ne]; omega
        have hzz : ¬ ((f j : Nat) : Int) = 0 := by omega
        clear hz
        go_wp2_with fail
        go_roundw
        case rel => exact ⟨j + 1, HJL.out, by go_num, by rw [PS.out], trivial⟩
        case measure => have := HJL.out; simp [intOf]; omega
    · obtain rfl : j = 8 := by omega
      go_wp2_with fail
      go_ret
      exact ⟨rfl, HBW.out⟩
end Go.Proofs.Ytcncaaeofcmefaa
