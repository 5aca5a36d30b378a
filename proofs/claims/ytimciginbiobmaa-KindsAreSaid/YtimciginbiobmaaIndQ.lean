/- axioms.isIndependent, axioms.isCircuit. -/
import Derived.Deep.QuietTactic
import Derived.BigQuiet
import Derived.Test.YtimciginbiobmaaGiveQ
namespace Go.Proofs.Ytimciginbiobmaa
open Go.RowKit Go.Shelf
attribute [local go_sem] Oper.semAt_some

/-- v is a slice that holds r's numbers of 0 to T - 1. -/
def RkAt (w : World) (v : Value) (T : Nat) (r : Nat → Nat) : Prop := ∃ b off cap, v = .slice (some ⟨b, off, none⟩) T cap ∧ b < w.heap.size ∧ ∀ i, i < T → w.cell? ⟨b, off + i, none⟩ = some (.int .i64 (r i : Nat))
theorem RkAt.below {w w' : World} {v : Value} {T : Nat} {r : Nat → Nat} (h : RkAt w v T r) (hb : Below w.heap.size w w') : RkAt w' v T r := by
  obtain ⟨b, off, cap, rfl, h1, h2⟩ := h
  exact ⟨b, off, cap, rfl, Nat.lt_of_lt_of_le h1 hb.size, fun i hi => (hb.cell (p := ⟨b, off + i, none⟩) h1).trans (h2 i hi)⟩

set_option maxHeartbeats 1000000 in
theorem isInd_any (v : Value) (T : Nat) (r : Nat → Nat) (s : Nat) (w : World) (hT : T ≤ 256) (hs : s < T) (h : RkAt w v T r) :
    Calls Try.prog 107 #[v, .int .i64 s] w fun e w' => e = .returned (.bool (r s == pop s)) ∧ Below w.heap.size w w' := by
  obtain ⟨b, off, cap, rfl, h1, h2⟩ := h
  have hc := h2 s hs
  have HS := hid (fun w' => size_any s w' (by omega))
  clear h2
  go_enter Try.func107, Try.ntmps107
  go_wp2_with fail
  go_quiet ((go_at_call 94; refine (HS.out _).mono ?_; rintro e w' ⟨rfl, rfl⟩; exact ⟨rfl, _, rfl⟩))
  go_wp2_with fail
  go_ret
  exact ⟨ret_bool (by rw [Bool.eq_iff_iff, beq_iff_eq, beq_iff_eq]; omega), drewN_below _ _ _⟩

set_option maxRecDepth 100000 in
set_option maxHeartbeats 2000000 in
theorem isCircuit_any (v : Value) (T : Nat) (r : Nat → Nat) (s : Nat) (w : World) (hT : T ≤ 256) (hs : s < T) (h : RkAt w v T r) :
    Calls Try.prog 90 #[v, .int .i64 s] w fun e w' => e = .returned (.bool (cirB r s)) ∧ Below w.heap.size w w' := by
  have HR := hid h
  obtain ⟨b, off, cap, rfl, _, _⟩ := h
  have hd1 : s < 256 := by omega
  refine (callsIn_wide (n := 6)).1 ?_
  refine callsIn_of_wp_marks Try.func90 rfl trivial ?_ rfl
  simp only [Try.ntmps90, List.size_toArray, List.length_cons, List.length_nil, Nat.reduceAdd, Nat.reduceSub, Array.replicate_succ, Array.replicate_zero, List.push_toArray, List.append_toArray, List.nil_append, List.cons_append]
  gi_wp2_with (refine ⟨trivial, ?_⟩; gi_at_call 87; refine (callsIn_wide.2 (sing_any s _)).mono ?_; rintro e w' ⟨rfl, rfl⟩)
  have c0 := cellN w (.slice (some ⟨b, off, none⟩) T cap) 32
  have c1 := cellN (w.alloc (.cells #[.slice (some ⟨b, off, none⟩) T cap] 32)) (.int .i64 s) 3
  have c2 := cellN ((w.alloc (.cells #[.slice (some ⟨b, off, none⟩) T cap] 32)).alloc (.cells #[.int .i64 s] 3)) (.bool false) 4
  have c3 := cellN (((w.alloc (.cells #[.slice (some ⟨b, off, none⟩) T cap] 32)).alloc (.cells #[.int .i64 s] 3)).alloc (.cells #[.bool false] 4)) (.int .i64 s) 3
  simp only [World.size_alloc] at c1 c2 c3
  have hB0 : Below w.heap.size w ((((w.alloc (.cells #[.slice (some ⟨b, off, none⟩) T cap] 32)).alloc (.cells #[.int .i64 s] 3)).alloc (.cells #[.bool false] 4)).alloc (.cells #[.int .i64 s] 3)) := ((((Below.refl _ w).alloc (Nat.le_refl _) _).alloc (by simp) _).alloc (by simp; omega) _).alloc (by simp; omega) _
  have d0 := cellA (.cells #[.int .i64 s] 3) (cellA (.cells #[.bool false] 4) (cellA (.cells #[.int .i64 s] 3) c0.1))
  have d1 := cellA (.cells #[.int .i64 s] 3) (cellA (.cells #[.bool false] 4) c1.1)
  have d2 := cellA (.cells #[.int .i64 s] 3) c2.1
  have f2 := frozA (.cells #[.int .i64 s] 3) c2.1 c2.2
  have d3 := c3.1
  clear c0 c1 c2 c3
  have hsz : ((((w.alloc (.cells #[.slice (some ⟨b, off, none⟩) T cap] 32)).alloc (.cells #[.int .i64 s] 3)).alloc (.cells #[.bool false] 4)).alloc (.cells #[.int .i64 s] 3)).heap.size = w.heap.size + 4 := by simp
  revert hB0 d0 d1 d2 f2 d3 hsz
  generalize ((((w.alloc (.cells #[.slice (some ⟨b, off, none⟩) T cap] 32)).alloc (.cells #[.int .i64 s] 3)).alloc (.cells #[.bool false] 4)).alloc (.cells #[.int .i64 s] 3)) = W0
  intro hB0 d0 d1 d2 f2 d3 hsz
  refine wpIn_rangeFunc_ownF rfl (by decide) (gf := 103) (lb := #[.pointer (some ⟨w.heap.size + 1 + 1 + 1, 0, none⟩)]) rfl trivial (enters_of Try.func103 (by kernel_rfl) rfl)
    (sing_stops 5 (by decide) s (w.heap.size + 1 + 1 + 1) hd1 _ (by omega) d3) (fun _ _ => trivial) (fun _ _ _ _ _ _ _ _ => trivial) (Below.refl _ _) (fun _ => rfl)
    (fun pre W => (∀ y ∈ pre, (r (dif s (bt y.1)) == pop (dif s (bt y.1))) = true) ∧ Below W0.heap.size W0 W)
    (fun c pre W => (c = .ret ∧ (∃ y ∈ pre, (r (dif s (bt y.1)) == pop (dif s (bt y.1))) = false) ∧ W.cell? ⟨w.heap.size + 1 + 1, 0, none⟩ = some (.bool false)) ∧ Below w.heap.size w W)
    (OwnFrom.and (Own.from (fun _ _ _ _ hs _ _ => hs) _) (ownFrom_below (Nat.le_refl _) (Nat.le_refl _)))
    (fun c => OwnFrom.and (Own.from (fun s A B row hs hg hr => ⟨hs.1, hs.2.1, cell_kept hs.2.2 hg hr⟩) _) (ownFrom_below (Nat.le_refl _) (by omega)))
    ⟨by simp, Below.refl _ _⟩
    (fun x => { tmps := #[.slice (some ⟨b, off, none⟩) T cap, .int .i64 s, .pointer (some ⟨w.heap.size, 0, none⟩), .pointer (some ⟨w.heap.size + 1, 0, none⟩), .pointer (some ⟨w.heap.size + 1 + 1, 0, none⟩), .int .i64 (bt x.1 : Nat), .int .i64 s, .func (.func 103) #[] #[.pointer (some ⟨w.heap.size + 1 + 1 + 1, 0, none⟩)], .int .i64 (bt x.1 : Nat), undef, undef, undef, undef, undef, undef, undef, undef, undef, undef], defers := [] }) ?assign ?body ?done ?stop
  case assign =>
    intro l x W K hK
    dsimp only [enc1]
    gi_wp2
    exact hK
  case body =>
    rintro l pre x W ⟨hp, hB⟩ _
    have hx8 := bt_lt (el_lt x)
    have hsx : bits .andNot .i64 (s : Int) (bt x.1 : Int) = ((dif s (bt x.1) : Nat) : Int) := i64_andNot_nat s (bt x.1) (by omega) (by omega)
    have hlt : dif s (bt x.1) < T := Nat.lt_of_le_of_lt (dif_le s _) hs
    have e0 := (hB.cell (p := ⟨w.heap.size, 0, none⟩) (by show w.heap.size < _; omega)).trans d0
    have e1 := (hB.cell (p := ⟨w.heap.size + 1, 0, none⟩) (by show w.heap.size + 1 < _; omega)).trans d1
    have HC := hid (isInd_any _ T r (dif s (bt x.1)) W hT hlt ((HR.out.below hB0).below hB))
    rcases hq : r (dif s (bt x.1)) == pop (dif s (bt x.1)) with _ | _
    · have HQ := hid hq
      clear hq
      gi_wp2_with (refine ⟨trivial, ?_⟩; gi_at_call 107; refine (CallsIn.inRound l (callsIn_wide.2 HC.out)).mono ?_)
      rw [HQ.out]
      rintro e W' ⟨rfl, hb'⟩
      have hB' := hB.trans (hb'.mono hB.size)
      have e3 := (hB'.cell (p := ⟨w.heap.size + 1 + 1, 0, none⟩) (by show w.heap.size + 1 + 1 < _; omega)).trans d2
      have f3' := (froz_below hB' (b := w.heap.size + 1 + 1) (off := 0) (by omega)).trans f2
      have HK := hid (keeps_below hb')
      have HB := hid hB'
      clear hb' hB'
      gi_wp2
      exact ⟨HK.out.trans (KeepsOthers.setCell _ _ _), ⟨rfl, ⟨x, by simp, HQ.out⟩, World.cell?_setCell_same' _ _ _ (by rw [e3]; rfl)⟩, (hB0.trans (HB.out.mono (by omega))).setCell (p := ⟨w.heap.size + 1 + 1, 0, none⟩) (by simp; omega) _⟩
    · have HQ := hid hq
      clear hq
      gi_wp2_with (refine ⟨trivial, ?_⟩; gi_at_call 107; refine (CallsIn.inRound l (callsIn_wide.2 HC.out)).mono ?_)
      rw [HQ.out]
      rintro e W' ⟨rfl, hb'⟩
      have HK := hid (keeps_below hb')
      have HB := hid (hB.trans (hb'.mono hB.size))
      clear hb'
      gi_wp2
      exact ⟨HK.out, trivial, fun y hy => by rw [List.mem_append, List.mem_singleton] at hy; rcases hy with hy | rfl; exact hp y hy; exact HQ.out, HB.out⟩
  case done =>
    rintro D ys W hD hys ⟨hne, hB⟩ hK
    have e0 := (hB.cell (p := ⟨w.heap.size, 0, none⟩) (by show w.heap.size < _; omega)).trans d0
    have e1 := (hB.cell (p := ⟨w.heap.size + 1, 0, none⟩) (by show w.heap.size + 1 < _; omega)).trans d1
    have HC := hid (isInd_any _ T r s W hT hs ((HR.out.below hB0).below hB))
    gi_wp2_with (refine ⟨trivial, ?_⟩; gi_at_call 107; refine (callsIn_wide.2 HC.out).mono ?_)
    rintro e W' ⟨rfl, hb'⟩
    have hB' := hB.trans (hb'.mono hB.size)
    have e3 := (hB'.cell (p := ⟨w.heap.size + 1 + 1, 0, none⟩) (by show w.heap.size + 1 + 1 < _; omega)).trans d2
    have f3' := (froz_below hB' (b := w.heap.size + 1 + 1) (off := 0) (by omega)).trans f2
    have hK1 := (keeps_below hb').same D _ hK rfl
    have HB := hid (hB0.trans (hB'.mono (by omega)))
    clear hb' hB'
    generalize hq : (r s == pop s) = q
    have HQ := hid hq
    clear hq
    gi_wp2
    have hK' := (KeepsOthers.setCell W' ⟨w.heap.size + 1 + 1, 0, none⟩ (.bool (!q))).same D _ hK1 rfl
    refine ⟨by simp, .inl ⟨_, _, rfl, run_takeDeferred hK', ?_⟩⟩
    have hc5 := cell_kept (World.cell?_setCell_same' W' ⟨w.heap.size + 1 + 1, 0, none⟩ (.bool (!q)) (by rw [e3]; rfl)) (grownBy_putObj' _ D (.deferred none)) (fun r e => by cases e; exact ⟨_, hK', rfl⟩)
    refine ⟨.bool (!q), ?_, ?_, (HB.out.setCell (p := ⟨w.heap.size + 1 + 1, 0, none⟩) (by simp; omega) _).trans (belowK_b (w := w) (Nat.le_refl _) _ D _ _ (by omega) hK' rfl rfl)⟩
    · simp [results, Try.f90, go_sem, hc5]
    · refine ret_bool ?_
      unfold cirB
      rw [HQ.out, (List.all_eq_true.2 fun i hi => ?_ : ((els s).all fun i => r (rm s i) == pop (rm s i)) = true), Bool.true_and]
      rw [← hys, List.mem_map] at hi
      obtain ⟨y, hy, rfl⟩ := hi
      exact hne y hy
  case stop =>
    rintro D c pre W hD hpre ⟨⟨rfl, ⟨y, hy, h1⟩, hcr⟩, hB⟩ hK
    gi_wp2
    refine ⟨by simp, .inl ⟨_, _, rfl, run_takeDeferred hK, ?_⟩⟩
    have hc5 := cell_kept hcr (grownBy_putObj' _ D (.deferred none)) (fun r e => by cases e; exact ⟨_, hK, rfl⟩)
    refine ⟨.bool false, ?_, ?_, hB.trans (belowK_b (w := w) (Nat.le_refl _) W D _ _ (by omega) hK rfl rfl)⟩
    · simp [results, Try.f90, go_sem, hc5]
    · refine ret_bool ?_
      unfold cirB
      refine (Bool.eq_false_iff.2 fun h => ?_).symm
      have := List.all_eq_true.1 (Bool.and_eq_true_iff.1 h).1 y.1 y.2
      have h1' : (r (rm s y.1) == pop (rm s y.1)) = false := h1
      rw [h1'] at this
      cases this
end Go.Proofs.Ytimciginbiobmaa
