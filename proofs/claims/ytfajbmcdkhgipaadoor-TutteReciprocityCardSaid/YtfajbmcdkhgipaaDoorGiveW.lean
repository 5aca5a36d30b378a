/- A region that only reads, in a round of a loop over a function: one walk of the text's order serves every order. -/
import Derived.Sort.QuietIn
import Derived.Test.YtfajbmcdkhgipaaDoorSingQ
namespace Go.Proofs.YtfajbmcdkhgipaaDoor
open Go.RowKit Go.Shelf

def noDefer (l : List Oper) : Bool := l.all fun o => match o.op with | .defer _ => false | _ => true
theorem noDefer_at {l : List Oper} (h : noDefer l = true) {i : Nat} {o : Oper} (hi : l.toArray[i]? = some o) (c : _) : o.op ≠ .defer c := fun e => by
  have hm : o ∈ l := by
    rw [List.getElem?_toArray] at hi
    exact List.mem_of_getElem? hi
  have := List.all_eq_true.1 h o hm
  rw [e] at this
  cases this
theorem upon_round {P : Program} {n l0 : Nat} {o : Oper} {a : Act} {K : Act → World → Prop} {Q : Exit → Act → World → Prop} {r : Result Next} (h : o.uponIn Fence.wide n P a K Q r) : o.uponIn (Fence.wide.inRound l0) n P a K Q r := by
  cases r with
  | ok x w' => cases x <;> exact h
  | halt x w' => exact h
theorem any_round {P : Program} {n l0 : Nat} {l : List Oper} {Q : Exit → Act → World → Prop} (hd : noDefer l = true) : ∀ (fuel : Nat) (listed : Array Bool) (a : Act) (w : World),
    wpAnyIn Fence.wide n P .any l.toArray Q fuel listed a w → wpAnyIn (Fence.wide.inRound l0) n P .any l.toArray Q fuel listed a w
  | 0, _, _, _, h => h
  | fuel + 1, listed, a, w, h => by
    refine ⟨h.1, fun i hi => ?_⟩
    have h1 := wpOpIn_mono (fun a w => any_round (l0 := l0) hd fuel (listed.setIfInBounds i true) a w) (h.2 i hi)
    unfold wpOpIn at h1 ⊢
    cases ho : l.toArray[i]? with
    | none => rw [ho] at h1; exact h1
    | some o =>
      rw [ho] at h1
      dsimp only at h1 ⊢
      split
      · rename_i hw
        rw [if_pos hw] at h1
        refine ⟨h1.1, upon_round ?_⟩
        have h2 := h1.2
        rw [Oper.semAt_eq _ _ _ (noDefer_at hd ho)] at h2 ⊢
        exact h2
      · rename_i hw
        rw [if_neg hw] at h1
        exact h1
theorem region_quiet_round {P : Program} {n l0 id : Nat} {Q : Exit → Act → World → Prop} {a : Act} {w : World} {l : List Oper} (hd : noDefer l = true) (hm : P.follows .mixedOrders = true) (hB : Region.lexB .any l.toArray = true)
    (h : wpQuietIn Fence.wide n P l.toArray (fun w' => ∃ n, w' = w.drewN n) (fun a' => ∀ w', (∃ n, w' = w.drewN n) → Q .normal a' w') l a) : (Code.region id l.toArray true).wpIn (Fence.wide.inRound l0) n P Q a w := by
  simp only [Region.lexB, Bool.and_eq_true] at hB
  refine wpIn_region_any hm (any_round hd _ _ _ _ (wpAnyIn_of_quiet (C := fun w' => ∃ n, w' = w.drewN n) (Q := fun a' => ∀ w', (∃ n, w' = w.drewN n) → Q .normal a' w') rfl (fun _ w' hw' h => h w' hw') _ _ _ _ ⟨1, rfl⟩ ?_))
  have := wpAnyQIn_lex (F := Fence.wide) (n := n) (C := fun w' => ∃ n, w' = w.drewN n) (md := .any) hB.1 l 0 (Array.replicate l.toArray.size false) a (by simp) (by simpa using hB.2) h
  simpa using this
theorem keeps_drewN (W : World) (n : Nat) : KeepsOthers W (W.drewN n) := ⟨Nat.le_refl _, fun _ _ h _ => h⟩
theorem froz_drewN (W : World) (n : Nat) (a : Addr) : (W.drewN n).frozen? a = W.frozen? a := rfl
theorem drewN_below (B : Nat) (W : World) (n : Nat) : Below B W (W.drewN n) := ⟨rfl, rfl, rfl, Nat.le_refl _, fun _ _ => rfl⟩
theorem dif_le (a b : Nat) : dif a b ≤ a := by
  have h : subB (dif a b) a = true := subB_iff.2 fun i hi => by rw [dif_bit] at hi; simp at hi; exact hi.1
  unfold subB at h
  rw [beq_iff_eq] at h
  rw [← h]
  exact Nat.and_le_right
theorem keeps_below {W W' : World} (h : Below W.heap.size W W') : KeepsOthers W W' := ⟨h.size, fun b _ hb _ => (h.block b (Array.getElem?_eq_some_iff.1 hb).1).trans hb⟩
theorem froz_below {B : Nat} {W W' : World} (h : Below B W W') {b off : Nat} (hb : b < B) : W'.frozen? ⟨b, off, none⟩ = W.frozen? ⟨b, off, none⟩ := by
  simp only [World.frozen?, h.block b hb]
theorem bt_lt {i : Nat} (h : i < 8) : bt i < 256 := pow_lt256 h
theorem el_lt {c : Nat} (x : El c) : x.1 < 8 := by
  have := x.2
  unfold els at this
  rw [List.mem_filter, List.mem_range] at this
  exact this.1
end Go.Proofs.YtfajbmcdkhgipaaDoor

namespace Go.Proofs.YtfajbmcdkhgipaaDoor
open Go.RowKit Go.Shelf
attribute [local go_sem] Oper.semAt_some

/-- A block of 256 bools. -/
def Marks (w : World) (b : Nat) (p : Nat → Bool) : Prop := ∀ i, i < 256 → w.cell? ⟨b, i, none⟩ = some (.bool (p i))
theorem Marks.lt {w : World} {b : Nat} {p : Nat → Bool} (h : Marks w b p) : b < w.heap.size := World.block_lt_of_cell? w _ (h 0 (by omega))
theorem Marks.below {w w' : World} {b B : Nat} {p : Nat → Bool} (h : Marks w b p) (hb : Below B w w') (hB : b < B) : Marks w' b p := fun i hi => (hb.cell (p := ⟨b, i, none⟩) hB).trans (h i hi)
/-- Can s take one of those that are offered? -/
def takeB (p : Nat → Bool) (s o : Nat) : Bool := (els o).any fun i => p (s ||| bt i)

set_option maxRecDepth 100000 in
set_option maxHeartbeats 2000000 in
theorem canTakeOne_any (b : Nat) (p : Nat → Bool) (s o : Nat) (hs : s < 256) (ho : o < 256) (w : World) (hm : Marks w b p) :
    Calls Tryd.prog 70 #[.pointer (some ⟨b, 0, none⟩), .int .i64 s, .int .i64 o] w fun e w' => e = .returned (.bool (takeB p s o)) ∧ Below w.heap.size w w' := by
  refine (callsIn_wide (n := 6)).1 ?_
  refine callsIn_of_wp_marks Tryd.func70 rfl trivial ?_ rfl
  simp only [Tryd.ntmps70, List.size_toArray, List.length_cons, List.length_nil, Nat.reduceAdd, Nat.reduceSub, Array.replicate_succ, Array.replicate_zero, List.push_toArray, List.append_toArray, List.nil_append, List.cons_append]
  gi_wp2_with (refine ⟨trivial, ?_⟩; gi_at_call 69; refine (callsIn_wide.2 (sing_any o _)).mono ?_; rintro e w' ⟨rfl, rfl⟩)
  have c0 := cellN w (.pointer (some ⟨b, 0, none⟩)) 98
  have c1 := cellN (w.alloc (.cells #[.pointer (some ⟨b, 0, none⟩)] 98)) (.int .i64 s) 3
  have c2 := cellN ((w.alloc (.cells #[.pointer (some ⟨b, 0, none⟩)] 98)).alloc (.cells #[.int .i64 s] 3)) (.bool false) 4
  have c3 := cellN (((w.alloc (.cells #[.pointer (some ⟨b, 0, none⟩)] 98)).alloc (.cells #[.int .i64 s] 3)).alloc (.cells #[.bool false] 4)) (.int .i64 o) 3
  simp only [World.size_alloc] at c1 c2 c3
  have hB0 : Below w.heap.size w ((((w.alloc (.cells #[.pointer (some ⟨b, 0, none⟩)] 98)).alloc (.cells #[.int .i64 s] 3)).alloc (.cells #[.bool false] 4)).alloc (.cells #[.int .i64 o] 3)) := ((((Below.refl _ w).alloc (Nat.le_refl _) _).alloc (by simp) _).alloc (by simp; omega) _).alloc (by simp; omega) _
  refine wpIn_rangeFunc_ownF rfl (by decide) (gf := 71) (lb := #[.pointer (some ⟨w.heap.size + 1 + 1 + 1, 0, none⟩)]) rfl trivial (enters_of Tryd.func71 (by kernel_rfl) rfl)
    (sing_stops 5 (by decide) o (w.heap.size + 1 + 1 + 1) ho _ (by simp) c3.1) (fun _ _ => trivial) (fun _ _ _ _ _ _ _ _ => trivial) (Below.refl _ _) (fun _ => rfl)
    (fun pre W => ((∀ y ∈ pre, p (s ||| bt y.1) = false) ∧ W.cell? ⟨w.heap.size, 0, none⟩ = some (.pointer (some ⟨b, 0, none⟩)) ∧ W.cell? ⟨w.heap.size + 1, 0, none⟩ = some (.int .i64 s) ∧ W.cell? ⟨w.heap.size + 1 + 1, 0, none⟩ = some (.bool false) ∧ W.frozen? ⟨w.heap.size + 1 + 1, 0, none⟩ = false) ∧ Below w.heap.size w W)
    (fun c pre W => (c = .ret ∧ (∃ y ∈ pre, p (s ||| bt y.1) = true) ∧ W.cell? ⟨w.heap.size + 1 + 1, 0, none⟩ = some (.bool true)) ∧ Below w.heap.size w W)
    (OwnFrom.and (Own.from (fun s A B row hs hg hr => ⟨hs.1, cell_kept hs.2.1 hg hr, cell_kept hs.2.2.1 hg hr, cell_kept hs.2.2.2.1 hg hr, (frozen_kept hs.2.2.2.1 hg hr).trans hs.2.2.2.2⟩) _) (ownFrom_below (Nat.le_refl _) (by simp; omega)))
    (fun c => OwnFrom.and (Own.from (fun s A B row hs hg hr => ⟨hs.1, hs.2.1, cell_kept hs.2.2 hg hr⟩) _) (ownFrom_below (Nat.le_refl _) (by simp; omega)))
    ⟨⟨by simp, cellA _ (cellA _ (cellA _ c0.1)), cellA _ (cellA _ c1.1), cellA _ c2.1, frozA _ c2.1 c2.2⟩, hB0⟩
    (fun x => { tmps := #[.pointer (some ⟨b, 0, none⟩), .int .i64 s, .int .i64 o, .pointer (some ⟨w.heap.size, 0, none⟩), .pointer (some ⟨w.heap.size + 1, 0, none⟩), undef, .pointer (some ⟨w.heap.size + 1 + 1, 0, none⟩), .int .i64 (bt x.1 : Nat), .int .i64 o, .func (.func 71) #[] #[.pointer (some ⟨w.heap.size + 1 + 1 + 1, 0, none⟩)], .int .i64 (bt x.1 : Nat), undef, undef, undef, undef, undef, undef, undef], defers := [] }) ?assign ?body ?done ?stop
  case assign =>
    intro l x W K hK
    dsimp only [enc1]
    gi_wp2
    exact hK
  case body =>
    rintro l pre x W ⟨⟨hp, hcp, hcs, hcr, hfr⟩, hB⟩ _
    have hx8 := bt_lt (el_lt x)
    have hor : bits .or .i64 (s : Int) (bt x.1 : Int) = ((s ||| bt x.1 : Nat) : Int) := i64_or_nat s (bt x.1) (by omega) (by omega)
    have hlt : s ||| bt x.1 < 256 := or_lt hs hx8
    have hcell := (hm.below hB hm.lt) _ hlt
    rcases hpx : p (s ||| bt x.1) with _ | _
    · have HP := hid hpx
      rw [hpx] at hcell
      clear hpx
      gi_wp2
      refine region_quiet_round (by kernel_rfl) (by kernel_rfl) (by kernel_rfl) ?_
      repeat (gi_big_quiet_step (fail))
      refine wpQuietIn_nil ?_
      intro _ hw'
      obtain ⟨nq, hw''⟩ := hw'
      subst hw''
      gi_wp2
      exact ⟨keeps_drewN _ _, trivial, ⟨fun y hy => by rw [List.mem_append, List.mem_singleton] at hy; rcases hy with hy | rfl; exact hp y hy; exact HP.out, hcp, hcs, hcr, by rw [froz_drewN]; exact hfr⟩, hB.trans (drewN_below _ _ _)⟩
    · have HP := hid hpx
      rw [hpx] at hcell
      clear hpx
      gi_wp2
      refine region_quiet_round (by kernel_rfl) (by kernel_rfl) (by kernel_rfl) ?_
      repeat (gi_big_quiet_step (fail))
      refine wpQuietIn_nil ?_
      intro _ hw'
      obtain ⟨nq, hw''⟩ := hw'
      subst hw''
      have hfr' : (W.drewN nq).frozen? ⟨w.heap.size + 1 + 1, 0, none⟩ = false := by rw [froz_drewN]; exact hfr
      have hcr' : (W.drewN nq).cell? ⟨w.heap.size + 1 + 1, 0, none⟩ = some (.bool false) := hcr
      gi_wp2
      exact ⟨(keeps_drewN _ _).trans (KeepsOthers.setCell _ _ _), ⟨rfl, ⟨x, by simp, HP.out⟩, World.cell?_setCell_same' _ _ _ (by rw [hcr']; rfl)⟩, (hB.trans (drewN_below _ _ _)).setCell (p := ⟨w.heap.size + 1 + 1, 0, none⟩) (by simp; omega) _⟩
  case done =>
    rintro D ys W hD hys ⟨⟨hne, _, _, hcr, hfr⟩, hB⟩ hK
    gi_wp2
    have hK' := (KeepsOthers.setCell W ⟨w.heap.size + 1 + 1, 0, none⟩ (.bool false)).same D _ hK rfl
    refine ⟨by simp, .inl ⟨_, _, rfl, run_takeDeferred hK', ?_⟩⟩
    have hc5 := cell_kept (World.cell?_setCell_same' W ⟨w.heap.size + 1 + 1, 0, none⟩ (.bool false) (by rw [hcr]; rfl)) (grownBy_putObj' _ D (.deferred none)) (fun r e => by cases e; exact ⟨_, hK', rfl⟩)
    refine ⟨.bool false, ?_, ?_, (hB.setCell (p := ⟨w.heap.size + 1 + 1, 0, none⟩) (by simp; omega) _).trans (belowK_b (w := w) (Nat.le_refl _) _ D _ _ (by simp at hD; omega) hK' rfl rfl)⟩
    · simp [results, Tryd.f70, go_sem, hc5]
    · refine ret_bool (Bool.eq_false_iff.2 fun h => ?_).symm
      unfold takeB at h
      rw [List.any_eq_true] at h
      obtain ⟨i, hi, h1⟩ := h
      rw [← hys, List.mem_map] at hi
      obtain ⟨y, hy, rfl⟩ := hi
      rw [hne y hy] at h1
      cases h1
  case stop =>
    rintro D c pre W hD hpre ⟨⟨rfl, ⟨y, hy, h1⟩, hcr⟩, hB⟩ hK
    gi_wp2
    refine ⟨by simp, .inl ⟨_, _, rfl, run_takeDeferred hK, ?_⟩⟩
    have hc5 := cell_kept hcr (grownBy_putObj' _ D (.deferred none)) (fun r e => by cases e; exact ⟨_, hK, rfl⟩)
    refine ⟨.bool true, ?_, ?_, hB.trans (belowK_b (w := w) (Nat.le_refl _) W D _ _ (by simp at hD; omega) hK rfl rfl)⟩
    · simp [results, Tryd.f70, go_sem, hc5]
    · exact ret_bool (by unfold takeB; exact (List.any_eq_true.2 ⟨y.1, y.2, h1⟩).symm)
end Go.Proofs.YtfajbmcdkhgipaaDoor

namespace Go.Proofs.YtfajbmcdkhgipaaDoor
open Go.RowKit Go.Shelf
attribute [local go_sem] Oper.semAt_some

def giveB (p : Nat → Bool) (a b : Nat) : Bool := (els (dif a b)).all fun x => takeB p (dif a (bt x)) (dif b a)

set_option maxRecDepth 100000 in
set_option maxHeartbeats 2000000 in
theorem canGiveAll_any (m : Nat) (p : Nat → Bool) (s t : Nat) (hs : s < 256) (ht : t < 256) (w : World) (hm : Marks w m p) :
    Calls Tryd.prog 66 #[.pointer (some ⟨m, 0, none⟩), .int .i64 s, .int .i64 t] w fun e w' => e = .returned (.bool (giveB p s t)) ∧ Below w.heap.size w w' := by
  have hst : bits .andNot .i64 (s : Int) (t : Int) = ((dif s t : Nat) : Int) := i64_andNot_nat s t (by omega) (by omega)
  have hts : bits .andNot .i64 (t : Int) (s : Int) = ((dif t s : Nat) : Int) := i64_andNot_nat t s (by omega) (by omega)
  have hd1 : dif s t < 256 := dif_lt hs
  have hd2 : dif t s < 256 := dif_lt ht
  refine (callsIn_wide (n := 6)).1 ?_
  refine callsIn_of_wp_marks Tryd.func66 rfl trivial ?_ rfl
  simp only [Tryd.ntmps66, List.size_toArray, List.length_cons, List.length_nil, Nat.reduceAdd, Nat.reduceSub, Array.replicate_succ, Array.replicate_zero, List.push_toArray, List.append_toArray, List.nil_append, List.cons_append]
  gi_wp2_with (refine ⟨trivial, ?_⟩; gi_at_call 69; refine (callsIn_wide.2 (sing_any (dif s t) _)).mono ?_; rintro e w' ⟨rfl, rfl⟩)
  have c0 := cellN w (.pointer (some ⟨m, 0, none⟩)) 98
  have c1 := cellN (w.alloc (.cells #[.pointer (some ⟨m, 0, none⟩)] 98)) (.int .i64 s) 3
  have c2 := cellN ((w.alloc (.cells #[.pointer (some ⟨m, 0, none⟩)] 98)).alloc (.cells #[.int .i64 s] 3)) (.int .i64 t) 3
  have c3 := cellN (((w.alloc (.cells #[.pointer (some ⟨m, 0, none⟩)] 98)).alloc (.cells #[.int .i64 s] 3)).alloc (.cells #[.int .i64 t] 3)) (.bool false) 4
  have c4 := cellN ((((w.alloc (.cells #[.pointer (some ⟨m, 0, none⟩)] 98)).alloc (.cells #[.int .i64 s] 3)).alloc (.cells #[.int .i64 t] 3)).alloc (.cells #[.bool false] 4)) (.int .i64 (dif s t)) 3
  simp only [World.size_alloc] at c1 c2 c3 c4
  have hB0 : Below w.heap.size w (((((w.alloc (.cells #[.pointer (some ⟨m, 0, none⟩)] 98)).alloc (.cells #[.int .i64 s] 3)).alloc (.cells #[.int .i64 t] 3)).alloc (.cells #[.bool false] 4)).alloc (.cells #[.int .i64 (dif s t)] 3)) := (((((Below.refl _ w).alloc (Nat.le_refl _) _).alloc (by simp) _).alloc (by simp; omega) _).alloc (by simp; omega) _).alloc (by simp; omega) _
  have d0 := cellA (.cells #[.int .i64 (dif s t)] 3) (cellA (.cells #[.bool false] 4) (cellA (.cells #[.int .i64 t] 3) (cellA (.cells #[.int .i64 s] 3) c0.1)))
  have d1 := cellA (.cells #[.int .i64 (dif s t)] 3) (cellA (.cells #[.bool false] 4) (cellA (.cells #[.int .i64 t] 3) c1.1))
  have d2 := cellA (.cells #[.int .i64 (dif s t)] 3) (cellA (.cells #[.bool false] 4) c2.1)
  have d3 := cellA (.cells #[.int .i64 (dif s t)] 3) c3.1
  have f3 := frozA (.cells #[.int .i64 (dif s t)] 3) c3.1 c3.2
  have d4 := c4.1
  clear c0 c1 c2 c3 c4
  have hsz : (((((w.alloc (.cells #[.pointer (some ⟨m, 0, none⟩)] 98)).alloc (.cells #[.int .i64 s] 3)).alloc (.cells #[.int .i64 t] 3)).alloc (.cells #[.bool false] 4)).alloc (.cells #[.int .i64 (dif s t)] 3)).heap.size = w.heap.size + 5 := by simp
  revert hB0 d0 d1 d2 d3 f3 d4 hsz
  generalize (((((w.alloc (.cells #[.pointer (some ⟨m, 0, none⟩)] 98)).alloc (.cells #[.int .i64 s] 3)).alloc (.cells #[.int .i64 t] 3)).alloc (.cells #[.bool false] 4)).alloc (.cells #[.int .i64 (dif s t)] 3)) = W0
  intro hB0 d0 d1 d2 d3 f3 d4 hsz
  refine wpIn_rangeFunc_ownF rfl (by decide) (gf := 71) (lb := #[.pointer (some ⟨w.heap.size + 1 + 1 + 1 + 1, 0, none⟩)]) rfl trivial (enters_of Tryd.func71 (by kernel_rfl) rfl)
    (sing_stops 5 (by decide) (dif s t) (w.heap.size + 1 + 1 + 1 + 1) hd1 _ (by omega) d4) (fun _ _ => trivial) (fun _ _ _ _ _ _ _ _ => trivial) (Below.refl _ _) (fun _ => rfl)
    (fun pre W => (∀ y ∈ pre, takeB p (dif s (bt y.1)) (dif t s) = true) ∧ Below W0.heap.size W0 W)
    (fun c pre W => (c = .ret ∧ (∃ y ∈ pre, takeB p (dif s (bt y.1)) (dif t s) = false) ∧ W.cell? ⟨w.heap.size + 1 + 1 + 1, 0, none⟩ = some (.bool false)) ∧ Below w.heap.size w W)
    (OwnFrom.and (Own.from (fun _ _ _ _ hs _ _ => hs) _) (ownFrom_below (Nat.le_refl _) (Nat.le_refl _)))
    (fun c => OwnFrom.and (Own.from (fun s A B row hs hg hr => ⟨hs.1, hs.2.1, cell_kept hs.2.2 hg hr⟩) _) (ownFrom_below (Nat.le_refl _) (by omega)))
    ⟨by simp, Below.refl _ _⟩
    (fun x => { tmps := #[.pointer (some ⟨m, 0, none⟩), .int .i64 s, .int .i64 t, .pointer (some ⟨w.heap.size, 0, none⟩), .pointer (some ⟨w.heap.size + 1, 0, none⟩), .pointer (some ⟨w.heap.size + 1 + 1, 0, none⟩), .pointer (some ⟨w.heap.size + 1 + 1 + 1, 0, none⟩), .int .i64 (bt x.1 : Nat), .int .i64 s, .int .i64 t, .int .i64 (dif s t : Nat), .func (.func 71) #[] #[.pointer (some ⟨w.heap.size + 1 + 1 + 1 + 1, 0, none⟩)], .int .i64 (bt x.1 : Nat), undef, undef, undef, undef, undef, undef, undef, undef, undef], defers := [] }) ?assign ?body ?done ?stop
  case assign =>
    intro l x W K hK
    dsimp only [enc1]
    gi_wp2
    exact hK
  case body =>
    rintro l pre x W ⟨hp, hB⟩ _
    have hx8 := bt_lt (el_lt x)
    have hsx : bits .andNot .i64 (s : Int) (bt x.1 : Int) = ((dif s (bt x.1) : Nat) : Int) := i64_andNot_nat s (bt x.1) (by omega) (by omega)
    have hlt : dif s (bt x.1) < 256 := dif_lt hs
    have e0 := (hB.cell (p := ⟨w.heap.size, 0, none⟩) (by show w.heap.size < _; omega)).trans d0
    have e1 := (hB.cell (p := ⟨w.heap.size + 1, 0, none⟩) (by show w.heap.size + 1 < _; omega)).trans d1
    have e2 := (hB.cell (p := ⟨w.heap.size + 1 + 1, 0, none⟩) (by show w.heap.size + 1 + 1 < _; omega)).trans d2
    have HM := hid ((hm.below hB0 hm.lt).below hB (by have := hm.lt; omega))
    have HC := hid (canTakeOne_any m p (dif s (bt x.1)) (dif t s) hlt hd2 W HM.out)
    rcases hq : takeB p (dif s (bt x.1)) (dif t s) with _ | _
    · have HQ := hid hq
      clear hq
      gi_wp2_with (refine ⟨trivial, ?_⟩; gi_at_call 70; refine (CallsIn.inRound l (callsIn_wide.2 HC.out)).mono ?_)
      rw [HQ.out]
      rintro e W' ⟨rfl, hb'⟩
      have hB' := hB.trans (hb'.mono hB.size)
      have e3 := (hB'.cell (p := ⟨w.heap.size + 1 + 1 + 1, 0, none⟩) (by show w.heap.size + 1 + 1 + 1 < _; omega)).trans d3
      have f3' := (froz_below hB' (b := w.heap.size + 1 + 1 + 1) (off := 0) (by omega)).trans f3
      have HK := hid (keeps_below hb')
      have HB := hid hB'
      clear hb' hB'
      gi_wp2
      exact ⟨HK.out.trans (KeepsOthers.setCell _ _ _), ⟨rfl, ⟨x, by simp, HQ.out⟩, World.cell?_setCell_same' _ _ _ (by rw [e3]; rfl)⟩, (hB0.trans (HB.out.mono (by omega))).setCell (p := ⟨w.heap.size + 1 + 1 + 1, 0, none⟩) (by simp; omega) _⟩
    · have HQ := hid hq
      clear hq
      gi_wp2_with (refine ⟨trivial, ?_⟩; gi_at_call 70; refine (CallsIn.inRound l (callsIn_wide.2 HC.out)).mono ?_)
      rw [HQ.out]
      rintro e W' ⟨rfl, hb'⟩
      have HK := hid (keeps_below hb')
      have HB := hid (hB.trans (hb'.mono hB.size))
      clear hb'
      gi_wp2
      exact ⟨HK.out, trivial, fun y hy => by rw [List.mem_append, List.mem_singleton] at hy; rcases hy with hy | rfl; exact hp y hy; exact HQ.out, HB.out⟩
  case done =>
    rintro D ys W hD hys ⟨hne, hB⟩ hK
    have e3 := (hB.cell (p := ⟨w.heap.size + 1 + 1 + 1, 0, none⟩) (by show w.heap.size + 1 + 1 + 1 < _; omega)).trans d3
    have f3' := (froz_below hB (b := w.heap.size + 1 + 1 + 1) (off := 0) (by omega)).trans f3
    have HB := hid (hB0.trans (hB.mono (by omega)))
    gi_wp2
    have hK' := (KeepsOthers.setCell W ⟨w.heap.size + 1 + 1 + 1, 0, none⟩ (.bool true)).same D _ hK rfl
    refine ⟨by simp, .inl ⟨_, _, rfl, run_takeDeferred hK', ?_⟩⟩
    have hc5 := cell_kept (World.cell?_setCell_same' W ⟨w.heap.size + 1 + 1 + 1, 0, none⟩ (.bool true) (by rw [e3]; rfl)) (grownBy_putObj' _ D (.deferred none)) (fun r e => by cases e; exact ⟨_, hK', rfl⟩)
    refine ⟨.bool true, ?_, ?_, (HB.out.setCell (p := ⟨w.heap.size + 1 + 1 + 1, 0, none⟩) (by simp; omega) _).trans (belowK_b (w := w) (Nat.le_refl _) _ D _ _ (by omega) hK' rfl rfl)⟩
    · simp [results, Tryd.f66, go_sem, hc5]
    · refine ret_bool ?_
      unfold giveB
      refine (List.all_eq_true.2 fun i hi => ?_).symm
      rw [← hys, List.mem_map] at hi
      obtain ⟨y, hy, rfl⟩ := hi
      exact hne y hy
  case stop =>
    rintro D c pre W hD hpre ⟨⟨rfl, ⟨y, hy, h1⟩, hcr⟩, hB⟩ hK
    gi_wp2
    refine ⟨by simp, .inl ⟨_, _, rfl, run_takeDeferred hK, ?_⟩⟩
    have hc5 := cell_kept hcr (grownBy_putObj' _ D (.deferred none)) (fun r e => by cases e; exact ⟨_, hK, rfl⟩)
    refine ⟨.bool false, ?_, ?_, hB.trans (belowK_b (w := w) (Nat.le_refl _) W D _ _ (by omega) hK rfl rfl)⟩
    · simp [results, Tryd.f66, go_sem, hc5]
    · refine ret_bool ?_
      unfold giveB
      refine (Bool.eq_false_iff.2 fun h => ?_).symm
      have := List.all_eq_true.1 h y.1 y.2
      rw [h1] at this
      cases this
end Go.Proofs.YtfajbmcdkhgipaaDoor
