/- tutte.valueAt: HORNER'S rule over numbers of 128 bits. -/
import Derived.Test.YtkmpnaohdijpnaaGreatDoorTvAQ
import Derived.Test.YtkmpnaohdijpnaaGreatDoorWdGW
import Derived.Test.YtkmpnaohdijpnaaGreatDoorTtCW
namespace Go.Proofs.YtkmpnaohdijpnaaGreatDoor
open Go.RowKit Go.Shelf Go.Lib
attribute [local go_sem] Oper.semAt_some

/-- HORNER'S rule. -/
def hornZ (f : Nat → Int) (y : Int) (xs : List Nat) : Int := xs.foldl (fun a j => a * y + f j) 0
theorem horn_snoc (f : Nat → Int) (y : Int) (xs : List Nat) (j : Nat) : hornZ f y (xs ++ [j]) = hornZ f y xs * y + f j := by unfold hornZ; rw [List.foldl_append]; rfl
theorem wat_own {β : Type} (b : Nat) (f : β → Nat) : Go.Own (fun s W => WAt W b (f s)) := fun s X Y row hs hg hrow => by
  obtain ⟨h, l, h1, h2, h3, h4⟩ := hs
  refine ⟨h, l, h1, h2, h3, (hg.block b (Array.getElem?_eq_some_iff.1 h4).1 fun e => ?_).trans h4⟩
  obtain ⟨o, ho, hc⟩ := hrow b e.symm
  rw [h4] at ho; cases ho; cases hc
theorem boxM_own {β : Type} (B g n cap M : Nat) : Go.Own (fun (_ : β) W => BoxM B g n cap M W) := fun _ _ _ _ hs hg hrow => ⟨cell_kept hs.1 hg hrow, fun i hi => cell_kept (hs.2 i hi) hg hrow⟩
theorem boxed_ownV {β : Type} (B : Nat) (t : TypeId) (v : Value) : Go.Own (fun (_ : β) W => Boxed W B t v) := by
  rintro s X Y row hv hg hrow
  refine hv.kept hg (fun e' => ?_)
  obtain ⟨o, ho, hc⟩ := hrow B e'.symm
  rw [show X.heap[B]? = _ from hv] at ho; cases ho; cases hc
/-- The blocks of valueAt. -/
def VSt (W : World) (s : Nat) (x y : Int) (u : Nat) : Prop := (Boxed W s 3 (.int .i64 x) ∧ Boxed W (s + 1) 3 (.int .i64 y)) ∧ WAt W (s + 1 + 1) 0 ∧ WAt W (s + 1 + 1 + 1) u
theorem VSt.below {W W' : World} {s : Nat} {x y : Int} {u : Nat} (h : VSt W s x y u) (hb : Below W.heap.size W W') : VSt W' s x y u :=
  ⟨⟨(hb.block s h.1.1.lt).trans h.1.1, (hb.block (s + 1) h.1.2.lt).trans h.1.2⟩, h.2.1.below hb, h.2.2.below hb⟩
theorem VSt.putO {W : World} {s b : Nat} {x y : Int} {u : Nat} (h : VSt W s x y u) (p q : Value) (hb : s + 1 + 1 + 1 < b) : VSt ((W.setCell ⟨b, 0, none⟩ p).setCell ⟨b, 1, none⟩ q) s x y u :=
  ⟨⟨(set_heap_other _ _ _ (by show b ≠ s; omega)).trans ((set_heap_other _ _ _ (by show b ≠ s; omega)).trans h.1.1), (set_heap_other _ _ _ (by show b ≠ s + 1; omega)).trans ((set_heap_other _ _ _ (by show b ≠ s + 1; omega)).trans h.1.2)⟩, h.2.1.putO _ _ (by omega), h.2.2.putO _ _ (by omega)⟩
theorem vst_own {β : Type} (s : Nat) (x y : Int) (f : β → Nat) : Go.Own (fun t W => VSt W s x y (f t)) := fun t X Y row hs hg hrow =>
  ⟨⟨boxed_ownV s 3 (.int .i64 x) () X Y row hs.1.1 hg hrow, boxed_ownV (s + 1) 3 (.int .i64 y) () X Y row hs.1.2 hg hrow⟩, wat_own (s + 1 + 1) (fun _ : Unit => 0) () X Y row hs.2.1 hg hrow, wat_own (s + 1 + 1 + 1) (fun _ : Unit => f t) () X Y row hs.2.2 hg hrow⟩
theorem vst_new (w : World) (x y : Int) : VSt ((((w.alloc (.cells #[.int .i64 x] 3)).alloc (.cells #[.int .i64 y] 3)).alloc (.cells #[.int .u64 0, .int .u64 0] 63)).alloc (.cells #[.int .u64 0, .int .u64 0] 63)) w.heap.size x y 0 := by
  have b1 := (((Boxed.new w 3 (.int .i64 x)).alloc (.cells #[.int .i64 y] 3)).alloc (.cells #[.int .u64 0, .int .u64 0] 63)).alloc (.cells #[.int .u64 0, .int .u64 0] 63)
  have b2 := ((Boxed.new (w.alloc (.cells #[.int .i64 x] 3)) 3 (.int .i64 y)).alloc (.cells #[.int .u64 0, .int .u64 0] 63)).alloc (.cells #[.int .u64 0, .int .u64 0] 63)
  rw [World.size_alloc] at b2
  refine ⟨⟨b1, b2⟩, ⟨0, 0, by omega, by omega, rfl, ?_⟩, ⟨0, 0, by omega, by omega, rfl, ?_⟩⟩
  · rw [Below.heap_alloc _ _ _ (by simp)]
    have := World.alloc_heap_new ((w.alloc (.cells #[.int .i64 x] 3)).alloc (.cells #[.int .i64 y] 3)) (.cells #[.int .u64 0, .int .u64 0] 63)
    simpa using this
  · have := World.alloc_heap_new (((w.alloc (.cells #[.int .i64 x] 3)).alloc (.cells #[.int .i64 y] 3)).alloc (.cells #[.int .u64 0, .int .u64 0] 63)) (.cells #[.int .u64 0, .int .u64 0] 63)
    simpa using this
set_option maxRecDepth 100000 in
set_option maxHeartbeats 4000000 in
theorem valueAt_any (g N M cap : Nat) (f : Nat → Nat → Int) (x y : Int) (w : World) (hN : N ≤ 256) (hM : M ≤ 256) (hx1 : -9223372036854775808 ≤ x) (hx2 : x ≤ 9223372036854775807) (hy1 : -9223372036854775808 ≤ y) (hy2 : y ≤ 9223372036854775807) (hf : ∀ i j, -9223372036854775808 ≤ f i j ∧ f i j ≤ 9223372036854775807) (h : TblM g w N M f) :
    Calls Tryz.prog 28 #[.slice (some ⟨g, 0, none⟩) N cap, .int .i64 x, .int .i64 y] w fun e w' => e = .returned (wv (zto (hornZ (fun i => hornZ (f i) y (downTo M)) x (downTo N)))) ∧ Below w.heap.size w w' := by
  have hgw := h.size
  have V0 := vst_new w x y
  have B0 : Below w.heap.size w ((((w.alloc (.cells #[.int .i64 x] 3)).alloc (.cells #[.int .i64 y] 3)).alloc (.cells #[.int .u64 0, .int .u64 0] 63)).alloc (.cells #[.int .u64 0, .int .u64 0] 63)) := ((((Below.refl _ w).alloc (Nat.le_refl _) _).alloc (by simp) _).alloc (by simp; omega) _).alloc (by simp; omega) _
  have sz0 : ((((w.alloc (.cells #[.int .i64 x] 3)).alloc (.cells #[.int .i64 y] 3)).alloc (.cells #[.int .u64 0, .int .u64 0] 63)).alloc (.cells #[.int .u64 0, .int .u64 0] 63)).heap.size = w.heap.size + 4 := by simp
  refine (callsIn_wide (n := 9)).1 ?_
  refine callsIn_of_wp_marks Tryz.func28 rfl trivial ?_ rfl
  simp only [Tryz.ntmps28, List.size_toArray, List.length_cons, List.length_nil, Nat.reduceAdd, Nat.reduceSub, Array.replicate_succ, Array.replicate_zero, List.push_toArray, List.append_toArray, List.nil_append, List.cons_append]
  gi_wp2_with fail
  refine ⟨trivial, ?_⟩
  gi_at_call 46
  refine (callsIn_wide.2 (backM_any _ _ ⟨_, _, _, rfl⟩)).mono ?_
  rintro r w3 ⟨rfl, hw3⟩
  obtain rfl := hw3.symm
  clear hw3
  gi_wp2_with fail
  revert V0 B0 sz0
  generalize ((((w.alloc (.cells #[.int .i64 x] 3)).alloc (.cells #[.int .i64 y] 3)).alloc (.cells #[.int .u64 0, .int .u64 0] 63)).alloc (.cells #[.int .u64 0, .int .u64 0] 63)) = W4
  intro V0 B0 sz0
  have bR := Boxed.new W4 50 (.slice (some ⟨g, 0, none⟩) N cap)
  have hB5 : Below w.heap.size w (W4.alloc (.cells #[.slice (some ⟨g, 0, none⟩) N cap] 50)) := B0.alloc (by omega) _
  have V5 := V0.below ((Below.refl _ W4).alloc (Nat.le_refl _) (.cells #[.slice (some ⟨g, 0, none⟩) N cap] 50))
  have sz5 : (W4.alloc (.cells #[.slice (some ⟨g, 0, none⟩) N cap] 50)).heap.size = w.heap.size + 5 := by simp [sz0]
  rw [sz0] at bR
  revert bR hB5 V5 sz5
  generalize W4.alloc (.cells #[.slice (some ⟨g, 0, none⟩) N cap] 50) = W5
  intro bR hB5 V5 sz5
  have BM5 : ∀ W, Below W5.heap.size W5 W → BoxM (w.heap.size + 4) g N cap M W := fun W hW => by
    have hb := hB5.trans (hW.mono hB5.size)
    exact ⟨(hW.cell (p := ⟨w.heap.size + 4, 0, none⟩) (by show w.heap.size + 4 < _; omega)).trans bR.cell, fun i hi => (hb.cell (p := ⟨g, i, none⟩) hgw).trans (h.head i hi)⟩
  obtain ⟨R, HR⟩ : ∃ R : Nat → Int, Hid ((fun i => hornZ (f i) y (downTo M)) = R) := ⟨_, rfl⟩
  clear V0 B0 sz0
  refine wpIn_rangeFunc_ownH rfl (by decide) (gf := 68) (lb := #[.pointer (some ⟨w.heap.size + 4, 0, none⟩)]) rfl trivial (enters_of Tryz.func68 (by kernel_rfl) rfl)
    (backM_stops 8 (by decide) (w.heap.size + 4) g N cap M W5 hN BM5) (fun h k x => k (h x)) (fun W D o o' _ hD hc _ hx => boxM_own (w.heap.size + 4) g N cap M () W (W.putObj D o') (some D) hx (grownBy_putObj' W D o') (fun r e => by cases e; exact ⟨o, hD, hc⟩)) (Below.refl _ _) (fun _ => rfl)
    (fun pre W => (VSt W w.heap.size x y (zto (hornZ R x (pre.map (·.1)))) ∧ BoxM (w.heap.size + 4) g N cap M W) ∧ (Below w.heap.size w W ∧ W5.heap.size ≤ W.heap.size))
    (fun _ _ _ => False)
    (OwnFrom.and (OwnFrom.and (Own.from (vst_own _ _ _ _) _) (Own.from (boxM_own _ _ _ _ _) _)) (OwnFrom.and (ownFrom_below (Nat.le_refl _) (by omega)) (Own.from (fun s A B row hs hg hr => Nat.le_trans hs hg.size) _)))
    (fun _ _ _ _ _ hs _ _ => hs)
    ⟨⟨V5, BM5 _ (Below.refl _ _)⟩, hB5, Nat.le_refl _⟩
    (fun i a' _ => a' = { tmps := #[.slice (some ⟨g, 0, none⟩) N cap, .int .i64 x, .int .i64 y, undef, .pointer (some ⟨w.heap.size, 0, none⟩), .pointer (some ⟨w.heap.size + 1, 0, none⟩), .pointer (some ⟨w.heap.size + 1 + 1, 0, none⟩), .pointer (some ⟨w.heap.size + 1 + 1 + 1, 0, none⟩), undef, .slice (some ⟨g + 1 + i.1, 0, none⟩) M M, undef, undef, undef, .slice (some ⟨g, 0, none⟩) N cap, .func (.func 68) #[] #[.pointer (some ⟨w.heap.size + 4, 0, none⟩)], .int .i64 (i.1 : Nat), .slice (some ⟨g + 1 + i.1, 0, none⟩) M M, undef, undef, undef, undef, undef, undef, undef, undef, undef, undef, undef, undef, undef, undef, undef, undef, undef, undef], defers := [] })
    (fun _ _ _ _ _ _ hs _ _ => hs)
    ?assign ?body ?done ?stop
  case assign =>
    rintro l pre i W K hi hK
    dsimp only [encM]
    gi_wp2
    exact hK _ _ (KeepsFrom.refl _ _) (fun h => h) hi rfl
  case body =>
    rintro l pre i a' W hl ⟨r, hr⟩ ⟨⟨hV, hBM⟩, hB, hsz⟩ rfl _
    gi_wp2_with fail
    refine ⟨trivial, ?_⟩
    gi_at_call 47
    refine (callsIn_wide.2 (backZ_any _ _ ⟨_, _, _, rfl⟩)).mono ?_
    rintro e w3 ⟨rfl, hw3⟩
    obtain rfl := hw3.symm
    clear hw3
    gi_wp2_with fail
    have W2b : Below W.heap.size W ((W.alloc (.cells #[.int .u64 0, .int .u64 0] 63)).alloc (.cells #[.slice (some ⟨g + 1 + i.1, 0, none⟩) M M] 25)) := ((Below.refl _ W).alloc (Nat.le_refl _) _).alloc (by simp) _
    have aZ : WAt ((W.alloc (.cells #[.int .u64 0, .int .u64 0] 63)).alloc (.cells #[.slice (some ⟨g + 1 + i.1, 0, none⟩) M M] 25)) W.heap.size 0 := ⟨0, 0, by omega, by omega, rfl, (Below.heap_alloc _ _ _ (by simp)).trans (World.alloc_heap_new W _)⟩
    have bZ := Boxed.new (W.alloc (.cells #[.int .u64 0, .int .u64 0] 63)) 25 (.slice (some ⟨g + 1 + i.1, 0, none⟩) M M)
    rw [World.size_alloc] at bZ
    have kf0 : KeepsFrom W5.heap.size W ((W.alloc (.cells #[.int .u64 0, .int .u64 0] 63)).alloc (.cells #[.slice (some ⟨g + 1 + i.1, 0, none⟩) M M] 25)) := (keeps_below W2b).from _
    have sz2 : ((W.alloc (.cells #[.int .u64 0, .int .u64 0] 63)).alloc (.cells #[.slice (some ⟨g + 1 + i.1, 0, none⟩) M M] 25)).heap.size = W.heap.size + 2 := by simp
    have hr' : ((W.alloc (.cells #[.int .u64 0, .int .u64 0] 63)).alloc (.cells #[.slice (some ⟨g + 1 + i.1, 0, none⟩) M M] 25)).heap[l]? = some (.loop r) := (W2b.block l (Array.getElem?_eq_some_iff.1 hr).1).trans hr
    revert W2b aZ bZ kf0 sz2 hr'
    generalize (W.alloc (.cells #[.int .u64 0, .int .u64 0] 63)).alloc (.cells #[.slice (some ⟨g + 1 + i.1, 0, none⟩) M M] 25) = W2
    intro W2b aZ bZ kf0 sz2 hr'
    have hgi : TblZ (g + 1 + i.1) w M (f i.1) := h.row i.1 i.2
    have BZ2 : ∀ X, Below W2.heap.size W2 X → BoxZ (W.heap.size + 1) (g + 1 + i.1) M M (f i.1) X := fun X hX => by
      have hb := hB.trans ((W2b.trans (hX.mono W2b.size)).mono hB.size)
      exact ⟨(hX.cell (p := ⟨W.heap.size + 1, 0, none⟩) (by show W.heap.size + 1 < _; omega)).trans bZ.cell, fun j hj => (hb.cell (p := ⟨g + 1 + i.1, j, none⟩) hgi.size).trans (hgi.cell j hj)⟩
    have hV2 := hV.below W2b
    have hBM2 : BoxM (w.heap.size + 4) g N cap M W2 := ⟨(W2b.cell (p := ⟨w.heap.size + 4, 0, none⟩) (by show w.heap.size + 4 < _; omega)).trans hBM.1, fun k hk => (W2b.cell (p := ⟨g, k, none⟩) (by show g < _; omega)).trans (hBM.2 k hk)⟩
    obtain ⟨ua, HUA⟩ : ∃ ua, Hid (zto (hornZ R x (pre.map (·.1))) = ua) := ⟨_, rfl⟩
    rw [HUA.out] at hV2
    refine wpIn_rangeFunc_ownN (l₀ := l) (r₀ := r) rfl hr' (by decide) (gf := 69) (lb := #[.pointer (some ⟨W.heap.size + 1, 0, none⟩)]) rfl trivial (enters_of Tryz.func69 (by kernel_rfl) rfl)
      ((backZ_stops 6 (by decide) (W.heap.size + 1) (g + 1 + i.1) M M (f i.1) W2 hM BZ2).inRound l) (fun h k x => k (h x)) (fun W D o o' _ hD hc _ hx => ⟨cell_kept hx.1 (grownBy_putObj' W D o') (fun r e => by cases e; exact ⟨o, hD, hc⟩), fun j hj => cell_kept (hx.2 j hj) (grownBy_putObj' W D o') (fun r e => by cases e; exact ⟨o, hD, hc⟩)⟩) (Below.refl _ _) (fun _ => rfl)
      (fun pre' W' => ((WAt W' W.heap.size (zto (hornZ (f i.1) y (pre'.map (·.1)))) ∧ VSt W' w.heap.size x y ua) ∧ (BoxM (w.heap.size + 4) g N cap M W' ∧ BoxZ (W.heap.size + 1) (g + 1 + i.1) M M (f i.1) W')) ∧ (Below w.heap.size W W' ∧ KeepsFrom W5.heap.size W W') ∧ W2.heap.size ≤ W'.heap.size)
      (fun _ _ _ => False)
      (OwnFrom.and (OwnFrom.and (OwnFrom.and (Own.from (wat_own _ _) _) (Own.from (vst_own _ _ _ _) _)) (OwnFrom.and (Own.from (boxM_own _ _ _ _ _) _) (Own.from (fun s A B row hs hg hr => ⟨cell_kept hs.1 hg hr, fun j hj => cell_kept (hs.2 j hj) hg hr⟩) _))) (OwnFrom.and (OwnFrom.and (ownFrom_below (by omega) (by omega)) (ownFrom_keepsFrom (by omega))) (Own.from (fun s A B row hs hg hr => Nat.le_trans hs hg.size) _)))
      (fun _ _ _ _ _ hs _ _ => hs)
      ⟨⟨⟨aZ, hV2⟩, hBM2, BZ2 _ (Below.refl _ _)⟩, ⟨W2b.mono (by omega), kf0⟩, Nat.le_refl _⟩
      (fun j a'' _ => a'' = { tmps := #[.slice (some ⟨g, 0, none⟩) N cap, .int .i64 x, .int .i64 y, undef, .pointer (some ⟨w.heap.size, 0, none⟩), .pointer (some ⟨w.heap.size + 1, 0, none⟩), .pointer (some ⟨w.heap.size + 1 + 1, 0, none⟩), .pointer (some ⟨w.heap.size + 1 + 1 + 1, 0, none⟩), undef, .slice (some ⟨g + 1 + i.1, 0, none⟩) M M, .pointer (some ⟨W.heap.size, 0, none⟩), undef, .int .i64 (f i.1 j.1), .slice (some ⟨g, 0, none⟩) N cap, .func (.func 68) #[] #[.pointer (some ⟨w.heap.size + 4, 0, none⟩)], .int .i64 (i.1 : Nat), .slice (some ⟨g + 1 + i.1, 0, none⟩) M M, .slice (some ⟨g + 1 + i.1, 0, none⟩) M M, .func (.func 69) #[] #[.pointer (some ⟨W.heap.size + 1, 0, none⟩)], .int .i64 (j.1 : Nat), .int .i64 (f i.1 j.1), undef, undef, undef, undef, undef, undef, undef, undef, undef, undef, undef, undef, undef, undef], defers := [] })
      (fun _ _ _ _ _ _ hs _ _ => hs)
      ?assign2 ?body2 ?done2 ?stop2
    case assign2 =>
      rintro l2 pre' j W' K hi hK
      dsimp only [encZ]
      gi_wp2
      exact hK _ _ (KeepsFrom.refl _ _) (fun h => h) hi rfl
    case body2 =>
      rintro l2 pre' j a'' W' _ _ ⟨⟨⟨hA, hV3⟩, hBM3, hBZ3⟩, ⟨hBW, hKF⟩, hsz3⟩ rfl _
      obtain ⟨uh, ul, u1, u2, EU, wu, cu0, cu1, fu0, fu1⟩ := hA.read
      have cy := hV3.1.2.cell
      have O1 := hid (fun w => Of_any y w hy1 hy2)
      have O2 := hid (fun w => Of_any (f i.1 j.1) w (hf i.1 j.1).1 (hf i.1 j.1).2)
      obtain ⟨q, HQ⟩ : ∃ q, Hid (hornZ (f i.1) y (pre'.map (·.1)) = q) := ⟨_, rfl⟩
      obtain ⟨c, HC⟩ : ∃ c, Hid (f i.1 j.1 = c) := ⟨_, rfl⟩
      rw [HQ.out] at wu
      rw [HC.out] at O2
      change Hid (∀ w, Calls _ _ _ w fun e w' => e = .returned (wv (zto y)) ∧ _) at O1
      change Hid (∀ w, Calls _ _ _ w fun e w' => e = .returned (wv (zto c)) ∧ _) at O2
      obtain ⟨yh, yl, y3, y4, EY, wy⟩ := wv_open (zto y) (zto_lt y)
      obtain ⟨ch, cl, c3, c4, EC, wc⟩ := wv_open (zto c) (zto_lt c)
      obtain ⟨ph, pl, p3, p4, EP, wp⟩ := wv_open (zto (q * y)) (zto_lt _)
      obtain ⟨sh, sl, s3, s4, ES, ws⟩ := wv_open (zto (q * y + c)) (zto_lt _)
      have T1 := hid (fun w => WTimes_any (zto q) (zto y) w (zto_lt _) (zto_lt _))
      rw [zto_mul, wu, wy, wp] at T1
      have P1 := hid (fun w => WPlus_any (zto (q * y)) (zto c) w (zto_lt _) (zto_lt _))
      rw [zto_add, wp, wc, ws] at P1
      rw [wy] at O1
      rw [wc] at O2
      rw [HC.out]
      have KP : Hid (∀ X, Below W'.heap.size W' X → (X.cell? ⟨W.heap.size, 0, none⟩ = some (.int .u64 (uh : Nat)) ∧ X.cell? ⟨W.heap.size, 1, none⟩ = some (.int .u64 (ul : Nat))) ∧ (X.frozen? ⟨W.heap.size, 0, none⟩ = false ∧ X.frozen? ⟨W.heap.size, 1, none⟩ = false) ∧ X.cell? ⟨w.heap.size + 1, 0, none⟩ = some (.int .i64 y) ∧ Below W'.heap.size W' X) := fun X hX =>
        ⟨⟨(hX.cell (p := ⟨W.heap.size, 0, none⟩) hA.size).trans cu0, (hX.cell (p := ⟨W.heap.size, 1, none⟩) hA.size).trans cu1⟩, ⟨(froz_below hX (b := W.heap.size) (off := 0) hA.size).trans fu0, (froz_below hX (b := W.heap.size) (off := 1) hA.size).trans fu1⟩, (hX.cell (p := ⟨w.heap.size + 1, 0, none⟩) hV3.1.2.lt).trans cy, hX⟩
      have FIN : Hid (∀ X, Below W'.heap.size W' X → KeepsFrom W2.heap.size W' ((X.setCell ⟨W.heap.size, 0, none⟩ (.int .u64 (sh : Nat))).setCell ⟨W.heap.size, 1, none⟩ (.int .u64 (sl : Nat))) ∧ (BoxZ (W.heap.size + 1) (g + 1 + i.1) M M (f i.1) W' → BoxZ (W.heap.size + 1) (g + 1 + i.1) M M (f i.1) ((X.setCell ⟨W.heap.size, 0, none⟩ (.int .u64 (sh : Nat))).setCell ⟨W.heap.size, 1, none⟩ (.int .u64 (sl : Nat)))) ∧ (((WAt ((X.setCell ⟨W.heap.size, 0, none⟩ (.int .u64 (sh : Nat))).setCell ⟨W.heap.size, 1, none⟩ (.int .u64 (sl : Nat))) W.heap.size (zto (hornZ (f i.1) y ((pre' ++ [j]).map (·.1)))) ∧ VSt ((X.setCell ⟨W.heap.size, 0, none⟩ (.int .u64 (sh : Nat))).setCell ⟨W.heap.size, 1, none⟩ (.int .u64 (sl : Nat))) w.heap.size x y ua) ∧ (BoxM (w.heap.size + 4) g N cap M ((X.setCell ⟨W.heap.size, 0, none⟩ (.int .u64 (sh : Nat))).setCell ⟨W.heap.size, 1, none⟩ (.int .u64 (sl : Nat))) ∧ BoxZ (W.heap.size + 1) (g + 1 + i.1) M M (f i.1) ((X.setCell ⟨W.heap.size, 0, none⟩ (.int .u64 (sh : Nat))).setCell ⟨W.heap.size, 1, none⟩ (.int .u64 (sl : Nat))))) ∧ (Below w.heap.size W ((X.setCell ⟨W.heap.size, 0, none⟩ (.int .u64 (sh : Nat))).setCell ⟨W.heap.size, 1, none⟩ (.int .u64 (sl : Nat))) ∧ KeepsFrom W5.heap.size W ((X.setCell ⟨W.heap.size, 0, none⟩ (.int .u64 (sh : Nat))).setCell ⟨W.heap.size, 1, none⟩ (.int .u64 (sl : Nat)))) ∧ W2.heap.size ≤ ((X.setCell ⟨W.heap.size, 0, none⟩ (.int .u64 (sh : Nat))).setCell ⟨W.heap.size, 1, none⟩ (.int .u64 (sl : Nat))).heap.size)) := fun X hX => by
        have kx : KeepsOthers W' ((X.setCell ⟨W.heap.size, 0, none⟩ (.int .u64 (sh : Nat))).setCell ⟨W.heap.size, 1, none⟩ (.int .u64 (sl : Nat))) := ((keeps_below hX).trans (KeepsOthers.setCell _ _ _)).trans (KeepsOthers.setCell _ _ _)
        have so : ∀ b off, b ≠ W.heap.size → ((X.setCell ⟨W.heap.size, 0, none⟩ (.int .u64 (sh : Nat))).setCell ⟨W.heap.size, 1, none⟩ (.int .u64 (sl : Nat))).cell? ⟨b, off, none⟩ = X.cell? ⟨b, off, none⟩ := fun b off hb => (World.cell?_setCell_other _ _ _ _ (fun e => hb (by have := congrArg Addr.block e; simpa using this.symm))).trans (World.cell?_setCell_other _ _ _ _ (fun e => hb (by have := congrArg Addr.block e; simpa using this.symm)))
        have bz : BoxZ (W.heap.size + 1) (g + 1 + i.1) M M (f i.1) ((X.setCell ⟨W.heap.size, 0, none⟩ (.int .u64 (sh : Nat))).setCell ⟨W.heap.size, 1, none⟩ (.int .u64 (sl : Nat))) := ⟨(so _ _ (by omega)).trans ((hX.cell (p := ⟨W.heap.size + 1, 0, none⟩) (by show W.heap.size + 1 < _; omega)).trans hBZ3.1), fun k hk => (so _ _ (by have := hgi.size; omega)).trans ((hX.cell (p := ⟨g + 1 + i.1, k, none⟩) (by show g + 1 + i.1 < _; have := hgi.size; omega)).trans (hBZ3.2 k hk))⟩
        have bm : BoxM (w.heap.size + 4) g N cap M ((X.setCell ⟨W.heap.size, 0, none⟩ (.int .u64 (sh : Nat))).setCell ⟨W.heap.size, 1, none⟩ (.int .u64 (sl : Nat))) := ⟨(so _ _ (by omega)).trans ((hX.cell (p := ⟨w.heap.size + 4, 0, none⟩) (by show w.heap.size + 4 < _; omega)).trans hBM3.1), fun k hk => (so _ _ (by omega)).trans ((hX.cell (p := ⟨g, k, none⟩) (by show g < _; omega)).trans (hBM3.2 k hk))⟩
        refine ⟨kx.from _, fun _ => bz, ⟨⟨⟨?_, (hV3.below hX).putO _ _ (by omega)⟩, bm, bz⟩, ⟨?_, hKF.trans (kx.from _)⟩, by simp only [World.size_setCell]; exact Nat.le_trans hsz3 hX.size⟩⟩
        · refine (hA.below hX).put s3 s4 ?_
          rw [List.map_append, List.map_cons, List.map_nil, horn_snoc, HQ.out, HC.out]
          exact ES.out
        · exact ((hBW.trans (hX.mono (by have := hBW.size; omega))).setCell (p := ⟨W.heap.size, 0, none⟩) (by show w.heap.size ≤ W.heap.size; omega) _).setCell (p := ⟨W.heap.size, 1, none⟩) (by show w.heap.size ≤ W.heap.size; omega) _
      gi_wp2_with fail
      refine wpIn_region_any (by kernel_rfl) (any_round (by kernel_rfl) _ _ _ _ ?_)
      refine wpAnyIn_take (i := 4) (v := .int .i64 c) rfl rfl (by kernel_rfl) (by kernel_rfl) (by kernel_rfl) (fun _ _ _ h => h) ⟨Or.inl ⟨by rfl, fun w => by go_simp⟩, fun _ => rfl⟩ ?_
      refine wpAnyIn_ready (rs := [0, 1]) (by kernel_rfl) (by simp) ?_
      refine AllReadyIn.cons rfl (fun K hK => ?_) ?_
      · go_simp
        refine hK _ _ ?_
        clear hK K
        refine wpAnyIn_ready (rs := [1]) (by kernel_rfl) (by simp) ?_
        refine AllReadyIn.cons rfl (fun K hK => ?_) ?_
        · go_simp
          refine hK _ _ ?_
          clear hK K
          refine wpAnyIn_ready (rs := [2]) (by kernel_rfl) (by simp) ?_
          refine AllReadyIn.cons rfl (fun K hK => ?_) ?_
          · go_simp
            refine ⟨trivial, (callsIn_wide.2 (O1.out _)).mono ?_⟩
            rintro e w5 ⟨rfl, hw5⟩
            obtain ⟨⟨n1, n2⟩, ⟨n3, n4⟩, n5, n9⟩ := KP.out w5 (((Below.refl _ _).drew).trans hw5)
            clear hw5
            dsimp only
            refine hK _ _ ?_
            clear hK K
            refine wpAnyIn_ready (rs := [3]) (by kernel_rfl) (by simp) ?_
            refine AllReadyIn.cons rfl (fun K hK => ?_) ?_
            · go_simp
              refine ⟨trivial, (callsIn_wide.2 (T1.out _)).mono ?_⟩
              rintro e w6 ⟨rfl, hw6⟩
              obtain ⟨⟨o1, o2⟩, ⟨o3, o4⟩, o5, o9⟩ := KP.out w6 (Below.trans n9 (hw6.mono n9.size))
              clear hw6
              dsimp only
              refine hK _ _ ?_
              clear hK K
              refine wpAnyIn_ready (rs := [5]) (by kernel_rfl) (by simp) ?_
              refine AllReadyIn.cons rfl (fun K hK => ?_) ?_
              · go_simp
                refine ⟨trivial, (callsIn_wide.2 (O2.out _)).mono ?_⟩
                rintro e w7 ⟨rfl, hw7⟩
                obtain ⟨⟨p1, p2⟩, ⟨p3, p4⟩, p5, p9⟩ := KP.out w7 (Below.trans o9 (hw7.mono o9.size))
                clear hw7
                dsimp only
                refine hK _ _ ?_
                clear hK K
                refine wpAnyIn_ready (rs := [6]) (by kernel_rfl) (by simp) ?_
                refine AllReadyIn.cons rfl (fun K hK => ?_) ?_
                · go_simp
                  refine ⟨trivial, (callsIn_wide.2 (P1.out _)).mono ?_⟩
                  rintro e w8 ⟨rfl, hw8⟩
                  obtain ⟨⟨q1, q2⟩, ⟨q3, q4⟩, q5, q9⟩ := KP.out w8 (Below.trans p9 (hw8.mono p9.size))
                  clear hw8
                  dsimp only
                  refine hK _ _ ?_
                  clear hK K
                  refine wpAnyIn_ready (rs := [7]) (by kernel_rfl) (by simp) ?_
                  refine AllReadyIn.cons rfl (fun K hK => ?_) ?_
                  · go_simp
                    refine hK _ _ ?_
                    clear hK K
                    refine wpAnyIn_done (by kernel_rfl) ?_ _
                    gi_wp2
                    exact FIN.out _ q9
                  exact AllReadyIn.nil
                exact AllReadyIn.nil
              exact AllReadyIn.nil
            exact AllReadyIn.nil
          exact AllReadyIn.nil
        exact AllReadyIn.nil
      refine AllReadyIn.cons rfl (fun K hK => ?_) ?_
      · go_simp
        refine hK _ _ ?_
        clear hK K
        refine wpAnyIn_ready (rs := [0, 2]) (by kernel_rfl) (by simp) ?_
        refine AllReadyIn.cons rfl (fun K hK => ?_) ?_
        · go_simp
          refine hK _ _ ?_
          clear hK K
          refine wpAnyIn_ready (rs := [2]) (by kernel_rfl) (by simp) ?_
          refine AllReadyIn.cons rfl (fun K hK => ?_) ?_
          · go_simp
            refine ⟨trivial, (callsIn_wide.2 (O1.out _)).mono ?_⟩
            rintro e w5 ⟨rfl, hw5⟩
            obtain ⟨⟨n1, n2⟩, ⟨n3, n4⟩, n5, n9⟩ := KP.out w5 (((Below.refl _ _).drew).trans hw5)
            clear hw5
            dsimp only
            refine hK _ _ ?_
            clear hK K
            refine wpAnyIn_ready (rs := [3]) (by kernel_rfl) (by simp) ?_
            refine AllReadyIn.cons rfl (fun K hK => ?_) ?_
            · go_simp
              refine ⟨trivial, (callsIn_wide.2 (T1.out _)).mono ?_⟩
              rintro e w6 ⟨rfl, hw6⟩
              obtain ⟨⟨o1, o2⟩, ⟨o3, o4⟩, o5, o9⟩ := KP.out w6 (Below.trans n9 (hw6.mono n9.size))
              clear hw6
              dsimp only
              refine hK _ _ ?_
              clear hK K
              refine wpAnyIn_ready (rs := [5]) (by kernel_rfl) (by simp) ?_
              refine AllReadyIn.cons rfl (fun K hK => ?_) ?_
              · go_simp
                refine ⟨trivial, (callsIn_wide.2 (O2.out _)).mono ?_⟩
                rintro e w7 ⟨rfl, hw7⟩
                obtain ⟨⟨p1, p2⟩, ⟨p3, p4⟩, p5, p9⟩ := KP.out w7 (Below.trans o9 (hw7.mono o9.size))
                clear hw7
                dsimp only
                refine hK _ _ ?_
                clear hK K
                refine wpAnyIn_ready (rs := [6]) (by kernel_rfl) (by simp) ?_
                refine AllReadyIn.cons rfl (fun K hK => ?_) ?_
                · go_simp
                  refine ⟨trivial, (callsIn_wide.2 (P1.out _)).mono ?_⟩
                  rintro e w8 ⟨rfl, hw8⟩
                  obtain ⟨⟨q1, q2⟩, ⟨q3, q4⟩, q5, q9⟩ := KP.out w8 (Below.trans p9 (hw8.mono p9.size))
                  clear hw8
                  dsimp only
                  refine hK _ _ ?_
                  clear hK K
                  refine wpAnyIn_ready (rs := [7]) (by kernel_rfl) (by simp) ?_
                  refine AllReadyIn.cons rfl (fun K hK => ?_) ?_
                  · go_simp
                    refine hK _ _ ?_
                    clear hK K
                    refine wpAnyIn_done (by kernel_rfl) ?_ _
                    gi_wp2
                    exact FIN.out _ q9
                  exact AllReadyIn.nil
                exact AllReadyIn.nil
              exact AllReadyIn.nil
            exact AllReadyIn.nil
          exact AllReadyIn.nil
        refine AllReadyIn.cons rfl (fun K hK => ?_) ?_
        · go_simp
          refine ⟨trivial, (callsIn_wide.2 (O1.out _)).mono ?_⟩
          rintro e w5 ⟨rfl, hw5⟩
          obtain ⟨⟨n1, n2⟩, ⟨n3, n4⟩, n5, n9⟩ := KP.out w5 (((Below.refl _ _).drew).trans hw5)
          clear hw5
          dsimp only
          refine hK _ _ ?_
          clear hK K
          refine wpAnyIn_ready (rs := [0]) (by kernel_rfl) (by simp) ?_
          refine AllReadyIn.cons rfl (fun K hK => ?_) ?_
          · go_simp
            refine hK _ _ ?_
            clear hK K
            refine wpAnyIn_ready (rs := [3]) (by kernel_rfl) (by simp) ?_
            refine AllReadyIn.cons rfl (fun K hK => ?_) ?_
            · go_simp
              refine ⟨trivial, (callsIn_wide.2 (T1.out _)).mono ?_⟩
              rintro e w6 ⟨rfl, hw6⟩
              obtain ⟨⟨o1, o2⟩, ⟨o3, o4⟩, o5, o9⟩ := KP.out w6 (Below.trans n9 (hw6.mono n9.size))
              clear hw6
              dsimp only
              refine hK _ _ ?_
              clear hK K
              refine wpAnyIn_ready (rs := [5]) (by kernel_rfl) (by simp) ?_
              refine AllReadyIn.cons rfl (fun K hK => ?_) ?_
              · go_simp
                refine ⟨trivial, (callsIn_wide.2 (O2.out _)).mono ?_⟩
                rintro e w7 ⟨rfl, hw7⟩
                obtain ⟨⟨p1, p2⟩, ⟨p3, p4⟩, p5, p9⟩ := KP.out w7 (Below.trans o9 (hw7.mono o9.size))
                clear hw7
                dsimp only
                refine hK _ _ ?_
                clear hK K
                refine wpAnyIn_ready (rs := [6]) (by kernel_rfl) (by simp) ?_
                refine AllReadyIn.cons rfl (fun K hK => ?_) ?_
                · go_simp
                  refine ⟨trivial, (callsIn_wide.2 (P1.out _)).mono ?_⟩
                  rintro e w8 ⟨rfl, hw8⟩
                  obtain ⟨⟨q1, q2⟩, ⟨q3, q4⟩, q5, q9⟩ := KP.out w8 (Below.trans p9 (hw8.mono p9.size))
                  clear hw8
                  dsimp only
                  refine hK _ _ ?_
                  clear hK K
                  refine wpAnyIn_ready (rs := [7]) (by kernel_rfl) (by simp) ?_
                  refine AllReadyIn.cons rfl (fun K hK => ?_) ?_
                  · go_simp
                    refine hK _ _ ?_
                    clear hK K
                    refine wpAnyIn_done (by kernel_rfl) ?_ _
                    gi_wp2
                    exact FIN.out _ q9
                  exact AllReadyIn.nil
                exact AllReadyIn.nil
              exact AllReadyIn.nil
            exact AllReadyIn.nil
          exact AllReadyIn.nil
        exact AllReadyIn.nil
      exact AllReadyIn.nil
    case done2 =>
      rintro ys' W' hys ⟨⟨⟨hA, hV3⟩, hBM3, hBZ3⟩, ⟨hBW, hKF⟩, hsz3⟩
      have hsW : W.heap.size ≤ W'.heap.size := by omega
      rw [hys] at hA
      obtain ⟨q, HQ⟩ : ∃ q, Hid (hornZ R x (pre.map (·.1)) = q) := ⟨_, rfl⟩
      obtain ⟨c, HC⟩ : ∃ c, Hid (hornZ (f i.1) y (downTo M) = c) := ⟨_, rfl⟩
      have HCR : Hid (R i.1 = c) := by show _ = _; rw [← HR.out]; exact HC.out
      have EUA : ua = zto q := by rw [← HUA.out, HQ.out]
      subst EUA
      rw [HC.out] at hA
      obtain ⟨ch, cl, c3, c4, EC, wc, cc0, cc1, fc0, fc1⟩ := hA.read
      obtain ⟨uh, ul, u1, u2, EU, wu, cu0, cu1, fu0, fu1⟩ := hV3.2.2.read
      have cx := hV3.1.1.cell
      have O1 := hid (fun w => Of_any x w hx1 hx2)
      change Hid (∀ w, Calls _ _ _ w fun e w' => e = .returned (wv (zto x)) ∧ _) at O1
      obtain ⟨yh, yl, y3, y4, EY, wy⟩ := wv_open (zto x) (zto_lt x)
      obtain ⟨ph, pl, p3, p4, EP, wp⟩ := wv_open (zto (q * x)) (zto_lt _)
      obtain ⟨sh, sl, s3, s4, ES, ws⟩ := wv_open (zto (q * x + c)) (zto_lt _)
      have T1 := hid (fun w => WTimes_any (zto q) (zto x) w (zto_lt _) (zto_lt _))
      rw [zto_mul, wu, wy, wp] at T1
      have P1 := hid (fun w => WPlus_any (zto (q * x)) (zto c) w (zto_lt _) (zto_lt _))
      rw [zto_add, wp, wc, ws] at P1
      rw [wy] at O1
      have KP : Hid (∀ X, Below W'.heap.size W' X → (X.cell? ⟨w.heap.size + 1 + 1 + 1, 0, none⟩ = some (.int .u64 (uh : Nat)) ∧ X.cell? ⟨w.heap.size + 1 + 1 + 1, 1, none⟩ = some (.int .u64 (ul : Nat))) ∧ (X.frozen? ⟨w.heap.size + 1 + 1 + 1, 0, none⟩ = false ∧ X.frozen? ⟨w.heap.size + 1 + 1 + 1, 1, none⟩ = false) ∧ X.cell? ⟨w.heap.size, 0, none⟩ = some (.int .i64 x) ∧ (X.cell? ⟨W.heap.size, 0, none⟩ = some (.int .u64 (ch : Nat)) ∧ X.cell? ⟨W.heap.size, 1, none⟩ = some (.int .u64 (cl : Nat))) ∧ Below W'.heap.size W' X) := fun X hX =>
        ⟨⟨(hX.cell (p := ⟨w.heap.size + 1 + 1 + 1, 0, none⟩) hV3.2.2.size).trans cu0, (hX.cell (p := ⟨w.heap.size + 1 + 1 + 1, 1, none⟩) hV3.2.2.size).trans cu1⟩, ⟨(froz_below hX (b := w.heap.size + 1 + 1 + 1) (off := 0) hV3.2.2.size).trans fu0, (froz_below hX (b := w.heap.size + 1 + 1 + 1) (off := 1) hV3.2.2.size).trans fu1⟩, (hX.cell (p := ⟨w.heap.size, 0, none⟩) hV3.1.1.lt).trans cx, ⟨(hX.cell (p := ⟨W.heap.size, 0, none⟩) hA.size).trans cc0, (hX.cell (p := ⟨W.heap.size, 1, none⟩) hA.size).trans cc1⟩, hX⟩
      have FIN : Hid (∀ X, Below W'.heap.size W' X → KeepsFrom W5.heap.size W ((X.setCell ⟨w.heap.size + 1 + 1 + 1, 0, none⟩ (.int .u64 (sh : Nat))).setCell ⟨w.heap.size + 1 + 1 + 1, 1, none⟩ (.int .u64 (sl : Nat))) ∧ (BoxM (w.heap.size + 4) g N cap M W → BoxM (w.heap.size + 4) g N cap M ((X.setCell ⟨w.heap.size + 1 + 1 + 1, 0, none⟩ (.int .u64 (sh : Nat))).setCell ⟨w.heap.size + 1 + 1 + 1, 1, none⟩ (.int .u64 (sl : Nat)))) ∧ ((VSt ((X.setCell ⟨w.heap.size + 1 + 1 + 1, 0, none⟩ (.int .u64 (sh : Nat))).setCell ⟨w.heap.size + 1 + 1 + 1, 1, none⟩ (.int .u64 (sl : Nat))) w.heap.size x y (zto (hornZ R x ((pre ++ [i]).map (·.1)))) ∧ BoxM (w.heap.size + 4) g N cap M ((X.setCell ⟨w.heap.size + 1 + 1 + 1, 0, none⟩ (.int .u64 (sh : Nat))).setCell ⟨w.heap.size + 1 + 1 + 1, 1, none⟩ (.int .u64 (sl : Nat)))) ∧ (Below w.heap.size w ((X.setCell ⟨w.heap.size + 1 + 1 + 1, 0, none⟩ (.int .u64 (sh : Nat))).setCell ⟨w.heap.size + 1 + 1 + 1, 1, none⟩ (.int .u64 (sl : Nat))) ∧ W5.heap.size ≤ ((X.setCell ⟨w.heap.size + 1 + 1 + 1, 0, none⟩ (.int .u64 (sh : Nat))).setCell ⟨w.heap.size + 1 + 1 + 1, 1, none⟩ (.int .u64 (sl : Nat))).heap.size))) := fun X hX => by
        have kx : KeepsOthers W' ((X.setCell ⟨w.heap.size + 1 + 1 + 1, 0, none⟩ (.int .u64 (sh : Nat))).setCell ⟨w.heap.size + 1 + 1 + 1, 1, none⟩ (.int .u64 (sl : Nat))) := ((keeps_below hX).trans (KeepsOthers.setCell _ _ _)).trans (KeepsOthers.setCell _ _ _)
        have so : ∀ b off, b ≠ w.heap.size + 1 + 1 + 1 → ((X.setCell ⟨w.heap.size + 1 + 1 + 1, 0, none⟩ (.int .u64 (sh : Nat))).setCell ⟨w.heap.size + 1 + 1 + 1, 1, none⟩ (.int .u64 (sl : Nat))).cell? ⟨b, off, none⟩ = X.cell? ⟨b, off, none⟩ := fun b off hb => (World.cell?_setCell_other _ _ _ _ (fun e => hb (by have := congrArg Addr.block e; simpa using this.symm))).trans (World.cell?_setCell_other _ _ _ _ (fun e => hb (by have := congrArg Addr.block e; simpa using this.symm)))
        have bm : BoxM (w.heap.size + 4) g N cap M ((X.setCell ⟨w.heap.size + 1 + 1 + 1, 0, none⟩ (.int .u64 (sh : Nat))).setCell ⟨w.heap.size + 1 + 1 + 1, 1, none⟩ (.int .u64 (sl : Nat))) := ⟨(so _ _ (by omega)).trans ((hX.cell (p := ⟨w.heap.size + 4, 0, none⟩) (by show w.heap.size + 4 < _; omega)).trans hBM3.1), fun k hk => (so _ _ (by omega)).trans ((hX.cell (p := ⟨g, k, none⟩) (by show g < _; omega)).trans (hBM3.2 k hk))⟩
        have hVX := hV3.below hX
        have so2 : ∀ b, b ≠ w.heap.size + 1 + 1 + 1 → ((X.setCell ⟨w.heap.size + 1 + 1 + 1, 0, none⟩ (.int .u64 (sh : Nat))).setCell ⟨w.heap.size + 1 + 1 + 1, 1, none⟩ (.int .u64 (sl : Nat))).heap[b]? = X.heap[b]? := fun b hb => (set_heap_other _ _ _ (by show w.heap.size + 1 + 1 + 1 ≠ b; exact hb.symm)).trans (set_heap_other _ _ _ (by show w.heap.size + 1 + 1 + 1 ≠ b; exact hb.symm))
        refine ⟨hKF.trans (kx.from _), fun _ => bm, ⟨⟨⟨⟨(so2 _ (by omega)).trans hVX.1.1, (so2 _ (by omega)).trans hVX.1.2⟩, hVX.2.1.putO _ _ (by omega), ?_⟩, bm⟩, ?_, by simp only [World.size_setCell]; have := hX.size; omega⟩⟩
        · refine hVX.2.2.put s3 s4 ?_
          rw [List.map_append, List.map_cons, List.map_nil, horn_snoc, HQ.out, HCR.out]
          exact ES.out
        · exact (((hB.trans (hBW.mono (Nat.le_refl _))).trans (hX.mono (by have := hB.size; omega))).setCell (p := ⟨w.heap.size + 1 + 1 + 1, 0, none⟩) (by show w.heap.size ≤ w.heap.size + 1 + 1 + 1; omega) _).setCell (p := ⟨w.heap.size + 1 + 1 + 1, 1, none⟩) (by show w.heap.size ≤ w.heap.size + 1 + 1 + 1; omega) _
      gi_wp2_with fail
      refine wpIn_region_any (by kernel_rfl) (any_round (by kernel_rfl) _ _ _ _ ?_)
      refine wpAnyIn_ready (rs := [0, 1, 4]) (by kernel_rfl) (by simp) ?_
      refine AllReadyIn.cons rfl (fun K hK => ?_) ?_
      · go_simp
        refine hK _ _ ?_
        clear hK K
        refine wpAnyIn_ready (rs := [1, 4]) (by kernel_rfl) (by simp) ?_
        refine AllReadyIn.cons rfl (fun K hK => ?_) ?_
        · go_simp
          refine hK _ _ ?_
          clear hK K
          refine wpAnyIn_ready (rs := [2, 4]) (by kernel_rfl) (by simp) ?_
          refine AllReadyIn.cons rfl (fun K hK => ?_) ?_
          · go_simp
            refine ⟨trivial, (callsIn_wide.2 (O1.out _)).mono ?_⟩
            rintro e w5 ⟨rfl, hw5⟩
            obtain ⟨⟨n1, n2⟩, ⟨n3, n4⟩, n5, ⟨n6, n7⟩, n9⟩ := KP.out w5 (((Below.refl _ _).drew).trans hw5)
            clear hw5
            dsimp only
            refine hK _ _ ?_
            clear hK K
            refine wpAnyIn_ready (rs := [3, 4]) (by kernel_rfl) (by simp) ?_
            refine AllReadyIn.cons rfl (fun K hK => ?_) ?_
            · go_simp
              refine ⟨trivial, (callsIn_wide.2 (T1.out _)).mono ?_⟩
              rintro e w6 ⟨rfl, hw6⟩
              obtain ⟨⟨o1, o2⟩, ⟨o3, o4⟩, o5, ⟨o6, o7⟩, o9⟩ := KP.out w6 (Below.trans n9 (hw6.mono n9.size))
              clear hw6
              dsimp only
              refine hK _ _ ?_
              clear hK K
              refine wpAnyIn_ready (rs := [4]) (by kernel_rfl) (by simp) ?_
              refine AllReadyIn.cons rfl (fun K hK => ?_) ?_
              · go_simp
                refine hK _ _ ?_
                clear hK K
                refine wpAnyIn_ready (rs := [5]) (by kernel_rfl) (by simp) ?_
                refine AllReadyIn.cons rfl (fun K hK => ?_) ?_
                · go_simp
                  refine ⟨trivial, (callsIn_wide.2 (P1.out _)).mono ?_⟩
                  rintro e w8 ⟨rfl, hw8⟩
                  obtain ⟨⟨q1, q2⟩, ⟨q3, q4⟩, q5, ⟨q6, q7⟩, q9⟩ := KP.out w8 (Below.trans o9 (hw8.mono o9.size))
                  clear hw8
                  dsimp only
                  refine hK _ _ ?_
                  clear hK K
                  refine wpAnyIn_ready (rs := [6]) (by kernel_rfl) (by simp) ?_
                  refine AllReadyIn.cons rfl (fun K hK => ?_) ?_
                  · go_simp
                    refine hK _ _ ?_
                    clear hK K
                    refine wpAnyIn_done (by kernel_rfl) ?_ _
                    gi_wp2
                    exact FIN.out _ q9
                  exact AllReadyIn.nil
                exact AllReadyIn.nil
              exact AllReadyIn.nil
            refine AllReadyIn.cons rfl (fun K hK => ?_) ?_
            · go_simp
              refine hK _ _ ?_
              clear hK K
              refine wpAnyIn_ready (rs := [3]) (by kernel_rfl) (by simp) ?_
              refine AllReadyIn.cons rfl (fun K hK => ?_) ?_
              · go_simp
                refine ⟨trivial, (callsIn_wide.2 (T1.out _)).mono ?_⟩
                rintro e w6 ⟨rfl, hw6⟩
                obtain ⟨⟨o1, o2⟩, ⟨o3, o4⟩, o5, ⟨o6, o7⟩, o9⟩ := KP.out w6 (Below.trans n9 (hw6.mono n9.size))
                clear hw6
                dsimp only
                refine hK _ _ ?_
                clear hK K
                refine wpAnyIn_ready (rs := [5]) (by kernel_rfl) (by simp) ?_
                refine AllReadyIn.cons rfl (fun K hK => ?_) ?_
                · go_simp
                  refine ⟨trivial, (callsIn_wide.2 (P1.out _)).mono ?_⟩
                  rintro e w8 ⟨rfl, hw8⟩
                  obtain ⟨⟨q1, q2⟩, ⟨q3, q4⟩, q5, ⟨q6, q7⟩, q9⟩ := KP.out w8 (Below.trans o9 (hw8.mono o9.size))
                  clear hw8
                  dsimp only
                  refine hK _ _ ?_
                  clear hK K
                  refine wpAnyIn_ready (rs := [6]) (by kernel_rfl) (by simp) ?_
                  refine AllReadyIn.cons rfl (fun K hK => ?_) ?_
                  · go_simp
                    refine hK _ _ ?_
                    clear hK K
                    refine wpAnyIn_done (by kernel_rfl) ?_ _
                    gi_wp2
                    exact FIN.out _ q9
                  exact AllReadyIn.nil
                exact AllReadyIn.nil
              exact AllReadyIn.nil
            exact AllReadyIn.nil
          refine AllReadyIn.cons rfl (fun K hK => ?_) ?_
          · go_simp
            refine hK _ _ ?_
            clear hK K
            refine wpAnyIn_ready (rs := [2]) (by kernel_rfl) (by simp) ?_
            refine AllReadyIn.cons rfl (fun K hK => ?_) ?_
            · go_simp
              refine ⟨trivial, (callsIn_wide.2 (O1.out _)).mono ?_⟩
              rintro e w5 ⟨rfl, hw5⟩
              obtain ⟨⟨n1, n2⟩, ⟨n3, n4⟩, n5, ⟨n6, n7⟩, n9⟩ := KP.out w5 (((Below.refl _ _).drew).trans hw5)
              clear hw5
              dsimp only
              refine hK _ _ ?_
              clear hK K
              refine wpAnyIn_ready (rs := [3]) (by kernel_rfl) (by simp) ?_
              refine AllReadyIn.cons rfl (fun K hK => ?_) ?_
              · go_simp
                refine ⟨trivial, (callsIn_wide.2 (T1.out _)).mono ?_⟩
                rintro e w6 ⟨rfl, hw6⟩
                obtain ⟨⟨o1, o2⟩, ⟨o3, o4⟩, o5, ⟨o6, o7⟩, o9⟩ := KP.out w6 (Below.trans n9 (hw6.mono n9.size))
                clear hw6
                dsimp only
                refine hK _ _ ?_
                clear hK K
                refine wpAnyIn_ready (rs := [5]) (by kernel_rfl) (by simp) ?_
                refine AllReadyIn.cons rfl (fun K hK => ?_) ?_
                · go_simp
                  refine ⟨trivial, (callsIn_wide.2 (P1.out _)).mono ?_⟩
                  rintro e w8 ⟨rfl, hw8⟩
                  obtain ⟨⟨q1, q2⟩, ⟨q3, q4⟩, q5, ⟨q6, q7⟩, q9⟩ := KP.out w8 (Below.trans o9 (hw8.mono o9.size))
                  clear hw8
                  dsimp only
                  refine hK _ _ ?_
                  clear hK K
                  refine wpAnyIn_ready (rs := [6]) (by kernel_rfl) (by simp) ?_
                  refine AllReadyIn.cons rfl (fun K hK => ?_) ?_
                  · go_simp
                    refine hK _ _ ?_
                    clear hK K
                    refine wpAnyIn_done (by kernel_rfl) ?_ _
                    gi_wp2
                    exact FIN.out _ q9
                  exact AllReadyIn.nil
                exact AllReadyIn.nil
              exact AllReadyIn.nil
            exact AllReadyIn.nil
          exact AllReadyIn.nil
        refine AllReadyIn.cons rfl (fun K hK => ?_) ?_
        · go_simp
          refine hK _ _ ?_
          clear hK K
          refine wpAnyIn_ready (rs := [1]) (by kernel_rfl) (by simp) ?_
          refine AllReadyIn.cons rfl (fun K hK => ?_) ?_
          · go_simp
            refine hK _ _ ?_
            clear hK K
            refine wpAnyIn_ready (rs := [2]) (by kernel_rfl) (by simp) ?_
            refine AllReadyIn.cons rfl (fun K hK => ?_) ?_
            · go_simp
              refine ⟨trivial, (callsIn_wide.2 (O1.out _)).mono ?_⟩
              rintro e w5 ⟨rfl, hw5⟩
              obtain ⟨⟨n1, n2⟩, ⟨n3, n4⟩, n5, ⟨n6, n7⟩, n9⟩ := KP.out w5 (((Below.refl _ _).drew).trans hw5)
              clear hw5
              dsimp only
              refine hK _ _ ?_
              clear hK K
              refine wpAnyIn_ready (rs := [3]) (by kernel_rfl) (by simp) ?_
              refine AllReadyIn.cons rfl (fun K hK => ?_) ?_
              · go_simp
                refine ⟨trivial, (callsIn_wide.2 (T1.out _)).mono ?_⟩
                rintro e w6 ⟨rfl, hw6⟩
                obtain ⟨⟨o1, o2⟩, ⟨o3, o4⟩, o5, ⟨o6, o7⟩, o9⟩ := KP.out w6 (Below.trans n9 (hw6.mono n9.size))
                clear hw6
                dsimp only
                refine hK _ _ ?_
                clear hK K
                refine wpAnyIn_ready (rs := [5]) (by kernel_rfl) (by simp) ?_
                refine AllReadyIn.cons rfl (fun K hK => ?_) ?_
                · go_simp
                  refine ⟨trivial, (callsIn_wide.2 (P1.out _)).mono ?_⟩
                  rintro e w8 ⟨rfl, hw8⟩
                  obtain ⟨⟨q1, q2⟩, ⟨q3, q4⟩, q5, ⟨q6, q7⟩, q9⟩ := KP.out w8 (Below.trans o9 (hw8.mono o9.size))
                  clear hw8
                  dsimp only
                  refine hK _ _ ?_
                  clear hK K
                  refine wpAnyIn_ready (rs := [6]) (by kernel_rfl) (by simp) ?_
                  refine AllReadyIn.cons rfl (fun K hK => ?_) ?_
                  · go_simp
                    refine hK _ _ ?_
                    clear hK K
                    refine wpAnyIn_done (by kernel_rfl) ?_ _
                    gi_wp2
                    exact FIN.out _ q9
                  exact AllReadyIn.nil
                exact AllReadyIn.nil
              exact AllReadyIn.nil
            exact AllReadyIn.nil
          exact AllReadyIn.nil
        exact AllReadyIn.nil
      refine AllReadyIn.cons rfl (fun K hK => ?_) ?_
      · go_simp
        refine hK _ _ ?_
        clear hK K
        refine wpAnyIn_ready (rs := [0, 2, 4]) (by kernel_rfl) (by simp) ?_
        refine AllReadyIn.cons rfl (fun K hK => ?_) ?_
        · go_simp
          refine hK _ _ ?_
          clear hK K
          refine wpAnyIn_ready (rs := [2, 4]) (by kernel_rfl) (by simp) ?_
          refine AllReadyIn.cons rfl (fun K hK => ?_) ?_
          · go_simp
            refine ⟨trivial, (callsIn_wide.2 (O1.out _)).mono ?_⟩
            rintro e w5 ⟨rfl, hw5⟩
            obtain ⟨⟨n1, n2⟩, ⟨n3, n4⟩, n5, ⟨n6, n7⟩, n9⟩ := KP.out w5 (((Below.refl _ _).drew).trans hw5)
            clear hw5
            dsimp only
            refine hK _ _ ?_
            clear hK K
            refine wpAnyIn_ready (rs := [3, 4]) (by kernel_rfl) (by simp) ?_
            refine AllReadyIn.cons rfl (fun K hK => ?_) ?_
            · go_simp
              refine ⟨trivial, (callsIn_wide.2 (T1.out _)).mono ?_⟩
              rintro e w6 ⟨rfl, hw6⟩
              obtain ⟨⟨o1, o2⟩, ⟨o3, o4⟩, o5, ⟨o6, o7⟩, o9⟩ := KP.out w6 (Below.trans n9 (hw6.mono n9.size))
              clear hw6
              dsimp only
              refine hK _ _ ?_
              clear hK K
              refine wpAnyIn_ready (rs := [4]) (by kernel_rfl) (by simp) ?_
              refine AllReadyIn.cons rfl (fun K hK => ?_) ?_
              · go_simp
                refine hK _ _ ?_
                clear hK K
                refine wpAnyIn_ready (rs := [5]) (by kernel_rfl) (by simp) ?_
                refine AllReadyIn.cons rfl (fun K hK => ?_) ?_
                · go_simp
                  refine ⟨trivial, (callsIn_wide.2 (P1.out _)).mono ?_⟩
                  rintro e w8 ⟨rfl, hw8⟩
                  obtain ⟨⟨q1, q2⟩, ⟨q3, q4⟩, q5, ⟨q6, q7⟩, q9⟩ := KP.out w8 (Below.trans o9 (hw8.mono o9.size))
                  clear hw8
                  dsimp only
                  refine hK _ _ ?_
                  clear hK K
                  refine wpAnyIn_ready (rs := [6]) (by kernel_rfl) (by simp) ?_
                  refine AllReadyIn.cons rfl (fun K hK => ?_) ?_
                  · go_simp
                    refine hK _ _ ?_
                    clear hK K
                    refine wpAnyIn_done (by kernel_rfl) ?_ _
                    gi_wp2
                    exact FIN.out _ q9
                  exact AllReadyIn.nil
                exact AllReadyIn.nil
              exact AllReadyIn.nil
            refine AllReadyIn.cons rfl (fun K hK => ?_) ?_
            · go_simp
              refine hK _ _ ?_
              clear hK K
              refine wpAnyIn_ready (rs := [3]) (by kernel_rfl) (by simp) ?_
              refine AllReadyIn.cons rfl (fun K hK => ?_) ?_
              · go_simp
                refine ⟨trivial, (callsIn_wide.2 (T1.out _)).mono ?_⟩
                rintro e w6 ⟨rfl, hw6⟩
                obtain ⟨⟨o1, o2⟩, ⟨o3, o4⟩, o5, ⟨o6, o7⟩, o9⟩ := KP.out w6 (Below.trans n9 (hw6.mono n9.size))
                clear hw6
                dsimp only
                refine hK _ _ ?_
                clear hK K
                refine wpAnyIn_ready (rs := [5]) (by kernel_rfl) (by simp) ?_
                refine AllReadyIn.cons rfl (fun K hK => ?_) ?_
                · go_simp
                  refine ⟨trivial, (callsIn_wide.2 (P1.out _)).mono ?_⟩
                  rintro e w8 ⟨rfl, hw8⟩
                  obtain ⟨⟨q1, q2⟩, ⟨q3, q4⟩, q5, ⟨q6, q7⟩, q9⟩ := KP.out w8 (Below.trans o9 (hw8.mono o9.size))
                  clear hw8
                  dsimp only
                  refine hK _ _ ?_
                  clear hK K
                  refine wpAnyIn_ready (rs := [6]) (by kernel_rfl) (by simp) ?_
                  refine AllReadyIn.cons rfl (fun K hK => ?_) ?_
                  · go_simp
                    refine hK _ _ ?_
                    clear hK K
                    refine wpAnyIn_done (by kernel_rfl) ?_ _
                    gi_wp2
                    exact FIN.out _ q9
                  exact AllReadyIn.nil
                exact AllReadyIn.nil
              exact AllReadyIn.nil
            exact AllReadyIn.nil
          refine AllReadyIn.cons rfl (fun K hK => ?_) ?_
          · go_simp
            refine hK _ _ ?_
            clear hK K
            refine wpAnyIn_ready (rs := [2]) (by kernel_rfl) (by simp) ?_
            refine AllReadyIn.cons rfl (fun K hK => ?_) ?_
            · go_simp
              refine ⟨trivial, (callsIn_wide.2 (O1.out _)).mono ?_⟩
              rintro e w5 ⟨rfl, hw5⟩
              obtain ⟨⟨n1, n2⟩, ⟨n3, n4⟩, n5, ⟨n6, n7⟩, n9⟩ := KP.out w5 (((Below.refl _ _).drew).trans hw5)
              clear hw5
              dsimp only
              refine hK _ _ ?_
              clear hK K
              refine wpAnyIn_ready (rs := [3]) (by kernel_rfl) (by simp) ?_
              refine AllReadyIn.cons rfl (fun K hK => ?_) ?_
              · go_simp
                refine ⟨trivial, (callsIn_wide.2 (T1.out _)).mono ?_⟩
                rintro e w6 ⟨rfl, hw6⟩
                obtain ⟨⟨o1, o2⟩, ⟨o3, o4⟩, o5, ⟨o6, o7⟩, o9⟩ := KP.out w6 (Below.trans n9 (hw6.mono n9.size))
                clear hw6
                dsimp only
                refine hK _ _ ?_
                clear hK K
                refine wpAnyIn_ready (rs := [5]) (by kernel_rfl) (by simp) ?_
                refine AllReadyIn.cons rfl (fun K hK => ?_) ?_
                · go_simp
                  refine ⟨trivial, (callsIn_wide.2 (P1.out _)).mono ?_⟩
                  rintro e w8 ⟨rfl, hw8⟩
                  obtain ⟨⟨q1, q2⟩, ⟨q3, q4⟩, q5, ⟨q6, q7⟩, q9⟩ := KP.out w8 (Below.trans o9 (hw8.mono o9.size))
                  clear hw8
                  dsimp only
                  refine hK _ _ ?_
                  clear hK K
                  refine wpAnyIn_ready (rs := [6]) (by kernel_rfl) (by simp) ?_
                  refine AllReadyIn.cons rfl (fun K hK => ?_) ?_
                  · go_simp
                    refine hK _ _ ?_
                    clear hK K
                    refine wpAnyIn_done (by kernel_rfl) ?_ _
                    gi_wp2
                    exact FIN.out _ q9
                  exact AllReadyIn.nil
                exact AllReadyIn.nil
              exact AllReadyIn.nil
            exact AllReadyIn.nil
          exact AllReadyIn.nil
        refine AllReadyIn.cons rfl (fun K hK => ?_) ?_
        · go_simp
          refine ⟨trivial, (callsIn_wide.2 (O1.out _)).mono ?_⟩
          rintro e w5 ⟨rfl, hw5⟩
          obtain ⟨⟨n1, n2⟩, ⟨n3, n4⟩, n5, ⟨n6, n7⟩, n9⟩ := KP.out w5 (((Below.refl _ _).drew).trans hw5)
          clear hw5
          dsimp only
          refine hK _ _ ?_
          clear hK K
          refine wpAnyIn_ready (rs := [0, 4]) (by kernel_rfl) (by simp) ?_
          refine AllReadyIn.cons rfl (fun K hK => ?_) ?_
          · go_simp
            refine hK _ _ ?_
            clear hK K
            refine wpAnyIn_ready (rs := [3, 4]) (by kernel_rfl) (by simp) ?_
            refine AllReadyIn.cons rfl (fun K hK => ?_) ?_
            · go_simp
              refine ⟨trivial, (callsIn_wide.2 (T1.out _)).mono ?_⟩
              rintro e w6 ⟨rfl, hw6⟩
              obtain ⟨⟨o1, o2⟩, ⟨o3, o4⟩, o5, ⟨o6, o7⟩, o9⟩ := KP.out w6 (Below.trans n9 (hw6.mono n9.size))
              clear hw6
              dsimp only
              refine hK _ _ ?_
              clear hK K
              refine wpAnyIn_ready (rs := [4]) (by kernel_rfl) (by simp) ?_
              refine AllReadyIn.cons rfl (fun K hK => ?_) ?_
              · go_simp
                refine hK _ _ ?_
                clear hK K
                refine wpAnyIn_ready (rs := [5]) (by kernel_rfl) (by simp) ?_
                refine AllReadyIn.cons rfl (fun K hK => ?_) ?_
                · go_simp
                  refine ⟨trivial, (callsIn_wide.2 (P1.out _)).mono ?_⟩
                  rintro e w8 ⟨rfl, hw8⟩
                  obtain ⟨⟨q1, q2⟩, ⟨q3, q4⟩, q5, ⟨q6, q7⟩, q9⟩ := KP.out w8 (Below.trans o9 (hw8.mono o9.size))
                  clear hw8
                  dsimp only
                  refine hK _ _ ?_
                  clear hK K
                  refine wpAnyIn_ready (rs := [6]) (by kernel_rfl) (by simp) ?_
                  refine AllReadyIn.cons rfl (fun K hK => ?_) ?_
                  · go_simp
                    refine hK _ _ ?_
                    clear hK K
                    refine wpAnyIn_done (by kernel_rfl) ?_ _
                    gi_wp2
                    exact FIN.out _ q9
                  exact AllReadyIn.nil
                exact AllReadyIn.nil
              exact AllReadyIn.nil
            refine AllReadyIn.cons rfl (fun K hK => ?_) ?_
            · go_simp
              refine hK _ _ ?_
              clear hK K
              refine wpAnyIn_ready (rs := [3]) (by kernel_rfl) (by simp) ?_
              refine AllReadyIn.cons rfl (fun K hK => ?_) ?_
              · go_simp
                refine ⟨trivial, (callsIn_wide.2 (T1.out _)).mono ?_⟩
                rintro e w6 ⟨rfl, hw6⟩
                obtain ⟨⟨o1, o2⟩, ⟨o3, o4⟩, o5, ⟨o6, o7⟩, o9⟩ := KP.out w6 (Below.trans n9 (hw6.mono n9.size))
                clear hw6
                dsimp only
                refine hK _ _ ?_
                clear hK K
                refine wpAnyIn_ready (rs := [5]) (by kernel_rfl) (by simp) ?_
                refine AllReadyIn.cons rfl (fun K hK => ?_) ?_
                · go_simp
                  refine ⟨trivial, (callsIn_wide.2 (P1.out _)).mono ?_⟩
                  rintro e w8 ⟨rfl, hw8⟩
                  obtain ⟨⟨q1, q2⟩, ⟨q3, q4⟩, q5, ⟨q6, q7⟩, q9⟩ := KP.out w8 (Below.trans o9 (hw8.mono o9.size))
                  clear hw8
                  dsimp only
                  refine hK _ _ ?_
                  clear hK K
                  refine wpAnyIn_ready (rs := [6]) (by kernel_rfl) (by simp) ?_
                  refine AllReadyIn.cons rfl (fun K hK => ?_) ?_
                  · go_simp
                    refine hK _ _ ?_
                    clear hK K
                    refine wpAnyIn_done (by kernel_rfl) ?_ _
                    gi_wp2
                    exact FIN.out _ q9
                  exact AllReadyIn.nil
                exact AllReadyIn.nil
              exact AllReadyIn.nil
            exact AllReadyIn.nil
          refine AllReadyIn.cons rfl (fun K hK => ?_) ?_
          · go_simp
            refine hK _ _ ?_
            clear hK K
            refine wpAnyIn_ready (rs := [0]) (by kernel_rfl) (by simp) ?_
            refine AllReadyIn.cons rfl (fun K hK => ?_) ?_
            · go_simp
              refine hK _ _ ?_
              clear hK K
              refine wpAnyIn_ready (rs := [3]) (by kernel_rfl) (by simp) ?_
              refine AllReadyIn.cons rfl (fun K hK => ?_) ?_
              · go_simp
                refine ⟨trivial, (callsIn_wide.2 (T1.out _)).mono ?_⟩
                rintro e w6 ⟨rfl, hw6⟩
                obtain ⟨⟨o1, o2⟩, ⟨o3, o4⟩, o5, ⟨o6, o7⟩, o9⟩ := KP.out w6 (Below.trans n9 (hw6.mono n9.size))
                clear hw6
                dsimp only
                refine hK _ _ ?_
                clear hK K
                refine wpAnyIn_ready (rs := [5]) (by kernel_rfl) (by simp) ?_
                refine AllReadyIn.cons rfl (fun K hK => ?_) ?_
                · go_simp
                  refine ⟨trivial, (callsIn_wide.2 (P1.out _)).mono ?_⟩
                  rintro e w8 ⟨rfl, hw8⟩
                  obtain ⟨⟨q1, q2⟩, ⟨q3, q4⟩, q5, ⟨q6, q7⟩, q9⟩ := KP.out w8 (Below.trans o9 (hw8.mono o9.size))
                  clear hw8
                  dsimp only
                  refine hK _ _ ?_
                  clear hK K
                  refine wpAnyIn_ready (rs := [6]) (by kernel_rfl) (by simp) ?_
                  refine AllReadyIn.cons rfl (fun K hK => ?_) ?_
                  · go_simp
                    refine hK _ _ ?_
                    clear hK K
                    refine wpAnyIn_done (by kernel_rfl) ?_ _
                    gi_wp2
                    exact FIN.out _ q9
                  exact AllReadyIn.nil
                exact AllReadyIn.nil
              exact AllReadyIn.nil
            exact AllReadyIn.nil
          exact AllReadyIn.nil
        refine AllReadyIn.cons rfl (fun K hK => ?_) ?_
        · go_simp
          refine hK _ _ ?_
          clear hK K
          refine wpAnyIn_ready (rs := [0, 2]) (by kernel_rfl) (by simp) ?_
          refine AllReadyIn.cons rfl (fun K hK => ?_) ?_
          · go_simp
            refine hK _ _ ?_
            clear hK K
            refine wpAnyIn_ready (rs := [2]) (by kernel_rfl) (by simp) ?_
            refine AllReadyIn.cons rfl (fun K hK => ?_) ?_
            · go_simp
              refine ⟨trivial, (callsIn_wide.2 (O1.out _)).mono ?_⟩
              rintro e w5 ⟨rfl, hw5⟩
              obtain ⟨⟨n1, n2⟩, ⟨n3, n4⟩, n5, ⟨n6, n7⟩, n9⟩ := KP.out w5 (((Below.refl _ _).drew).trans hw5)
              clear hw5
              dsimp only
              refine hK _ _ ?_
              clear hK K
              refine wpAnyIn_ready (rs := [3]) (by kernel_rfl) (by simp) ?_
              refine AllReadyIn.cons rfl (fun K hK => ?_) ?_
              · go_simp
                refine ⟨trivial, (callsIn_wide.2 (T1.out _)).mono ?_⟩
                rintro e w6 ⟨rfl, hw6⟩
                obtain ⟨⟨o1, o2⟩, ⟨o3, o4⟩, o5, ⟨o6, o7⟩, o9⟩ := KP.out w6 (Below.trans n9 (hw6.mono n9.size))
                clear hw6
                dsimp only
                refine hK _ _ ?_
                clear hK K
                refine wpAnyIn_ready (rs := [5]) (by kernel_rfl) (by simp) ?_
                refine AllReadyIn.cons rfl (fun K hK => ?_) ?_
                · go_simp
                  refine ⟨trivial, (callsIn_wide.2 (P1.out _)).mono ?_⟩
                  rintro e w8 ⟨rfl, hw8⟩
                  obtain ⟨⟨q1, q2⟩, ⟨q3, q4⟩, q5, ⟨q6, q7⟩, q9⟩ := KP.out w8 (Below.trans o9 (hw8.mono o9.size))
                  clear hw8
                  dsimp only
                  refine hK _ _ ?_
                  clear hK K
                  refine wpAnyIn_ready (rs := [6]) (by kernel_rfl) (by simp) ?_
                  refine AllReadyIn.cons rfl (fun K hK => ?_) ?_
                  · go_simp
                    refine hK _ _ ?_
                    clear hK K
                    refine wpAnyIn_done (by kernel_rfl) ?_ _
                    gi_wp2
                    exact FIN.out _ q9
                  exact AllReadyIn.nil
                exact AllReadyIn.nil
              exact AllReadyIn.nil
            exact AllReadyIn.nil
          refine AllReadyIn.cons rfl (fun K hK => ?_) ?_
          · go_simp
            refine ⟨trivial, (callsIn_wide.2 (O1.out _)).mono ?_⟩
            rintro e w5 ⟨rfl, hw5⟩
            obtain ⟨⟨n1, n2⟩, ⟨n3, n4⟩, n5, ⟨n6, n7⟩, n9⟩ := KP.out w5 (((Below.refl _ _).drew).trans hw5)
            clear hw5
            dsimp only
            refine hK _ _ ?_
            clear hK K
            refine wpAnyIn_ready (rs := [0]) (by kernel_rfl) (by simp) ?_
            refine AllReadyIn.cons rfl (fun K hK => ?_) ?_
            · go_simp
              refine hK _ _ ?_
              clear hK K
              refine wpAnyIn_ready (rs := [3]) (by kernel_rfl) (by simp) ?_
              refine AllReadyIn.cons rfl (fun K hK => ?_) ?_
              · go_simp
                refine ⟨trivial, (callsIn_wide.2 (T1.out _)).mono ?_⟩
                rintro e w6 ⟨rfl, hw6⟩
                obtain ⟨⟨o1, o2⟩, ⟨o3, o4⟩, o5, ⟨o6, o7⟩, o9⟩ := KP.out w6 (Below.trans n9 (hw6.mono n9.size))
                clear hw6
                dsimp only
                refine hK _ _ ?_
                clear hK K
                refine wpAnyIn_ready (rs := [5]) (by kernel_rfl) (by simp) ?_
                refine AllReadyIn.cons rfl (fun K hK => ?_) ?_
                · go_simp
                  refine ⟨trivial, (callsIn_wide.2 (P1.out _)).mono ?_⟩
                  rintro e w8 ⟨rfl, hw8⟩
                  obtain ⟨⟨q1, q2⟩, ⟨q3, q4⟩, q5, ⟨q6, q7⟩, q9⟩ := KP.out w8 (Below.trans o9 (hw8.mono o9.size))
                  clear hw8
                  dsimp only
                  refine hK _ _ ?_
                  clear hK K
                  refine wpAnyIn_ready (rs := [6]) (by kernel_rfl) (by simp) ?_
                  refine AllReadyIn.cons rfl (fun K hK => ?_) ?_
                  · go_simp
                    refine hK _ _ ?_
                    clear hK K
                    refine wpAnyIn_done (by kernel_rfl) ?_ _
                    gi_wp2
                    exact FIN.out _ q9
                  exact AllReadyIn.nil
                exact AllReadyIn.nil
              exact AllReadyIn.nil
            exact AllReadyIn.nil
          exact AllReadyIn.nil
        exact AllReadyIn.nil
      refine AllReadyIn.cons rfl (fun K hK => ?_) ?_
      · go_simp
        refine hK _ _ ?_
        clear hK K
        refine wpAnyIn_ready (rs := [0, 1]) (by kernel_rfl) (by simp) ?_
        refine AllReadyIn.cons rfl (fun K hK => ?_) ?_
        · go_simp
          refine hK _ _ ?_
          clear hK K
          refine wpAnyIn_ready (rs := [1]) (by kernel_rfl) (by simp) ?_
          refine AllReadyIn.cons rfl (fun K hK => ?_) ?_
          · go_simp
            refine hK _ _ ?_
            clear hK K
            refine wpAnyIn_ready (rs := [2]) (by kernel_rfl) (by simp) ?_
            refine AllReadyIn.cons rfl (fun K hK => ?_) ?_
            · go_simp
              refine ⟨trivial, (callsIn_wide.2 (O1.out _)).mono ?_⟩
              rintro e w5 ⟨rfl, hw5⟩
              obtain ⟨⟨n1, n2⟩, ⟨n3, n4⟩, n5, ⟨n6, n7⟩, n9⟩ := KP.out w5 (((Below.refl _ _).drew).trans hw5)
              clear hw5
              dsimp only
              refine hK _ _ ?_
              clear hK K
              refine wpAnyIn_ready (rs := [3]) (by kernel_rfl) (by simp) ?_
              refine AllReadyIn.cons rfl (fun K hK => ?_) ?_
              · go_simp
                refine ⟨trivial, (callsIn_wide.2 (T1.out _)).mono ?_⟩
                rintro e w6 ⟨rfl, hw6⟩
                obtain ⟨⟨o1, o2⟩, ⟨o3, o4⟩, o5, ⟨o6, o7⟩, o9⟩ := KP.out w6 (Below.trans n9 (hw6.mono n9.size))
                clear hw6
                dsimp only
                refine hK _ _ ?_
                clear hK K
                refine wpAnyIn_ready (rs := [5]) (by kernel_rfl) (by simp) ?_
                refine AllReadyIn.cons rfl (fun K hK => ?_) ?_
                · go_simp
                  refine ⟨trivial, (callsIn_wide.2 (P1.out _)).mono ?_⟩
                  rintro e w8 ⟨rfl, hw8⟩
                  obtain ⟨⟨q1, q2⟩, ⟨q3, q4⟩, q5, ⟨q6, q7⟩, q9⟩ := KP.out w8 (Below.trans o9 (hw8.mono o9.size))
                  clear hw8
                  dsimp only
                  refine hK _ _ ?_
                  clear hK K
                  refine wpAnyIn_ready (rs := [6]) (by kernel_rfl) (by simp) ?_
                  refine AllReadyIn.cons rfl (fun K hK => ?_) ?_
                  · go_simp
                    refine hK _ _ ?_
                    clear hK K
                    refine wpAnyIn_done (by kernel_rfl) ?_ _
                    gi_wp2
                    exact FIN.out _ q9
                  exact AllReadyIn.nil
                exact AllReadyIn.nil
              exact AllReadyIn.nil
            exact AllReadyIn.nil
          exact AllReadyIn.nil
        refine AllReadyIn.cons rfl (fun K hK => ?_) ?_
        · go_simp
          refine hK _ _ ?_
          clear hK K
          refine wpAnyIn_ready (rs := [0, 2]) (by kernel_rfl) (by simp) ?_
          refine AllReadyIn.cons rfl (fun K hK => ?_) ?_
          · go_simp
            refine hK _ _ ?_
            clear hK K
            refine wpAnyIn_ready (rs := [2]) (by kernel_rfl) (by simp) ?_
            refine AllReadyIn.cons rfl (fun K hK => ?_) ?_
            · go_simp
              refine ⟨trivial, (callsIn_wide.2 (O1.out _)).mono ?_⟩
              rintro e w5 ⟨rfl, hw5⟩
              obtain ⟨⟨n1, n2⟩, ⟨n3, n4⟩, n5, ⟨n6, n7⟩, n9⟩ := KP.out w5 (((Below.refl _ _).drew).trans hw5)
              clear hw5
              dsimp only
              refine hK _ _ ?_
              clear hK K
              refine wpAnyIn_ready (rs := [3]) (by kernel_rfl) (by simp) ?_
              refine AllReadyIn.cons rfl (fun K hK => ?_) ?_
              · go_simp
                refine ⟨trivial, (callsIn_wide.2 (T1.out _)).mono ?_⟩
                rintro e w6 ⟨rfl, hw6⟩
                obtain ⟨⟨o1, o2⟩, ⟨o3, o4⟩, o5, ⟨o6, o7⟩, o9⟩ := KP.out w6 (Below.trans n9 (hw6.mono n9.size))
                clear hw6
                dsimp only
                refine hK _ _ ?_
                clear hK K
                refine wpAnyIn_ready (rs := [5]) (by kernel_rfl) (by simp) ?_
                refine AllReadyIn.cons rfl (fun K hK => ?_) ?_
                · go_simp
                  refine ⟨trivial, (callsIn_wide.2 (P1.out _)).mono ?_⟩
                  rintro e w8 ⟨rfl, hw8⟩
                  obtain ⟨⟨q1, q2⟩, ⟨q3, q4⟩, q5, ⟨q6, q7⟩, q9⟩ := KP.out w8 (Below.trans o9 (hw8.mono o9.size))
                  clear hw8
                  dsimp only
                  refine hK _ _ ?_
                  clear hK K
                  refine wpAnyIn_ready (rs := [6]) (by kernel_rfl) (by simp) ?_
                  refine AllReadyIn.cons rfl (fun K hK => ?_) ?_
                  · go_simp
                    refine hK _ _ ?_
                    clear hK K
                    refine wpAnyIn_done (by kernel_rfl) ?_ _
                    gi_wp2
                    exact FIN.out _ q9
                  exact AllReadyIn.nil
                exact AllReadyIn.nil
              exact AllReadyIn.nil
            exact AllReadyIn.nil
          refine AllReadyIn.cons rfl (fun K hK => ?_) ?_
          · go_simp
            refine ⟨trivial, (callsIn_wide.2 (O1.out _)).mono ?_⟩
            rintro e w5 ⟨rfl, hw5⟩
            obtain ⟨⟨n1, n2⟩, ⟨n3, n4⟩, n5, ⟨n6, n7⟩, n9⟩ := KP.out w5 (((Below.refl _ _).drew).trans hw5)
            clear hw5
            dsimp only
            refine hK _ _ ?_
            clear hK K
            refine wpAnyIn_ready (rs := [0]) (by kernel_rfl) (by simp) ?_
            refine AllReadyIn.cons rfl (fun K hK => ?_) ?_
            · go_simp
              refine hK _ _ ?_
              clear hK K
              refine wpAnyIn_ready (rs := [3]) (by kernel_rfl) (by simp) ?_
              refine AllReadyIn.cons rfl (fun K hK => ?_) ?_
              · go_simp
                refine ⟨trivial, (callsIn_wide.2 (T1.out _)).mono ?_⟩
                rintro e w6 ⟨rfl, hw6⟩
                obtain ⟨⟨o1, o2⟩, ⟨o3, o4⟩, o5, ⟨o6, o7⟩, o9⟩ := KP.out w6 (Below.trans n9 (hw6.mono n9.size))
                clear hw6
                dsimp only
                refine hK _ _ ?_
                clear hK K
                refine wpAnyIn_ready (rs := [5]) (by kernel_rfl) (by simp) ?_
                refine AllReadyIn.cons rfl (fun K hK => ?_) ?_
                · go_simp
                  refine ⟨trivial, (callsIn_wide.2 (P1.out _)).mono ?_⟩
                  rintro e w8 ⟨rfl, hw8⟩
                  obtain ⟨⟨q1, q2⟩, ⟨q3, q4⟩, q5, ⟨q6, q7⟩, q9⟩ := KP.out w8 (Below.trans o9 (hw8.mono o9.size))
                  clear hw8
                  dsimp only
                  refine hK _ _ ?_
                  clear hK K
                  refine wpAnyIn_ready (rs := [6]) (by kernel_rfl) (by simp) ?_
                  refine AllReadyIn.cons rfl (fun K hK => ?_) ?_
                  · go_simp
                    refine hK _ _ ?_
                    clear hK K
                    refine wpAnyIn_done (by kernel_rfl) ?_ _
                    gi_wp2
                    exact FIN.out _ q9
                  exact AllReadyIn.nil
                exact AllReadyIn.nil
              exact AllReadyIn.nil
            exact AllReadyIn.nil
          exact AllReadyIn.nil
        exact AllReadyIn.nil
      exact AllReadyIn.nil
    case stop2 =>
      rintro c pre' W' _ h
      exact h.elim
  case done =>
    rintro D zs W hD hzs ⟨⟨hV, hBM⟩, hB, hsz⟩ hK
    rw [hzs] at hV
    obtain ⟨uh, ul, u1, u2, EU, wu, cu0, cu1, fu0, fu1⟩ := hV.2.2.read
    obtain ⟨rh, rl, r1, r2, ER, wr', cr0, cr1, fr0, fr1⟩ := hV.2.1.read
    gi_wp2
    have R9 := hV.2.1.put (v := zto (hornZ R x (downTo N))) u1 u2 EU.out
    have K1 := (KeepsOthers.setCell W ⟨w.heap.size + 1 + 1, 0, none⟩ (.int .u64 (uh : Nat))).same D _ hK rfl
    have K2 := (KeepsOthers.setCell (W.setCell ⟨w.heap.size + 1 + 1, 0, none⟩ (.int .u64 (uh : Nat))) ⟨w.heap.size + 1 + 1, 1, none⟩ (.int .u64 (ul : Nat))).same D _ K1 rfl
    have hBF := (hB.setCell (p := ⟨w.heap.size + 1 + 1, 0, none⟩) (by show w.heap.size ≤ w.heap.size + 1 + 1; omega) (.int .u64 (uh : Nat))).setCell (p := ⟨w.heap.size + 1 + 1, 1, none⟩) (by show w.heap.size ≤ w.heap.size + 1 + 1; omega) (.int .u64 (ul : Nat))
    revert R9 K2 hBF
    generalize (W.setCell ⟨w.heap.size + 1 + 1, 0, none⟩ (.int .u64 (uh : Nat))).setCell ⟨w.heap.size + 1 + 1, 1, none⟩ (.int .u64 (ul : Nat)) = W9
    intro R9 K2 hBF
    obtain ⟨vh, vl, v1, v2, EV, wv9, cv0, cv1, fv0, fv1⟩ := R9.read
    refine ⟨by simp, .inl ⟨_, _, rfl, run_takeDeferred K2, ?_⟩⟩
    have hc5 := cell_kept cv0 (grownBy_putObj' _ D (.deferred none)) (fun r e => by cases e; exact ⟨_, K2, rfl⟩)
    have hc6 := cell_kept cv1 (grownBy_putObj' _ D (.deferred none)) (fun r e => by cases e; exact ⟨_, K2, rfl⟩)
    refine ⟨wv (zto (hornZ R x (downTo N))), ?_, by rw [← HR.out], hBF.trans (belowK_b (w := w) (Nat.le_refl _) _ D _ _ (by omega) K2 rfl rfl)⟩
    rw [wv9]
    simp [results, Tryz.f28, go_sem, hc5, hc6]
  case stop =>
    rintro D c pre W _ _ h _
    exact h.elim
end Go.Proofs.YtkmpnaohdijpnaaGreatDoor
