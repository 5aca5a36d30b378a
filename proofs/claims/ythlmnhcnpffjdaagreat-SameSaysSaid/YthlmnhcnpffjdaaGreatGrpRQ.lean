/- rotaref.Group. -/
import Derived.Test.YthlmnhcnpffjdaaGreatGorXQ
import Derived.Test.YthlmnhcnpffjdaaGreatObtAQ
namespace Go.Proofs.YthlmnhcnpffjdaaGreat
open Go.RowKit

/-- One order more: it is counted, and elements go on. -/
def grpF (s : Int × (Nat → Nat)) (p : List Nat) : Bool × (Int × (Nat → Nat)) := (true, (IntKind.i64.wrap (s.1 + 1), obtS s.2 p p.length))
theorem grp_loop : ∀ (L : List (List Nat)) (c : Int) (t : Nat → Nat), (loopL grpF L (c, t)).2 = ((loopL cntF L c).2, (loopL obtF L t).2)
  | [], c, t => rfl
  | q :: L, c, t => by
    rw [loopL, if_pos (show (grpF (c, t) q).1 = true from rfl), loopL, if_pos (show (cntF c q).1 = true from rfl), loopL, if_pos (show (obtF t q).1 = true from rfl)]
    exact grp_loop L _ _
/-- A table of so many numbers. -/
def tabL (m : Nat) (t : Nat → Nat) : List Nat := (List.range m).map t
theorem tabL_set {m i x : Nat} {t : Nat → Nat} : (tabL m t).set i x = tabL m (fun j => if j = i then x else t j) := by
  unfold tabL
  refine List.ext_getElem (by simp) fun j h1 h2 => ?_
  rw [List.getElem_set, List.getElem_map, List.getElem_map, List.getElem_range]
  by_cases e : i = j
  · rw [if_pos e, if_pos e.symm]
  · rw [if_neg e, if_neg (fun c => e c.symm)]
theorem tabL_at {m i : Nat} {t : Nat → Nat} (hi : i < m) : (tabL m t).getD i 0 = t i := by simp [tabL, List.getD, hi]
theorem tabL_len (m : Nat) (t : Nat → Nat) : (tabL m t).length = m := by simp [tabL]
/-- What Group's own function holds: bN the count, bT the box of the table gT, bM the matroid. -/
structure GpJ (w0 : World) (m : Nat) (v : Value) (bN bT bM gT : Nat) (s : Int × (Nat → Nat)) (X : Nat → Prop) (W : World) : Prop where
  off : ¬ X bN ∧ ¬ X bT ∧ ¬ X bM ∧ ¬ X gT
  cnt : Boxed W bN 3 (.int .i64 s.1)
  box : Boxed W bT 22 (.slice (some ⟨gT, 0, none⟩) m m)
  mat : W.heap[bM]? = some (.cells #[.int .i64 m, v] 24 (0, 0))
  tab : Own w0.heap.size W (.slice (some ⟨gT, 0, none⟩) m m) (tabL m s.2)
  few : ∀ i, i < m → s.2 i < 256
  dif : bN ≠ bT ∧ bN ≠ bM ∧ bN ≠ gT ∧ gT ≠ bT ∧ gT ≠ bM
variable {w0 : World} {m : Nat} {v : Value} {bN bT bM gT : Nat} {s : Int × (Nat → Nat)} {X Y : Nat → Prop} {W W' : World}
theorem GpJ.keep (h : GpJ w0 m v bN bT bM gT s X W) {bP : Nat} (hP : bP ≠ bN ∧ bP ≠ bT ∧ bP ≠ bM ∧ bP ≠ gT) (hs : Save (fun k => k = bP ∨ X k) W W') : GpJ w0 m v bN bT bM gT s X W' := by
  obtain ⟨o1, o2, o3, o4⟩ := h.off
  have no : ∀ k, k ≠ bP → ¬ X k → ¬ (k = bP ∨ X k) := fun k h1 h2 e => by
    rcases e with e | e
    · exact h1 e
    · exact h2 e
  exact ⟨h.off, (hs.block _ h.cnt.lt (no _ (fun e => hP.1 e.symm) o1)).trans h.cnt, (hs.block _ h.box.lt (no _ (fun e => hP.2.1 e.symm) o2)).trans h.box, (hs.block _ (Array.getElem?_eq_some_iff.1 h.mat).1 (no _ (fun e => hP.2.2.1 e.symm) o3)).trans h.mat, h.tab.save hs (no _ (fun e => hP.2.2.2 e.symm) o4), h.few, h.dif⟩
theorem GpJ.more (h : GpJ w0 m v bN bT bM gT s X W) (hY : ∀ k, Y k → X k ∨ W.heap.size ≤ k) : GpJ w0 m v bN bT bM gT s Y W := by
  obtain ⟨o1, o2, o3, o4⟩ := h.off
  have l1 := h.cnt.lt
  have l2 := h.box.lt
  have l3 := (Array.getElem?_eq_some_iff.1 h.mat).1
  have l4 := h.tab.lt.2
  have no : ∀ k, ¬ X k → k < W.heap.size → ¬ Y k := fun k h1 h2 e => by
    rcases hY k e with e | e
    · exact h1 e
    · omega
  exact ⟨⟨no _ o1 l1, no _ o2 l2, no _ o3 l3, no _ o4 l4⟩, h.cnt, h.box, h.mat, h.tab, h.few, h.dif⟩
theorem GpJ.count (h : GpJ w0 m v bN bT bM gT s X W) (c : Int) : GpJ w0 m v bN bT bM gT (c, s.2) X (W.setCell ⟨bN, 0, none⟩ (.int .i64 c)) := by
  obtain ⟨d1, d2, d3, d4, d5⟩ := h.dif
  have hs := save_one W bN (.int .i64 c)
  exact ⟨h.off, Boxed.set _ h.cnt, (setC_other W _ (fun e => d1 e.symm)).trans h.box, (setC_other W _ (fun e => d2 e.symm)).trans h.mat, h.tab.save hs (fun e => d3 e.symm), h.few, h.dif⟩
theorem GpJ.put (h : GpJ w0 m v bN bT bM gT s X W) {i x : Nat} (hi : i < m) (hx : x < 256) : GpJ w0 m v bN bT bM gT (s.1, fun j => if j = i then x else s.2 j) X (W.setCell ⟨gT, i, none⟩ (.int .i64 (x : Nat))) := by
  obtain ⟨d1, d2, d3, d4, d5⟩ := h.dif
  have hs : Save (fun k => k = gT) W (W.setCell ⟨gT, i, none⟩ (.int .i64 (x : Nat))) := Save.setCell (X := fun k => k = gT) (Save.refl _ W) (p := ⟨gT, i, none⟩) (.inl rfl) _
  refine ⟨h.off, (hs.block _ h.cnt.lt d3).trans h.cnt, (hs.block _ h.box.lt (fun e => d4 e.symm)).trans h.box, (hs.block _ (Array.getElem?_eq_some_iff.1 h.mat).1 (fun e => d5 e.symm)).trans h.mat, ?_, fun j hj => ?_, h.dif⟩
  · have := h.tab.put (j := i) (x := x) (by rw [tabL_len]; exact hi)
    rw [tabL_set] at this
    exact this
  · show (if j = i then x else s.2 j) < 256
    split
    · exact hx
    · exact h.few j hj
theorem GpJ.congr (h : GpJ w0 m v bN bT bM gT s X W) {t : Nat → Nat} (e : ∀ i, i < m → s.2 i = t i) : GpJ w0 m v bN bT bM gT (s.1, t) X W := by
  refine ⟨h.off, h.cnt, h.box, h.mat, ?_, fun i hi => by show t i < 256; rw [← e i hi]; exact h.few i hi, h.dif⟩
  have : tabL m t = tabL m s.2 := List.map_congr_left fun i hi => (e i (List.mem_range.1 hi)).symm
  show Own _ _ _ (tabL m t)
  rw [this]
  exact h.tab
set_option maxRecDepth 20000 in
set_option maxHeartbeats 2000000 in
theorem grpRF_ok (B : Nat) (p : List Nat) (vP : Value) (hm : m ≤ 8) (hp : p.length = m) (hb : Beg m p) (hO : Own B W vP p) (hP : ∀ k, vP.ownBlock = some k → X k) (hJ : GpJ w0 m v bN bT bM gT s X W) :
    Calls Tryz.prog 25 #[vP, .pointer (some ⟨bN, 0, none⟩), .pointer (some ⟨bM, 0, none⟩), .pointer (some ⟨bT, 0, none⟩)] W fun e W' => e = .returned (.bool true) ∧ GpJ w0 m v bN bT bM gT (grpF s p).2 X W' ∧ Save (fun k => k = bN ∨ k = gT) W W' := by
  obtain ⟨c, t⟩ := s
  have hwr : wrap64 (c + 1) = IntKind.i64.wrap (c + 1) := by rw [← IntWalk.i64_left]
  have J1 := hid (hJ.count (IntKind.i64.wrap (c + 1)))
  have S1 : Hid (Save (fun k => k = bN ∨ k = gT) W (W.setCell ⟨bN, 0, none⟩ (.int .i64 (IntKind.i64.wrap (c + 1))))) := (save_one W bN _).mono (fun _ e => .inl e)
  have c0 := hJ.cnt.cell
  have f0 := hJ.cnt.frozen
  have HBT : Hid (∀ i, i < p.length → p.getD i 0 < 8) := fun i hi => Nat.lt_of_lt_of_le (hb.at hi) hm
  have HO := hid hO
  have HP := hid hP
  have HOF := hid hJ.off
  have HSP : Hid (∀ k i : Nat, i < m → (if i = k then obtS t p k k ||| 2 ^ p.getD k 0 else obtS t p k i) = obtS t p (k + 1) i) := fun k i _ => by
    unfold obtS
    by_cases e : i = k
    · subst e
      rw [if_pos rfl, if_neg (by omega), if_pos (by omega)]
    · rw [if_neg e]
      by_cases c : i < k
      · rw [if_pos c, if_pos (by omega)]
      · rw [if_neg c, if_neg (by omega)]
  have HPM : Hid (p.length = m) := hp
  have hp8 : p.length ≤ 8 := by omega
  have HG : Hid ((grpF (c, t) p).2 = (IntKind.i64.wrap (c + 1), obtS t p p.length)) := rfl
  obtain ⟨pa, pc, hvp⟩ := ownsRow_form' hO
  subst hvp
  clear hJ hO hP hb hp
  generalize grpF (c, t) p = GF at *
  generalize IntKind.i64.wrap (c + 1) = c1 at *
  go_enter Tryz.func25, Tryz.ntmps25
  go_wp2_with fail
  clear c0 f0
  generalize W.setCell ⟨bN, 0, none⟩ (.int .i64 c1) = W1 at *
  go_loopw [6] (fun jx wr => ∃ i : Nat, jx = .int .i64 i ∧ i ≤ p.length ∧ Hid (GpJ w0 m v bN bT bM gT (c1, obtS t p i) X wr) ∧ Hid (Save (fun k => k = bN ∨ k = gT) W wr)) (fun jx _ => p.length - (intOf jx).toNat)
  case atStart => exact ⟨0, rfl, Nat.zero_le _, J1.out.congr (fun i _ => by simp [obtS]), S1⟩
  case round =>
    obtain ⟨i, rfl, h2, HJ, HS⟩ := hrel
    clear J1 S1
    obtain ⟨m0, m1⟩ := cells2 HJ.out.mat
    by_cases hlt : i < p.length
    · have him : i < m := by rw [← HPM.out]; exact hlt
      have hlt' : (i : Int) < (m : Int) := by omega
      have hltp : (i : Int) < (p.length : Int) := by omega
      have hmeas : p.length - (i + 1) < p.length - i := by omega
      have hx8 := HBT.out i hlt
      obtain ⟨pg, pgc, hpv⟩ := Go.Joins.ownsRow_form HO.out (by omega)
      obtain ⟨rfl, rfl⟩ : pa = some ⟨pg, 0, none⟩ ∧ pc = pgc := by simpa using hpv
      obtain ⟨o1, o2, o3, o4⟩ := HOF.out
      have hXp := HP.out pg rfl
      have hpl := HO.out.lt.2
      have c1' := (World.cell?_of_block (a := ⟨pg, i, none⟩) (HS.out.block pg hpl (fun e => by
        rcases e with e | e
        · exact o1 (e ▸ hXp)
        · exact o4 (e ▸ hXp)))).trans (HO.out.at hlt)
      have b1 := HJ.out.box.cell
      have hta : wr.cell? ⟨gT, i, none⟩ = some (.int .i64 (obtS t p i i : Nat)) := by
        have := HJ.out.tab.at (i := i) (by rw [tabL_len]; exact him)
        rw [tabL_at him] at this
        exact this
      have hfr := HJ.out.tab.frozenAt (j := i)
      have hu : obtS t p i i < 256 := HJ.out.few i him
      have hux : obtS t p i i ||| 2 ^ p.getD i 0 < 256 := Nat.or_lt_two_pow (n := 8) hu (Nat.pow_lt_pow_right (by decide) hx8)
      have HN := hid (((HJ.out.put him hux).congr (HSP.out i)).keep (bP := bN + bT + bM + gT + 1) (by omega) (Save.drew (Save.refl _ _)))
      have HS2 : Hid (Save (fun k => k = bN ∨ k = gT) W (wr.setCell ⟨gT, i, none⟩ (.int .i64 ((obtS t p i i ||| 2 ^ p.getD i 0 : Nat) : Int))).drew) := (Save.setCell (X := fun k => k = bN ∨ k = gT) HS.out (p := ⟨gT, i, none⟩) (.inl (.inr rfl)) _).drew
      clear HBT hpv HO HP HOF HSP hux HJ o1 o2 o3 o4 hXp hpl HS
      generalize obtS t p i i = u at *
      generalize p.getD i 0 = x at *
      obtain ⟨X2, HX, hX⟩ : ∃ X2 : Nat, Hid (2 ^ x = X2) ∧ X2 ≤ 256 := ⟨2 ^ x, Eq.refl (2 ^ x), (pow_wrap x (by omega)).2⟩
      rw [HX.out] at HN HS2
      have hor : bits .or .i64 (u : Int) (X2 : Int) = ((u ||| X2 : Nat) : Int) := i64_or_nat _ _ (by omega) (by omega)
      have hsh := pow_w x X2 hx8 HX.out
      have hsh2 := pow_w2 x X2 hx8 HX.out
      go_wp2_with fail
      go_region
      all_goals
        go_wp2_with fail
        go_roundw
        case rel => exact ⟨i + 1, by go_num, hlt, HN, HS2⟩
        case measure => exact hmeas
    · obtain rfl : i = p.length := by omega
      have hlt' : ¬ ((p.length : Nat) : Int) < (m : Int) := by have := HPM.out; omega
      clear HBT HO HP HOF HSP
      go_wp2_with fail
      go_ret
      exact ⟨rfl, by rw [HG.out]; exact HJ.out, HS.out⟩
/-- Group's own function as one that is asked. -/
def grpD (w0 : World) (m : Nat) (v : Value) (bN bT bM gT : Nat) : DoS (Int × (Nat → Nat)) where
  gf := 25
  cs := #[.pointer (some ⟨bN, 0, none⟩), .pointer (some ⟨bM, 0, none⟩), .pointer (some ⟨bT, 0, none⟩)]
  fnd := grpF
  Z := fun k => k = bN ∨ k = gT
  J := GpJ w0 m v bN bT bM gT
theorem grpD_ok (hm : m ≤ 8) {W0 : World} {bP : Nat} (hk : bN < bP ∧ bT < bP ∧ bM < bP ∧ gT < bP) (hP : bP < W0.heap.size) : DoOk (grpD w0 m v bN bT bM gT) W0 bP m where
  ent := fun args w => enters_of Tryz.func25 (by kernel_rfl) rfl args w
  old := fun k e => by
    rcases e with e | e <;> omega
  off := fun e => by
    rcases e with e | e <;> omega
  keep := fun s X W W' h hs => GpJ.keep h (by omega) hs
  more := fun s X Y W h hY => GpJ.more h hY
  ask := fun s p W vP _ ho hj hb hl => grpRF_ok W0.heap.size p vP hm hl hb ho (fun _ e => e) hj
theorem loop_filt {σ : Type} (D : DoS σ) (l l' : List Nat) : ∀ (qs : List (List Nat)) (s : σ), loopL (dorG D l l') qs s = loopL D.fnd (qs.filter (allB l l')) s
  | [], s => rfl
  | q :: qs, s => by
    rw [loopL]
    unfold dorG
    by_cases h : allB l l' q = true
    · rw [if_pos h, List.filter_cons_of_pos h, loopL]
      split
      · exact loop_filt D l l' qs _
      · rfl
    · rw [if_neg h, if_pos rfl, List.filter_cons_of_neg h]
      exact loop_filt D l l' qs s
theorem docG_eq {σ : Type} (D : DoS σ) {n : Nat} {l : List Nat} (s0 : σ) (hn : n ≤ 8) (hf : Fam n l) (hb : Bas l) : docG D n l n l s0 = (loopL D.fnd (isoL n l l) s0).2 := by
  unfold docG
  rw [if_pos ⟨rfl, rfl⟩, walkO_eq, loop_filt, doc_orders hn hf hb hf hb rfl]
theorem fourB (w : World) (x y z u : Obj) : ((((w.alloc x).alloc y).alloc z).alloc u).heap[w.heap.size]? = some x ∧ ((((w.alloc x).alloc y).alloc z).alloc u).heap[w.heap.size + 1]? = some y ∧ ((((w.alloc x).alloc y).alloc z).alloc u).heap[w.heap.size + 1 + 1]? = some z ∧ ((((w.alloc x).alloc y).alloc z).alloc u).heap[w.heap.size + 1 + 1 + 1]? = some u := by
  obtain ⟨h1, h2, h3⟩ := three w x y z
  refine ⟨(Below.heap_alloc _ _ _ (by simp only [World.size_alloc]; omega)).trans h1, (Below.heap_alloc _ _ _ (by simp only [World.size_alloc]; omega)).trans h2, (Below.heap_alloc _ _ _ (by simp only [World.size_alloc]; omega)).trans h3, ?_⟩
  have := World.alloc_heap_new (((w.alloc x).alloc y).alloc z) u
  rwa [World.size_alloc, World.size_alloc, World.size_alloc] at this
set_option maxHeartbeats 1000000 in
theorem grpQ_ok (x : Nat) (B : Nat) (L : List Nat) (g : Nat) (hl : L.length ≤ 256) (hb : Boxed W bT 22 (.slice (some ⟨g, 0, none⟩) m m)) (ho : Own B W (.slice (some ⟨g, 0, none⟩) m m) L) :
    Calls Tryz.prog 27 #[.int .i64 (x : Nat), .pointer (some ⟨bT, 0, none⟩)] W fun e W' => e = .returned (.bool (memB x L)) ∧ W' = W := by
  have c1 := hb.cell
  have C1 := hid (Contains_any _ L x W (ho.ints (by omega)))
  have hlen := ho.len
  clear hb ho
  go_enter Tryz.func27, Tryz.ntmps27
  go_wp2_with fail
  refine C1.out.mono ?_
  rintro e w' ⟨rfl, hw'⟩
  obtain rfl := hw'.symm
  go_wp2_with fail
  go_ret
  exact ⟨rfl, rfl⟩
set_option maxRecDepth 20000 in
set_option maxHeartbeats 2000000 in
theorem GroupR_ok (m : Nat) (v : Value) (l : List Nat) (w : World) (hm : m ≤ 8) (hf : Fam m l) (hb : Bas l) (h : Ints w v (N l)) :
    Calls Tryz.prog 7 #[.agg #[.int .i64 m, v]] w fun e w' => ∃ r, e = .returned (.tuple #[.int .i64 ((isoL m l l).length : Nat), r]) ∧ Own w.heap.size w' r (orbL m l) ∧ Below w.heap.size w w' := by
  have mk := fun w => run_make_to m m (Nat.le_refl _) (by omega) w
  obtain ⟨a0, cap, hv, -, -⟩ := h.nats
  subst hv
  obtain ⟨x0, x1, x2, x3⟩ := fourB w (.cells #[.int .i64 m, .slice a0 l.length cap] 24) (.cells #[.int .i64 0] 3) (.cells (madeCells #[.int .i64 0] m) 3) (.cells #[.slice (some ⟨w.heap.size + 1 + 1, 0, none⟩) m m] 22)
  have b4 : Below w.heap.size w ((((w.alloc (.cells #[.int .i64 m, .slice a0 l.length cap] 24)).alloc (.cells #[.int .i64 0] 3)).alloc (.cells (madeCells #[.int .i64 0] m) 3)).alloc (.cells #[.slice (some ⟨w.heap.size + 1 + 1, 0, none⟩) m m] 22)) := ((((Below.refl _ _).alloc (Nat.le_refl _) _).alloc (by simp) _).alloc (by simp; omega) _).alloc (by simp; omega) _
  have z4 : ((((w.alloc (.cells #[.int .i64 m, .slice a0 l.length cap] 24)).alloc (.cells #[.int .i64 0] 3)).alloc (.cells (madeCells #[.int .i64 0] m) 3)).alloc (.cells #[.slice (some ⟨w.heap.size + 1 + 1, 0, none⟩) m m] 22)).heap.size = w.heap.size + 4 := by simp
  have hR : docG (grpD w m (.slice a0 l.length cap) (w.heap.size + 1) (w.heap.size + 1 + 1 + 1) w.heap.size (w.heap.size + 1 + 1)) m l m l (0, fun _ => 0) = (((isoL m l l).length : Int), (loopL obtF (isoL m l l) (fun _ => 0)).2) := by
    rw [docG_eq _ _ hm hf hb]
    show (loopL grpF (isoL m l l) (0, fun _ => 0)).2 = _
    rw [grp_loop]
    have := cnt_loop (isoL m l l) 0 (by have := iso_len hm l l; omega)
    rw [Nat.zero_add] at this
    rw [show (0 : Int) = ((0 : Nat) : Int) from rfl, this]
  have O1 := hid (GOrders_ok (grpD w m (.slice a0 l.length cap) (w.heap.size + 1) (w.heap.size + 1 + 1 + 1) w.heap.size (w.heap.size + 1 + 1)) (0, fun _ => 0) m m (.slice a0 l.length cap) (.slice a0 l.length cap) l l w _ hm hf hb h hm hf hb h b4
    (fun k e => by
      rw [z4]
      rcases e with e | e <;> omega)
    (fun W0 bP h1 h2 h3 => grpD_ok hm (by rw [z4] at h2; omega) h3)
    (fun W hW => by
      rw [z4] at hW
      refine ⟨⟨id, id, id, id⟩, (hW.block _ (by omega)).trans x1, (hW.block _ (by omega)).trans x3, (hW.block _ (by omega)).trans x0, ?_, fun _ _ => by show 0 < 256; decide, by omega⟩
      show Own _ _ _ (tabL m fun _ => 0)
      rw [show (tabL m fun _ => 0) = List.replicate m 0 from by
        unfold tabL
        refine List.ext_getElem (by simp) fun i h1 h2 => ?_
        simp]
      exact own_zeros ((hW.block _ (by omega)).trans x2) (by omega) (by omega)))
  rw [hR] at O1
  have HT2 : Hid (∀ i, i < m → (loopL obtF (isoL m l l) (fun _ => 0)).2 i = orbS m l i) := fun i hi => by
    rw [obt_loop (n := m) _ _ (fun q hq => (isoL_mem.1 hq).1.2), if_pos hi]
    rfl
  generalize (loopL obtF (isoL m l l) (fun _ => 0)).2 = TT at *
  have HL : Hid (tabL m TT = (List.range m).map (orbS m l)) := List.map_congr_left fun i hi => HT2.out i (List.mem_range.1 hi)
  have HQ : Hid ((List.range (2 ^ m)).filter (fun s => memB s (tabL m TT)) = orbL m l) := by
    show _ = _
    rw [HL.out]
    rfl
  generalize (isoL m l l).length = C at *
  obtain ⟨R, HR⟩ : ∃ R, Hid (orbL m l = R) := ⟨_, Eq.refl (orbL m l)⟩
  rw [HR.out] at HQ ⊢
  obtain ⟨y0, y1⟩ := cells2 x0
  clear hf hb h x0 x1 x2 x3 hR HT2 HL HR
  unfold grpD at O1
  go_enter Tryz.func7, Tryz.ntmps7
  go_wp2_with fail
  refine O1.out.mono ?_
  rintro e w5 ⟨rfl, hb5, hJ⟩
  have HJ : Hid (GpJ w m (.slice a0 l.length cap) (w.heap.size + 1) (w.heap.size + 1 + 1 + 1) w.heap.size (w.heap.size + 1 + 1) ((C : Int), TT) (fun _ => False) w5) := hJ
  have HB5 := hid hb5
  obtain ⟨k0, k1⟩ := cells2 HJ.out.mat
  have k2 : w5.cell? ⟨w.heap.size + 1, 0, none⟩ = some (.int .i64 C) := HJ.out.cnt.cell
  have TH := hid (Those_any m 27 #[.pointer (some ⟨w.heap.size + 1 + 1 + 1, 0, none⟩)] (fun s => memB s (tabL m TT)) w5.drew hm (fun args w => enters_of Tryz.func27 (by kernel_rfl) rfl args w) (fun x hx w6 hb6 hs6 => by
    refine (grpQ_ok x w.heap.size (tabL m TT) (w.heap.size + 1 + 1) (by rw [tabL_len]; omega) ((hb6.block _ HJ.out.box.lt).trans HJ.out.box) ((HJ.out.tab.below (Below.refl _ w5).drew).below hb6)).mono ?_
    rintro e w7 ⟨rfl, rfl⟩
    exact ⟨rfl, Below.refl _ _⟩))
  rw [HQ.out] at TH
  have ht : w.heap.size + 1 < w5.heap.size := HJ.out.cnt.lt
  clear O1 hJ hb5 y0 y1 HQ
  have hsd : w5.drew.heap.size = w5.heap.size := rfl
  go_wp2_with fail
  go_region_held3 (fun w' => w'.cell? ⟨w.heap.size + 1, 0, none⟩ = some (.int .i64 C) ∧ w'.cell? ⟨w.heap.size, 0, none⟩ = some (.int .i64 m)) (go_keep)
   (first
    | (go_at_call 26; refine TH.out.mono ?_; rintro e w6 ⟨r6, rfl, hr6, hb6⟩; obtain ⟨q0, q1⟩ := (show w6.cell? ⟨w.heap.size + 1, 0, none⟩ = some (.int .i64 C) ∧ w6.cell? ⟨w.heap.size, 0, none⟩ = some (.int .i64 m) from ⟨(hb6.cell (p := ⟨w.heap.size + 1, 0, none⟩) (by show w.heap.size + 1 < _; omega)).trans k2, (hb6.cell (p := ⟨w.heap.size, 0, none⟩) (by show w.heap.size < _; omega)).trans k0⟩); obtain ⟨ra, rc, hr⟩ := ownsRow_form' hr6; subst hr; have HB6 := hid (HB5.out.trans (((Below.refl w5.heap.size w5).drew.trans hb6).mono HB5.out.size)); have HO6 := hid (hr6.mono (show w.heap.size ≤ w5.drew.heap.size by omega)); clear hb6 hr6))
  go_wp2_with fail
  go_ret2
  exact ⟨_, rfl, HO6.out, HB6.out⟩
end Go.Proofs.YthlmnhcnpffjdaaGreat
