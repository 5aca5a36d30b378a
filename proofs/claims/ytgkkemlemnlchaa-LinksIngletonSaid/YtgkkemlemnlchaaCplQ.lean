/- slices.Backward; sets.Complements. -/
import Derived.Test.YtgkkemlemnlchaaQuietQ
import Derived.Test.YtgkkemlemnlchaaWholeQ
import Derived.Test.YtgkkemlemnlchaaPlainAll
namespace Go.Proofs.Ytgkkemlemnlchaa
open Go.RowKit Go.Shelf
attribute [local go_sem] Oper.semAt_some

/-- A place of l. -/
abbrev Pl (l : List Nat) : Type := { i : Nat // i < l.length }
def encB {l : List Nat} (x : Pl l) : Array Value := #[.int .i64 (x.1 : Nat), .int .i64 (l.getD x.1 0 : Nat)]
/-- The box holds the list. -/
def BoxIs (B : Nat) (v : Value) (l : List Nat) (W : World) : Prop := W.cell? ⟨B, 0, none⟩ = some v ∧ Ints W v (N l)
theorem BoxIs.below {B : Nat} {v : Value} {l : List Nat} {w W : World} (h : BoxIs B v l w) (hb : Below w.heap.size w W) (hB : B < w.heap.size) : BoxIs B v l W := ⟨(hb.cell (p := ⟨B, 0, none⟩) hB).trans h.1, h.2.below hb⟩
def downTo (k : Nat) : List Nat := (List.range k).reverse
theorem down_succ (k : Nat) : downTo (k + 1) = k :: downTo k := by unfold downTo; rw [List.range_succ, List.reverse_append]; rfl

set_option maxRecDepth 100000 in
set_option maxHeartbeats 2000000 in
theorem back_stops (n : Nat) (hn : 1 ≤ n) (B : Nat) (v : Value) (l : List Nat) (w : World) (hB : B < w.heap.size) (hl : l.length ≤ 256) (hw : BoxIs B v l w) :
    SeqStopsK Fence.wide n Try.prog 39 #[.pointer (some ⟨B, 0, none⟩)] (encB (l := l)) (fun A A' => BoxIs B v l A → BoxIs B v l A') (fun xs => xs.map (·.1) = downTo l.length) (fun pre => pre.map (·.1) <+: downTo l.length) (l.length + 1) w := fun L J Jx W hW _ _ hY h0 => by
  have hK := hw.below hW hB
  have HK := hid hK
  obtain ⟨hcl, hin⟩ := hK
  obtain ⟨a, cap, hv, _, _⟩ := hin.nats
  clear hin
  subst hv
  refine callsIn_of_wp Try.func39 rfl trivial ?_ rfl
  simp only [Try.ntmps39, List.size_toArray, List.length_cons, List.length_nil, Nat.reduceAdd, Nat.reduceSub, Array.replicate_succ, Array.replicate_zero, List.push_toArray, List.append_toArray, List.nil_append, List.cons_append]
  gi_wp2
  gi_loopw [3] (fun p wr => ∃ (pre : List (Pl l)) (k : Nat), p = .int .i64 ((k : Int) - 1) ∧ k ≤ l.length ∧ Hid (pre.map (·.1) ++ downTo k = downTo l.length) ∧ J pre wr ∧ Hid (BoxIs B (.slice a l.length cap) l wr)) (fun p _ => (intOf p + 1).toNat)
  case atStart => exact ⟨[], l.length, by go_num, Nat.le_refl _, rfl, h0, HK⟩
  case round =>
    obtain ⟨pre, k, rfl, hk, hx, hJs, HB⟩ := hrel
    by_cases hk0 : 0 < k
    · obtain ⟨j, rfl⟩ : ∃ j, k = j + 1 := ⟨k - 1, by omega⟩
      have hj : j < l.length := by omega
      have HS := hid (down_succ j)
      have hlen : pre.length < l.length + 1 := by
        have h2 := congrArg List.length hx.out
        unfold downTo at h2
        simp at h2
        omega
      obtain ⟨fn, tmps, assign, body, hy, hR⟩ := hY pre ⟨j, hj⟩ wr hJs hlen
      dsimp only [encB] at hy
      have hcb := HB.out.1
      obtain ⟨a', cap', hv', _, hcs⟩ := HB.out.2.nats
      obtain ⟨rfl, rfl⟩ : a = a' ∧ cap = cap' := by simpa using hv'
      obtain ⟨b, off, rfl, _, hcell⟩ := hcs (by omega)
      have hcj := hcell j hj
      clear hcell hcs hv'
      have hsub : (((j + 1 : Nat) : Int) - 1) = (j : Int) := by omega
      rw [hsub]
      generalize l.getD j 0 = y at *
      gi_wp2
      refine hR.mono ?_
      rintro e W3 (⟨rfl, hJ3, hk3⟩ | ⟨rfl, hJx3⟩)
      · have HB3 := hid (hk3 HB.out)
        clear hk3
        gi_wp2
        go_roundw
        case rel => exact ⟨pre ++ [⟨j, hj⟩], j, by go_num, by omega, by have := hx.out; rw [HS.out] at this; show _ = _; rw [List.map_append, List.append_assoc]; exact this, hJ3, HB3⟩
        case measure => simp [intOf]
      · gi_wp2
        refine bodyPost_ret (results_none rfl _ _ _) rfl ?_
        exact ⟨⟨_, rfl⟩, .inr ⟨pre ++ [⟨j, hj⟩], ⟨downTo j, by have := hx.out; rw [HS.out] at this; rw [List.map_append, List.append_assoc]; exact this⟩, hJx3⟩⟩
    · have e0 : k = 0 := by omega
      subst e0
      gi_wp2
      go_end0
      exact ⟨⟨_, rfl⟩, .inl ⟨pre, by have := hx.out; rw [show downTo 0 = [] from rfl, List.append_nil] at this; exact this, hJs⟩⟩
theorem back_any (v : Value) (zs : List Int) (w : World) (h : Ints w v zs) :
    Calls Try.prog 31 #[v] w fun e w' => e = .returned (.func (.func 39) #[] #[.pointer (some ⟨w.heap.size, 0, none⟩)]) ∧ w' = w.alloc (.cells #[v] 25) := by
  obtain ⟨a, cap, rfl, _, _⟩ := h
  go_enter Try.func31, Try.ntmps31
  go_wp2
  go_ret
  exact ⟨rfl, rfl⟩

theorem boxed_own {β : Type} (B : Nat) (t : TypeId) (v : Value) : Go.Own (fun (_ : β) W => Boxed W B t v) := by
  rintro s X Y row hv hg hrow
  refine hv.kept hg (fun e' => ?_)
  obtain ⟨o, ho, hc⟩ := hrow B e'.symm
  rw [show X.heap[B]? = _ from hv] at ho; cases ho; cases hc
theorem Ints.kept {W W' : World} {row : Option Nat} {v : Value} {zs : List Int} (h : Ints W v zs) (hg : W.grownBy W' row) (hr : ∀ r, row = some r → ∃ o : Obj, W.heap[r]? = some o ∧ o.isCells = false) : Ints W' v zs := by
  obtain ⟨a, cap, hv, hl, hc⟩ := h
  refine ⟨a, cap, hv, hl, fun hn => ?_⟩
  obtain ⟨b, off, ha, hbl, hcell⟩ := hc hn
  exact ⟨b, off, ha, Nat.lt_of_lt_of_le hbl hg.size, fun i hi => cell_kept (hcell i hi) hg hr⟩
/-- append, as one step of a region that draws, inside the wide fence. -/
theorem stepIn_append_own {n : Nat} {P : Program} {w : World} {ops : Array Oper} {o : Oper} {a : Act} {K : Act → World → Prop} {Q : Exit → Act → World → Prop} {E : Prop}
    (hg : o.guard = none) (s x : Operand) (t : TypeId) (hop : o.op = Op.call { callee := Callee.builtin Builtin.append, args := #[s, x], argTypes := #[t, t] })
    (base : Nat) (e : TypeId) (i : TypeInfo) (z : Value) (size bytes : Nat) (h1 : P.underlying t = some (.slice e)) (h2 : P.info? e = some i) (h3 : i.zero = some z) (h4 : i.size = size) (h5 : i.bytes = bytes) (h6 : z.cells.size = size) (h7 : 0 < size)
    (v : Value) (k : Nat) (xs : List Value) (hs : a.eval s = v) (hown : w.ownsRow base e size v k xs) (ad : Addr) (m c : Nat) (news : List Value) (hx : a.eval x = .slice (some ad) m c) (hn : news.length = m * size)
    (hc : ∀ j u, news[j]? = some u → w.cell? (ad.add j) = some u) (h1c : ∀ u ∈ news, u.oneCell' = true) (b1 : k + m ≤ maxLen) (b2 : (k + m) * bytes ≤ 140737488355328) (b3 : base ≤ w.heap.size)
    (hK : ∀ v' w', w'.ownsRow base e size v' (k + m) (xs ++ news) → w.grownBy w' v.ownBlock → K (a.put o.dst v') w') :
    if Region.wanted o (yielded ops a.tmps) = true then Oper.wpIn Fence.wide n P o a w K Q else E := by
  have hw : Region.wanted o (yielded ops a.tmps) = true := by simp [Region.wanted, hg]
  rw [if_pos hw]
  obtain ⟨v', w', hrun, r1, r2, r3⟩ := run_append_own (P := P) w base t o.type e i z size bytes h1 h2 h3 h4 h5 h6 h7 v k xs hown ad m c news hn hc h1c b1 b2 b3
  unfold Oper.wpIn
  refine ⟨?_, ?_⟩
  · simp [Oper.about, hop, resolve, Target.leads, Sem.run_pure]
  · rw [Oper.semAt_plain Fence.wide _ _ (by rw [hop]; intro c hc'; cases hc')]
    simp [execOp, hop, resolve, invoke, builtin, hs, hx, hrun, Result.andThen]
    exact hK v' w' r1 r2
theorem cpl_fact : ∀ n : Nat, n ≤ 8 → ∀ y : Nat, y < 256 → y < 2 ^ n → bits BinOp.andNot IntKind.i64 ((2 ^ n - 1 : Nat) : Int) (y : Int) = ((2 ^ n - 1 - y : Nat) : Int) := by decide +kernel
/-- What has come. -/
def cmpTo (n : Nat) (l : List Nat) (js : List Nat) : List Nat := js.map fun j => 2 ^ n - 1 - l.getD j 0
theorem range_getD (l : List Nat) : (List.range l.length).map (fun j => l.getD j 0) = l := by
  refine List.ext_getElem (by simp) fun i h1 h2 => ?_
  simp [List.getD, h2]
theorem cmpTo_all (n : Nat) (l : List Nat) : cmpTo n l (downTo l.length) = cmp n l := by
  unfold cmpTo cmp downTo
  conv => rhs; rw [← range_getD l]
  rw [List.map_reverse, List.map_reverse, List.map_map]
  rfl

set_option maxRecDepth 100000 in
set_option maxHeartbeats 2000000 in
theorem Cpl_any (n : Nat) (v : Value) (l : List Nat) (w : World) (hn : n ≤ 8) (hf : Fam n l) (hl : l.length ≤ 256) (h : Ints w v (N l)) :
    Calls Try.prog 19 #[.int .i64 n, v] w fun e w' => ∃ r, e = .returned r ∧ Own w.heap.size w' r (cmp n l) ∧ Below w.heap.size w w' := by
  obtain ⟨i0, hi, hz0, hz1, hz2⟩ := info_parts Try.infoInt
  have HI := hid h
  obtain ⟨a, cap, hv, _, _⟩ := h.nats
  subst hv
  refine (callsIn_wide (n := 6)).1 ?_
  refine callsIn_of_wp_marks Try.func19 rfl trivial ?_ rfl
  simp only [Try.ntmps19, List.size_toArray, List.length_cons, List.length_nil, Nat.reduceAdd, Nat.reduceSub, Array.replicate_succ, Array.replicate_zero, List.push_toArray, List.append_toArray, List.nil_append, List.cons_append]
  gi_wp2_with (refine wpListIn_make_own _ rfl _ _ 25 rfl (w.heap.size + 1) 3 i0 (.int .i64 0) 1 Try.underlying25 hi hz0 hz1 .i64 .i64 _ l.length rfl rfl rfl (by rw [hz2]; omega) (by unfold maxLen; omega) (by simp) ?_; intro w1 hown hg1)
  refine ⟨trivial, ?_⟩
  refine (callsIn_wide.2 (back_any _ (N l) _ (HI.out.below ((((Below.refl _ w).alloc (Nat.le_refl _) _).grown hg1 (by simp) (fun k e => by cases e)).alloc (by have := hg1.size; simp at this; omega) _)))).mono ?_
  rintro e w' ⟨rfl, rfl⟩
  gi_wp2
  have hs1 : w.heap.size + 1 ≤ w1.heap.size := by have := hg1.size; simpa using this
  rw [World.size_alloc] at hown
  have bN := ((Boxed.new w 3 (.int .i64 n)).kept hg1 (by simp)).alloc (.cells #[.slice (some ⟨w.heap.size + 1, 0, none⟩) 0 l.length] 25) |>.alloc (.cells #[.slice a l.length cap] 25)
  have bO := (Boxed.new w1 25 (.slice (some ⟨w.heap.size + 1, 0, none⟩) 0 l.length)).alloc (.cells #[.slice a l.length cap] 25)
  have bS := Boxed.new (w1.alloc (.cells #[.slice (some ⟨w.heap.size + 1, 0, none⟩) 0 l.length] 25)) 25 (.slice a l.length cap)
  have ow := (hown.alloc (.cells #[.slice (some ⟨w.heap.size + 1, 0, none⟩) 0 l.length] 25)).alloc (.cells #[.slice a l.length cap] 25)
  have hB0 : Below w.heap.size w ((w1.alloc (.cells #[.slice (some ⟨w.heap.size + 1, 0, none⟩) 0 l.length] 25)).alloc (.cells #[.slice a l.length cap] 25)) := (((((Below.refl _ w).alloc (Nat.le_refl _) _).grown hg1 (by simp) (fun k e => by cases e)).alloc (by omega) _).alloc (by simp; omega) _)
  have hsz : ((w1.alloc (.cells #[.slice (some ⟨w.heap.size + 1, 0, none⟩) 0 l.length] 25)).alloc (.cells #[.slice a l.length cap] 25)).heap.size = w1.heap.size + 2 := by simp
  simp only [World.size_alloc] at bS
  clear hown hg1
  revert bN bO bS ow hB0 hsz
  generalize ((w1.alloc (.cells #[.slice (some ⟨w.heap.size + 1, 0, none⟩) 0 l.length] 25)).alloc (.cells #[.slice a l.length cap] 25)) = W0
  intro bN bO ow hB0 hsz bS
  refine wpIn_rangeFunc_ownF rfl (by decide) (gf := 39) (lb := #[.pointer (some ⟨w1.heap.size + 1, 0, none⟩)]) rfl trivial (enters_of Try.func39 (by kernel_rfl) rfl)
    (back_stops 5 (by decide) (w1.heap.size + 1) _ l W0 (by omega) hl ⟨bS.cell, HI.out.below hB0⟩) (fun h k x => k (h x)) (fun W D o o' _ hD hc _ hx => ⟨cell_kept hx.1 (grownBy_putObj' W D o') (fun r e => by cases e; exact ⟨o, hD, hc⟩), hx.2.kept (grownBy_putObj' W D o') (fun r e => by cases e; exact ⟨o, hD, hc⟩)⟩) (Below.refl _ _) (fun _ => rfl)
    (fun pre W => ((∃ u, Boxed W w1.heap.size 25 u ∧ W.ownsRow (w.heap.size + 1) 3 1 u pre.length (V (cmpTo n l (pre.map (·.1)))) ∧ True) ∧ Boxed W (w1.heap.size + 1) 25 (.slice a l.length cap)) ∧ Below (w.heap.size + 1) W0 W)
    (fun _ _ _ => False)
    (OwnFrom.and (OwnFrom.and ((holdsRow_own (w.heap.size + 1) w1.heap.size 25 3 1 (fun pre : List (Pl l) => pre.length) (fun pre => V (cmpTo n l (pre.map (·.1)))) (fun _ _ => True)).from _) ((boxed_own _ _ _).from _)) (ownFrom_below (by omega) (by omega)))
    (fun _ _ _ _ _ hs _ _ => hs)
    ⟨⟨⟨_, bO, ow, trivial⟩, bS⟩, Below.refl _ _⟩
    (fun x => { tmps := #[.int .i64 n, .slice a l.length cap, .pointer (some ⟨w.heap.size, 0, none⟩), undef, .slice none 0 0, .pointer (some ⟨w1.heap.size, 0, none⟩), undef, .int .i64 (l.getD x.1 0 : Nat), .slice a l.length cap, .int .i64 l.length, .slice (some ⟨w.heap.size + 1, 0, none⟩) 0 l.length, .slice a l.length cap, .func (.func 39) #[] #[.pointer (some ⟨w1.heap.size + 1, 0, none⟩)], .int .i64 (x.1 : Nat), .int .i64 (l.getD x.1 0 : Nat), undef, undef, undef, undef, undef, undef, undef, undef], defers := [] }) ?assign ?body ?done ?stop
  case assign =>
    intro L x W K hK
    dsimp only [encB]
    gi_wp2
    exact hK
  case body =>
    rintro L pre x W ⟨⟨⟨u, hv, hrow, _⟩, hS⟩, hB⟩ hlt
    have hc := hv.cell
    have hcA : ∀ z, (W.alloc (.cells #[z] 3)).cell? ⟨w1.heap.size, 0, none⟩ = some u := fun z => cellA _ hc
    have hcN : W.cell? ⟨w.heap.size, 0, none⟩ = some (.int .i64 n) := (hB.cell (p := ⟨w.heap.size, 0, none⟩) (by show w.heap.size < _; omega)).trans bN.cell
    have hWs : w1.heap.size + 2 ≤ W.heap.size := by have := hB.size; omega
    have hX : w.heap.size + 1 ≤ w1.heap.size := hs1
    have HR := hid hrow
    have HBL := hid hB
    have SN : Hid (cmpTo n l ((pre ++ [x]).map (·.1)) = cmpTo n l (pre.map (·.1)) ++ [2 ^ n - 1 - l.getD x.1 0]) := by show _ = _; unfold cmpTo; simp
    clear hrow hB
    have hmx : Try.prog.follows .mixedOrders = true := by kernel_rfl
    have hy2 : l.getD x.1 0 < 2 ^ n := by
      have h1 := x.2
      simp only [List.getD, List.getElem?_eq_getElem h1, Option.getD_some]
      exact hf.lt _ (List.getElem_mem _)
    have HWS := hid (fun w => wholeSet_any n w hn)
    have HV := hid (cpl_fact n hn (l.getD x.1 0) (lt256 hn hy2) hy2)
    clear hy2
    generalize l.getD x.1 0 = y at *
    gi_wp2
    refine wpIn_region_any hmx (any_round (by kernel_rfl) _ _ _ _ ?_)
    change wpAnyIn _ _ _ _ _ _ _ _ _ (World.drew _)
    refine wpAnyIn_take (i := 3) (v := ?_) rfl rfl (by kernel_rfl) (by kernel_rfl) (by kernel_rfl) (fun _ _ _ h => h) ⟨Or.inl ⟨by rfl, ?_⟩, fun _ => rfl⟩ ?_
    rotate_left
    · intro w; go_simp; rfl
    refine wpAnyIn_ready (rs := [0, 1]) (by kernel_rfl) (by simp) ?_
    refine AllReadyIn.cons rfl (fun K hK => ?_) (AllReadyIn.cons rfl (fun K hK => ?_) AllReadyIn.nil)
    · go_simp
      refine hK _ _ ?_
      clear hK K
      refine wpAnyIn_ready (rs := [1]) (by kernel_rfl) (by simp) (AllReadyIn.cons rfl (fun K hK => ?_) AllReadyIn.nil)
      go_simp
      refine hK _ _ ?_
      clear hK K
      refine wpAnyIn_ready (rs := [2]) (by kernel_rfl) (by simp) (AllReadyIn.cons rfl (fun K hK => ?_) AllReadyIn.nil)
      go_simp
      refine ⟨trivial, (callsIn_wide.2 (HWS.out _)).mono ?_⟩
      rintro e w' ⟨rfl, rfl⟩
      refine hK _ _ ?_
      clear hK K
      refine wpAnyIn_take (i := 4) (v := ?_) rfl rfl (by kernel_rfl) (by kernel_rfl) (by kernel_rfl) (fun _ _ _ h => h) ⟨Or.inl ⟨by rfl, ?_⟩, fun _ => rfl⟩ ?_
      rotate_left
      · intro w; go_simp; rfl
      refine wpAnyIn_ready (rs := [5]) (by kernel_rfl) (by simp) (AllReadyIn.cons rfl (fun K hK => ?_) AllReadyIn.nil)
      go_simp
      refine hK _ _ ?_
      clear hK K
      refine wpAnyIn_ready (rs := [6]) (by kernel_rfl) (by simp) (AllReadyIn.cons rfl (fun K hK => ?_) AllReadyIn.nil)
      refine stepIn_append_own rfl (.tmp 15) (.tmp 20) 25 rfl (w.heap.size + 1) 3 i0 (.int .i64 0) 1 8 Try.underlying25 hi hz0 hz1 hz2 rfl (by decide) u pre.length _ rfl (HR.out.alloc _) ⟨W.heap.size, 0, none⟩ 1 1 [.int .i64 _] rfl rfl (cell_one_new W _ _) (by simp [Value.oneCell']) (by unfold maxLen; omega) (by omega) (by simp; omega) ?_
      intro v' w2 hown' hgrow
      refine hK _ _ ?_
      clear hK K
      have hgrow' : (W.alloc (.cells #[.int .i64 (bits BinOp.andNot IntKind.i64 ((2 ^ n - 1 : Nat) : Int) (y : Int))] 3)).grownBy w2 u.ownBlock := by obtain ⟨g1, g2, g3, g4, g5⟩ := hgrow; exact ⟨g1, g2, g3, g4, g5⟩
      clear hgrow
      obtain ⟨g', cap', rfl⟩ := ownsRow_succ hown'
      obtain ⟨hv1, hv2, hr2, hk2, hb2⟩ := hv.appended (by decide) HR.out (by omega) hX hown' hgrow'
      have hS2 : Boxed (w2.setCell ⟨w1.heap.size, 0, none⟩ (.slice (some ⟨g', 0, none⟩) (pre.length + 1) cap')) (w1.heap.size + 1) 25 (.slice a l.length cap) := ((hS.alloc _).kept hgrow' (hS.not_row (by decide) HR.out)).kept (grownBy_setCell' _ _ _) (by simp)
      have hc1 := hv1.cell
      have hf1 := hv1.frozen
      rw [HV.out] at hr2
      have R1 := hid hv2
      have R2 := hid hr2
      have R3 := hid hk2
      have R4 := hid hb2
      have R5 := hid hS2
      clear hv2 hr2 hk2 hb2 hS2 hown' hgrow' hv1
      refine wpAnyIn_ready (rs := [7]) (by kernel_rfl) (by simp) (AllReadyIn.cons rfl (fun K hK => ?_) AllReadyIn.nil)
      go_simp
      refine hK _ _ ?_
      clear hK K
      refine wpAnyIn_done (by kernel_rfl) ?_ _
      gi_wp2
      exact ⟨R3.out, fun _ => ⟨R5.out.cell, HI.out.below (hB0.trans ((HBL.out.trans R4.out).mono (by omega)))⟩, ⟨⟨_, R1.out, by rw [SN.out, V_snoc]; simpa using R2.out, trivial⟩, R5.out⟩, HBL.out.trans R4.out⟩
    · go_simp
      refine hK _ _ ?_
      clear hK K
      refine wpAnyIn_ready (rs := [0, 2]) (by kernel_rfl) (by simp) ?_
      refine AllReadyIn.cons rfl (fun K hK => ?_) (AllReadyIn.cons rfl (fun K hK => ?_) AllReadyIn.nil)
      · go_simp
        refine hK _ _ ?_
        clear hK K
        refine wpAnyIn_ready (rs := [2]) (by kernel_rfl) (by simp) (AllReadyIn.cons rfl (fun K hK => ?_) AllReadyIn.nil)
        go_simp
        refine ⟨trivial, (callsIn_wide.2 (HWS.out _)).mono ?_⟩
        rintro e w' ⟨rfl, rfl⟩
        refine hK _ _ ?_
        clear hK K
        refine wpAnyIn_take (i := 4) (v := ?_) rfl rfl (by kernel_rfl) (by kernel_rfl) (by kernel_rfl) (fun _ _ _ h => h) ⟨Or.inl ⟨by rfl, ?_⟩, fun _ => rfl⟩ ?_
        rotate_left
        · intro w; go_simp; rfl
        refine wpAnyIn_ready (rs := [5]) (by kernel_rfl) (by simp) (AllReadyIn.cons rfl (fun K hK => ?_) AllReadyIn.nil)
        go_simp
        refine hK _ _ ?_
        clear hK K
        refine wpAnyIn_ready (rs := [6]) (by kernel_rfl) (by simp) (AllReadyIn.cons rfl (fun K hK => ?_) AllReadyIn.nil)
        refine stepIn_append_own rfl (.tmp 15) (.tmp 20) 25 rfl (w.heap.size + 1) 3 i0 (.int .i64 0) 1 8 Try.underlying25 hi hz0 hz1 hz2 rfl (by decide) u pre.length _ rfl (HR.out.alloc _) ⟨W.heap.size, 0, none⟩ 1 1 [.int .i64 _] rfl rfl (cell_one_new W _ _) (by simp [Value.oneCell']) (by unfold maxLen; omega) (by omega) (by simp; omega) ?_
        intro v' w2 hown' hgrow
        refine hK _ _ ?_
        clear hK K
        have hgrow' : (W.alloc (.cells #[.int .i64 (bits BinOp.andNot IntKind.i64 ((2 ^ n - 1 : Nat) : Int) (y : Int))] 3)).grownBy w2 u.ownBlock := by obtain ⟨g1, g2, g3, g4, g5⟩ := hgrow; exact ⟨g1, g2, g3, g4, g5⟩
        clear hgrow
        obtain ⟨g', cap', rfl⟩ := ownsRow_succ hown'
        obtain ⟨hv1, hv2, hr2, hk2, hb2⟩ := hv.appended (by decide) HR.out (by omega) hX hown' hgrow'
        have hS2 : Boxed (w2.setCell ⟨w1.heap.size, 0, none⟩ (.slice (some ⟨g', 0, none⟩) (pre.length + 1) cap')) (w1.heap.size + 1) 25 (.slice a l.length cap) := ((hS.alloc _).kept hgrow' (hS.not_row (by decide) HR.out)).kept (grownBy_setCell' _ _ _) (by simp)
        have hc1 := hv1.cell
        have hf1 := hv1.frozen
        rw [HV.out] at hr2
        have R1 := hid hv2
        have R2 := hid hr2
        have R3 := hid hk2
        have R4 := hid hb2
        have R5 := hid hS2
        clear hv2 hr2 hk2 hb2 hS2 hown' hgrow' hv1
        refine wpAnyIn_ready (rs := [7]) (by kernel_rfl) (by simp) (AllReadyIn.cons rfl (fun K hK => ?_) AllReadyIn.nil)
        go_simp
        refine hK _ _ ?_
        clear hK K
        refine wpAnyIn_done (by kernel_rfl) ?_ _
        gi_wp2
        exact ⟨R3.out, fun _ => ⟨R5.out.cell, HI.out.below (hB0.trans ((HBL.out.trans R4.out).mono (by omega)))⟩, ⟨⟨_, R1.out, by rw [SN.out, V_snoc]; simpa using R2.out, trivial⟩, R5.out⟩, HBL.out.trans R4.out⟩
      · go_simp
        refine ⟨trivial, (callsIn_wide.2 (HWS.out _)).mono ?_⟩
        rintro e w' ⟨rfl, rfl⟩
        refine hK _ _ ?_
        clear hK K
        refine wpAnyIn_take (i := 4) (v := ?_) rfl rfl (by kernel_rfl) (by kernel_rfl) (by kernel_rfl) (fun _ _ _ h => h) ⟨Or.inl ⟨by rfl, ?_⟩, fun _ => rfl⟩ ?_
        rotate_left
        · intro w; go_simp; rfl
        refine wpAnyIn_ready (rs := [0, 5]) (by kernel_rfl) (by simp) ?_
        refine AllReadyIn.cons rfl (fun K hK => ?_) (AllReadyIn.cons rfl (fun K hK => ?_) AllReadyIn.nil)
        · go_simp
          refine hK _ _ ?_
          clear hK K
          refine wpAnyIn_ready (rs := [5]) (by kernel_rfl) (by simp) (AllReadyIn.cons rfl (fun K hK => ?_) AllReadyIn.nil)
          go_simp
          refine hK _ _ ?_
          clear hK K
          refine wpAnyIn_ready (rs := [6]) (by kernel_rfl) (by simp) (AllReadyIn.cons rfl (fun K hK => ?_) AllReadyIn.nil)
          refine stepIn_append_own rfl (.tmp 15) (.tmp 20) 25 rfl (w.heap.size + 1) 3 i0 (.int .i64 0) 1 8 Try.underlying25 hi hz0 hz1 hz2 rfl (by decide) u pre.length _ rfl (HR.out.alloc _) ⟨W.heap.size, 0, none⟩ 1 1 [.int .i64 _] rfl rfl (cell_one_new W _ _) (by simp [Value.oneCell']) (by unfold maxLen; omega) (by omega) (by simp; omega) ?_
          intro v' w2 hown' hgrow
          refine hK _ _ ?_
          clear hK K
          have hgrow' : (W.alloc (.cells #[.int .i64 (bits BinOp.andNot IntKind.i64 ((2 ^ n - 1 : Nat) : Int) (y : Int))] 3)).grownBy w2 u.ownBlock := by obtain ⟨g1, g2, g3, g4, g5⟩ := hgrow; exact ⟨g1, g2, g3, g4, g5⟩
          clear hgrow
          obtain ⟨g', cap', rfl⟩ := ownsRow_succ hown'
          obtain ⟨hv1, hv2, hr2, hk2, hb2⟩ := hv.appended (by decide) HR.out (by omega) hX hown' hgrow'
          have hS2 : Boxed (w2.setCell ⟨w1.heap.size, 0, none⟩ (.slice (some ⟨g', 0, none⟩) (pre.length + 1) cap')) (w1.heap.size + 1) 25 (.slice a l.length cap) := ((hS.alloc _).kept hgrow' (hS.not_row (by decide) HR.out)).kept (grownBy_setCell' _ _ _) (by simp)
          have hc1 := hv1.cell
          have hf1 := hv1.frozen
          rw [HV.out] at hr2
          have R1 := hid hv2
          have R2 := hid hr2
          have R3 := hid hk2
          have R4 := hid hb2
          have R5 := hid hS2
          clear hv2 hr2 hk2 hb2 hS2 hown' hgrow' hv1
          refine wpAnyIn_ready (rs := [7]) (by kernel_rfl) (by simp) (AllReadyIn.cons rfl (fun K hK => ?_) AllReadyIn.nil)
          go_simp
          refine hK _ _ ?_
          clear hK K
          refine wpAnyIn_done (by kernel_rfl) ?_ _
          gi_wp2
          exact ⟨R3.out, fun _ => ⟨R5.out.cell, HI.out.below (hB0.trans ((HBL.out.trans R4.out).mono (by omega)))⟩, ⟨⟨_, R1.out, by rw [SN.out, V_snoc]; simpa using R2.out, trivial⟩, R5.out⟩, HBL.out.trans R4.out⟩
        · go_simp
          refine hK _ _ ?_
          clear hK K
          refine wpAnyIn_ready (rs := [0]) (by kernel_rfl) (by simp) (AllReadyIn.cons rfl (fun K hK => ?_) AllReadyIn.nil)
          go_simp
          refine hK _ _ ?_
          clear hK K
          refine wpAnyIn_ready (rs := [6]) (by kernel_rfl) (by simp) (AllReadyIn.cons rfl (fun K hK => ?_) AllReadyIn.nil)
          refine stepIn_append_own rfl (.tmp 15) (.tmp 20) 25 rfl (w.heap.size + 1) 3 i0 (.int .i64 0) 1 8 Try.underlying25 hi hz0 hz1 hz2 rfl (by decide) u pre.length _ rfl (HR.out.alloc _) ⟨W.heap.size, 0, none⟩ 1 1 [.int .i64 _] rfl rfl (cell_one_new W _ _) (by simp [Value.oneCell']) (by unfold maxLen; omega) (by omega) (by simp; omega) ?_
          intro v' w2 hown' hgrow
          refine hK _ _ ?_
          clear hK K
          have hgrow' : (W.alloc (.cells #[.int .i64 (bits BinOp.andNot IntKind.i64 ((2 ^ n - 1 : Nat) : Int) (y : Int))] 3)).grownBy w2 u.ownBlock := by obtain ⟨g1, g2, g3, g4, g5⟩ := hgrow; exact ⟨g1, g2, g3, g4, g5⟩
          clear hgrow
          obtain ⟨g', cap', rfl⟩ := ownsRow_succ hown'
          obtain ⟨hv1, hv2, hr2, hk2, hb2⟩ := hv.appended (by decide) HR.out (by omega) hX hown' hgrow'
          have hS2 : Boxed (w2.setCell ⟨w1.heap.size, 0, none⟩ (.slice (some ⟨g', 0, none⟩) (pre.length + 1) cap')) (w1.heap.size + 1) 25 (.slice a l.length cap) := ((hS.alloc _).kept hgrow' (hS.not_row (by decide) HR.out)).kept (grownBy_setCell' _ _ _) (by simp)
          have hc1 := hv1.cell
          have hf1 := hv1.frozen
          rw [HV.out] at hr2
          have R1 := hid hv2
          have R2 := hid hr2
          have R3 := hid hk2
          have R4 := hid hb2
          have R5 := hid hS2
          clear hv2 hr2 hk2 hb2 hS2 hown' hgrow' hv1
          refine wpAnyIn_ready (rs := [7]) (by kernel_rfl) (by simp) (AllReadyIn.cons rfl (fun K hK => ?_) AllReadyIn.nil)
          go_simp
          refine hK _ _ ?_
          clear hK K
          refine wpAnyIn_done (by kernel_rfl) ?_ _
          gi_wp2
          exact ⟨R3.out, fun _ => ⟨R5.out.cell, HI.out.below (hB0.trans ((HBL.out.trans R4.out).mono (by omega)))⟩, ⟨⟨_, R1.out, by rw [SN.out, V_snoc]; simpa using R2.out, trivial⟩, R5.out⟩, HBL.out.trans R4.out⟩
  case done =>
    rintro D ys W hD hys ⟨⟨⟨u, hv, hrow, _⟩, hS⟩, hB⟩ hK
    have hc := hv.cell
    have HE : Hid (cmpTo n l (ys.map (·.1)) = cmp n l) := by
      show _ = _
      rw [hys]
      exact cmpTo_all n l
    have HLn : Hid (ys.length = (cmp n l).length) := by
      show _ = _
      rw [← HE.out]
      unfold cmpTo
      simp
    have HR := hid hrow
    have HBL := hid hB
    clear hrow hB
    gi_wp2
    refine ⟨by simp, .inl ⟨_, _, rfl, run_takeDeferred hK, ?_⟩⟩
    refine ⟨_, results_tmp rfl _ _ _, u, rfl, ?_, (hB0.trans (HBL.out.mono (by omega))).trans (belowK_b (w := w) (Nat.le_refl _) W D _ _ (by omega) hK rfl rfl)⟩
    have h9 := ownsRow_putObj HR.out (.deferred none) hK rfl
    rw [HE.out, HLn.out] at h9
    exact Own.mono (B := w.heap.size + 1) h9 (by omega)
  case stop =>
    rintro D c pre W _ _ h _
    exact h.elim
end Go.Proofs.Ytgkkemlemnlchaa
