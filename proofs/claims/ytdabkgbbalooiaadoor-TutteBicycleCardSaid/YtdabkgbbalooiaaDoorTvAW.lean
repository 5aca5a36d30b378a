/- slices.Backward; sets.Complements. -/
import Derived.Test.YtdabkgbbalooiaaDoorQuietW
import Derived.Test.YtdabkgbbalooiaaDoorOldNW
import Derived.Test.YtdabkgbbalooiaaDoorPlainAll
import Derived.Test.YtdabkgbbalooiaaDoorTMW
namespace Go.Proofs.YtdabkgbbalooiaaDoor
open Go.RowKit Go.Shelf
attribute [local go_sem] Oper.semAt_some

/-- A place of l. -/
abbrev Pl (l : List Nat) : Type := { i : Nat // i < l.length }
def encB {l : List Nat} (x : Pl l) : Array Value := #[.int .i64 (x.1 : Nat), .int .i64 (l.getD x.1 0 : Nat)]
/-- The box holds the list. -/
def BoxIs (B : Nat) (v : Value) (l : List Nat) (W : World) : Prop := W.cell? ⟨B, 0, none⟩ = some v ∧ Ints W v (N l)
theorem BoxIs.below {B : Nat} {v : Value} {l : List Nat} {w W : World} (h : BoxIs B v l w) (hb : Below w.heap.size w W) (hB : B < w.heap.size) : BoxIs B v l W := ⟨(hb.cell (p := ⟨B, 0, none⟩) hB).trans h.1, h.2.below hb⟩
def downTo (k : Nat) : List Nat := (List.range k).reverse
theorem down_succ (k : Nat) : downTo (k + 1) = k :: downTo k := by unfold downTo; rw [List.range_succ, List.reverse_append]; rfl

theorem boxed_own {β : Type} (B : Nat) (t : TypeId) (v : Value) : Go.Own (fun (_ : β) W => Boxed W B t v) := by
  rintro s X Y row hv hg hrow
  refine hv.kept hg (fun e' => ?_)
  obtain ⟨o, ho, hc⟩ := hrow B e'.symm
  rw [show X.heap[B]? = _ from hv] at ho; cases ho; cases hc
theorem Ints.kept {W W' : World} {row : Option Nat} {v : Value} {zs : List Int} (h : Ints W v zs) (hg : W.grownBy W' row) (hr : ∀ r, row = some r → ∃ o : Obj, W.heap[r]? = some o ∧ o.isCells = false) : Ints W' v zs := by
  obtain ⟨a, cap, hv, hl, hc⟩ := h
  refine ⟨a, cap, hv, hl, fun hn => ?_⟩
  obtain ⟨b, off, ha, hbl, hcell⟩ := hc hn
  exact ⟨b, off, ha, Nat.lt_of_lt_of_le hbl hg.size, fun i hi => cell_kept (hcell i hi) hg hr⟩
/-- append, as one step of a region that draws, inside the wide fence. -/
theorem stepIn_append_own {n : Nat} {P : Program} {w : World} {ops : Array Oper} {o : Oper} {a : Act} {K : Act → World → Prop} {Q : Exit → Act → World → Prop} {E : Prop}
    (hg : o.guard = none) (s x : Operand) (t : TypeId) (hop : o.op = Op.call { callee := Callee.builtin Builtin.append, args := #[s, x], argTypes := #[t, t] })
    (base : Nat) (e : TypeId) (i : TypeInfo) (z : Value) (size bytes : Nat) (h1 : P.underlying t = some (.slice e)) (h2 : P.info? e = some i) (h3 : i.zero = some z) (h4 : i.size = size) (h5 : i.bytes = bytes) (h6 : z.cells.size = size) (h7 : 0 < size)
    (v : Value) (k : Nat) (xs : List Value) (hs : a.eval s = v) (hown : w.ownsRow base e size v k xs) (ad : Addr) (m c : Nat) (news : List Value) (hx : a.eval x = .slice (some ad) m c) (hn : news.length = m * size)
    (hc : ∀ j u, news[j]? = some u → w.cell? (ad.add j) = some u) (h1c : ∀ u ∈ news, u.oneCell' = true) (b1 : k + m ≤ maxLen) (b2 : (k + m) * bytes ≤ 140737488355328) (b3 : base ≤ w.heap.size)
    (hK : ∀ v' w', w'.ownsRow base e size v' (k + m) (xs ++ news) → w.grownBy w' v.ownBlock → K (a.put o.dst v') w') :
    if Region.wanted o (yielded ops a.tmps) = true then Oper.wpIn Fence.wide n P o a w K Q else E := by
  have hw : Region.wanted o (yielded ops a.tmps) = true := by simp [Region.wanted, hg]
  rw [if_pos hw]
  obtain ⟨v', w', hrun, r1, r2, r3⟩ := run_append_own (P := P) w base t o.type e i z size bytes h1 h2 h3 h4 h5 h6 h7 v k xs hown ad m c news hn hc h1c b1 b2 b3
  unfold Oper.wpIn
  refine ⟨?_, ?_⟩
  · simp [Oper.about, hop, resolve, Target.leads, Sem.run_pure]
  · rw [Oper.semAt_plain Fence.wide _ _ (by rw [hop]; intro c hc'; cases hc')]
    simp [execOp, hop, resolve, invoke, builtin, hs, hx, hrun, Result.andThen]
    exact hK v' w' r1 r2
theorem cpl_fact : ∀ n : Nat, n ≤ 8 → ∀ y : Nat, y < 256 → y < 2 ^ n → bits BinOp.andNot IntKind.i64 ((2 ^ n - 1 : Nat) : Int) (y : Int) = ((2 ^ n - 1 - y : Nat) : Int) := by decide +kernel
/-- What has come. -/
def cmpTo (n : Nat) (l : List Nat) (js : List Nat) : List Nat := js.map fun j => 2 ^ n - 1 - l.getD j 0
theorem range_getD (l : List Nat) : (List.range l.length).map (fun j => l.getD j 0) = l := by
  refine List.ext_getElem (by simp) fun i h1 h2 => ?_
  simp [List.getD, h2]
theorem cmpTo_all (n : Nat) (l : List Nat) : cmpTo n l (downTo l.length) = cmp n l := by
  unfold cmpTo cmp downTo
  conv => rhs; rw [← range_getD l]
  rw [List.map_reverse, List.map_reverse, List.map_map]
  rfl

end Go.Proofs.YtdabkgbbalooiaaDoor

namespace Go.Proofs.YtdabkgbbalooiaaDoor
open Go.RowKit Go.Shelf
attribute [local go_sem] Oper.semAt_some

/-- A place ahead of n. -/
abbrev Pn (n : Nat) : Type := { i : Nat // i < n }
def encM (g M : Nat) {n : Nat} (x : Pn n) : Array Value := #[.int .i64 (x.1 : Nat), .slice (some ⟨g + 1 + x.1, 0, none⟩) M M]
def encZ (f : Nat → Int) {n : Nat} (x : Pn n) : Array Value := #[.int .i64 (x.1 : Nat), .int .i64 (f x.1)]
def BoxM (B g n cap M : Nat) (W : World) : Prop := W.cell? ⟨B, 0, none⟩ = some (.slice (some ⟨g, 0, none⟩) n cap) ∧ ∀ i, i < n → W.cell? ⟨g, i, none⟩ = some (.slice (some ⟨g + 1 + i, 0, none⟩) M M)
def BoxZ (B g n cap : Nat) (f : Nat → Int) (W : World) : Prop := W.cell? ⟨B, 0, none⟩ = some (.slice (some ⟨g, 0, none⟩) n cap) ∧ ∀ i, i < n → W.cell? ⟨g, i, none⟩ = some (.int .i64 (f i))
set_option maxRecDepth 100000 in
set_option maxHeartbeats 2000000 in
theorem backM_stops (n : Nat) (hn : 1 ≤ n) (B g N cap M : Nat) (w : World) (hN : N ≤ 256) (hw : ∀ W, Below w.heap.size w W → BoxM B g N cap M W) :
    SeqStopsK Fence.wide n Tryd.prog 54 #[.pointer (some ⟨B, 0, none⟩)] (encM g M (n := N)) (fun A A' => BoxM B g N cap M A → BoxM B g N cap M A') (fun xs => xs.map (·.1) = downTo N) (fun pre => pre.map (·.1) <+: downTo N) (N + 1) w := fun L J Jx W hW _ _ hY h0 => by
  have hK := hw W hW
  have HK := hid hK
  obtain ⟨hcl, -⟩ := hK
  refine callsIn_of_wp Tryd.func54 rfl trivial ?_ rfl
  simp only [Tryd.ntmps54, List.size_toArray, List.length_cons, List.length_nil, Nat.reduceAdd, Nat.reduceSub, Array.replicate_succ, Array.replicate_zero, List.push_toArray, List.append_toArray, List.nil_append, List.cons_append]
  gi_wp2
  gi_loopw [3] (fun p wr => ∃ (pre : List (Pn N)) (k : Nat), p = .int .i64 ((k : Int) - 1) ∧ k ≤ N ∧ Hid (pre.map (·.1) ++ downTo k = downTo N) ∧ J pre wr ∧ Hid (BoxM B g N cap M wr)) (fun p _ => (intOf p + 1).toNat)
  case atStart => exact ⟨[], N, by go_num, Nat.le_refl _, rfl, h0, HK⟩
  case round =>
    obtain ⟨pre, k, rfl, hk, hx, hJs, HB⟩ := hrel
    by_cases hk0 : 0 < k
    · obtain ⟨j, rfl⟩ : ∃ j, k = j + 1 := ⟨k - 1, by omega⟩
      have hj : j < N := by omega
      have HS := hid (down_succ j)
      have hlen : pre.length < N + 1 := by
        have h2 := congrArg List.length hx.out
        unfold downTo at h2
        simp at h2
        omega
      obtain ⟨fn, tmps, assign, body, hy, hR⟩ := hY pre ⟨j, hj⟩ wr hJs hlen
      dsimp only [encM] at hy
      have hcb := HB.out.1
      have hcj := HB.out.2 j hj
      have hji : (j : Int) < (N : Int) := by omega
      have hsub : (((j + 1 : Nat) : Int) - 1) = (j : Int) := by omega
      rw [hsub]
      gi_wp2
      refine hR.mono ?_
      rintro e W3 (⟨rfl, hJ3, hk3⟩ | ⟨rfl, hJx3⟩)
      · have HB3 := hid (hk3 HB.out)
        clear hk3
        gi_wp2
        go_roundw
        case rel => exact ⟨pre ++ [⟨j, hj⟩], j, by go_num, by omega, by have := hx.out; rw [HS.out] at this; show _ = _; rw [List.map_append, List.append_assoc]; exact this, hJ3, HB3⟩
        case measure => simp [intOf]
      · gi_wp2
        refine bodyPost_ret (results_none rfl _ _ _) rfl ?_
        exact ⟨⟨_, rfl⟩, .inr ⟨pre ++ [⟨j, hj⟩], ⟨downTo j, by have := hx.out; rw [HS.out] at this; rw [List.map_append, List.append_assoc]; exact this⟩, hJx3⟩⟩
    · have e0 : k = 0 := by omega
      subst e0
      gi_wp2
      go_end0
      exact ⟨⟨_, rfl⟩, .inl ⟨pre, by have := hx.out; rw [show downTo 0 = [] from rfl, List.append_nil] at this; exact this, hJs⟩⟩
theorem backM_any (v : Value) (w : World) (hv : ∃ a l c, v = .slice a l c) :
    Calls Tryd.prog 29 #[v] w fun e w' => e = .returned (.func (.func 54) #[] #[.pointer (some ⟨w.heap.size, 0, none⟩)]) ∧ w' = w.alloc (.cells #[v] 47) := by
  obtain ⟨a, l, c, rfl⟩ := hv
  go_enter Tryd.func29, Tryd.ntmps29
  go_wp2
  go_ret
  exact ⟨rfl, rfl⟩
set_option maxRecDepth 100000 in
set_option maxHeartbeats 2000000 in
theorem backZ_stops (n : Nat) (hn : 1 ≤ n) (B g N cap : Nat) (f : Nat → Int) (w : World) (hN : N ≤ 256) (hw : ∀ W, Below w.heap.size w W → BoxZ B g N cap f W) :
    SeqStopsK Fence.wide n Tryd.prog 55 #[.pointer (some ⟨B, 0, none⟩)] (encZ f (n := N)) (fun A A' => BoxZ B g N cap f A → BoxZ B g N cap f A') (fun xs => xs.map (·.1) = downTo N) (fun pre => pre.map (·.1) <+: downTo N) (N + 1) w := fun L J Jx W hW _ _ hY h0 => by
  have hK := hw W hW
  have HK := hid hK
  obtain ⟨hcl, -⟩ := hK
  refine callsIn_of_wp Tryd.func55 rfl trivial ?_ rfl
  simp only [Tryd.ntmps55, List.size_toArray, List.length_cons, List.length_nil, Nat.reduceAdd, Nat.reduceSub, Array.replicate_succ, Array.replicate_zero, List.push_toArray, List.append_toArray, List.nil_append, List.cons_append]
  gi_wp2
  gi_loopw [3] (fun p wr => ∃ (pre : List (Pn N)) (k : Nat), p = .int .i64 ((k : Int) - 1) ∧ k ≤ N ∧ Hid (pre.map (·.1) ++ downTo k = downTo N) ∧ J pre wr ∧ Hid (BoxZ B g N cap f wr)) (fun p _ => (intOf p + 1).toNat)
  case atStart => exact ⟨[], N, by go_num, Nat.le_refl _, rfl, h0, HK⟩
  case round =>
    obtain ⟨pre, k, rfl, hk, hx, hJs, HB⟩ := hrel
    by_cases hk0 : 0 < k
    · obtain ⟨j, rfl⟩ : ∃ j, k = j + 1 := ⟨k - 1, by omega⟩
      have hj : j < N := by omega
      have HS := hid (down_succ j)
      have hlen : pre.length < N + 1 := by
        have h2 := congrArg List.length hx.out
        unfold downTo at h2
        simp at h2
        omega
      obtain ⟨fn, tmps, assign, body, hy, hR⟩ := hY pre ⟨j, hj⟩ wr hJs hlen
      dsimp only [encZ] at hy
      have hcb := HB.out.1
      have hcj := HB.out.2 j hj
      have hji : (j : Int) < (N : Int) := by omega
      have hsub : (((j + 1 : Nat) : Int) - 1) = (j : Int) := by omega
      rw [hsub]
      generalize f j = y at hcj hy
      gi_wp2
      refine hR.mono ?_
      rintro e W3 (⟨rfl, hJ3, hk3⟩ | ⟨rfl, hJx3⟩)
      · have HB3 := hid (hk3 HB.out)
        clear hk3
        gi_wp2
        go_roundw
        case rel => exact ⟨pre ++ [⟨j, hj⟩], j, by go_num, by omega, by have := hx.out; rw [HS.out] at this; show _ = _; rw [List.map_append, List.append_assoc]; exact this, hJ3, HB3⟩
        case measure => simp [intOf]
      · gi_wp2
        refine bodyPost_ret (results_none rfl _ _ _) rfl ?_
        exact ⟨⟨_, rfl⟩, .inr ⟨pre ++ [⟨j, hj⟩], ⟨downTo j, by have := hx.out; rw [HS.out] at this; rw [List.map_append, List.append_assoc]; exact this⟩, hJx3⟩⟩
    · have e0 : k = 0 := by omega
      subst e0
      gi_wp2
      go_end0
      exact ⟨⟨_, rfl⟩, .inl ⟨pre, by have := hx.out; rw [show downTo 0 = [] from rfl, List.append_nil] at this; exact this, hJs⟩⟩
theorem backZ_any (v : Value) (w : World) (hv : ∃ a l c, v = .slice a l c) :
    Calls Tryd.prog 30 #[v] w fun e w' => e = .returned (.func (.func 55) #[] #[.pointer (some ⟨w.heap.size, 0, none⟩)]) ∧ w' = w.alloc (.cells #[v] 64) := by
  obtain ⟨a, l, c, rfl⟩ := hv
  go_enter Tryd.func30, Tryd.ntmps30
  go_wp2
  go_ret
  exact ⟨rfl, rfl⟩
end Go.Proofs.YtdabkgbbalooiaaDoor
