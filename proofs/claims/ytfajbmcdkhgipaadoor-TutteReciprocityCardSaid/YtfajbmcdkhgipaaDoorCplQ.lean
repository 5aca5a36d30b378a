/- slices.Backward; sets.Complements. -/
import Derived.Test.YtfajbmcdkhgipaaDoorGiveW
import Derived.Test.YtfajbmcdkhgipaaDoorOldNW
import Derived.Test.YtfajbmcdkhgipaaDoorPlainAll
namespace Go.Proofs.YtfajbmcdkhgipaaDoor
open Go.RowKit Go.Shelf
attribute [local go_sem] Oper.semAt_some

/-- A place of l. -/
abbrev Pl (l : List Nat) : Type := { i : Nat // i < l.length }
def encB {l : List Nat} (x : Pl l) : Array Value := #[.int .i64 (x.1 : Nat), .int .i64 (l.getD x.1 0 : Nat)]
/-- The box holds the list. -/
def BoxIs (B : Nat) (v : Value) (l : List Nat) (W : World) : Prop := W.cell? ⟨B, 0, none⟩ = some v ∧ Ints W v (N l)
theorem BoxIs.below {B : Nat} {v : Value} {l : List Nat} {w W : World} (h : BoxIs B v l w) (hb : Below w.heap.size w W) (hB : B < w.heap.size) : BoxIs B v l W := ⟨(hb.cell (p := ⟨B, 0, none⟩) hB).trans h.1, h.2.below hb⟩
def downTo (k : Nat) : List Nat := (List.range k).reverse
theorem down_succ (k : Nat) : downTo (k + 1) = k :: downTo k := by unfold downTo; rw [List.range_succ, List.reverse_append]; rfl

theorem boxed_own {β : Type} (B : Nat) (t : TypeId) (v : Value) : Go.Own (fun (_ : β) W => Boxed W B t v) := by
  rintro s X Y row hv hg hrow
  refine hv.kept hg (fun e' => ?_)
  obtain ⟨o, ho, hc⟩ := hrow B e'.symm
  rw [show X.heap[B]? = _ from hv] at ho; cases ho; cases hc
theorem Ints.kept {W W' : World} {row : Option Nat} {v : Value} {zs : List Int} (h : Ints W v zs) (hg : W.grownBy W' row) (hr : ∀ r, row = some r → ∃ o : Obj, W.heap[r]? = some o ∧ o.isCells = false) : Ints W' v zs := by
  obtain ⟨a, cap, hv, hl, hc⟩ := h
  refine ⟨a, cap, hv, hl, fun hn => ?_⟩
  obtain ⟨b, off, ha, hbl, hcell⟩ := hc hn
  exact ⟨b, off, ha, Nat.lt_of_lt_of_le hbl hg.size, fun i hi => cell_kept (hcell i hi) hg hr⟩
/-- append, as one step of a region that draws, inside the wide fence. -/
theorem stepIn_append_own {n : Nat} {P : Program} {w : World} {ops : Array Oper} {o : Oper} {a : Act} {K : Act → World → Prop} {Q : Exit → Act → World → Prop} {E : Prop}
    (hg : o.guard = none) (s x : Operand) (t : TypeId) (hop : o.op = Op.call { callee := Callee.builtin Builtin.append, args := #[s, x], argTypes := #[t, t] })
    (base : Nat) (e : TypeId) (i : TypeInfo) (z : Value) (size bytes : Nat) (h1 : P.underlying t = some (.slice e)) (h2 : P.info? e = some i) (h3 : i.zero = some z) (h4 : i.size = size) (h5 : i.bytes = bytes) (h6 : z.cells.size = size) (h7 : 0 < size)
    (v : Value) (k : Nat) (xs : List Value) (hs : a.eval s = v) (hown : w.ownsRow base e size v k xs) (ad : Addr) (m c : Nat) (news : List Value) (hx : a.eval x = .slice (some ad) m c) (hn : news.length = m * size)
    (hc : ∀ j u, news[j]? = some u → w.cell? (ad.add j) = some u) (h1c : ∀ u ∈ news, u.oneCell' = true) (b1 : k + m ≤ maxLen) (b2 : (k + m) * bytes ≤ 140737488355328) (b3 : base ≤ w.heap.size)
    (hK : ∀ v' w', w'.ownsRow base e size v' (k + m) (xs ++ news) → w.grownBy w' v.ownBlock → K (a.put o.dst v') w') :
    if Region.wanted o (yielded ops a.tmps) = true then Oper.wpIn Fence.wide n P o a w K Q else E := by
  have hw : Region.wanted o (yielded ops a.tmps) = true := by simp [Region.wanted, hg]
  rw [if_pos hw]
  obtain ⟨v', w', hrun, r1, r2, r3⟩ := run_append_own (P := P) w base t o.type e i z size bytes h1 h2 h3 h4 h5 h6 h7 v k xs hown ad m c news hn hc h1c b1 b2 b3
  unfold Oper.wpIn
  refine ⟨?_, ?_⟩
  · simp [Oper.about, hop, resolve, Target.leads, Sem.run_pure]
  · rw [Oper.semAt_plain Fence.wide _ _ (by rw [hop]; intro c hc'; cases hc')]
    simp [execOp, hop, resolve, invoke, builtin, hs, hx, hrun, Result.andThen]
    exact hK v' w' r1 r2
theorem cpl_fact : ∀ n : Nat, n ≤ 8 → ∀ y : Nat, y < 256 → y < 2 ^ n → bits BinOp.andNot IntKind.i64 ((2 ^ n - 1 : Nat) : Int) (y : Int) = ((2 ^ n - 1 - y : Nat) : Int) := by decide +kernel
/-- What has come. -/
def cmpTo (n : Nat) (l : List Nat) (js : List Nat) : List Nat := js.map fun j => 2 ^ n - 1 - l.getD j 0
theorem range_getD (l : List Nat) : (List.range l.length).map (fun j => l.getD j 0) = l := by
  refine List.ext_getElem (by simp) fun i h1 h2 => ?_
  simp [List.getD, h2]
theorem cmpTo_all (n : Nat) (l : List Nat) : cmpTo n l (downTo l.length) = cmp n l := by
  unfold cmpTo cmp downTo
  conv => rhs; rw [← range_getD l]
  rw [List.map_reverse, List.map_reverse, List.map_map]
  rfl

end Go.Proofs.YtfajbmcdkhgipaaDoor
