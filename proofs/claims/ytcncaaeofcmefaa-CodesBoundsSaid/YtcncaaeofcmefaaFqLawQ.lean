/- rotakeep.FieldProducts. -/
import Derived.Test.YtcncaaeofcmefaaFdYW
import Derived.Test.YtcncaaeofcmefaaOpnQ
import Derived.Deep.RegionHeld3
import Derived.Deep.CutRange
import Derived.Deep.RegionLaw
namespace Go.Proofs.Ytcncaaeofcmefaa
open Go.RowKit

theorem lit_mat : MatOK 3 (1 : Nat) [[2]] := MatOK.iff.1 (by decide +kernel)
theorem lit_det : detL 3 1 [[2]] (2 ^ 1 - 1) = 2 := by decide +kernel
theorem TotC.save {W W' : World} {B z : Nat} {v : Value} {n k : Nat} {f : Nat → Nat → Int} (h : TotC W B v n k f) (hs : Save (fun j => j = z) W W') (hz : z < B) (hty : ∀ c, W.heap[z]? ≠ some (.cells c 3 (0, 0))) : TotC W' B v n k f := by
  obtain ⟨us, h1, ⟨h2, h3⟩, h4⟩ := h
  refine ⟨us, h1, ⟨h2, h3.imp_right ?_⟩, fun i hi => ?_⟩
  · rintro ⟨g, cap, cur, hv, hg, hheap, hr⟩
    exact ⟨g, cap, cur, hv, hg, (hs.block g (Array.getElem?_eq_some_iff.1 hheap).1 (by omega)).trans hheap, hr⟩
  · obtain ⟨b, cp, h5, h6⟩ := h4 i hi
    exact ⟨b, cp, h5, h6.same (hs.block b h6.tbl.size fun e => by
      obtain ⟨c, hc⟩ := h6.ty
      rw [e] at hc
      exact hty c hc) hs.size⟩
theorem TotC.rowsI {W : World} {B : Nat} {v : Value} {n k : Nat} {f : Nat → Nat → Int} (h : TotC W B v n k f) (hn8 : n ≤ 8) (hk : k ≤ 8) : RowsI W v (matL k n f) ∧ ∀ a L c, v = .slice a L c → L ≤ c := by
  obtain ⟨us, h1, h2, h3⟩ := h
  have h2' := h2
  constructor
  · rcases Go.Joins.ownsRow_forms h2 with ⟨rfl, h0⟩ | ⟨g, cap, rfl⟩
    · exact ⟨none, 0, by rw [matL_len, h0], by rw [matL_len]; omega, fun hh => by rw [matL_len] at hh; omega⟩
    · refine ⟨_, cap, by rw [matL_len], by rw [matL_len]; omega, fun _ => ⟨g, 0, rfl, (World.ownsRow.lt h2 g rfl).2, fun i hi => ?_⟩⟩
      rw [matL_len] at hi
      obtain ⟨b, cp, h5, h6⟩ := h3 i hi
      refine ⟨.slice (some ⟨b, 0, none⟩) n cp, ?_, ?_⟩
      · have := World.ownsRow.cellAt h2 i (by omega)
        rw [Nat.zero_add, this, h5]
      · rw [matL_row hi]
        exact h6.tbl.ints (by omega)
  · intro a L c e
    obtain ⟨g0, g1⟩ := h2'
    rcases g1 with ⟨rfl, g2⟩ | ⟨g, cp, cur, rfl, g3, g4, g5, g6⟩
    · cases e; exact Nat.le_refl _
    · cases e
      first | exact g5 | omega
theorem step_app_ownF {P : Program} {w : World} {ops : Array Oper} {o : Oper} {a : Act} {K : Act → World → Prop} {Q : Exit → Act → World → Prop} {E : Prop}
    (hg : o.guard = none) (s x : Operand) (t : TypeId) (hop : o.op = Op.call { callee := Callee.builtin Builtin.append, args := #[s, x], argTypes := #[t, t] })
    (base : Nat) (e : TypeId) (i : TypeInfo) (z : Value) (size bytes : Nat) (h1 : P.underlying t = some (.slice e)) (h2 : P.info? e = some i) (h3 : i.zero = some z) (h4 : i.size = size) (h5 : i.bytes = bytes) (h6 : z.cells.size = size) (h7 : 0 < size)
    (v : Value) (k : Nat) (xs : List Value) (hs : a.eval s = v) (hown : w.ownsRow base e size v k xs) (ad : Addr) (m c : Nat) (news : List Value) (hx : a.eval x = .slice (some ad) m c) (hn : news.length = m * size)
    (hc : ∀ j u, news[j]? = some u → w.cell? (ad.add j) = some u) (h1c : ∀ u ∈ news, u.oneCell' = true) (b1 : k + m ≤ maxLen) (b2 : (k + m) * bytes ≤ 140737488355328) (b3 : base ≤ w.heap.size)
    (hK : ∀ v' w', w'.ownsRow base e size v' (k + m) (xs ++ news) → w.grownBy w' v.ownBlock → K (a.put o.dst v') w') :
    if Region.wanted o (yielded ops a.tmps) = true then Oper.wp P o a w K Q else E := by
  have hw : Region.wanted o (yielded ops a.tmps) = true := by simp [Region.wanted, hg]
  rw [if_pos hw]
  obtain ⟨v', w', hrun, r1, r2, r3⟩ := run_append_own (P := P) w base t o.type e i z size bytes h1 h2 h3 h4 h5 h6 h7 v k xs hown ad m c news hn hc h1c b1 b2 b3
  unfold Oper.wp
  simp [execOp, hop, resolve, invoke, builtin, hs, hx, hrun, Result.andThen]
  exact hK v' w' r1 r2
theorem own_pos {W : World} {B k : Nat} {ty : TypeId} {v : Value} {xs : List Value} (h : W.ownsRow B ty 1 v (k + 1) xs) : ∃ g c, v = .slice (some ⟨g, 0, none⟩) (k + 1) c := by
  rcases Go.Joins.ownsRow_forms h with ⟨rfl, h0⟩ | ⟨g', cap', rfl⟩
  · omega
  · exact ⟨_, _, rfl⟩
/-- Two boxes, either one first. -/
structure TwoB (w W : World) (o : Obj) (ga gb : Nat) : Prop where
  a : W.heap[ga]? = some o
  b : W.heap[gb]? = some o
  ne : ga ≠ gb
  ga0 : w.heap.size ≤ ga
  gb0 : w.heap.size ≤ gb
  la : ga < W.heap.size
  lb : gb < W.heap.size
  bel : Below w.heap.size w W
theorem TwoB.one (w : World) (cs : Array Value) (t : TypeId) : TwoB w ((w.drew.alloc (.cells cs t)).alloc (.cells cs t)) (.cells cs t (0, 0)) w.heap.size (w.heap.size + 1) := by
  have h1 : (w.drew.alloc (.cells cs t)).heap[w.heap.size]? = some (.cells cs t (0, 0)) := World.alloc_heap_new w.drew (.cells cs t)
  refine ⟨?_, ?_, by omega, by omega, by omega, by simp <;> omega, by simp <;> omega, ((Below.refl _ _).drew.alloc (by simp) _).alloc (by simp <;> omega) _⟩
  · rw [Below.heap_alloc _ _ _ (by simp <;> omega)]; exact h1
  · have := World.alloc_heap_new (w.drew.alloc (.cells cs t)) (.cells cs t)
    rwa [show (w.drew.alloc (.cells cs t)).heap.size = w.heap.size + 1 by simp] at this
theorem TwoB.two {w W : World} {o : Obj} {ga gb : Nat} (h : TwoB w W o ga gb) : TwoB w W o gb ga := ⟨h.b, h.a, fun e => h.ne e.symm, h.gb0, h.ga0, h.lb, h.la, h.bel⟩
theorem two_pows : ∀ c : Nat, c ≤ 8 → wrap64 (2 ^ c) = ((2 ^ c : Nat) : Int) := fun c hc => (pow_wrap c hc).1
end Go.Proofs.Ytcncaaeofcmefaa
