/- slices.Reverse of bytes; the digits of a number of 128 bits. -/
import Derived.Test.YtgfbajkonlaciaaWdCQ
import Derived.Test.YtgfbajkonlaciaaOwnPW
import Derived.Deep.CutRange
import Derived.Deep.DeepCutAuto
import Derived.Laws.BytesArg
namespace Go.Proofs.Ytgfbajkonlaciaa
open Go.RowKit Go.Lib

/-- A block of T bytes. -/
structure TblU (g : Nat) (w : World) (T : Nat) (f : Nat → Nat) : Prop where
  cell : ∀ i, i < T → w.cell? ⟨g, i, none⟩ = some (.int .u8 (f i : Nat))
  frozen : ∀ i, i < T → w.frozen? ⟨g, i, none⟩ = false
  size : g < w.heap.size
theorem TblU.set {g : Nat} {w : World} {T : Nat} {f f' : Nat → Nat} (h : TblU g w T f) (j x : Nat) (hj : j < T) (hf : ∀ i, i < T → f' i = if j = i then x else f i) : TblU g (w.setCell ⟨g, j, none⟩ (.int .u8 (x : Nat))) T f' := by
  refine ⟨fun i hi => ?_, fun i hi => (World.frozen?_setCell _ _ _ _).trans (h.frozen i hi), by simpa using h.size⟩
  rw [hf i hi]
  by_cases e : j = i
  · subst e
    rw [World.cell?_setCell_same _ _ _ (h.cell j hj)]; simp
  · rw [World.cell?_setCell_other _ _ _ _ (by simp), h.cell i hi]
    simp [e]
theorem TblU.congr {g : Nat} {w : World} {T : Nat} {f f' : Nat → Nat} (h : TblU g w T f) (hf : ∀ i, i < T → f' i = f i) : TblU g w T f' := ⟨fun i hi => by rw [hf i hi]; exact h.cell i hi, h.frozen, h.size⟩
theorem TblU.drew {g : Nat} {w : World} {T : Nat} {f : Nat → Nat} (h : TblU g w T f) : TblU g w.drew T f := ⟨h.cell, h.frozen, h.size⟩
/-- turned round, k from either end -/
def rvF (T : Nat) (f : Nat → Nat) (k i : Nat) : Nat := if i < k ∨ T ≤ i + k then f (T - 1 - i) else f i
set_option maxRecDepth 20000 in
set_option maxHeartbeats 2000000 in
theorem Reverse_any (g T cap : Nat) (f : Nat → Nat) (w : World) (hT : T ≤ 1000) (h : TblU g w T f) :
    Calls Try.prog 63 #[.slice (some ⟨g, 0, none⟩) T cap] w fun e w' => e = .returned (.tuple #[]) ∧ TblU g w' T (fun i => f (T - 1 - i)) ∧ Below g w w' := by
  have HT := hid h
  clear h
  go_enter Try.func63, Try.ntmps63
  go_wp2_with fail
  go_loopw [2, 3] (fun i j wr => ∃ k : Nat, 2 * k ≤ T + 1 ∧ i = .int .i64 k ∧ j = .int .i64 ((T : Int) - 1 - k) ∧ Hid (TblU g wr T (rvF T f k)) ∧ Hid (Below g w wr)) (fun i _ _ => T + 1 - (intOf i).toNat)
  case atStart => exact ⟨0, by omega, rfl, by simp, HT.out.congr fun i hi => by unfold rvF; rw [if_neg (by omega)], Below.refl _ _⟩
  case round =>
    obtain ⟨k, hk, rfl, rfl, HK, HW⟩ := hrel
    by_cases hlt : 2 * k < T - 1
    · obtain ⟨j, hj, hj2⟩ : ∃ j : Nat, (T : Int) - 1 - (k : Int) = (j : Int) ∧ Hid (j + k + 1 = T) := ⟨T - 1 - k, by omega, by show _ = _; omega⟩
      rw [hj]
      have hkj : (k : Int) < (j : Int) := by omega
      have hkT : (k : Int) < (T : Int) := by omega
      have hjT : (j : Int) < (T : Int) := by have := hj2.out; omega
      have c1 := HK.out.cell k (by omega)
      have c2 := HK.out.cell j (by have := hj2.out; omega)
      have f1 := HK.out.frozen k (by omega)
      have f2 := HK.out.frozen j (by have := hj2.out; omega)
      have e1 : rvF T f k k = f k := by unfold rvF; rw [if_neg (by omega)]
      have e2 : rvF T f k j = f j := by have := hj2.out; unfold rvF; rw [if_neg (by omega)]
      rw [e1] at c1
      rw [e2] at c2
      have NT : Hid (TblU g ((wr.setCell ⟨g, k, none⟩ (.int .u8 (f j : Nat))).setCell ⟨g, j, none⟩ (.int .u8 (f k : Nat))) T (rvF T f (k + 1))) := by
        have h1 := hj2.out
        refine (HK.out.set (f' := fun i => if k = i then f j else rvF T f k i) k (f j) (by omega) (fun i _ => rfl)).set j (f k) (by omega) fun i hi => ?_
        unfold rvF
        by_cases ej : j = i
        · subst ej
          rw [if_pos rfl, if_pos (by omega)]
          congr 1; omega
        · rw [if_neg ej]
          by_cases ek : k = i
          · subst ek
            rw [if_pos rfl, if_pos (by omega)]
            congr 1; omega
          · rw [if_neg ek]
            by_cases hc : i < k ∨ T ≤ i + k
            · rw [if_pos hc, if_pos (by omega)]
            · rw [if_neg hc, if_neg (by omega)]
      have B1 := hid ((HW.out.setCell (p := ⟨g, k, none⟩) (Nat.le_refl _) (.int .u8 (f j : Nat))).setCell (p := ⟨g, j, none⟩) (Nat.le_refl _) (.int .u8 (f k : Nat)))
      have hne : ¬ k = j := by omega
      have hne' : ¬ j = k := by omega
      have hjm : Hid ((j : Int) - 1 = (T : Int) - 1 - ((k + 1 : Nat) : Int)) := by show _ = _; omega
      have hk2 : Hid (2 * (k + 1) ≤ T + 1) := by show _ ≤ _; omega
      clear HK HW e1 e2 hk hlt hj
      generalize f k = fk at *
      generalize f j = fj at *
      go_wp2_with fail
      go_region
      go_wp2_with fail
      go_roundw
      case rel => exact ⟨k + 1, hk2.out, by go_num, by rw [hjm.out], NT.out.drew, B1.out.drew⟩
      case measure => have := hk2.out; simp [intOf]; omega
    · have HF : Hid (TblU g wr T fun i => f (T - 1 - i)) := HK.out.congr fun i hi => by
        unfold rvF
        by_cases hc : i < k ∨ T ≤ i + k
        · rw [if_pos hc]
        · rw [if_neg hc]; congr 1; omega
      have hn : ¬ (k : Int) < (T : Int) - 1 - (k : Int) := by omega
      go_wp2_with fail
      go_end0
      exact ⟨rfl, HF.out, HW.out⟩
/-- A slice of bytes of the call's own. -/
def VU (l : List Nat) : List Value := l.map fun s : Nat => Value.int .u8 (s : Int)
theorem VU_len (l : List Nat) : (VU l).length = l.length := by simp [VU]
theorem VU_snoc (l : List Nat) (s : Nat) : VU (l ++ [s]) = VU l ++ [.int .u8 s] := by simp [VU]
theorem Try.infoByte : (Try.prog.info? 5).map (fun i => (i.zero, i.size, i.bytes)) = some (some (.int .u8 0), 1, 1) := by kernel_rfl
theorem Try.undBytes : Try.prog.underlying 79 = some (.slice 5) := by kernel_rfl
theorem Try.undByte : Try.prog.underlying 5 = some (.int .u8) := by kernel_rfl
theorem Try.undStr : Try.prog.underlying 9 = some .string := by kernel_rfl
def OwnU (B : Nat) (w : World) (v : Value) (l : List Nat) : Prop := w.ownsRow B 5 1 v l.length (VU l)
theorem OwnU.nil (B : Nat) (w : World) : OwnU B w (.slice none 0 0) [] := World.ownsRow_nil _ _ _ _
theorem OwnU.snoc {B : Nat} {w : World} {v : Value} {l : List Nat} {s : Nat} (h : w.ownsRow B 5 1 v (l.length + 1) (VU l ++ [.int .u8 s])) : OwnU B w v (l ++ [s]) := by
  unfold OwnU; rw [VU_snoc]; simpa using h
theorem OwnU.grown {B : Nat} {w wr w1 : World} {u : Value} {l : List Nat} {o : Obj} (hown : OwnU B wr u l) (hnx : Below B w wr) (hB : B ≤ wr.heap.size) (hg : (wr.alloc o).grownBy w1 u.ownBlock) : Below B w w1 :=
  (hnx.alloc hB o).grown hg (by simp; omega) (fun j hj => (World.ownsRow.lt hown j hj).1)
theorem OwnU.below {B : Nat} {w w' : World} {v : Value} {l : List Nat} (h : OwnU B w v l) (hb : Below w.heap.size w w') : OwnU B w' v l := by
  obtain ⟨h0, h1⟩ := h
  refine ⟨h0, h1.imp_right ?_⟩
  rintro ⟨g, cap, cur, hv, hg, hheap, hr⟩
  exact ⟨g, cap, cur, hv, hg, (hb.block g (Array.getElem?_eq_some_iff.1 hheap).1).trans hheap, hr⟩
theorem OwnU.tbl {B : Nat} {w : World} {v : Value} {l : List Nat} (h : OwnU B w v l) (hl : l ≠ []) : ∃ g cap, v = .slice (some ⟨g, 0, none⟩) l.length cap ∧ B ≤ g ∧ TblU g w l.length (fun i => l.getD i 0) := by
  have hlen : 0 < l.length := List.length_pos_iff.2 hl
  rcases Go.Joins.ownsRow_forms h with ⟨rfl, h0⟩ | ⟨g, cap, rfl⟩
  · omega
  · have hlt := World.ownsRow.lt h g rfl
    refine ⟨g, cap, rfl, hlt.1, fun i hi => ?_, fun i _ => ?_, hlt.2⟩
    · rw [World.ownsRow.cellAt h i (by omega)]
      simp [VU, List.getD, hi]
    · obtain ⟨h0, h1⟩ := h
      rcases h1 with ⟨hv, _⟩ | ⟨g', cap', cur, hv, hg, hh, _⟩
      · cases hv
      · simp only [Value.slice.injEq, Option.some.injEq, Addr.mk.injEq, and_true] at hv
        obtain ⟨rfl, -, rfl⟩ := hv
        simp [World.frozen?, hh]
/-- the digits of a number, the last one first -/
def dgs (u : Nat) : List Nat := if h : u < 10 then [u] else (u % 10) :: dgs (u / 10)
termination_by u
decreasing_by omega
theorem dgs_low {u : Nat} (h : u < 10) : dgs u = [u] := by rw [dgs, _root_.dif_pos h]
theorem dgs_high {u : Nat} (h : ¬ u < 10) : dgs u = (u % 10) :: dgs (u / 10) := by rw [dgs, _root_.dif_neg h]
/-- the text of a number -/
def decT (u : Nat) : List UInt8 := ((dgs u).map fun d => UInt8.ofNat (48 + d)).reverse
end Go.Proofs.Ytgfbajkonlaciaa
