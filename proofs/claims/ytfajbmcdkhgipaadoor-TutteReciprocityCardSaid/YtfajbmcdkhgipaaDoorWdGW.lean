/- slices.Reverse of bytes; the digits of a number of 128 bits. -/
import Derived.Test.YtfajbmcdkhgipaaDoorWdCW
import Derived.Test.YtfajbmcdkhgipaaDoorOwnPW
import Derived.Deep.CutRange
import Derived.Deep.DeepCutAuto
import Derived.Laws.BytesArg
import Derived.Lib.ItoaNum
namespace Go.Proofs.YtfajbmcdkhgipaaDoor
open Go.RowKit Go.Lib

/-- A block of T bytes. -/
structure TblU (g : Nat) (w : World) (T : Nat) (f : Nat → Nat) : Prop where
  cell : ∀ i, i < T → w.cell? ⟨g, i, none⟩ = some (.int .u8 (f i : Nat))
  frozen : ∀ i, i < T → w.frozen? ⟨g, i, none⟩ = false
  size : g < w.heap.size
theorem TblU.set {g : Nat} {w : World} {T : Nat} {f f' : Nat → Nat} (h : TblU g w T f) (j x : Nat) (hj : j < T) (hf : ∀ i, i < T → f' i = if j = i then x else f i) : TblU g (w.setCell ⟨g, j, none⟩ (.int .u8 (x : Nat))) T f' := by
  refine ⟨fun i hi => ?_, fun i hi => (World.frozen?_setCell _ _ _ _).trans (h.frozen i hi), by simpa using h.size⟩
  rw [hf i hi]
  by_cases e : j = i
  · subst e
    rw [World.cell?_setCell_same _ _ _ (h.cell j hj)]; simp
  · rw [World.cell?_setCell_other _ _ _ _ (by simp), h.cell i hi]
    simp [e]
theorem TblU.congr {g : Nat} {w : World} {T : Nat} {f f' : Nat → Nat} (h : TblU g w T f) (hf : ∀ i, i < T → f' i = f i) : TblU g w T f' := ⟨fun i hi => by rw [hf i hi]; exact h.cell i hi, h.frozen, h.size⟩
theorem TblU.drew {g : Nat} {w : World} {T : Nat} {f : Nat → Nat} (h : TblU g w T f) : TblU g w.drew T f := ⟨h.cell, h.frozen, h.size⟩
/-- turned round, k from either end -/
def rvF (T : Nat) (f : Nat → Nat) (k i : Nat) : Nat := if i < k ∨ T ≤ i + k then f (T - 1 - i) else f i
/-- A slice of bytes of the call's own. -/
def VU (l : List Nat) : List Value := l.map fun s : Nat => Value.int .u8 (s : Int)
theorem VU_len (l : List Nat) : (VU l).length = l.length := by simp [VU]
theorem VU_snoc (l : List Nat) (s : Nat) : VU (l ++ [s]) = VU l ++ [.int .u8 s] := by simp [VU]
theorem Tryd.infoByte : (Tryd.prog.info? 5).map (fun i => (i.zero, i.size, i.bytes)) = some (some (.int .u8 0), 1, 1) := by kernel_rfl
theorem Tryd.undBytes : Tryd.prog.underlying 70 = some (.slice 5) := by kernel_rfl
theorem Tryd.undByte : Tryd.prog.underlying 5 = some (.int .u8) := by kernel_rfl
theorem Tryd.undStr : Tryd.prog.underlying 9 = some .string := by kernel_rfl
def OwnU (B : Nat) (w : World) (v : Value) (l : List Nat) : Prop := w.ownsRow B 5 1 v l.length (VU l)
theorem OwnU.nil (B : Nat) (w : World) : OwnU B w (.slice none 0 0) [] := World.ownsRow_nil _ _ _ _
theorem OwnU.snoc {B : Nat} {w : World} {v : Value} {l : List Nat} {s : Nat} (h : w.ownsRow B 5 1 v (l.length + 1) (VU l ++ [.int .u8 s])) : OwnU B w v (l ++ [s]) := by
  unfold OwnU; rw [VU_snoc]; simpa using h
theorem OwnU.grown {B : Nat} {w wr w1 : World} {u : Value} {l : List Nat} {o : Obj} (hown : OwnU B wr u l) (hnx : Below B w wr) (hB : B ≤ wr.heap.size) (hg : (wr.alloc o).grownBy w1 u.ownBlock) : Below B w w1 :=
  (hnx.alloc hB o).grown hg (by simp; omega) (fun j hj => (World.ownsRow.lt hown j hj).1)
theorem OwnU.below {B : Nat} {w w' : World} {v : Value} {l : List Nat} (h : OwnU B w v l) (hb : Below w.heap.size w w') : OwnU B w' v l := by
  obtain ⟨h0, h1⟩ := h
  refine ⟨h0, h1.imp_right ?_⟩
  rintro ⟨g, cap, cur, hv, hg, hheap, hr⟩
  exact ⟨g, cap, cur, hv, hg, (hb.block g (Array.getElem?_eq_some_iff.1 hheap).1).trans hheap, hr⟩
theorem OwnU.tbl {B : Nat} {w : World} {v : Value} {l : List Nat} (h : OwnU B w v l) (hl : l ≠ []) : ∃ g cap, v = .slice (some ⟨g, 0, none⟩) l.length cap ∧ B ≤ g ∧ TblU g w l.length (fun i => l.getD i 0) := by
  have hlen : 0 < l.length := List.length_pos_iff.2 hl
  rcases Go.Joins.ownsRow_forms h with ⟨rfl, h0⟩ | ⟨g, cap, rfl⟩
  · omega
  · have hlt := World.ownsRow.lt h g rfl
    refine ⟨g, cap, rfl, hlt.1, fun i hi => ?_, fun i _ => ?_, hlt.2⟩
    · rw [World.ownsRow.cellAt h i (by omega)]
      simp [VU, List.getD, hi]
    · obtain ⟨h0, h1⟩ := h
      rcases h1 with ⟨hv, _⟩ | ⟨g', cap', cur, hv, hg, hh, _⟩
      · cases hv
      · simp only [Value.slice.injEq, Option.some.injEq, Addr.mk.injEq, and_true] at hv
        obtain ⟨rfl, -, rfl⟩ := hv
        simp [World.frozen?, hh]
/-- the digits of a number, the last one first -/
def dgs (u : Nat) : List Nat := if h : u < 10 then [u] else (u % 10) :: dgs (u / 10)
termination_by u
decreasing_by omega
theorem dgs_low {u : Nat} (h : u < 10) : dgs u = [u] := by rw [dgs, _root_.dif_pos h]
theorem dgs_high {u : Nat} (h : ¬ u < 10) : dgs u = (u % 10) :: dgs (u / 10) := by rw [dgs, _root_.dif_neg h]
/-- the text of a number -/
def decT (u : Nat) : List UInt8 := ((dgs u).map fun d => UInt8.ofNat (48 + d)).reverse
end Go.Proofs.YtfajbmcdkhgipaaDoor

namespace Go.Proofs.YtfajbmcdkhgipaaDoor
open Go.RowKit Go.Lib

def lenV : Value → Nat
  | .slice _ n _ => n
  | _ => 0
theorem dgs_len : ∀ (k u : Nat), u < 10 ^ (k + 1) → (dgs u).length ≤ k + 1
  | 0, u, h => by rw [dgs_low (by simpa using h)]; simp
  | k + 1, u, h => by
    by_cases hu : u < 10
    · rw [dgs_low hu]; simp
    · rw [dgs_high hu]
      have := dgs_len k (u / 10) (by rw [Nat.div_lt_iff_lt_mul (by omega), ← Nat.pow_succ]; exact h)
      simp; omega
theorem dgs_ne (u : Nat) : dgs u ≠ [] := by
  by_cases hu : u < 10
  · rw [dgs_low hu]; simp
  · rw [dgs_high hu]; simp
theorem dgs_lt : ∀ (u : Nat) (d : Nat), d ∈ dgs u → d < 10 := fun u => by
  induction u using Nat.strongRecOn with
  | _ u ih =>
    intro d hd
    by_cases hu : u < 10
    · rw [dgs_low hu] at hd; simp at hd; omega
    · rw [dgs_high hu] at hd
      rcases List.mem_cons.1 hd with rfl | hd
      · omega
      · exact ih (u / 10) (by omega) d hd
end Go.Proofs.YtfajbmcdkhgipaaDoor

namespace Go.Proofs.YtfajbmcdkhgipaaDoor
open Go.RowKit Go.Lib

theorem decT_len {u : Nat} (h : u < 340282366920938463463374607431768211456) : (decT u).length ≤ 39 := by
  unfold decT
  have := dgs_len 38 u (by omega)
  simpa using this
/-- A whole number's 128 bits. -/
def zto (z : Int) : Nat := (z % 340282366920938463463374607431768211456).toNat
theorem zto_lt (z : Int) : zto z < 340282366920938463463374607431768211456 := by unfold zto; omega
/-- The text of a whole number. -/
def decZ (z : Int) : List UInt8 := if z < 0 then 45 :: decT (-z).toNat else decT z.toNat
theorem zto_add (x y : Int) : (zto x + zto y) % 340282366920938463463374607431768211456 = zto (x + y) := by unfold zto; omega
theorem zto_mul (x y : Int) : (zto x * zto y) % 340282366920938463463374607431768211456 = zto (x * y) := by
  unfold zto
  have h1 : ((((x % 340282366920938463463374607431768211456).toNat * (y % 340282366920938463463374607431768211456).toNat % 340282366920938463463374607431768211456 : Nat)) : Int) = x * y % 340282366920938463463374607431768211456 := by
    rw [Int.natCast_emod, Int.natCast_mul, Int.toNat_of_nonneg (Int.emod_nonneg _ (by omega)), Int.toNat_of_nonneg (Int.emod_nonneg _ (by omega))]
    exact (Int.mul_emod x y 340282366920938463463374607431768211456).symm
  omega
end Go.Proofs.YtfajbmcdkhgipaaDoor

namespace Go.Proofs.YtfajbmcdkhgipaaDoor

theorem decT_is (u : Nat) : Go.Lib.decDigits u = decT u := by
  induction u using Nat.strongRecOn with
  | _ u ih =>
    unfold decT
    by_cases h : u < 10
    · rw [Go.Lib.decDigits, _root_.dif_pos h, dgs_low h]; rfl
    · rw [Go.Lib.decDigits, _root_.dif_neg h, dgs_high h, ih (u / 10) (by omega)]
      unfold decT
      simp
theorem itoa_is (z : Int) : Go.Lib.itoa z = decZ z := by
  unfold Go.Lib.itoa decZ
  by_cases h : z < 0
  · rw [if_pos h, if_pos h, decT_is, show z.natAbs = (-z).toNat by omega]
  · rw [if_neg h, if_neg h, decT_is]
end Go.Proofs.YtfajbmcdkhgipaaDoor
