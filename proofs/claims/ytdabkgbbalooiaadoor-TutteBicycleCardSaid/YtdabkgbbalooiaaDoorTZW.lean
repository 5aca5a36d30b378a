/- The text of a whole number here is the text that strconv.Itoa gives. -/
import Derived.Test.YtdabkgbbalooiaaDoorWdFQ
import Derived.Lib.ItoaNum
import Derived.Shelf.LaysM
import Derived.Shelf.Strconv.Itoa3
import Derived.Test.YtdabkgbbalooiaaDoorLaidW
import Derived.Test.YtdabkgbbalooiaaDoorRefW
import Derived.Test.YtdabkgbbalooiaaDoorQuietW
namespace Go.Proofs.YtdabkgbbalooiaaDoor

theorem decT_is (u : Nat) : Go.Lib.decDigits u = decT u := by
  induction u using Nat.strongRecOn with
  | _ u ih =>
    unfold decT
    by_cases h : u < 10
    · rw [Go.Lib.decDigits, _root_.dif_pos h, dgs_low h]; rfl
    · rw [Go.Lib.decDigits, _root_.dif_neg h, dgs_high h, ih (u / 10) (by omega)]
      unfold decT
      simp
theorem itoa_is (z : Int) : Go.Lib.itoa z = decZ z := by
  unfold Go.Lib.itoa decZ
  by_cases h : z < 0
  · rw [if_pos h, if_pos h, decT_is, show z.natAbs = (-z).toNat by omega]
  · rw [if_neg h, if_neg h, decT_is]
end Go.Proofs.YtdabkgbbalooiaaDoor

namespace Go.Proofs.YtdabkgbbalooiaaDoor
open Go.Shelf Go.RowKit
def laysI_ren : Go.Shelf.Ren := ⟨fun | 171 => 10 | 243 => 25 | 246 => 51 | 283 => 69 | 284 => 70 | 285 => 71 | 286 => 72 | 129 => 84 | 317 => 83 | 318 => 85 | 319 => 86 | 320 => 87 | 337 => 88 | 338 => 89 | n => n, fun | 3 => 3 | 9 => 9 | 2 => 2 | 4 => 4 | 171 => 108 | 0 => 0 | 53 => 43 | 37 => 102 | 5 => 5 | 173 => 111 | 212 => 119 | 51 => 114 | 20 => 20 | 213 => 120 | 46 => 94 | 232 => 121 | 233 => 122 | n => n, fun | 17 => 0 | 18 => 1 | 19 => 2 | n => n⟩
theorem laysI : Go.Proofs.LaysM.n171 Tryd.prog laysI_ren := {
  mixed := by kernel_rfl
  f129 := Tryd.func84.trans (congrArg some (by kernel_rfl))
  f171 := Tryd.func10.trans (congrArg some (by kernel_rfl))
  f243 := Tryd.func25.trans (congrArg some (by kernel_rfl))
  f246 := Tryd.func51.trans (congrArg some (by kernel_rfl))
  f283 := Tryd.func69.trans (congrArg some (by kernel_rfl))
  f284 := Tryd.func70.trans (congrArg some (by kernel_rfl))
  f285 := Tryd.func71.trans (congrArg some (by kernel_rfl))
  f286 := Tryd.func72.trans (congrArg some (by kernel_rfl))
  f317 := Tryd.func83.trans (congrArg some (by kernel_rfl))
  f318 := Tryd.func85.trans (congrArg some (by kernel_rfl))
  f319 := Tryd.func86.trans (congrArg some (by kernel_rfl))
  f320 := Tryd.func87.trans (congrArg some (by kernel_rfl))
  f337 := Tryd.func88.trans (congrArg some (by kernel_rfl))
  f338 := Tryd.func89.trans (congrArg some (by kernel_rfl))
  t0 := Tryd.underlying0
  a0 := Tryd.isAgg0
  z0 := Tryd.sizeOf0
  v0 := Tryd.zeroValue0
  t2 := Tryd.underlying2
  a2 := Tryd.isAgg2
  z2 := Tryd.sizeOf2
  v2 := Tryd.zeroValue2
  t3 := Tryd.underlying3
  a3 := Tryd.isAgg3
  z3 := Tryd.sizeOf3
  v3 := Tryd.zeroValue3
  t4 := Tryd.underlying4
  a4 := Tryd.isAgg4
  z4 := Tryd.sizeOf4
  v4 := Tryd.zeroValue4
  t5 := Tryd.underlying5
  a5 := Tryd.isAgg5
  z5 := Tryd.sizeOf5
  v5 := Tryd.zeroValue5
  t9 := Tryd.underlying9
  a9 := Tryd.isAgg9
  z9 := Tryd.sizeOf9
  v9 := Tryd.zeroValue9
  t20 := Tryd.underlying20
  a20 := Tryd.isAgg20
  z20 := Tryd.sizeOf20
  v20 := Tryd.zeroValue20
  t37 := Tryd.underlying102
  a37 := Tryd.isAgg102
  z37 := Tryd.sizeOf102
  v37 := Tryd.zeroValue102
  t46 := Tryd.underlying94
  a46 := Tryd.isAgg94
  z46 := Tryd.sizeOf94
  v46 := Tryd.zeroValue94
  t51 := Tryd.underlying114
  a51 := Tryd.isAgg114
  z51 := Tryd.sizeOf114
  v51 := Tryd.zeroValue114
  t53 := Tryd.underlying43
  a53 := Tryd.isAgg43
  z53 := Tryd.sizeOf43
  v53 := Tryd.zeroValue43
  t171 := Tryd.underlying108
  a171 := Tryd.isAgg108
  z171 := Tryd.sizeOf108
  v171 := Tryd.zeroValue108
  t173 := Tryd.underlying111
  a173 := Tryd.isAgg111
  z173 := Tryd.sizeOf111
  v173 := Tryd.zeroValue111
  t212 := Tryd.underlying119
  a212 := Tryd.isAgg119
  z212 := Tryd.sizeOf119
  v212 := Tryd.zeroValue119
  t213 := Tryd.underlying120
  a213 := Tryd.isAgg120
  z213 := Tryd.sizeOf120
  t232 := Tryd.underlying121
  a232 := Tryd.isAgg121
  z232 := Tryd.sizeOf121
  v232 := Tryd.zeroValue121
  t233 := Tryd.underlying122
  a233 := Tryd.isAgg122
  z233 := Tryd.sizeOf122
  v233 := Tryd.zeroValue122
  g17 := by kernel_rfl
  g18 := by kernel_rfl
  g19 := by kernel_rfl
  i0 := by kernel_rfl
  i2 := by kernel_rfl
  i3 := by kernel_rfl
  i4 := by kernel_rfl
  i5 := by kernel_rfl
  i9 := by kernel_rfl
  i20 := by kernel_rfl
  i37 := by kernel_rfl
  i46 := by kernel_rfl
  i51 := by kernel_rfl
  i53 := by kernel_rfl
  i171 := by kernel_rfl
  i173 := by kernel_rfl
  i212 := by kernel_rfl
  i232 := by kernel_rfl
  i233 := by kernel_rfl
  m17 := by kernel_rfl
  m18 := by kernel_rfl
  m19 := by kernel_rfl }
theorem grow_below (w : World) (k : Nat) (os : Array Obj) : Below w.heap.size w (Sort.grow (w.drewN k) os) := by
  refine ⟨rfl, rfl, rfl, ?_, fun j hj => ?_⟩
  · show w.heap.size ≤ (w.heap ++ os).size
    rw [Array.size_append]; omega
  · show (w.heap ++ os)[j]? = w.heap[j]?
    rw [Array.getElem?_append_left hj]
/-- The table of the power tables of strconv. -/
abbrev Pow10 (w : World) : Prop := Lib.TabIs Tryd.prog w "internal/strconv.uint64pow10" .u64 Lib.pow10Tab
/-- What strconv.Itoa answers: the text of a whole number. -/
theorem Itoa_ok (n : Int) (w : World) (h0 : -9223372036854775808 ≤ n) (h1 : n ≤ 9223372036854775807) (htab : Lib.TabIs Tryd.prog w "internal/strconv.uint64pow10" .u64 Lib.pow10Tab) :
    Calls Tryd.prog 10 #[.int .i64 n] w fun e w' => e = .returned (.string ⟨(decZ n).toArray⟩) ∧ Below w.heap.size w w' := by
  refine (Any.strconv_Itoa laysI n h0 h1 w htab).mono ?_
  rintro e w' ⟨rfl, k, os, rfl⟩
  exact ⟨by rw [itoa_is], grow_below w k os⟩
end Go.Proofs.YtdabkgbbalooiaaDoor

namespace Go.Proofs.YtdabkgbbalooiaaDoor
open Go.RowKit
theorem g10 : Tryd.prog.globalNamed "internal/strconv.uint64pow10" = some 0 := by kernel_rfl
theorem t10 : (Tryd.prog.globals[0]?).map (·.type) = some 119 := by kernel_rfl
theorem cU : Tryd.prog.cellsOf 43 = 1 := by kernel_rfl
theorem c20 : Tryd.prog.cellsOf 119 = 20 := by kernel_rfl
theorem pow10_of {W : World} {x y : String × DataW Unit} {rest : List (String × DataW Unit)} (hx : ((x :: y :: ("internal/strconv.uint64pow10", Rows.laid_internal_strconv_uint64pow10) :: rest).all fun x => x.2.handleName?.isNone) = true)
    (h : laidMetH Tryd.prog (x :: y :: ("internal/strconv.uint64pow10", Rows.laid_internal_strconv_uint64pow10) :: rest) W) : Pow10 W := by
  rw [MakeChecks.laidMetH_plain _ _ _ hx] at h
  have h2 : laidMet Tryd.prog (("internal/strconv.uint64pow10", Lib.tabData .u64 Lib.pow10Tab) :: rest) W := h.tail.tail
  exact Lib.tabIs_of_head g10 t10 Tryd.underlying119 Tryd.underlying43 cU c20 h2
end Go.Proofs.YtdabkgbbalooiaaDoor

namespace Go.Proofs.YtdabkgbbalooiaaDoor
open Go.RowKit

/-- A block of T numbers, of whatever sign. -/
structure TblZ (g : Nat) (w : World) (T : Nat) (f : Nat → Int) : Prop where
  cell : ∀ i, i < T → w.cell? ⟨g, i, none⟩ = some (.int .i64 (f i))
  frozen : ∀ i, w.frozen? ⟨g, i, none⟩ = false
  size : g < w.heap.size
theorem TblZ.set {g : Nat} {w : World} {T : Nat} {f f' : Nat → Int} (h : TblZ g w T f) (j : Nat) (x : Int) (hj : j < T) (hf : ∀ i, i < T → f' i = if j = i then x else f i) : TblZ g (w.setCell ⟨g, j, none⟩ (.int .i64 x)) T f' := by
  refine ⟨fun i hi => ?_, fun i => (World.frozen?_setCell _ _ _ _).trans (h.frozen i), by simpa using h.size⟩
  rw [hf i hi]
  by_cases e : j = i
  · subst e
    rw [World.cell?_setCell_same _ _ _ (h.cell j hj)]; simp
  · rw [World.cell?_setCell_other _ _ _ _ (by simp), h.cell i hi]
    simp [e]
theorem TblZ.congr {g : Nat} {w : World} {T : Nat} {f f' : Nat → Int} (h : TblZ g w T f) (hf : ∀ i, i < T → f' i = f i) : TblZ g w T f' := ⟨fun i hi => by rw [hf i hi]; exact h.cell i hi, h.frozen, h.size⟩
theorem TblZ.below {g : Nat} {w w' : World} {T : Nat} {f : Nat → Int} (h : TblZ g w T f) (hb : Below w.heap.size w w') : TblZ g w' T f :=
  ⟨fun i hi => (hb.cell (p := ⟨g, i, none⟩) h.size).trans (h.cell i hi), fun i => (froz_below hb h.size).trans (h.frozen i), Nat.lt_of_lt_of_le h.size hb.size⟩
def RkZ (w : World) (v : Value) (T : Nat) (f : Nat → Int) : Prop := ∃ b off cap, v = .slice (some ⟨b, off, none⟩) T cap ∧ b < w.heap.size ∧ ∀ i, i < T → w.cell? ⟨b, off + i, none⟩ = some (.int .i64 (f i))
theorem RkZ.below {w w' : World} {v : Value} {T : Nat} {f : Nat → Int} (h : RkZ w v T f) (hb : Below w.heap.size w w') : RkZ w' v T f := by
  obtain ⟨b, off, cap, rfl, h1, h2⟩ := h
  exact ⟨b, off, cap, rfl, Nat.lt_of_lt_of_le h1 hb.size, fun i hi => (hb.cell (p := ⟨b, off + i, none⟩) h1).trans (h2 i hi)⟩
/-- A row being filled. -/
def ztab (k : Nat) (a : Nat → Int) (b : Int) (i : Nat) : Int := if i < k then a i else if i = k then b else 0
theorem ztab_lt {k i : Nat} {b : Int} {a : Nat → Int} (h : i < k) : ztab k a b i = a i := if_pos h
theorem ztab_at {k : Nat} {b : Int} {a : Nat → Int} : ztab k a b k = b := by unfold ztab; simp
theorem ztab_set {k : Nat} {b b' : Int} {a : Nat → Int} (i : Nat) : ztab k a b' i = if k = i then b' else ztab k a b i := by
  unfold ztab
  by_cases h : k = i
  · subst h
    simp
  · have h2 : ¬ i = k := fun e => h e.symm
    simp [h, h2]
theorem ztab_up {k : Nat} {a : Nat → Int} (i : Nat) : ztab (k + 1) a 0 i = ztab k a (a k) i := by
  unfold ztab
  by_cases h : i < k
  · rw [if_pos h, if_pos (by omega)]
  · by_cases h2 : i = k
    · subst h2
      simp
    · have h3 : ¬ i < k + 1 := by omega
      simp [h, h2, h3]
theorem TblZ.new (w : World) (T : Nat) (t : TypeId) : TblZ w.heap.size (w.alloc (.cells (madeCells #[.int .i64 0] T) t)) T (fun _ => 0) := by
  refine ⟨fun i hi => ?_, fun i => World.frozen?_alloc_at _ _ _ _ rfl, by simp⟩
  rw [World.cell?_alloc_at _ _ _ _ rfl]
  simp [madeCells, hi, Nat.mod_one]
theorem TblZ.drewN {g : Nat} {w : World} {T : Nat} {f : Nat → Int} (h : TblZ g w T f) (n : Nat) : TblZ g (w.drewN n) T f := ⟨h.cell, h.frozen, h.size⟩
theorem TblZ.drew {g : Nat} {w : World} {T : Nat} {f : Nat → Int} (h : TblZ g w T f) : TblZ g w.drew T f := ⟨h.cell, h.frozen, h.size⟩
theorem TblZ.rkZ {g : Nat} {w : World} {T cap : Nat} {f : Nat → Int} (h : TblZ g w T f) : RkZ w (.slice (some ⟨g, 0, none⟩) T cap) T f := ⟨g, 0, cap, rfl, h.size, fun i hi => by rw [Nat.zero_add]; exact h.cell i hi⟩
theorem RkAt.cellAt {w w' : World} {b off cap T : Nat} {r : Nat → Nat} (h : RkAt w (.slice (some ⟨b, off, none⟩) T cap) T r) (hb : Below w.heap.size w w') {i : Nat} (hi : i < T) : w'.cell? ⟨b, off + i, none⟩ = some (.int .i64 (r i : Nat)) := by
  obtain ⟨b', off', cp', e, h1, h2⟩ := h.below hb
  obtain ⟨⟨rfl, rfl⟩, rfl⟩ : (b = b' ∧ off = off') ∧ cap = cp' := by simpa using e
  exact h2 i hi
theorem RkZ.cellAt {w w' : World} {b off cap T : Nat} {r : Nat → Int} (h : RkZ w (.slice (some ⟨b, off, none⟩) T cap) T r) (hb : Below w.heap.size w w') {i : Nat} (hi : i < T) : w'.cell? ⟨b, off + i, none⟩ = some (.int .i64 (r i)) := by
  obtain ⟨b', off', cp', e, h1, h2⟩ := h.below hb
  obtain ⟨⟨rfl, rfl⟩, rfl⟩ : (b = b' ∧ off = off') ∧ cap = cp' := by simpa using e
  exact h2 i hi
end Go.Proofs.YtdabkgbbalooiaaDoor
