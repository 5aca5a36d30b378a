/- A slice of integers as a list; the contracts of package sets' readers: isGround, Family, within, meetsAll, hasOtherWithin, hasOtherAround, canSpareOne. -/
import Derived.Test.YtcncaaeofcmefaaBitsQ
import Derived.Lib.SmallJoins
namespace Go.Proofs.Ytcncaaeofcmefaa
open Go.RowKit

theorem ofInt_i64 (a : Nat) (ha : a < 9223372036854775808) : (BitVec.ofInt 64 (a : Int)).toNat = a := by
  rw [BitVec.ofInt_natCast, BitVec.toNat_ofNat]; exact Nat.mod_eq_of_lt (by omega)
theorem wrap_i64_nat (n : Nat) (h : n < 9223372036854775808) : IntKind.i64.wrap (n : Int) = n := by
  simp [IntKind.wrap, IntKind.bits, IntKind.signed]
  omega
theorem i64_and_nat (a b : Nat) (ha : a < 9223372036854775808) (hb : b < 9223372036854775808) : bits .and .i64 (a : Int) (b : Int) = ((a &&& b : Nat) : Int) := by
  have hlt : a &&& b < 9223372036854775808 := Nat.lt_of_le_of_lt Nat.and_le_left ha
  show IntKind.i64.wrap ((BitVec.ofInt 64 (a : Int) &&& BitVec.ofInt 64 (b : Int)).toNat : Int) = _
  rw [BitVec.toNat_and, ofInt_i64 a ha, ofInt_i64 b hb, wrap_i64_nat _ hlt]
theorem i64_or_nat (a b : Nat) (ha : a < 9223372036854775808) (hb : b < 9223372036854775808) : bits .or .i64 (a : Int) (b : Int) = ((a ||| b : Nat) : Int) := by
  have hlt : a ||| b < 2 ^ 63 := Nat.or_lt_two_pow (by omega) (by omega)
  show IntKind.i64.wrap ((BitVec.ofInt 64 (a : Int) ||| BitVec.ofInt 64 (b : Int)).toNat : Int) = _
  rw [BitVec.toNat_or, ofInt_i64 a ha, ofInt_i64 b hb, wrap_i64_nat _ (by omega)]
theorem andNot_xor (x y : BitVec 64) : x &&& ~~~y = x ^^^ (x &&& y) := by
  ext i hi
  simp
  cases x[i] <;> cases y[i] <;> rfl
theorem i64_andNot_nat (a b : Nat) (ha : a < 9223372036854775808) (hb : b < 9223372036854775808) : bits .andNot .i64 (a : Int) (b : Int) = ((a ^^^ (a &&& b) : Nat) : Int) := by
  have hlt : a ^^^ (a &&& b) < 2 ^ 63 := Nat.xor_lt_two_pow (by omega) (Nat.lt_of_le_of_lt Nat.and_le_left (by omega))
  show IntKind.i64.wrap ((BitVec.ofInt 64 (a : Int) &&& ~~~BitVec.ofInt 64 (b : Int)).toNat : Int) = _
  rw [andNot_xor, BitVec.toNat_xor, BitVec.toNat_and, ofInt_i64 a ha, ofInt_i64 b hb, wrap_i64_nat _ (by omega)]

/-- v is a slice that holds just these integers. -/
def Ints (w : World) (v : Value) (zs : List Int) : Prop :=
  ∃ a cap, v = .slice a zs.length cap ∧ zs.length ≤ 17592186044416 ∧ (0 < zs.length → ∃ b off, a = some ⟨b, off, none⟩ ∧ b < w.heap.size ∧ ∀ i, i < zs.length → w.cell? ⟨b, off + i, none⟩ = some (.int .i64 (zs.getD i 0)))

theorem Ints.below {w w' : World} {v : Value} {zs : List Int} (h : Ints w v zs) (hb : Below w.heap.size w w') : Ints w' v zs := by
  obtain ⟨a, cap, hv, hl, hc⟩ := h
  refine ⟨a, cap, hv, hl, fun hn => ?_⟩
  obtain ⟨b, off, ha, hbl, hcell⟩ := hc hn
  exact ⟨b, off, ha, Nat.lt_of_lt_of_le hbl hb.size, fun i hi => (hb.cell (p := ⟨b, off + i, none⟩) hbl).trans (hcell i hi)⟩

theorem ret_bool {a b : Bool} (h : a = b) : Ending.returned (.bool a) = .returned (.bool b) := by rw [h]

theorem pow_wrap : ∀ n : Nat, n ≤ 8 → wrap64 (2 ^ n) = ((2 ^ n : Nat) : Int) ∧ 2 ^ n ≤ 256 := by decide +kernel
theorem drop_getD {zs : List Int} {k : Nat} (h : k < zs.length) : zs.drop k = zs.getD k 0 :: zs.drop (k + 1) := by
  rw [List.drop_eq_getElem_cons h]; simp [List.getD, h]

/-- The rest of a list rises from last on, below top. -/
def risesB (top : Int) : Int → List Int → Bool
  | _, [] => true
  | last, s :: l => decide (last < s) && decide (s < top) && risesB top s l
/-- The last one of those ahead. -/
def lastB (zs : List Int) (k : Nat) : Int := ((-1 : Int) :: zs).getD k 0
theorem lastB_succ (zs : List Int) (k : Nat) : lastB zs (k + 1) = zs.getD k 0 := rfl
/-- What Family answers. -/
def famR (n : Int) (zs : List Int) : Int := if 0 ≤ n ∧ n ≤ 8 ∧ risesB (2 ^ n.toNat) (-1) zs = true then 0 else 1
theorem famR_step {n : Nat} {zs : List Int} {T : Int} (hn : n ≤ 8) (hT : T = 2 ^ n) (k : Nat) (R : risesB T (-1) zs = risesB T (lastB zs k) (zs.drop k)) :
    famR n zs = if risesB T (lastB zs k) (zs.drop k) = true then 0 else 1 := by
  unfold famR
  rw [← R, hT]
  have h1 : (0 : Int) ≤ n ∧ (n : Int) ≤ 8 := by omega
  simp [h1]

/-- Numbers as the program has them. -/
def N (l : List Nat) : List Int := l.map fun s : Nat => (s : Int)
theorem N_len (l : List Nat) : (N l).length = l.length := by simp [N]
theorem N_getD (l : List Nat) (i : Nat) : (N l).getD i 0 = ((l.getD i 0 : Nat) : Int) := by
  unfold N
  by_cases h : i < l.length
  · simp [List.getD, h]
  · simp [List.getD, List.getElem?_eq_none (Nat.le_of_not_lt h)]
theorem Ints.nats {w : World} {v : Value} {l : List Nat} (h : Ints w v (N l)) : ∃ a cap, v = .slice a l.length cap ∧ l.length ≤ 17592186044416 ∧
    (0 < l.length → ∃ b off, a = some ⟨b, off, none⟩ ∧ b < w.heap.size ∧ ∀ i, i < l.length → w.cell? ⟨b, off + i, none⟩ = some (.int .i64 (l.getD i 0 : Nat))) := by
  obtain ⟨a, cap, hv, hl, hc⟩ := h
  rw [N_len] at hv hl hc
  exact ⟨a, cap, hv, hl, fun h => by
    obtain ⟨b, off, h1, h2, h3⟩ := hc h
    exact ⟨b, off, h1, h2, fun i hi => by rw [← N_getD]; exact h3 i hi⟩⟩


theorem all_drop {p : Nat → Bool} {l : List Nat} {k : Nat} (hk : k < l.length) : (l.drop k).all p = (p (l.getD k 0) && (l.drop (k + 1)).all p) := by
  conv => lhs; rw [List.drop_eq_getElem_cons hk, List.all_cons]
  simp [List.getD, hk]
theorem any_drop {p : Nat → Bool} {l : List Nat} {k : Nat} (hk : k < l.length) : (l.drop k).any p = (p (l.getD k 0) || (l.drop (k + 1)).any p) := by
  conv => lhs; rw [List.drop_eq_getElem_cons hk, List.any_cons]
  simp [List.getD, hk]
theorem getD_lt {l : List Nat} (hl : ∀ s ∈ l, s < 256) (k : Nat) : l.getD k 0 < 256 := by
  by_cases h : k < l.length
  · simp [List.getD, h]; exact hl _ (List.getElem_mem _)
  · simp [List.getD, List.getElem?_eq_none (Nat.le_of_not_lt h)]

end Go.Proofs.Ytcncaaeofcmefaa

namespace Go.Proofs.Ytcncaaeofcmefaa
open Go.RowKit

theorem Try.infoInt : (Try.prog.info? 3).map (fun i => (i.zero, i.size, i.bytes)) = some (some (.int .i64 0), 1, 8) := by kernel_rfl
def V (l : List Nat) : List Value := l.map fun s : Nat => Value.int .i64 (s : Int)
theorem V_len (l : List Nat) : (V l).length = l.length := by simp [V]
theorem V_snoc (l : List Nat) (s : Nat) : V (l ++ [s]) = V l ++ [.int .i64 s] := by simp [V]
/-- v is a slice of the call's own that holds l. -/
def Own (B : Nat) (w : World) (v : Value) (l : List Nat) : Prop := w.ownsRow B 3 1 v l.length (V l)
theorem Own.nil (B : Nat) (w : World) : Own B w (.slice none 0 0) [] := World.ownsRow_nil _ _ _ _
theorem Own.snoc {B : Nat} {w : World} {v : Value} {l : List Nat} {s : Nat} (h : w.ownsRow B 3 1 v (l.length + 1) (V l ++ [.int .i64 s])) : Own B w v (l ++ [s]) := by
  unfold Own; rw [V_snoc]; simpa using h
theorem Own.grown {B : Nat} {w wr w1 : World} {u : Value} {l : List Nat} {o : Obj} (hown : Own B wr u l) (hnx : Below B w wr) (hB : B ≤ wr.heap.size) (hg : (wr.alloc o).grownBy w1 u.ownBlock) : Below B w w1 :=
  (hnx.alloc hB o).grown hg (by simp; omega) (fun j hj => (World.ownsRow.lt hown j hj).1)
theorem Own.below {B : Nat} {w w' : World} {v : Value} {l : List Nat} (h : Own B w v l) (hb : Below w.heap.size w w') : Own B w' v l := by
  obtain ⟨h0, h1⟩ := h
  refine ⟨h0, h1.imp_right ?_⟩
  rintro ⟨g, cap, cur, hv, hg, hheap, hr⟩
  have hlt : g < w.heap.size := by
    rcases Nat.lt_or_ge g w.heap.size with h | h
    · exact h
    · rw [Array.getElem?_eq_none h] at hheap; cases hheap
  exact ⟨g, cap, cur, hv, hg, (hb.block g hlt).trans hheap, hr⟩
theorem Own.mono {B B' : Nat} {w : World} {v : Value} {l : List Nat} (h : Own B w v l) (hb : B' ≤ B) : Own B' w v l := Go.Joins.ownsRow_le h hb
theorem Own.ints {B : Nat} {w : World} {v : Value} {l : List Nat} (h : Own B w v l) (hl : l.length ≤ 17592186044416) : Ints w v (N l) := by
  rcases Go.Joins.ownsRow_forms h with ⟨rfl, h0⟩ | ⟨g, cap, rfl⟩
  · have : l = [] := List.length_eq_zero_iff.1 h0
    subst this
    exact ⟨none, 0, rfl, by simp [N], fun h => by simp [N] at h⟩
  · refine ⟨_, cap, by rw [N_len], by rw [N_len]; exact hl, fun hn => ⟨g, 0, rfl, ?_, fun i hi => ?_⟩⟩
    · exact (World.ownsRow.lt h g rfl).2
    · rw [N_len] at hi
      rw [Nat.zero_add, World.ownsRow.cellAt h i (by omega), N_getD]
      simp [V, List.getD, hi]

theorem Tabbed.below {w w' : World} (_ : Tabbed w) (_ : Below w.heap.size w w') : Tabbed w' := trivial

theorem take_snoc {l : List Nat} {k : Nat} (h : k < l.length) : l.take (k + 1) = l.take k ++ [l.getD k 0] := by
  rw [List.take_add_one]; simp [List.getD, h]
theorem filter_hit {p : Nat → Bool} {l : List Nat} {k : Nat} (h : k < l.length) (hp : p (l.getD k 0) = true) : (l.take (k + 1)).filter p = (l.take k).filter p ++ [l.getD k 0] := by
  rw [take_snoc h, List.filter_append, List.filter_cons, hp]; simp
theorem filter_miss {p : Nat → Bool} {l : List Nat} {k : Nat} (h : k < l.length) (hp : p (l.getD k 0) = false) : (l.take (k + 1)).filter p = (l.take k).filter p := by
  rw [take_snoc h, List.filter_append, List.filter_cons, hp]; simp
theorem filter_le (p : Nat → Bool) (l : List Nat) (k : Nat) : ((l.take k).filter p).length ≤ k := Nat.le_trans (List.length_filter_le _ _) (List.length_take_le _ _)
theorem family_err (n : Int) (v : Value) (zs : List Int) (w : World) (h : Ints w v zs) (hf : famR n zs ≠ 0) : ∃ a cap, v = .slice a zs.length cap ∧ famR n zs = 1 := by
  obtain ⟨a, cap, hv, _⟩ := h
  refine ⟨a, cap, hv, ?_⟩
  unfold famR at *
  split at hf
  · exact absurd rfl hf
  · rename_i h; rw [if_neg h]
end Go.Proofs.Ytcncaaeofcmefaa
