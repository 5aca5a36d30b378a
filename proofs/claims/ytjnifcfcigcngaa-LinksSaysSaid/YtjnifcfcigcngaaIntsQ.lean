/- A slice of integers as a list; the contracts of package sets' readers: isGround, Family, within, meetsAll, hasOtherWithin, hasOtherAround, canSpareOne. -/
import Derived.Test.YtjnifcfcigcngaaBitsQ
import Derived.Lib.SmallJoins
namespace Go.Proofs.Ytjnifcfcigcngaa
open Go.RowKit

theorem ofInt_i64 (a : Nat) (ha : a < 9223372036854775808) : (BitVec.ofInt 64 (a : Int)).toNat = a := by
  rw [BitVec.ofInt_natCast, BitVec.toNat_ofNat]; exact Nat.mod_eq_of_lt (by omega)
theorem wrap_i64_nat (n : Nat) (h : n < 9223372036854775808) : IntKind.i64.wrap (n : Int) = n := by
  simp [IntKind.wrap, IntKind.bits, IntKind.signed]
  omega
theorem i64_and_nat (a b : Nat) (ha : a < 9223372036854775808) (hb : b < 9223372036854775808) : bits .and .i64 (a : Int) (b : Int) = ((a &&& b : Nat) : Int) := by
  have hlt : a &&& b < 9223372036854775808 := Nat.lt_of_le_of_lt Nat.and_le_left ha
  show IntKind.i64.wrap ((BitVec.ofInt 64 (a : Int) &&& BitVec.ofInt 64 (b : Int)).toNat : Int) = _
  rw [BitVec.toNat_and, ofInt_i64 a ha, ofInt_i64 b hb, wrap_i64_nat _ hlt]
theorem i64_or_nat (a b : Nat) (ha : a < 9223372036854775808) (hb : b < 9223372036854775808) : bits .or .i64 (a : Int) (b : Int) = ((a ||| b : Nat) : Int) := by
  have hlt : a ||| b < 2 ^ 63 := Nat.or_lt_two_pow (by omega) (by omega)
  show IntKind.i64.wrap ((BitVec.ofInt 64 (a : Int) ||| BitVec.ofInt 64 (b : Int)).toNat : Int) = _
  rw [BitVec.toNat_or, ofInt_i64 a ha, ofInt_i64 b hb, wrap_i64_nat _ (by omega)]
theorem andNot_xor (x y : BitVec 64) : x &&& ~~~y = x ^^^ (x &&& y) := by
  ext i hi
  simp
  cases x[i] <;> cases y[i] <;> rfl
theorem i64_andNot_nat (a b : Nat) (ha : a < 9223372036854775808) (hb : b < 9223372036854775808) : bits .andNot .i64 (a : Int) (b : Int) = ((a ^^^ (a &&& b) : Nat) : Int) := by
  have hlt : a ^^^ (a &&& b) < 2 ^ 63 := Nat.xor_lt_two_pow (by omega) (Nat.lt_of_le_of_lt Nat.and_le_left (by omega))
  show IntKind.i64.wrap ((BitVec.ofInt 64 (a : Int) &&& ~~~BitVec.ofInt 64 (b : Int)).toNat : Int) = _
  rw [andNot_xor, BitVec.toNat_xor, BitVec.toNat_and, ofInt_i64 a ha, ofInt_i64 b hb, wrap_i64_nat _ (by omega)]

/-- v is a slice that holds just these integers. -/
def Ints (w : World) (v : Value) (zs : List Int) : Prop :=
  ∃ a cap, v = .slice a zs.length cap ∧ zs.length ≤ 17592186044416 ∧ (0 < zs.length → ∃ b off, a = some ⟨b, off, none⟩ ∧ b < w.heap.size ∧ ∀ i, i < zs.length → w.cell? ⟨b, off + i, none⟩ = some (.int .i64 (zs.getD i 0)))

theorem Ints.below {w w' : World} {v : Value} {zs : List Int} (h : Ints w v zs) (hb : Below w.heap.size w w') : Ints w' v zs := by
  obtain ⟨a, cap, hv, hl, hc⟩ := h
  refine ⟨a, cap, hv, hl, fun hn => ?_⟩
  obtain ⟨b, off, ha, hbl, hcell⟩ := hc hn
  exact ⟨b, off, ha, Nat.lt_of_lt_of_le hbl hb.size, fun i hi => (hb.cell (p := ⟨b, off + i, none⟩) hbl).trans (hcell i hi)⟩

theorem ret_bool {a b : Bool} (h : a = b) : Ending.returned (.bool a) = .returned (.bool b) := by rw [h]

theorem isGround_yes (n : Int) (w : World) (h0 : 0 ≤ n) (h1 : n ≤ 8) :
    Calls Try.prog 43 #[.int .i64 n] w fun e w' => e = .returned (.bool true) ∧ w' = w := by
  go_enter Try.func43, Try.ntmps43
  go_wp2
  go_ret
  exact ⟨rfl, rfl⟩
theorem isGround_no (n : Int) (w : World) (h : n < 0 ∨ 8 < n) :
    Calls Try.prog 43 #[.int .i64 n] w fun e w' => e = .returned (.bool false) ∧ w' = w := by
  rcases h with h | h
  · go_enter Try.func43, Try.ntmps43
    go_wp2
    go_ret
    exact ⟨rfl, rfl⟩
  · have h0 : 0 ≤ n := by omega
    have h2 : decide (n ≤ 8) = false := by simp; omega
    go_enter Try.func43, Try.ntmps43
    go_wp2
    go_ret
    exact ⟨rfl, rfl⟩

theorem pow_wrap : ∀ n : Nat, n ≤ 8 → wrap64 (2 ^ n) = ((2 ^ n : Nat) : Int) ∧ 2 ^ n ≤ 256 := by decide +kernel
theorem drop_getD {zs : List Int} {k : Nat} (h : k < zs.length) : zs.drop k = zs.getD k 0 :: zs.drop (k + 1) := by
  rw [List.drop_eq_getElem_cons h]; simp [List.getD, h]

/-- The rest of a list rises from last on, below top. -/
def risesB (top : Int) : Int → List Int → Bool
  | _, [] => true
  | last, s :: l => decide (last < s) && decide (s < top) && risesB top s l
/-- The last one of those ahead. -/
def lastB (zs : List Int) (k : Nat) : Int := ((-1 : Int) :: zs).getD k 0
theorem lastB_succ (zs : List Int) (k : Nat) : lastB zs (k + 1) = zs.getD k 0 := rfl
/-- What Family answers. -/
def famR (n : Int) (zs : List Int) : Int := if 0 ≤ n ∧ n ≤ 8 ∧ risesB (2 ^ n.toNat) (-1) zs = true then 0 else 1
theorem famR_step {n : Nat} {zs : List Int} {T : Int} (hn : n ≤ 8) (hT : T = 2 ^ n) (k : Nat) (R : risesB T (-1) zs = risesB T (lastB zs k) (zs.drop k)) :
    famR n zs = if risesB T (lastB zs k) (zs.drop k) = true then 0 else 1 := by
  unfold famR
  rw [← R, hT]
  have h1 : (0 : Int) ≤ n ∧ (n : Int) ≤ 8 := by omega
  simp [h1]

/-- Numbers as the program has them. -/
def N (l : List Nat) : List Int := l.map fun s : Nat => (s : Int)
theorem N_len (l : List Nat) : (N l).length = l.length := by simp [N]
theorem N_getD (l : List Nat) (i : Nat) : (N l).getD i 0 = ((l.getD i 0 : Nat) : Int) := by
  unfold N
  by_cases h : i < l.length
  · simp [List.getD, h]
  · simp [List.getD, List.getElem?_eq_none (Nat.le_of_not_lt h)]
theorem Ints.nats {w : World} {v : Value} {l : List Nat} (h : Ints w v (N l)) : ∃ a cap, v = .slice a l.length cap ∧ l.length ≤ 17592186044416 ∧
    (0 < l.length → ∃ b off, a = some ⟨b, off, none⟩ ∧ b < w.heap.size ∧ ∀ i, i < l.length → w.cell? ⟨b, off + i, none⟩ = some (.int .i64 (l.getD i 0 : Nat))) := by
  obtain ⟨a, cap, hv, hl, hc⟩ := h
  rw [N_len] at hv hl hc
  exact ⟨a, cap, hv, hl, fun h => by
    obtain ⟨b, off, h1, h2, h3⟩ := hc h
    exact ⟨b, off, h1, h2, fun i hi => by rw [← N_getD]; exact h3 i hi⟩⟩


theorem all_drop {p : Nat → Bool} {l : List Nat} {k : Nat} (hk : k < l.length) : (l.drop k).all p = (p (l.getD k 0) && (l.drop (k + 1)).all p) := by
  conv => lhs; rw [List.drop_eq_getElem_cons hk, List.all_cons]
  simp [List.getD, hk]
theorem any_drop {p : Nat → Bool} {l : List Nat} {k : Nat} (hk : k < l.length) : (l.drop k).any p = (p (l.getD k 0) || (l.drop (k + 1)).any p) := by
  conv => lhs; rw [List.drop_eq_getElem_cons hk, List.any_cons]
  simp [List.getD, hk]
theorem getD_lt {l : List Nat} (hl : ∀ s ∈ l, s < 256) (k : Nat) : l.getD k 0 < 256 := by
  by_cases h : k < l.length
  · simp [List.getD, h]; exact hl _ (List.getElem_mem _)
  · simp [List.getD, List.getElem?_eq_none (Nat.le_of_not_lt h)]

end Go.Proofs.Ytjnifcfcigcngaa
