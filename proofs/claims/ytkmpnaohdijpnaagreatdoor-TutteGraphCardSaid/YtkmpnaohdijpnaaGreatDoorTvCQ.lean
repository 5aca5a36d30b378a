/- tutte.At. -/
import Derived.Test.YtkmpnaohdijpnaaGreatDoorTvBQ
import Derived.Test.YtkmpnaohdijpnaaGreatDoorTtDQ
import Derived.Test.YtkmpnaohdijpnaaGreatDoorPlainAll1
import Derived.Test.YtkmpnaohdijpnaaGreatDoorPlainAll
namespace Go.Proofs.YtkmpnaohdijpnaaGreatDoor
open Go.RowKit Go.Lib

theorem horn_from (f : Nat → Int) (y : Int) : ∀ (M : Nat) (a : Int), (downTo M).foldl (fun a j => a * y + f j) a = a * y ^ M + tal (fun j => f j * y ^ j) (List.range M)
  | 0, a => by simp [downTo, tal]
  | M + 1, a => by
    rw [down_succ, List.foldl_cons, horn_from f y M, tal_range, Int.add_mul, Int.mul_assoc, Int.pow_succ, Int.mul_comm y]
    omega
theorem horn_down (f : Nat → Int) (y : Int) (M : Nat) : hornZ f y (downTo M) = tal (fun j => f j * y ^ j) (List.range M) := by
  unfold hornZ
  rw [horn_from, Int.zero_mul, Int.zero_add]
theorem tal_pick (F : Nat → Int) {a n : Nat} (h : a < n) : tal (fun i => (if a = i then 1 else 0) * F i) (List.range n) = F a := by
  induction n with
  | zero => omega
  | succ n ih =>
    rw [tal_range]
    by_cases e : a = n
    · subst e
      rw [tal_congr (G := fun _ => 0) (fun i hi => by rw [if_neg (by have := List.mem_range.1 hi; omega), Int.zero_mul]), tal_const, if_pos rfl]
      omega
    · rw [ih (by omega), if_neg e]; omega
theorem tal_mulT (c : Int) (F : Nat → Int) : ∀ l : List Nat, tal (fun x => F x * c) l = tal F l * c
  | [] => by simp [tal]
  | x :: l => by simp only [tal, tal_mulT c F l, Int.add_mul]
theorem tt_tal (n : Nat) (l : List Nat) (i j : Nat) : (ttN n l i j : Int) = tal (fun b => (if pop (actI l b n) = i then 1 else 0) * (if pop (actO l b n) = j then 1 else 0)) l := by
  rw [tt_wt]
  unfold wt
  refine tal_congr fun b _ => ?_
  by_cases h1 : pop (actI l b n) = i <;> by_cases h2 : pop (actO l b n) = j <;> simp [h1, h2]
theorem horn_pv {m : Nat} {l : List Nat} (hm : m ≤ 8) (hf : Fam m l) (hb : Bas l) (x y : Int) : hornZ (fun i => hornZ (fun j => (ttN m l i j : Int)) y (downTo (m - rk l (2 ^ m - 1) + 1))) x (downTo (rk l (2 ^ m - 1) + 1)) = pvZ m l x y := by
  rw [horn_down]
  have h1 : ∀ i, hornZ (fun j => (ttN m l i j : Int)) y (downTo (m - rk l (2 ^ m - 1) + 1)) = tal (fun b => (if pop (actI l b m) = i then 1 else 0) * y ^ pop (actO l b m)) l := fun i => by
    rw [horn_down]
    rw [tal_congr (G := fun j => tal (fun b => (if pop (actI l b m) = i then 1 else 0) * ((if pop (actO l b m) = j then 1 else 0) * y ^ j)) l) (fun j _ => by
      rw [tt_tal, ← tal_mulT]; exact tal_congr fun b _ => by rw [Int.mul_assoc])]
    rw [tal_swapT]
    refine tal_congr fun b hbl => ?_
    rw [tal_mul, tal_pick (fun j => y ^ j) (by have := actO_pop hm hf hb hbl; omega)]
  rw [tal_congr (G := fun i => tal (fun b => (if pop (actI l b m) = i then 1 else 0) * (y ^ pop (actO l b m) * x ^ i)) l) (fun i _ => by
    rw [h1, ← tal_mulT]; exact tal_congr fun b _ => by rw [Int.mul_assoc]), tal_swapT]
  unfold pvZ wt
  refine tal_congr fun b hbl => ?_
  rw [tal_pick (fun i => y ^ pop (actO l b m) * x ^ i) (by have := actI_pop hf hb hbl; omega), Int.mul_comm]
theorem pow_abs {x : Int} (h1 : -1000 ≤ x) (h2 : x ≤ 1000) : ∀ k : Nat, -(1000 ^ k : Nat) ≤ x ^ k ∧ x ^ k ≤ (1000 ^ k : Nat)
  | 0 => by simp
  | k + 1 => by
    obtain ⟨a, b⟩ := pow_abs h1 h2 k
    have e : ((1000 ^ (k + 1) : Nat) : Int) = ((1000 ^ k : Nat) : Int) * 1000 := by rw [Nat.pow_succ, Int.natCast_mul]; rfl
    have h3 := Int.natAbs_mul (x ^ k) x
    rw [Int.pow_succ, e]
    have h4 : (x ^ k).natAbs ≤ 1000 ^ k := by omega
    have h5 : x.natAbs ≤ 1000 := by omega
    have h6 := Nat.mul_le_mul h4 h5
    rw [← h3] at h6
    have h7 : ((1000 ^ k * 1000 : Nat) : Int) = ((1000 ^ k : Nat) : Int) * 1000 := by rw [Int.natCast_mul]; rfl
    omega
theorem tal_boundC (c : Nat) {F : Nat → Int} : ∀ l : List Nat, (∀ b ∈ l, -(c : Int) ≤ F b ∧ F b ≤ c) → -((c * l.length : Nat) : Int) ≤ tal F l ∧ tal F l ≤ ((c * l.length : Nat) : Int)
  | [], _ => by simp [tal]
  | b :: l, h => by
    have h1 := h b (by simp)
    have h2 := tal_boundC c l fun x hx => h x (by simp [hx])
    simp only [tal, List.length_cons, Nat.mul_succ]
    omega
theorem pv_bound {m : Nat} {l : List Nat} (hm : m ≤ 8) (hf : Fam m l) (hb : Bas l) {x y : Int} (hx1 : -1000 ≤ x) (hx2 : x ≤ 1000) (hy1 : -1000 ≤ y) (hy2 : y ≤ 1000) : -170141183460469231731687303715884105728 ≤ pvZ m l x y ∧ pvZ m l x y < 170141183460469231731687303715884105728 := by
  have h := tal_boundC (1000 ^ 8) (F := fun b => x ^ pop (actI l b m) * y ^ pop (actO l b m)) l fun b hbl => by
    have a1 := actI_pop hf hb hbl
    have a2 := actO_pop hm hf hb hbl
    obtain ⟨p1, p2⟩ := pow_abs hx1 hx2 (pop (actI l b m))
    obtain ⟨q1, q2⟩ := pow_abs hy1 hy2 (pop (actO l b m))
    have h3 := Int.natAbs_mul (x ^ pop (actI l b m)) (y ^ pop (actO l b m))
    have h4 : (x ^ pop (actI l b m)).natAbs ≤ 1000 ^ pop (actI l b m) := by omega
    have h5 : (y ^ pop (actO l b m)).natAbs ≤ 1000 ^ pop (actO l b m) := by omega
    have h6 := Nat.mul_le_mul h4 h5
    rw [← h3, ← Nat.pow_add] at h6
    have h7 : 1000 ^ (pop (actI l b m) + pop (actO l b m)) ≤ 1000 ^ 8 := Nat.pow_le_pow_right (by omega) (by omega)
    show -((1000 ^ 8 : Nat) : Int) ≤ x ^ pop (actI l b m) * y ^ pop (actO l b m) ∧ x ^ pop (actI l b m) * y ^ pop (actO l b m) ≤ ((1000 ^ 8 : Nat) : Int)
    generalize x ^ pop (actI l b m) * y ^ pop (actO l b m) = z at *
    omega
  have hl := fam_lenT hm hf
  have h2 : 1000 ^ 8 * l.length ≤ 1000 ^ 8 * 256 := Nat.mul_le_mul_left _ hl
  unfold pvZ wt
  generalize tal (fun b => x ^ pop (actI l b m) * y ^ pop (actO l b m)) l = z at *
  omega
theorem isFrom_any (a b n : Int) (w : World) : Calls Tryz.prog 27 #[.int .i64 a, .int .i64 b, .int .i64 n] w fun e w' => e = .returned (.bool (decide (a ≤ n) && decide (n ≤ b))) ∧ w' = w := by
  by_cases h1 : a ≤ n <;> by_cases h2 : n ≤ b
  all_goals (
    go_enter Tryz.func27, Tryz.ntmps27
    go_wp2_with fail
    go_ret
    exact ⟨by simp [h1, h2], rfl⟩)
set_option maxRecDepth 20000 in
theorem At_ok (m : Nat) (v : Value) (l : List Nat) (x y : Int) (w : World) (hm : m ≤ 8) (hf : Fam m l) (hb : Bas l) (hx1 : -1000 ≤ x) (hx2 : x ≤ 1000) (hy1 : -1000 ≤ y) (hy2 : y ≤ 1000) (h : Ints w v (N l)) :
    Calls Tryz.prog 11 #[.agg #[.int .i64 m, v], .int .i64 x, .int .i64 y] w fun e w' => e = .returned (.tuple #[.string ⟨(decZ (pvZ m l x y)).toArray⟩, .int .i64 0]) ∧ Below w.heap.size w w' := by
  have hB0 := below_box w #[.int .i64 m, v]
  have HC := hid (check_any m v (N l) _ (h.below hB0))
  rw [chk_mk hm hf hb] at HC
  have HP := hid (fun w h => poly_any m v l w hm hf hb h)
  have HI := hid (h.below hB0)
  have HX : Hid (∀ w2, Below (w.alloc (.cells #[.int .i64 m, v] 36)).heap.size (w.alloc (.cells #[.int .i64 m, v] 36)) w2 → _) := fun w2 hb => box_cells hb
  have HB0 := hid hB0
  have F1 := hid (fun w => isFrom_any (-1000) 1000 x w)
  have F2 := hid (fun w => isFrom_any (-1000) 1000 y w)
  rw [show (decide (-1000 ≤ x) && decide (x ≤ 1000)) = true by simp [hx1, hx2]] at F1
  rw [show (decide (-1000 ≤ y) && decide (y ≤ 1000)) = true by simp [hy1, hy2]] at F2
  have hlen := fam_lenT hm hf
  have hRm := rank_n hm hb
  have VA := hid (fun g cap w (ht : TblM g w (rk l (2 ^ m - 1) + 1) (m - rk l (2 ^ m - 1) + 1) fun i j => (ttN m l i j : Int)) => valueAt_any g _ _ cap _ x y w (by omega) (by omega) (by omega) (by omega) (by omega) (by omega) (fun i j => by have := ttN_le m l i j; omega) ht)
  rw [horn_pv hm hf hb] at VA
  obtain ⟨b1, b2⟩ := pv_bound hm hf hb hx1 hx2 hy1 hy2
  have ST := hid (fun w => WString_any (pvZ m l x y) w b1 b2)
  obtain ⟨z, HZ⟩ : ∃ z, Hid (pvZ m l x y = z) := ⟨_, rfl⟩
  rw [HZ.out] at VA ST ⊢
  obtain ⟨zh, zl, z3, z4, EZ, wz⟩ := wv_open (zto z) (zto_lt z)
  rw [wz] at VA ST
  obtain ⟨a, cap, rfl, -, -⟩ := h
  clear hB0 b1 b2 wz hb hf
  generalize decZ z = dz' at *
  obtain ⟨R1, HR1⟩ : ∃ R1, Hid (rk l (2 ^ m - 1) + 1 = R1) := ⟨_, rfl⟩
  rw [HR1.out] at HP VA
  go_enter Tryz.func11, Tryz.ntmps11
  go_wp2_with fail
  refine HC.out.mono ?_
  rintro e w1 ⟨rfl, hb1⟩
  obtain ⟨x0, x1⟩ := HX.out w1 hb1
  have HI1 := hid (HI.out.below hb1)
  have HB1 := hid (HB0.out.trans (hb1.mono HB0.out.size))
  clear hb1
  go_wp2_with (first | (go_at_call_of 27 (Value.int IntKind.i64 x); (with_reducible refine (F1.out _).mono ?_); rintro e w' ⟨rfl, rfl⟩) | (go_at_call 27; (with_reducible refine (F2.out _).mono ?_); rintro e w' ⟨rfl, rfl⟩) | (go_at_call 27; (with_reducible refine (F1.out _).mono ?_); rintro e w' ⟨rfl, rfl⟩))
  refine (HP.out _ HI1.out).mono ?_
  rintro e w2 ⟨g, rfl, hg, ht, hb2⟩
  have VA2 := hid (VA.out g R1 w2 ht)
  have HB2 := hid (HB1.out.trans (hb2.mono HB1.out.size))
  clear ht hb2
  go_wp2_with fail
  refine VA2.out.mono ?_
  rintro e w3 ⟨rfl, hb3⟩
  have HB3 := hid (HB2.out.trans (hb3.mono HB2.out.size))
  clear hb3
  go_wp2_with fail
  refine (ST.out _).mono ?_
  rintro e w4 ⟨rfl, hb4⟩
  have HB4 := hid (HB3.out.trans (hb4.mono HB3.out.size))
  clear hb4
  go_wp2_with fail
  go_ret2
  exact ⟨rfl, HB4.out⟩
end Go.Proofs.YtkmpnaohdijpnaaGreatDoor
