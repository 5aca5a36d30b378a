/- axioms.family, for whatever function answers as p does by the ranks; sets.Check. -/
import Derived.Test.YtgdcfogikchjeaaRanksWW
import Derived.Test.YtgdcfogikchjeaaSieveW
import Derived.Deep.QuietTactic
import Derived.BigQuiet
namespace Go.Proofs.Ytgdcfogikchjeaa
open Go.RowKit

/-- What sets.Check answers. -/
def setR (n s : Int) : Int := if 0 ≤ n ∧ n ≤ 8 ∧ 0 ≤ s ∧ s < 2 ^ n.toNat then 0 else 1
theorem setsCheck_any (n s : Int) (w : World) : Calls Try.prog 70 #[.int .i64 n, .int .i64 s] w fun e w' => e = .returned (.int .i64 (setR n s)) ∧ w' = w := by
  by_cases hn : 0 ≤ n ∧ n ≤ 8
  · obtain ⟨m, rfl⟩ := Int.eq_ofNat_of_zero_le hn.1
    have hm : m ≤ 8 := by omega
    obtain ⟨T, HT, hT2, hT⟩ : ∃ T : Nat, Hid (T = 2 ^ m) ∧ T ≤ 256 ∧ wrap64 (2 ^ m) = (T : Int) := ⟨2 ^ m, rfl, (pow_wrap _ hm).2, (pow_wrap _ hm).1⟩
    have E : Hid (setR m s = if 0 ≤ s ∧ s < T then 0 else 1) := by
      show _ = _
      unfold setR
      have e : ((2 ^ m : Nat) : Int) = (2 : Int) ^ m := by simp
      rw [HT.out, e]
      simp only [Int.toNat_natCast, hn, true_and]
    obtain ⟨q, HQ⟩ : ∃ q, Hid (setR m s = q) := ⟨_, rfl⟩
    rw [HQ.out]
    have E2 : Hid (q = if 0 ≤ s ∧ s < T then 0 else 1) := HQ.out.symm.trans E.out
    clear E HQ hn
    by_cases h1 : 0 ≤ s
    · by_cases h2 : s < T
      · have h2' : ¬ (T : Int) ≤ s := by omega
        go_enter Try.func70, Try.ntmps70
        go_wp2_with fail
        refine (isGround_yes _ _ (by omega) (by omega)).mono ?_
        rintro e w' ⟨rfl, rfl⟩
        go_wp2_with fail
        go_ret
        exact ⟨ret_int (by rw [E2.out, if_pos ⟨h1, h2⟩]), rfl⟩
      · have h2' : (T : Int) ≤ s := by omega
        go_enter Try.func70, Try.ntmps70
        go_wp2_with fail
        refine (isGround_yes _ _ (by omega) (by omega)).mono ?_
        rintro e w' ⟨rfl, rfl⟩
        go_wp2_with fail
        go_ret
        exact ⟨ret_int (by rw [E2.out, if_neg (by omega)]), rfl⟩
    · have h1' : s < 0 := by omega
      go_enter Try.func70, Try.ntmps70
      go_wp2_with fail
      refine (isGround_yes _ _ (by omega) (by omega)).mono ?_
      rintro e w' ⟨rfl, rfl⟩
      go_wp2_with fail
      go_ret
      exact ⟨ret_int (by rw [E2.out, if_neg (by omega)]), rfl⟩
  · have E : setR n s = 1 := by unfold setR; rw [if_neg (by omega)]
    rw [E]
    go_enter Try.func70, Try.ntmps70
    go_wp2_with fail
    refine (isGround_no _ _ (by omega)).mono ?_
    rintro e w' ⟨rfl, rfl⟩
    go_wp2_with fail
    go_ret
    exact ⟨rfl, rfl⟩

/-- A function of package axioms that answers as p does by r. -/
def ByRank (g T : Nat) (r : Nat → Nat) (p : Nat → Bool) : Prop := ∀ (v : Value) (s : Nat) (w : World), s < T → RkAt w v T r → Calls Try.prog g #[v, .int .i64 s] w fun e w' => e = .returned (.bool (p s)) ∧ Below w.heap.size w w'
theorem Sieve_at (n T g : Nat) (hT : T = 2 ^ n) (cs : Array Value) (p : Nat → Bool) (w : World) (hn : n ≤ 8) (eg : Enters g) (hg : AnswersTo w.heap.size w g cs T p) :
    Calls Try.prog 33 #[.int .i64 n, .func (.func g) #[] cs] w fun e w' => ∃ r, e = .returned r ∧ Own w.heap.size w' r ((List.range T).filter p) ∧ Below w.heap.size w w' := by
  subst hT
  exact Sieve_any n g cs p w hn eg hg
end Go.Proofs.Ytgdcfogikchjeaa

namespace Go.Proofs.Ytgdcfogikchjeaa
open Go.RowKit

theorem in_fact : ∀ s : Nat, s < 256 → ∀ i : Nat, i < 8 → ((s : Int) / 2 ^ i % 2 == 1) = s.testBit i := by decide +kernel

theorem range_hit' {p : Nat → Bool} {k : Nat} (hp : p k = true) : (List.range (k + 1)).filter p = (List.range k).filter p ++ [k] := by
  rw [List.range_succ, List.filter_append, List.filter_cons, hp]; simp
theorem range_miss' {p : Nat → Bool} {k : Nat} (hp : p k = false) : (List.range (k + 1)).filter p = (List.range k).filter p := by
  rw [List.range_succ, List.filter_append, List.filter_cons, hp]; simp
theorem range_le' (p : Nat → Bool) (k : Nat) : ((List.range k).filter p).length ≤ k := by
  have := List.length_filter_le p (List.range k); simpa using this

theorem Own.form {B : Nat} {w : World} {v : Value} {l : List Nat} (h : Own B w v l) : ∃ a cap, v = .slice a l.length cap := by
  rcases Go.Joins.ownsRow_forms h with ⟨rfl, h0⟩ | ⟨g, cap, rfl⟩
  · exact ⟨none, 0, by rw [h0]⟩
  · exact ⟨_, cap, rfl⟩

theorem same_step {zs ys : List Int} {k : Nat} (hl : zs.length = ys.length) (hk : k < zs.length) : decide (zs.drop k = ys.drop k) = (decide (zs.getD k 0 = ys.getD k 0) && decide (zs.drop (k + 1) = ys.drop (k + 1))) := by
  rw [drop_getD hk, drop_getD (by omega : k < ys.length), Bool.eq_iff_iff]
  simp

set_option maxHeartbeats 800000 in
theorem Same_any (u v : Value) (zs ys : List Int) (w : World) (h1 : Ints w u zs) (h2 : Ints w v ys) :
    Calls Try.prog 13 #[u, v] w fun e w' => e = .returned (.bool (decide (zs = ys))) ∧ Below w.heap.size w w' := by
  obtain ⟨a, cap, rfl, hl, hc⟩ := h1
  obtain ⟨a2, cap2, rfl, hl2, hc2⟩ := h2
  by_cases hlen : zs.length = ys.length
  · have hne : ((zs.length : Int) != (ys.length : Int)) = false := by rw [hlen]; simp
    have HL := hid hlen
    rw [← hlen] at hl2 hc2 hne ⊢
    clear hlen
    go_enter Try.func13, Try.ntmps13
    go_wp2_with fail
    go_loopw [13] (fun i wr => ∃ k : Nat, k ≤ zs.length ∧ i = .int .i64 k ∧ Below w.heap.size w wr ∧ Hid (decide (zs = ys) = decide (zs.drop k = ys.drop k))) (fun i _ => zs.length - (intOf i).toNat)
    case atStart => exact ⟨0, Nat.zero_le _, rfl, Below.refl _ _, rfl⟩
    case round =>
      obtain ⟨k, hk, rfl, hnx, R⟩ := hrel
      by_cases hlt : k < zs.length
      · obtain ⟨b, off, rfl, hb, hcell⟩ := hc (by omega)
        obtain ⟨b2, off2, rfl, hb2, hcell2⟩ := hc2 (by omega)
        have hck : wr.cell? ⟨b, off + k, none⟩ = some (.int .i64 (zs.getD k 0)) := (hnx.cell (p := ⟨b, off + k, none⟩) hb).trans (hcell k hlt)
        have hck2 : wr.cell? ⟨b2, off2 + k, none⟩ = some (.int .i64 (ys.getD k 0)) := (hnx.cell (p := ⟨b2, off2 + k, none⟩) hb2).trans (hcell2 k hlt)
        have D := hid (same_step HL.out hlt)
        have hki : (k : Int) < (zs.length : Int) := by omega
        clear hcell hcell2 hc hc2
        generalize zs.getD k 0 = x at *
        generalize ys.getD k 0 = y at *
        by_cases hxy : x = y
        · have hxy' : (x != y) = false := by rw [hxy]; simp
          have HX := hid hxy
          clear hxy
          go_wp2_with fail
          go_quiet (fail)
          go_wp2_with fail
          go_roundw
          case rel => exact ⟨k + 1, by omega, by go_num, below_drewN hnx _, by show decide (zs = ys) = _; rw [R.out, D.out, HX.out]; simp⟩
          case measure => simp [intOf]; omega
        · have hxy' : (x != y) = true := by rw [bne_iff_ne]; exact hxy
          go_wp2_with fail
          go_quiet (fail)
          go_wp2_with fail
          go_ret
          exact ⟨ret_bool (by rw [R.out, D.out]; simp [hxy]), below_drewN hnx _⟩
      · have hz : zs.drop k = [] := List.drop_of_length_le (by omega)
        have hy : ys.drop k = [] := List.drop_of_length_le (by have := HL.out; omega)
        have F : Hid (decide (zs = ys) = true) := by show decide (zs = ys) = true; rw [R.out, hz, hy]; rfl
        clear hz hy
        go_wp2_with fail
        go_ret
        exact ⟨ret_bool F.out.symm, hnx⟩
  · have hne : ((zs.length : Int) != (ys.length : Int)) = true := by rw [bne_iff_ne]; omega
    have F : Hid (decide (zs = ys) = false) := by show decide (zs = ys) = false; simp; intro h; exact hlen (by rw [h])
    go_enter Try.func13, Try.ntmps13
    go_wp2_with fail
    go_ret
    exact ⟨ret_bool F.out.symm, Below.refl _ _⟩
end Go.Proofs.Ytgdcfogikchjeaa

namespace Go.Proofs.Ytgdcfogikchjeaa
open Go.RowKit

/-- A matroid's block, and the result's. -/
def boxM (w : World) (n : Int) (v : Value) : World := (w.alloc (.cells #[.int .i64 n, v] 33)).alloc (.cells #[.int .i64 0, .slice none 0 0] 33)
theorem boxM_below (w : World) (n : Int) (v : Value) : Below w.heap.size w (boxM w n v) := ((Below.refl _ _).alloc (Nat.le_refl _) _).alloc (by simp) _
theorem boxM_size (w : World) (n : Int) (v : Value) : (boxM w n v).heap.size = w.heap.size + 2 := by unfold boxM; simp
theorem boxM_blocks {w w2 : World} {n : Int} {v : Value} (hb2 : Below (boxM w n v).heap.size (boxM w n v) w2) :
    w2.heap[w.heap.size]? = some (.cells #[.int .i64 n, v] 33 (0, 0)) ∧ w2.heap[w.heap.size + 1]? = some (.cells #[.int .i64 0, .slice none 0 0] 33 (0, 0)) := by
  have hs := boxM_size w n v
  refine ⟨(hb2.block _ (by omega)).trans ?_, (hb2.block _ (by omega)).trans ?_⟩
  · unfold boxM
    rw [Below.heap_alloc _ _ _ (by simp)]
    exact World.alloc_heap_new w _
  · unfold boxM
    have := World.alloc_heap_new (w.alloc (.cells #[.int .i64 n, v] 33)) (.cells #[.int .i64 0, .slice none 0 0] 33)
    rwa [World.size_alloc] at this
theorem two_cells {w : World} {b : Nat} {x y : Value} {t : TypeId} (h : w.heap[b]? = some (.cells #[x, y] t (0, 0))) : w.cell? ⟨b, 0, none⟩ = some x ∧ w.cell? ⟨b, 1, none⟩ = some y ∧ w.frozen? ⟨b, 0, none⟩ = false ∧ w.frozen? ⟨b, 1, none⟩ = false := by
  refine ⟨?_, ?_, ?_, ?_⟩ <;> simp [World.cell?, World.frozen?, h]
/-- What a function that hands back a matroid leaves in the result's block. -/
theorem set_two {w : World} {b : Nat} {p q x y : Value} {t : TypeId} (h : w.heap[b]? = some (.cells #[p, q] t (0, 0))) :
    ((w.setCell ⟨b, 0, none⟩ x).setCell ⟨b, 1, none⟩ y).cell? ⟨b, 0, none⟩ = some x ∧ ((w.setCell ⟨b, 0, none⟩ x).setCell ⟨b, 1, none⟩ y).cell? ⟨b, 1, none⟩ = some y := by
  obtain ⟨h0, h1, _, _⟩ := two_cells h
  constructor
  · refine (World.cell?_setCell_other _ _ _ _ (by simp)).trans ?_
    exact World.cell?_setCell_same' _ _ _ (by rw [h0]; rfl)
  · refine World.cell?_setCell_same' _ _ _ ?_
    have := (World.cell?_setCell_other w ⟨b, 0, none⟩ ⟨b, 1, none⟩ x (by simp)).trans h1
    rw [this]
    rfl
theorem below_two {B : Nat} {w w3 : World} {b : Nat} {x y : Value} (h : Below B w w3) (hb : B ≤ b) : Below B w ((w3.setCell ⟨b, 0, none⟩ x).setCell ⟨b, 1, none⟩ y) := (h.setCell (p := ⟨b, 0, none⟩) hb _).setCell (p := ⟨b, 1, none⟩) hb _
theorem Own.set {B : Nat} {w : World} {v : Value} {l : List Nat} (h : Own B w v l) {p : Addr} (hp : p.block < B) (x : Value) : Own B (w.setCell p x) v l := by
  obtain ⟨h0, h1⟩ := h
  refine ⟨h0, h1.imp_right ?_⟩
  rintro ⟨g, cap, cur, hv, hg, hheap, hr⟩
  exact ⟨g, cap, cur, hv, hg, (Below.heap_setCell _ _ _ g (by omega)).trans hheap, hr⟩
theorem Own.set2 {B : Nat} {w : World} {v : Value} {l : List Nat} (h : Own B w v l) {b : Nat} {x y : Value} (hp : b < B) : Own B ((w.setCell ⟨b, 0, none⟩ x).setCell ⟨b, 1, none⟩ y) v l := (h.set (p := ⟨b, 0, none⟩) hp x).set (p := ⟨b, 1, none⟩) hp y
theorem fil_len {n : Nat} (hn : n ≤ 8) (p : Nat → Bool) : ((List.range (2 ^ n)).filter p).length ≤ 256 := by
  have h1 := List.length_filter_le p (List.range (2 ^ n))
  have h2 := (pow_wrap n hn).2
  rw [List.length_range] at h1
  omega
theorem fam_len {n : Nat} (hn : n ≤ 8) {l : List Nat} (hf : Fam n l) : l.length ≤ 256 := by
  have e : l = (List.range (2 ^ n)).filter fun s => memB s l := by
    refine sorted_ext hf.up (Fam.range n _).up fun s => ?_
    rw [List.mem_filter, List.mem_range]
    unfold memB
    rw [decide_eq_true_eq]
    exact ⟨fun h => ⟨hf.lt s h, h⟩, fun h => h.2⟩
  rw [e]
  exact fil_len hn _
theorem ran_len {n : Nat} (hn : n ≤ 8) (p : Nat → Bool) : ((List.range (2 ^ n)).filter p).length ≤ 17592186044416 := Nat.le_trans (fil_len hn p) (by decide)
/-- A matroid came back, its list a new one. -/
def GivesO (w : World) (n : Int) (l : List Nat) (e : Ending) (w' : World) : Prop := ∃ r, e = .returned (.tuple #[.agg #[.int .i64 n, r], .int .i64 0]) ∧ Own w.heap.size w' r l ∧ Below w.heap.size w w'
theorem ownsRow_form' {B : Nat} {w : World} {v : Value} {l : List Nat} (h : Own B w v l) : ∃ a c, v = .slice a l.length c := by
  rcases Go.Joins.ownsRow_forms h with ⟨rfl, h0⟩ | ⟨g, cap, rfl⟩
  · exact ⟨_, _, by rw [h0]⟩
  · exact ⟨_, _, rfl⟩
/-- A matroid came back. -/
def GivesM (w : World) (n : Int) (l : List Nat) (e : Ending) (w' : World) : Prop := ∃ r, e = .returned (.tuple #[.agg #[.int .i64 n, r], .int .i64 0]) ∧ Ints w' r (N l) ∧ Below w.heap.size w w'

set_option maxHeartbeats 800000 in
theorem Equal_any (u v : Value) (zs ys : List Int) (w : World) (h1 : Ints w u zs) (h2 : Ints w v ys) :
    Calls Try.prog 49 #[u, v] w fun e w' => e = .returned (.bool (decide (zs = ys))) ∧ Below w.heap.size w w' := by
  obtain ⟨a, cap, rfl, hl, hc⟩ := h1
  obtain ⟨a2, cap2, rfl, hl2, hc2⟩ := h2
  by_cases hlen : zs.length = ys.length
  · have hne : ((zs.length : Int) != (ys.length : Int)) = false := by rw [hlen]; simp
    have HL := hid hlen
    rw [← hlen] at hl2 hc2 hne ⊢
    clear hlen
    go_enter Try.func49, Try.ntmps49
    go_wp2_with fail
    go_loopw [13] (fun i wr => ∃ k : Nat, k ≤ zs.length ∧ i = .int .i64 k ∧ Below w.heap.size w wr ∧ Hid (decide (zs = ys) = decide (zs.drop k = ys.drop k))) (fun i _ => zs.length - (intOf i).toNat)
    case atStart => exact ⟨0, Nat.zero_le _, rfl, Below.refl _ _, rfl⟩
    case round =>
      obtain ⟨k, hk, rfl, hnx, R⟩ := hrel
      by_cases hlt : k < zs.length
      · obtain ⟨b, off, rfl, hb, hcell⟩ := hc (by omega)
        obtain ⟨b2, off2, rfl, hb2, hcell2⟩ := hc2 (by omega)
        have hck : wr.cell? ⟨b, off + k, none⟩ = some (.int .i64 (zs.getD k 0)) := (hnx.cell (p := ⟨b, off + k, none⟩) hb).trans (hcell k hlt)
        have hck2 : wr.cell? ⟨b2, off2 + k, none⟩ = some (.int .i64 (ys.getD k 0)) := (hnx.cell (p := ⟨b2, off2 + k, none⟩) hb2).trans (hcell2 k hlt)
        have D := hid (same_step HL.out hlt)
        have hki : (k : Int) < (zs.length : Int) := by omega
        clear hcell hcell2 hc hc2
        generalize zs.getD k 0 = x at *
        generalize ys.getD k 0 = y at *
        by_cases hxy : x = y
        · have hxy' : (x != y) = false := by rw [hxy]; simp
          have HX := hid hxy
          clear hxy
          go_wp2_with fail
          go_quiet (fail)
          go_wp2_with fail
          go_roundw
          case rel => exact ⟨k + 1, by omega, by go_num, below_drewN hnx _, by show decide (zs = ys) = _; rw [R.out, D.out, HX.out]; simp⟩
          case measure => simp [intOf]; omega
        · have hxy' : (x != y) = true := by rw [bne_iff_ne]; exact hxy
          go_wp2_with fail
          go_quiet (fail)
          go_wp2_with fail
          go_ret
          exact ⟨ret_bool (by rw [R.out, D.out]; simp [hxy]), below_drewN hnx _⟩
      · have hz : zs.drop k = [] := List.drop_of_length_le (by omega)
        have hy : ys.drop k = [] := List.drop_of_length_le (by have := HL.out; omega)
        have F : Hid (decide (zs = ys) = true) := by show decide (zs = ys) = true; rw [R.out, hz, hy]; rfl
        clear hz hy
        go_wp2_with fail
        go_ret
        exact ⟨ret_bool F.out.symm, hnx⟩
  · have hne : ((zs.length : Int) != (ys.length : Int)) = true := by rw [bne_iff_ne]; omega
    have F : Hid (decide (zs = ys) = false) := by show decide (zs = ys) = false; simp; intro h; exact hlen (by rw [h])
    go_enter Try.func49, Try.ntmps49
    go_wp2_with fail
    go_ret
    exact ⟨ret_bool F.out.symm, Below.refl _ _⟩

end Go.Proofs.Ytgdcfogikchjeaa
