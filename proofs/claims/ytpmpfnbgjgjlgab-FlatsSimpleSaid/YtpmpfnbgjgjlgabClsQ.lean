/- minors.classes, minors.Classes. -/
import Derived.Test.YtpmpfnbgjgjlgabCompQ
namespace Go.Proofs.Ytpmpfnbgjgjlgab
open Go.RowKit

theorem drewN_b (B : Nat) (w : World) (n : Nat) : Below B w (w.drewN n) := ⟨rfl, rfl, rfl, Nat.le_refl _, fun _ _ => rfl⟩
/-- Two elements that are loops, or that lie together on one line. -/
def par (r : Nat → Nat) (i j : Nat) : Bool := r (bt i ||| bt j) == r (bt i) && r (bt i ||| bt j) == r (bt j)
set_option maxRecDepth 20000 in
set_option maxHeartbeats 1600000 in
theorem ClsQ_ok (i j m bR : Nat) (v : Value) (r : Nat → Nat) (w : World) (hi : i < m) (hj : j < m) (hm : m ≤ 8) (hb : w.cell? ⟨bR, 0, none⟩ = some v) (h : RkAt w v (2 ^ m) r) :
    Calls Try.prog 57 #[.int .i64 (bt i : Nat), .int .i64 (bt j : Nat), .pointer (some ⟨bR, 0, none⟩)] w fun e w' => e = .returned (.bool (par r i j)) ∧ Below w.heap.size w w' := by
  obtain ⟨rb, roff, rcap, rfl, hrb, hrc⟩ := h
  have hi2 : bt i < 2 ^ m := Nat.pow_lt_pow_right (by decide) hi
  have hj2 : bt j < 2 ^ m := Nat.pow_lt_pow_right (by decide) hj
  have hij : bt i ||| bt j < 2 ^ m := Nat.or_lt_two_pow hi2 hj2
  have hT := (pow_wrap m hm).2
  have c1 := hrc _ hi2
  have c2 := hrc _ hj2
  have c3 := hrc _ hij
  have hor : bits .or .i64 (bt i : Int) (bt j : Int) = ((bt i ||| bt j : Nat) : Int) := i64_or_nat _ _ (by omega) (by omega)
  have HP : Hid (par r i j = (r (bt i ||| bt j) == r (bt i) && r (bt i ||| bt j) == r (bt j))) := rfl
  generalize par r i j = Q at *
  generalize bt i ||| bt j = z at *
  generalize bt i = x at *
  generalize bt j = y at *
  generalize 2 ^ m = T at *
  have hxi : (x : Int) < (T : Int) := by omega
  have hyi : (y : Int) < (T : Int) := by omega
  have hzi : (z : Int) < (T : Int) := by omega
  clear hrc
  generalize r x = rx at *
  generalize r y = ry at *
  generalize r z = rz at *
  by_cases h1 : rz = rx
  · subst h1
    by_cases h2 : rz = ry
    · subst h2
      have HQ : Hid (Q = true) := by show _ = _; rw [HP.out]; simp
      go_enter Try.func57, Try.ntmps57
      go_wp2_with fail
      go_quiet (fail)
      go_wp2_with fail
      go_ret
      exact ⟨by rw [HQ.out]; exact ret_bool (by simp), drewN_b _ _ _⟩
    · have HQ : Hid (Q = false) := by show _ = _; rw [HP.out]; simp [h2]
      have h2' : ((rz : Int) == (ry : Int)) = false := by simp; omega
      go_enter Try.func57, Try.ntmps57
      go_wp2_with fail
      go_quiet (fail)
      go_wp2_with fail
      go_ret
      exact ⟨by rw [HQ.out]; exact ret_bool (by simp), drewN_b _ _ _⟩
  · have HQ : Hid (Q = false) := by show _ = _; rw [HP.out]; simp [h1]
    have h1' : ((rz : Int) == (rx : Int)) = false := by simp; omega
    go_enter Try.func57, Try.ntmps57
    go_wp2_with fail
    go_quiet (fail)
    go_wp2_with fail
    go_ret
    exact ⟨by rw [HQ.out]; exact ret_bool (by simp), drewN_b _ _ _⟩
/-- What classes tells: the classes, in rising order. -/
def ClsS (m : Nat) (r : Nat → Nat) (L' : List Nat) : Prop := ∃ L, Prts (par r) (2 ^ m - 1) L ∧ L'.Perm L ∧ L'.Pairwise (· ≤ ·)
set_option maxHeartbeats 1600000 in
theorem classes_any (m : Nat) (v : Value) (r : Nat → Nat) (w : World) (hm : m ≤ 8) (h : RkAt w v (2 ^ m) r) :
    Calls Try.prog 36 #[.int .i64 m, v] w fun e w' => ∃ q L', e = .returned q ∧ ClsS m r L' ∧ Own w.heap.size w' q L' ∧ Below w.heap.size w w' := by
  have hmf : ∀ (fn : Fn) (first cap : Array Value) (w : World), (Instr.makeFunc fn first cap).run Try.prog w = .ok (.func fn first cap) w := fun _ _ _ _ => rfl
  have hB3 : Below w.heap.size w (w.alloc (.cells #[v] 22)) := (Below.refl _ _).alloc (Nat.le_refl _) _
  have hs3 : (w.alloc (.cells #[v] 22)).heap.size = w.heap.size + 1 := by simp
  have b2 := (cellN w v 22).1
  have PA := hid (part_any m 57 #[.pointer (some ⟨w.heap.size, 0, none⟩)] (par r) (w.alloc (.cells #[v] 22)) hm (fun args w => enters_of Try.func57 (by kernel_rfl) rfl args w)
    (fun i j hi hj w3 hb3 _ => ClsQ_ok i j m w.heap.size v r w3 hi hj hm ((hb3.cell (p := ⟨w.heap.size, 0, none⟩) (by simp)).trans b2) ((h.below hB3).below hb3)))
  have HB3 := hid hB3
  obtain ⟨rb, roff, rcap, rfl, _, _⟩ := h
  clear b2 hB3
  go_enter Try.func36, Try.ntmps36
  go_wp2_with fail
  refine PA.out.mono ?_
  rintro e w4 ⟨r4, L, L', rfl, hP, hperm, hpair, ho4, hb4⟩
  have HCM : Hid (ClsS m r L') := ⟨L, hP, hperm, hpair⟩
  have HO4 := hid (ho4.mono (by omega : w.heap.size ≤ _))
  have HB4 := hid (HB3.out.trans (hb4.mono HB3.out.size))
  clear hP hperm hpair ho4 hb4
  go_wp2_with fail
  go_ret
  exact ⟨_, _, rfl, HCM.out, HO4.out, HB4.out⟩
end Go.Proofs.Ytpmpfnbgjgjlgab
