/- join.ranksWithoutLoops. -/
import Derived.Test.YtjnifcfcigcngaaAxW
import Derived.Test.YtjnifcfcigcngaaPlainAll
import Derived.Test.YtjnifcfcigcngaaWholeQ
import Derived.Test.YtjnifcfcigcngaaRanksWQ
namespace Go.Proofs.Ytjnifcfcigcngaa
open Go.RowKit Go.Shelf
attribute [local go_sem] Oper.semAt_some

theorem two_cellsT {w : World} {b : Nat} {x y : Value} {t : TypeId} (h : w.heap[b]? = some (.cells #[x, y] t (0, 0))) : w.cell? ⟨b, 0, none⟩ = some x := by simp [World.cell?, h]
theorem one_cellT {w : World} {b : Nat} {x : Value} {t : TypeId} (h : w.heap[b]? = some (.cells #[x] t (0, 0))) : w.cell? ⟨b, 0, none⟩ = some x ∧ w.frozen? ⟨b, 0, none⟩ = false := by simp [World.cell?, World.frozen?, h]
/-- Is there a loop? -/
def loopB (m : Nat) (r : Nat → Nat) : Bool := (els (2 ^ m - 1)).any fun i => r (bt i) == 0
theorem el_full {m : Nat} (hm : m ≤ 8) (x : El (2 ^ m - 1)) : bt x.1 < 2 ^ m := by
  have := (mem_els (lt256 hm (full_lt m))).1 x.2
  rw [full_bit] at this
  unfold bt
  exact Nat.pow_lt_pow_right (by omega) (by simpa using this)
def RwlEnds (w : World) (m : Nat) (l : List Nat) (e : Ending) (w' : World) : Prop := ((loopB m (rk l) = false ∧ ∃ r, e = .returned (.tuple #[r, .int .i64 0]) ∧ RkAt w' r (2 ^ m) (rk l)) ∨ (loopB m (rk l) = true ∧ e = .returned (.tuple #[.slice none 0 0, .int .i64 5]))) ∧ Below w.heap.size w w'
theorem loop_free {m : Nat} {l : List Nat} (hm : m ≤ 8) (hb : Bas l) : loopB m (rk l) = false → NoLoop m (rk l) := fun h => by
  refine noLoop_of (hb.rkOn m) fun i hi e => ?_
  have hin : i ∈ els (2 ^ m - 1) := (mem_els (lt256 hm (full_lt m))).2 (by rw [full_bit]; simpa using hi)
  have : loopB m (rk l) = true := List.any_eq_true.2 ⟨i, hin, by unfold bt; rw [e]; rfl⟩
  rw [h] at this
  cases this
end Go.Proofs.Ytjnifcfcigcngaa

namespace Go.Proofs.Ytjnifcfcigcngaa
open Go.RowKit

theorem has_fact : ∀ s : Nat, s < 256 → ∀ i : Nat, i < 8 → (bits BinOp.and IntKind.i64 ((s : Int) / 2 ^ i) 1 == 1) = s.testBit i := by decide +kernel
theorem has_any (s v : Nat) (w : World) (hs : s < 256) (hv : v < 8) : Calls Try.prog 29 #[.int .i64 s, .int .i64 v] w fun e w' => e = .returned (.bool (s.testBit v)) ∧ w' = w := by
  have h := has_fact s hs v hv
  go_enter Try.func29, Try.ntmps29
  go_wp2_with fail
  go_ret
  exact ⟨rfl, rfl⟩
set_option maxRecDepth 20000 in
set_option maxHeartbeats 2000000 in
theorem reached_any (n L F : Nat) (f : Nat → Nat) (v : Value) (w : World) (hn : n ≤ 8) (hL : L < 2 ^ n) (hF : F < 2 ^ n) (hf : ∀ i, i < n → f i < 256) (h : RkAt w v n f) :
    Calls Try.prog 37 #[v, .int .i64 L, .int .i64 F] w fun e w' => e = .returned (.int .i64 (rchS f n L F : Nat)) ∧ w' = w := by
  obtain ⟨b, off, cap, rfl, hb, hc⟩ := h
  have hL8 := lt256 hn hL
  have hF8 := lt256 hn hF
  have hand : bits .and .i64 (F : Int) (L : Int) = ((F &&& L : Nat) : Int) := i64_and_nat _ _ (by omega) (by omega)
  have HR0 : F &&& L < 2 ^ n := Nat.lt_of_le_of_lt Nat.and_le_right hL
  have HRL : Hid (∀ t, rndF f L (F &&& L) n t < 2 ^ n) := rnd_lt hL HR0
  have HPL : Hid (∀ R k, R < 2 ^ n → pasF f L R k < 2 ^ n) := fun R k hR => pas_lt hL hR k
  have HZ : Hid (rchS f n L F = rndF f L (F &&& L) n n) := rfl
  have HS : Hid (∀ R k, pasF f L R (k + 1) = if (pasF f L R k).testBit k = true then pasF f L R k ||| (f k &&& L) else pasF f L R k) := fun _ _ => rfl
  have HT : Hid (∀ t, rndF f L (F &&& L) n (t + 1) = pasF f L (rndF f L (F &&& L) n t) n) := fun _ => rfl
  have HT0 : Hid (rndF f L (F &&& L) n 0 = F &&& L) := rfl
  have HP0 : Hid (∀ R, pasF f L R 0 = R) := fun _ => rfl
  have HA := hid (fun s v w hs hv => has_any s v w hs hv)
  generalize hq : rndF f L (F &&& L) n = q at *
  clear hq
  generalize pasF f L = p at *
  go_enter Try.func37, Try.ntmps37
  go_wp2_with fail
  go_loop [7, 8, 9, 15] (fun u _ _ i => ∃ k : Nat, k ≤ n ∧ i = .int .i64 k ∧ u = .int .i64 (q k : Nat)) (fun _ _ _ i => n - (intOf i).toNat)
  case atStart => exact ⟨0, Nat.zero_le _, rfl, by rw [HT0.out]⟩
  case round =>
    obtain ⟨k, hk, rfl, rfl⟩ := hrel
    by_cases hlt : k < n
    · have hki : (k : Int) < (n : Int) := by omega
      have hqk := HRL.out k
      have HTk := hid (HT.out k)
      generalize q k = R at *
      go_wp2_with fail
      go_loop [7, 8, 9, 19] (fun u _ _ i => ∃ j : Nat, j ≤ n ∧ i = .int .i64 j ∧ u = .int .i64 (p R j : Nat)) (fun _ _ _ i => n - (intOf i).toNat)
      case atStart => exact ⟨0, Nat.zero_le _, rfl, by rw [HP0.out]⟩
      case round =>
        obtain ⟨j, hj, rfl, rfl⟩ := hrel
        by_cases hjl : j < n
        · have hji : (j : Int) < (n : Int) := by omega
          have x1 := hc j hjl
          clear hc
          have hp := lt256 hn (HPL.out R j hqk)
          have hfj := hf j hjl
          have H1 := hid (HA.out (p R j) j w hp (by omega))
          have HSj := hid (HS.out R j)
          have a1 : bits .and .i64 (f j : Nat) (L : Int) = ((f j &&& L : Nat) : Int) := i64_and_nat _ _ (by omega) (by omega)
          have hfl : f j &&& L < 256 := Nat.lt_of_le_of_lt Nat.and_le_right hL8
          have a2 : bits .or .i64 (p R j : Nat) ((f j &&& L : Nat) : Int) = ((p R j ||| (f j &&& L) : Nat) : Int) := i64_or_nat _ _ (by omega) (by omega)
          generalize f j &&& L = y at *
          generalize f j = x at *
          generalize hPj : p R (j + 1) = P1 at *
          generalize p R j = P at *
          rcases hbit : P.testBit j with _ | _
          · have HB := hid hbit
            rw [hbit] at H1
            clear hbit
            go_wp2_with fail
            refine H1.out.mono ?_
            rintro e w' ⟨rfl, rfl⟩
            go_wp2_with fail
            go_round
            case rel => exact ⟨j + 1, by omega, by go_num, by rw [hPj, HSj.out, HB.out]; rfl⟩
            case measure => simp [intOf]; omega
          · have HB := hid hbit
            rw [hbit] at H1
            clear hbit
            go_wp2_with fail
            refine H1.out.mono ?_
            rintro e w' ⟨rfl, rfl⟩
            go_wp2_with fail
            go_round
            case rel => exact ⟨j + 1, by omega, by go_num, by rw [hPj, HSj.out, HB.out]; rfl⟩
            case measure => simp [intOf]; omega
        · obtain rfl : j = n := by omega
          go_wp2_with fail
          go_round
          case rel => exact ⟨k + 1, by omega, by go_num, by rw [HTk.out]⟩
          case measure => simp [intOf]; omega
    · obtain rfl : k = n := by omega
      go_wp2_with fail
      go_ret
      exact ⟨by rw [HZ.out]; rfl, rfl⟩
end Go.Proofs.Ytjnifcfcigcngaa
