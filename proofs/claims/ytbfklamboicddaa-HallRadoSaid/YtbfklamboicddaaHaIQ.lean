/- rotalaw.bad, one, list: for the laws of HALL. -/
import Derived.Test.YtbfklamboicddaaRefQ
import Derived.Test.YtbfklamboicddaaHaCQ
namespace Go.Proofs.Ytbfklamboicddaa
open Go.RowKit

theorem bad_t (q : Int) (w : World) : Calls Try.prog 15 #[.bool true, .int .i64 q] w fun e w' => e = .returned (.int .i64 0) ∧ w' = w := by
  go_enter Try.func15, Try.ntmps15
  go_wp2_with fail
  go_ret
  exact ⟨rfl, rfl⟩
theorem bad_f (q : Int) (w : World) : Calls Try.prog 15 #[.bool false, .int .i64 q] w fun e w' => e = .returned (.int .i64 q) ∧ w' = w := by
  go_enter Try.func15, Try.ntmps15
  go_wp2_with fail
  go_ret
  exact ⟨rfl, rfl⟩
theorem bad_any (b : Bool) (q : Int) (w : World) : Calls Try.prog 15 #[.bool b, .int .i64 q] w fun e w' => e = .returned (.int .i64 (if b = true then 0 else q)) ∧ w' = w := by
  cases b
  · exact bad_f q w
  · exact bad_t q w
theorem one_same (n q : Int) (w : World) (h0 : q ≠ 0 → n = 0) : Calls Try.prog 16 #[.int .i64 n, .int .i64 q, .int .i64 n, .int .i64 q] w fun e w' => e = .returned (.bool true) ∧ w' = w := by
  by_cases hq : q = 0
  · subst hq
    clear h0
    have h1 : (n == n) = true := by simp
    go_enter Try.func16, Try.ntmps16
    go_wp2_with fail
    go_ret
    exact ⟨rfl, rfl⟩
  · obtain rfl := h0 hq
    have h1 : (q != 0) = true := by rw [bne_iff_ne]; exact hq
    have h2 : (q == q) = true := by simp
    clear h0
    go_enter Try.func16, Try.ntmps16
    go_wp2_with fail
    go_ret
    exact ⟨rfl, rfl⟩
theorem list_yes (u v : Value) (L : List Nat) (w : World) (h1 : Ints w u (N L)) (h2 : Ints w v (N L)) : Calls Try.prog 14 #[u, .int .i64 0, v, .int .i64 0] w fun e w' => e = .returned (.bool true) ∧ Below w.heap.size w w' := by
  have SM := hid (Same_any u v (N L) (N L) w h1 h2)
  rw [decide_eq_true rfl] at SM
  go_enter Try.func14, Try.ntmps14
  go_wp2_with fail
  refine SM.out.mono ?_
  rintro e w2 ⟨rfl, hb⟩
  have HB := hid hb
  clear hb
  go_wp2_with fail
  go_ret
  exact ⟨rfl, HB.out⟩
theorem list_no (q : Int) (a : Option Addr) (c : Nat) (v : Value) (w : World) (hq : q ≠ 0) : Calls Try.prog 14 #[.slice a 0 c, .int .i64 q, v, .int .i64 q] w fun e w' => e = .returned (.bool true) ∧ Below w.heap.size w w' := by
  have h1 : (q != 0) = true := by rw [bne_iff_ne]; exact hq
  have h2 : (q == q) = true := by simp
  go_enter Try.func14, Try.ntmps14
  go_wp2_with fail
  go_ret
  exact ⟨rfl, Below.refl _ _⟩
theorem rado1_ok (T s bR : Nat) (v : Value) (r : Nat → Nat) (w : World) (hs : s < T) (hT : T ≤ 256) (_hr8 : r s ≤ 8) (hb : w.cell? ⟨bR, 0, none⟩ = some v) (hlt : bR < w.heap.size) (h : RkAt w v T r) :
    Calls Try.prog 10 #[.int .i64 s, .pointer (some ⟨bR, 0, none⟩)] w fun e w' => e = .returned (.bool (r s == pop s)) ∧ Below w.heap.size w w' := by
  have HR := hid h
  obtain ⟨rb, roff, rcap, rfl, -, -⟩ := h
  have cR := rk_later HR.out (Below.refl _ _) hs
  have cB : ∀ x : Later w, x.now.cell? ⟨bR, 0, none⟩ = some (.slice (some ⟨rb, roff, none⟩) T rcap) := fun x => (x.kept.cell (p := ⟨bR, 0, none⟩) hlt).trans hb
  have S1 := hid (fun w => Size_any s w (by omega))
  have p1 := pop_le_8 s (by omega)
  have E : Hid ((((r s : Nat) : Int) == ((pop s : Nat) : Int)) = (r s == pop s)) := by
    show _ = _
    rw [Bool.eq_iff_iff, beq_iff_eq, beq_iff_eq]
    omega
  generalize r s = x at *
  generalize pop s = y at *
  go_enter Try.func10, Try.ntmps10
  go_wp2_with fail
  refine region_later (by kernel_rfl) (by kernel_rfl) ?_
  repeat (go_big_quiet_step ((go_at_call 11; (with_reducible refine (S1.out _).mono ?_); rintro e w' ⟨rfl, hb9⟩; exact ⟨rfl, Later.on _ hb9⟩)))
  refine wpQuiet_nil ?_
  intro w6' hw'
  obtain ⟨⟨w6, hb6⟩, hw''⟩ := hw'
  dsimp only at hw''
  subst hw''
  have HB6 := hid hb6
  clear hb6 cR cB
  go_wp2_with fail
  go_ret
  exact ⟨ret_bool E.out, HB6.out⟩
end Go.Proofs.Ytbfklamboicddaa
