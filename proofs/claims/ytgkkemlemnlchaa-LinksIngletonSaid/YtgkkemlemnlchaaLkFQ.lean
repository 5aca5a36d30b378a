/- links.areLinked, Gammoid's function. -/
import Derived.Test.YtgkkemlemnlchaaLkDQ
namespace Go.Proofs.Ytgkkemlemnlchaa
open Go.RowKit Go.Shelf
attribute [local go_sem] Oper.semAt_some

theorem RkAt.drewL {w : World} {v : Value} {T : Nat} {f : Nat → Nat} (h : RkAt w v T f) (k : Nat) : RkAt (w.drewN k) v T f := h
theorem linked_any (n L F T : Nat) (f : Nat → Nat) (v : Value) (w : World) (hn : n ≤ 8) (hL : L < 2 ^ n) (hF : F < 2 ^ n) (hT : T < 2 ^ n) (hf : ∀ i, i < n → f i < 256) (h : RkAt w v n f) :
    Calls Try.prog 17 #[v, .int .i64 L, .int .i64 F, .int .i64 T] w fun e w' => e = .returned (.bool (lnkR f n L T F == pop F)) ∧ w' = w := by
  have CU := hid (lcut_any n L F T f v w hn hL hF hT hf h)
  have HC : cutV f n L F T < 256 := lt256 hn (cutV_lt hn hL)
  have S1 := hid (size_any (cutV f n L F T) w HC)
  have S2 := hid (size_any F w (lt256 hn hF))
  have HR : lnkR f n L T F = pop (cutV f n L F T) := rfl
  rw [HR]
  have p1 := pop_le _ HC
  have p2 := pop_le F (lt256 hn hF)
  obtain ⟨b, off, cap, rfl, -, -⟩ := h
  generalize cutV f n L F T = c at *
  generalize pop c = pc at *
  generalize pop F = pf at *
  clear HR
  go_enter Try.func17, Try.ntmps17
  go_wp2_with fail
  refine CU.out.mono ?_
  rintro e w2 ⟨rfl, rfl⟩
  go_wp2_with fail
  refine S1.out.mono ?_
  rintro e w2 ⟨rfl, rfl⟩
  go_wp2_with fail
  refine S2.out.mono ?_
  rintro e w2 ⟨rfl, rfl⟩
  go_wp2_with fail
  go_ret
  exact ⟨ret_bool (by rw [Bool.eq_iff_iff, beq_iff_eq, beq_iff_eq]; omega), rfl⟩
set_option maxRecDepth 20000 in
set_option maxHeartbeats 1600000 in
theorem GamQ_ok (n x T bt bn bw : Nat) (f : Nat → Nat) (v : Value) (w : World) (hn : n ≤ 8) (hx : x < 2 ^ n) (hT : T < 2 ^ n) (hf : ∀ i, i < n → f i < 256) (h : RkAt w v n f)
    (ht : w.cell? ⟨bt, 0, none⟩ = some (.int .i64 T)) (hnx : w.cell? ⟨bn, 0, none⟩ = some v) (hw : w.cell? ⟨bw, 0, none⟩ = some (.int .i64 ((2 ^ n - 1 : Nat) : Int))) :
    Calls Try.prog 15 #[.int .i64 x, .pointer (some ⟨bt, 0, none⟩), .pointer (some ⟨bn, 0, none⟩), .pointer (some ⟨bw, 0, none⟩)] w fun e w' => e = .returned (.bool (pop x == pop T && lnkR f n (2 ^ n - 1) T x == pop x)) ∧ ∃ k, w' = w.drewN k := by
  have LI := hid (fun k => linked_any n (2 ^ n - 1) x T f v (w.drewN k) hn (full_lt n) hx hT hf (h.drewL k))
  have S1 := hid (fun w => size_any x w (lt256 hn hx))
  have S2 := hid (fun w => size_any T w (lt256 hn hT))
  have p1 := pop_le x (lt256 hn hx)
  have p2 := pop_le T (lt256 hn hT)
  obtain ⟨b, off, cap, rfl, -, -⟩ := h
  generalize 2 ^ n - 1 = M at *
  generalize (lnkR f n M T x == pop x) = r at *
  generalize hpx : pop x = px at *
  generalize hpt : pop T = pt at *
  by_cases hp : px = pt
  · have hb : Hid ((px == pt) = true) := by show _ = _; rw [beq_iff_eq]; exact hp
    rw [hb.out, Bool.true_and]
    subst hp
    go_enter Try.func15, Try.ntmps15
    go_wp2_with fail
    go_quiet (first
      | (go_at_call_of 16 (Value.int IntKind.i64 (x : Int)); refine (S1.out _).mono ?_; rintro e w' ⟨rfl, rfl⟩; exact ⟨rfl, _, rfl⟩)
      | (go_at_call_of 16 (Value.int IntKind.i64 (T : Int)); refine (S2.out _).mono ?_; rintro e w' ⟨rfl, rfl⟩; exact ⟨rfl, _, rfl⟩)
      | (go_at_call 17; refine (LI.out _).mono ?_; rintro e w' ⟨rfl, rfl⟩; exact ⟨rfl, _, rfl⟩))
    go_wp2_with fail
    go_ret
    exact ⟨rfl, _, rfl⟩
  · have hb : Hid ((px == pt) = false) := by show _ = _; rw [beq_eq_false_iff_ne]; exact hp
    have hb2 : ((px : Int) == (pt : Int)) = false := by rw [beq_eq_false_iff_ne]; omega
    rw [hb.out, Bool.false_and]
    go_enter Try.func15, Try.ntmps15
    go_wp2_with fail
    go_quiet (first
      | (go_at_call_of 16 (Value.int IntKind.i64 (x : Int)); refine (S1.out _).mono ?_; rintro e w' ⟨rfl, rfl⟩; exact ⟨rfl, _, rfl⟩)
      | (go_at_call_of 16 (Value.int IntKind.i64 (T : Int)); refine (S2.out _).mono ?_; rintro e w' ⟨rfl, rfl⟩; exact ⟨rfl, _, rfl⟩)
      | (go_at_call 17; refine (LI.out _).mono ?_; rintro e w' ⟨rfl, rfl⟩; exact ⟨rfl, _, rfl⟩))
    go_wp2_with fail
    go_ret
    exact ⟨rfl, _, rfl⟩
end Go.Proofs.Ytgkkemlemnlchaa
