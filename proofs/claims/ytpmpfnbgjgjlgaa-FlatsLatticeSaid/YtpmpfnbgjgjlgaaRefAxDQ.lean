/- rotaref.Closure; rotalaw.one. -/
import Derived.Test.YtpmpfnbgjgjlgaaRefAxBQ
namespace Go.Proofs.Ytpmpfnbgjgjlgaa
open Go.RowKit

theorem one_bad (w : World) (e t : Int) (he : (e != 0) = true) : Calls Try.prog 30 #[.int .i64 0, .int .i64 e, .int .i64 t, .int .i64 e] w fun r w' => r = .returned (.bool true) ∧ w' = w := by
  have h2 : (e == e) = true := by simp
  go_enter Try.func30, Try.ntmps30
  go_wp2_with fail
  go_ret
  exact ⟨rfl, rfl⟩
theorem one_good (w : World) (t : Int) : Calls Try.prog 30 #[.int .i64 t, .int .i64 0, .int .i64 t, .int .i64 0] w fun r w' => r = .returned (.bool true) ∧ w' = w := by
  have h2 : (t == t) = true := by simp
  go_enter Try.func30, Try.ntmps30
  go_wp2_with fail
  go_ret
  exact ⟨ret_bool (by simp), rfl⟩

/-- What the document has added of the first i elements. -/
def outTo (c : List Nat) (s i : Nat) : Nat := (List.range i).foldl (fun o j => if addK c s j = true then o ||| 2 ^ j else o) s
theorem outTo_succ (c : List Nat) (s i : Nat) : outTo c s (i + 1) = if addK c s i = true then outTo c s i ||| bt i else outTo c s i := by
  unfold outTo bt
  rw [List.range_succ, List.foldl_append]
  rfl
theorem outTo_bit (c : List Nat) (s i j : Nat) : (outTo c s i).testBit j = (s.testBit j || (decide (j < i) && addK c s j)) := by
  unfold outTo
  rw [fold_bit (fun j => addK c s j = true)]
  have e1 : decide (j ∈ List.range i) = decide (j < i) := by rw [decide_eq_decide]; exact List.mem_range
  have e2 : decide (addK c s j = true) = addK c s j := by cases addK c s j <;> rfl
  rw [e1, e2]
theorem outTo_lt (c : List Nat) {s i : Nat} (hs : s < 256) (hi : i ≤ 8) : outTo c s i < 256 := lt_of_bits (n := 8) fun j hj => by
  rw [outTo_bit] at hj
  simp only [Bool.or_eq_true, Bool.and_eq_true, decide_eq_true_eq] at hj
  rcases hj with hj | hj
  · exact bit8 hs hj
  · omega
theorem outTo_cl {n : Nat} {l : List Nat} (hn : n ≤ 8) (hb : Bas l) {s : Nat} (hs : s < 2 ^ n) : outTo (cirL n l) s n = cl (rk l) n s := Nat.eq_of_testBit_eq fun j => by
  rw [outTo_bit, cl_bit hn hs]
  by_cases hj : j < n
  · rw [← add_iff hn hb hs hj]; simp [hj]
  · have : s.testBit j = false := by
      cases e : s.testBit j
      · rfl
      · exact absurd (bit_n hs e) hj
    simp [hj, this]
/-- One circuit adds i. -/
def addB (s i x : Nat) : Bool := x.testBit i && subB x (s ||| bt i)
theorem or_same (a b : Nat) : (a ||| b) ||| b = a ||| b := by rw [Nat.or_assoc, Nat.or_self]

set_option maxRecDepth 20000 in
set_option maxHeartbeats 4000000 in
theorem Closure_ref (m s : Nat) (v : Value) (l : List Nat) (w : World) (hm : m ≤ 8) (hb : Bas l) (hl : ∀ s ∈ l, s < 256) (h : Ints w v (N l)) (hs : s < 2 ^ m) :
    Calls Try.prog 42 #[.agg #[.int .i64 m, v], .int .i64 s] w fun e w' => e = .returned (.int .i64 (cl (rk l) m s : Nat)) ∧ Below w.heap.size w w' := by
  have HI := hid h
  obtain ⟨a, cap, hv, _, _⟩ := h
  rw [N_len] at hv
  subst hv
  have B0 := below_box w #[.int .i64 m, .slice a l.length cap]
  have FR := hid (Circ_ref m _ l _ hm hl (HI.out.below B0))
  rw [cir_eq hm hb] at FR
  have E0 : Hid ((List.range (2 ^ m)).filter (cirB (rk l)) = cirL m l) := rfl
  rw [E0.out] at FR
  rw [← outTo_cl hm hb hs]
  have FF : Hid ((cirL m l).length ≤ 256) := fam_small hm _
  have FL : Hid (∀ s ∈ cirL m l, s < 256) := fam_lt hm _
  have HB0 := hid B0
  have hs8 : s < 256 := lt256 hm hs
  clear B0 E0 hb hs
  generalize cirL m l = c at *
  go_enter Try.func42, Try.ntmps42
  go_wp2_with fail
  refine FR.out.mono ?_
  rintro e w2 ⟨r, rfl, ho, hb2⟩
  obtain ⟨x0, x1⟩ := box_cells hb2
  have HB2 := hid (HB0.out.trans (hb2.mono HB0.out.size))
  have S2 : w.heap.size + 1 ≤ w2.heap.size := by have := hb2.size; simpa using this
  have I2 := ho.ints (Nat.le_trans FF.out (by omega))
  obtain ⟨ra, rcap, rfl, hcl, hc⟩ := I2.nats
  clear hb2 ho I2 FR
  go_wp2_with fail
  go_loopw [6, 7] (fun o i wr => ∃ k : Nat, k ≤ m ∧ i = .int .i64 k ∧ o = .int .i64 (outTo c s k : Nat) ∧ Below w2.heap.size w2 wr) (fun _ i _ => m - (intOf i).toNat)
  case atStart => exact ⟨0, Nat.zero_le _, rfl, rfl, Below.refl _ _⟩
  case round =>
    obtain ⟨k, hk, rfl, rfl, hnx⟩ := hrel
    have y0 : wr.cell? ⟨w.heap.size, 0, none⟩ = some (.int .i64 m) := (hnx.cell (p := ⟨w.heap.size, 0, none⟩) (by show w.heap.size < _; omega)).trans x0
    by_cases hlt : k < m
    · have SN := hid (outTo_succ c s k)
      have ol := outTo_lt c hs8 (i := k) (by omega)
      have AK : Hid (addK c s k = c.any (addB s k)) := rfl
      have hbk : bt k < 256 := bt_lt (by omega)
      have hsh : wrap64 (2 ^ k) = (bt k : Int) := (pow_wrap k (by omega)).1
      have hor : bits .or .i64 (s : Int) (bt k : Int) = ((s ||| bt k : Nat) : Int) := i64_or_nat _ _ (by omega) (by omega)
      have hor8 : s ||| bt k < 256 := or_lt hs8 hbk
      generalize outTo c s k = q at *
      have hq1 : bits .or .i64 (q : Int) (bt k : Int) = ((q ||| bt k : Nat) : Int) := i64_or_nat _ _ (by omega) (by omega)
      have hq2 : bits .or .i64 ((q ||| bt k : Nat) : Int) (bt k : Int) = ((q ||| bt k : Nat) : Int) := by
        rw [i64_or_nat _ _ (by have := or_lt ol hbk; omega) (by omega), or_same]
      go_wp2_with fail
      go_loopw [6, 8] (fun o i wr => ∃ j : Nat, j ≤ c.length ∧ i = .int .i64 j ∧ o = .int .i64 ((if (c.take j).any (addB s k) = true then q ||| bt k else q : Nat) : Int) ∧ Below w2.heap.size w2 wr) (fun _ i _ => c.length - (intOf i).toNat)
      case atStart => exact ⟨0, Nat.zero_le _, rfl, by simp, hnx⟩
      case round =>
        obtain ⟨j, hj, rfl, rfl, hnx'⟩ := hrel
        by_cases hlt' : j < c.length
        · obtain ⟨b, off, rfl, hb, hcell⟩ := hc (by omega)
          have hck : wr.cell? ⟨b, off + j, none⟩ = some (.int .i64 (c.getD j 0 : Nat)) := (hnx'.cell (p := ⟨b, off + j, none⟩) hb).trans (hcell j hlt')
          have hx := getD_lt FL.out j
          have TS := hid (take_snoc hlt')
          clear hcell
          generalize c.getD j 0 = x at *
          obtain ⟨o, HO⟩ : ∃ o : Nat, Hid ((if (c.take j).any (addB s k) = true then q ||| bt k else q) = o) := ⟨_, rfl⟩
          have ho1 : bits .or .i64 (o : Int) (bt k : Int) = ((q ||| bt k : Nat) : Int) := by
            rw [← HO.out]
            split
            · exact hq2
            · exact hq1
          rw [HO.out]
          have I1 := hid (fun w => In_any x k w hx (by omega))
          have I3 := hid (fun w => Within_any x (s ||| bt k) w hx hor8)
          have NX : Hid (∀ hh : Bool, addB s k x = hh → (if (c.take (j + 1)).any (addB s k) = true then q ||| bt k else q) = if hh = true then q ||| bt k else o) := fun hh he => by
            rw [TS.out, List.any_append, List.any_cons, List.any_nil, Bool.or_false, he, ← HO.out]
            cases (c.take j).any (addB s k) <;> cases hh <;> simp
          have AD : Hid (addB s k x = (x.testBit k && subB x (s ||| bt k))) := rfl
          generalize s ||| bt k = z at *
          rcases h1 : x.testBit k with _ | _
          · have E1 := hid h1
            have E3 : Hid (addB s k x = false) := by show _ = _; rw [AD.out, E1.out]; rfl
            clear h1
            go_wp2_with fail
            go_quiet ((go_at_call 55; refine (I1.out _).mono ?_; rw [E1.out]; rintro e w' ⟨rfl, rfl⟩; exact ⟨rfl, _, rfl⟩))
            go_wp2_with fail
            go_roundw
            case rel => exact ⟨j + 1, by omega, by go_num, by rw [NX.out false E3.out]; rfl, hnx'.trans (drewN_below _ _ _)⟩
            case measure => simp [intOf]; omega
          · have E1 := hid h1
            clear h1
            rcases h2 : subB x z with _ | _
            · have E2 := hid h2
              have E3 : Hid (addB s k x = false) := by show _ = _; rw [AD.out, E1.out, E2.out]; rfl
              clear h2
              go_wp2_with fail
              go_quiet ((first
                | (go_at_call 55; refine (I1.out _).mono ?_; rw [E1.out]; rintro e w' ⟨rfl, rfl⟩; exact ⟨rfl, _, rfl⟩)
                | (go_at_call 38; refine (I3.out _).mono ?_; rw [E2.out]; rintro e w' ⟨rfl, rfl⟩; exact ⟨rfl, _, rfl⟩)))
              go_wp2_with fail
              go_roundw
              case rel => exact ⟨j + 1, by omega, by go_num, by rw [NX.out false E3.out]; rfl, hnx'.trans (drewN_below _ _ _)⟩
              case measure => simp [intOf]; omega
            · have E2 := hid h2
              have E3 : Hid (addB s k x = true) := by show _ = _; rw [AD.out, E1.out, E2.out]; rfl
              clear h2
              go_wp2_with fail
              go_quiet ((first
                | (go_at_call 55; refine (I1.out _).mono ?_; rw [E1.out]; rintro e w' ⟨rfl, rfl⟩; exact ⟨rfl, _, rfl⟩)
                | (go_at_call 38; refine (I3.out _).mono ?_; rw [E2.out]; rintro e w' ⟨rfl, rfl⟩; exact ⟨rfl, _, rfl⟩)))
              go_wp2_with fail
              go_roundw
              case rel => exact ⟨j + 1, by omega, by go_num, by rw [NX.out true E3.out]; rfl, hnx'.trans (drewN_below _ _ _)⟩
              case measure => simp [intOf]; omega
        · have e9 : c.take j = c := List.take_of_length_le (by omega)
          have E9 : Hid ((if (c.take j).any (addB s k) = true then q ||| bt k else q) = outTo c s (k + 1)) := by show _ = _; rw [SN.out, AK.out, e9]
          rw [E9.out]
          clear e9
          go_wp2_with fail
          go_roundw
          case rel => exact ⟨k + 1, by omega, by go_num, rfl, hnx'⟩
          case measure => simp [intOf]; omega
    · have hk' : k = m := by omega
      subst hk'
      go_wp2_with fail
      go_ret
      exact ⟨rfl, HB2.out.trans (hnx.mono HB2.out.size)⟩
end Go.Proofs.Ytpmpfnbgjgjlgaa
