/- rotaref.Set, and the function values of rotaref.Named. -/
import Derived.Test.YtkeeihjcjkndbaaKNamQ
import Derived.Test.YtkeeihjcjkndbaaRefBigQ
namespace Go.Proofs.Ytkeeihjcjkndbaa
open Go.RowKit

def setTo (c : List Nat) (k : Nat) : Nat := (c.take k).foldl (fun s i => s ||| 2 ^ i) 0
theorem setTo_succ {c : List Nat} {k : Nat} (h : k < c.length) : setTo c (k + 1) = setTo c k ||| 2 ^ c.getD k 0 := by
  unfold setTo
  rw [take_snoc h, List.foldl_append]
  rfl
theorem setTo_lt {c : List Nat} (hc : ∀ i ∈ c, i < 8) (k : Nat) : setTo c k < 256 := by
  have : ∀ (l : List Nat) (a : Nat), (∀ i ∈ l, i < 8) → a < 256 → l.foldl (fun s i => s ||| 2 ^ i) a < 256 := by
    intro l
    induction l with
    | nil => intro a _ h; exact h
    | cons x l ih =>
      intro a hl h
      exact ih _ (fun i hi => hl i (List.mem_cons_of_mem _ hi)) (or_lt h (pow_lt256 (hl x (List.mem_cons_self ..))))
  exact this _ _ (fun i hi => hc i (List.mem_of_mem_take hi)) (by decide)
def setOf (c : List Nat) : Nat := setTo c c.length
set_option maxHeartbeats 800000 in
theorem Set_any (v : Value) (c : List Nat) (w : World) (hc8 : ∀ i ∈ c, i < 8) (h : Ints w v (N c)) :
    Calls Try.prog 23 #[v] w fun e w' => e = .returned (.int .i64 (setOf c : Nat)) ∧ w' = w := by
  obtain ⟨a, cap, rfl, hlen, hc⟩ := h.nats
  have HS := hid (setTo_lt hc8)
  have H8 := hid hc8
  clear h hc8
  go_enter Try.func23, Try.ntmps23
  go_wp2_with fail
  go_loop [3, 4] (fun u i => ∃ k : Nat, k ≤ c.length ∧ i = .int .i64 k ∧ u = .int .i64 (setTo c k : Nat)) (fun _ i => c.length - (intOf i).toNat)
  case atStart => exact ⟨0, Nat.zero_le _, rfl, rfl⟩
  case round =>
    obtain ⟨k, hk, rfl, rfl⟩ := hrel
    by_cases hlt : k < c.length
    · obtain ⟨b, off, rfl, hb, hcell⟩ := hc (by omega)
      have hck := hcell k hlt
      have D := hid (setTo_succ hlt)
      have hx : c.getD k 0 < 8 := by
        have : c.getD k 0 ∈ c := by simp only [List.getD, List.getElem?_eq_getElem hlt, Option.getD_some]; exact List.getElem_mem _
        exact H8.out _ this
      have h2 := HS.out k
      have hki : (k : Int) < (c.length : Int) := by omega
      clear hcell hc
      generalize c.getD k 0 = x at *
      obtain ⟨T, HT, hT2, hT⟩ : ∃ T : Nat, Hid (T = 2 ^ x) ∧ T ≤ 256 ∧ wrap64 (2 ^ x) = (T : Int) := ⟨2 ^ x, rfl, (pow_wrap _ (by omega)).2, (pow_wrap _ (by omega)).1⟩
      have hor : bits .or .i64 ((setTo c k : Nat) : Int) (T : Int) = ((setTo c k ||| T : Nat) : Int) := i64_or_nat _ _ (by omega) (by omega)
      rw [← HT.out] at D
      generalize setTo c k = y at *
      go_wp2_with fail
      go_round
      case rel => exact ⟨k + 1, by omega, by go_num, by rw [D.out]⟩
      case measure => simp [intOf]; omega
    · have hki : ¬ (k : Int) < (c.length : Int) := by omega
      obtain rfl : k = c.length := by omega
      go_wp2_with fail
      go_ret
      exact ⟨rfl, rfl⟩
/-- The set of a literal of four. -/
theorem Set_lit (w : World) (c : List Nat) (hl : c.length ≤ 17592186044416) (h8 : ∀ i ∈ c, i < 8) :
    Calls Try.prog 23 #[.slice (some ⟨w.heap.size, 0, none⟩) c.length c.length] (w.alloc (.cells (V c).toArray 3)) fun e w' => e = .returned (.int .i64 (setOf c : Nat)) ∧ Below w.heap.size w w' :=
  (Set_any _ c _ h8 (litsAt w c hl)).mono fun _ _ ⟨h1, h2⟩ => ⟨h1, by rw [h2]; exact below_alloc _ _⟩
def vamL : List Nat := [15, 51, 60, 195, 204]
set_option maxRecDepth 20000 in
set_option maxHeartbeats 4000000 in
theorem vamQ_ok (s : Nat) (w : World) (hs : s < 256) :
    Calls Try.prog 22 #[.int .i64 s] w fun e w' => e = .returned (.bool (pop s == 4 && !memB s vamL)) ∧ Below w.heap.size w w' := by
  have SZ := hid (Size_any s w hs)
  have L1 := hid (fun w' => Set_lit w' [0, 1, 2, 3] (by decide) (by decide))
  have L2 := hid (fun w' => Set_lit w' [0, 1, 4, 5] (by decide) (by decide))
  have L3 := hid (fun w' => Set_lit w' [2, 3, 4, 5] (by decide) (by decide))
  have L4 := hid (fun w' => Set_lit w' [0, 1, 6, 7] (by decide) (by decide))
  have L5 := hid (fun w' => Set_lit w' [2, 3, 6, 7] (by decide) (by decide))
  rw [show setOf [0, 1, 2, 3] = 15 from rfl] at L1
  rw [show setOf [0, 1, 4, 5] = 51 from rfl] at L2
  rw [show setOf [2, 3, 4, 5] = 60 from rfl] at L3
  rw [show setOf [0, 1, 6, 7] = 195 from rfl] at L4
  rw [show setOf [2, 3, 6, 7] = 204 from rfl] at L5
  have MB : Hid (memB s vamL = (s == 15 || (s == 51 || (s == 60 || (s == 195 || s == 204))))) := by
    show _ = _
    unfold memB vamL
    simp [List.mem_cons, Bool.decide_or]
    rfl
  by_cases h4 : pop s = 4
  · rw [h4] at SZ
    have R : Hid ((pop s == 4 && !memB s vamL) = !(s == 15 || (s == 51 || (s == 60 || (s == 195 || s == 204))))) := by show _ = _; rw [h4, MB.out]; rfl
    rw [R.out]
    clear R h4
    go_enter Try.func22, Try.ntmps22
    go_wp2_with fail
    refine SZ.out.mono ?_
    rintro e w1 ⟨rfl, hb1⟩
    have B1 := hid hb1
    clear hb1
    go_wp2_with fail
    refine (L1.out _).mono ?_
    rintro e w2 ⟨rfl, hb2⟩
    have B2 := hid (B1.out.trans (hb2.mono B1.out.size))
    clear hb2
    by_cases c1 : s = 15
    · go_wp2_with fail
      go_ret
      exact ⟨ret_bool (by subst c1; rfl), B2.out⟩
    · have c1' : ((s : Int) != 15) = true := by rw [bne_iff_ne]; omega
      go_wp2_with fail
      refine (L2.out _).mono ?_
      rintro e w3 ⟨rfl, hb3⟩
      have B3 := hid (B2.out.trans (hb3.mono B2.out.size))
      clear hb3
      by_cases c2 : s = 51
      · go_wp2_with fail
        go_ret
        exact ⟨ret_bool (by subst c2; rfl), B3.out⟩
      · have c2' : ((s : Int) != 51) = true := by rw [bne_iff_ne]; omega
        go_wp2_with fail
        refine (L3.out _).mono ?_
        rintro e w4 ⟨rfl, hb4⟩
        have B4 := hid (B3.out.trans (hb4.mono B3.out.size))
        clear hb4
        by_cases c3 : s = 60
        · go_wp2_with fail
          go_ret
          exact ⟨ret_bool (by subst c3; rfl), B4.out⟩
        · have c3' : ((s : Int) != 60) = true := by rw [bne_iff_ne]; omega
          go_wp2_with fail
          refine (L4.out _).mono ?_
          rintro e w5 ⟨rfl, hb5⟩
          have B5 := hid (B4.out.trans (hb5.mono B4.out.size))
          clear hb5
          by_cases c4 : s = 195
          · go_wp2_with fail
            go_ret
            exact ⟨ret_bool (by subst c4; rfl), B5.out⟩
          · have c4' : ((s : Int) != 195) = true := by rw [bne_iff_ne]; omega
            go_wp2_with fail
            refine (L5.out _).mono ?_
            rintro e w6 ⟨rfl, hb6⟩
            have B6 := hid (B5.out.trans (hb6.mono B5.out.size))
            clear hb6
            by_cases c5 : s = 204
            · go_wp2_with fail
              go_ret
              exact ⟨ret_bool (by subst c5; rfl), B6.out⟩
            · have c5' : ((s : Int) != 204) = true := by rw [bne_iff_ne]; omega
              have F : Hid ((!(s == 15 || (s == 51 || (s == 60 || (s == 195 || s == 204))))) = true) := by show _ = _; simp [c1, c2, c3, c4, c5]
              go_wp2_with fail
              go_ret
              exact ⟨ret_bool F.out.symm, B6.out⟩
  · have h4' : ((pop s : Int) == 4) = false := by rw [beq_eq_false_iff_ne]; omega
    have R : Hid ((pop s == 4 && !memB s vamL) = false) := by show _ = _; rw [show (pop s == 4) = false by rw [beq_eq_false_iff_ne]; exact h4]; rfl
    generalize pop s = y at *
    go_enter Try.func22, Try.ntmps22
    go_wp2_with fail
    refine SZ.out.mono ?_
    rintro e w1 ⟨rfl, hb1⟩
    have B1 := hid hb1
    clear hb1
    go_wp2_with fail
    go_ret
    exact ⟨ret_bool R.out.symm, B1.out⟩
theorem mem_fano {s k : Nat} : memB s (fanoL (k + 1)) = (memB s (fanoL k) || s == 2 ^ k ||| 2 ^ ((k + 1) % 7) ||| 2 ^ ((k + 3) % 7)) := by
  rw [fanoL_succ]
  unfold memB
  rw [Bool.eq_iff_iff]
  simp
theorem mem_fano_le {s k m : Nat} (hk : k < m) (h : s = 2 ^ k ||| 2 ^ ((k + 1) % 7) ||| 2 ^ ((k + 3) % 7)) : memB s (fanoL m) = true := by
  unfold memB fanoL
  rw [decide_eq_true_eq, List.mem_map]
  exact ⟨k, List.mem_range.2 hk, h.symm⟩
set_option maxRecDepth 20000 in
set_option maxHeartbeats 4000000 in
theorem fanQ_ok (s b m : Nat) (w : World) (hs : s < 256) (hm : m ≤ 7) (hb : w.cell? ⟨b, 0, none⟩ = some (.int .i64 m)) (hbs : b < w.heap.size) :
    Calls Try.prog 24 #[.int .i64 s, .pointer (some ⟨b, 0, none⟩)] w fun e w' => e = .returned (.bool (pop s == 3 && !memB s (fanoL m))) ∧ Below w.heap.size w w' := by
  go_enter Try.func24, Try.ntmps24
  go_wp2_with fail
  go_loopw [4] (fun i wr => ∃ k : Nat, k ≤ m ∧ i = .int .i64 k ∧ Hid (memB s (fanoL k) = false) ∧ Hid (Below w.heap.size w wr)) (fun i _ => m - (intOf i).toNat)
  case atStart => exact ⟨0, Nat.zero_le _, rfl, rfl, Below.refl _ _⟩
  case round =>
    obtain ⟨k, hk, rfl, NM, HW⟩ := hrel
    have hbx : wr.cell? ⟨b, 0, none⟩ = some (.int .i64 m) := (HW.out.cell (p := ⟨b, 0, none⟩) hbs).trans hb
    by_cases hlt : k < m
    · have hki : (k : Int) < (m : Int) := by omega
      have MF := hid (mem_fano (s := s) (k := k))
      rw [NM.out, Bool.false_or] at MF
      have ML := hid (fun h => mem_fano_le (s := s) hlt h)
      have hk7 : k = 0 ∨ k = 1 ∨ k = 2 ∨ k = 3 ∨ k = 4 ∨ k = 5 ∨ k = 6 := by omega
      rcases hk7 with rfl | rfl | rfl | rfl | rfl | rfl | rfl
      · have q1 : IntKind.i64.wrap 1 = 1 := by decide
        have q2 : Int.tmod 1 7 = 1 := by decide
        have q3 : IntKind.i64.wrap 3 = 3 := by decide
        have q4 : Int.tmod 3 7 = 3 := by decide
        have L1 := hid (Set_lit wr [0, 1, 3] (by decide) (by decide))
        rw [show setOf [0, 1, 3] = 11 from rfl] at L1
        have MF' : Hid (memB s (fanoL 1) = (s == 11)) := MF.out
        have ML' : Hid (s = 11 → memB s (fanoL m) = true) := ML.out
        clear MF ML
        by_cases c1 : s = 11
        · have F : Hid ((pop s == 3 && !memB s (fanoL m)) = false) := by show _ = _; rw [ML'.out c1]; simp
          have c1' : ((s : Int) == 11) = true := by rw [c1]; rfl
          clear c1
          go_wp2_with fail
          refine L1.out.mono ?_
          rintro e w2 ⟨rfl, hb2⟩
          have B2 := hid (HW.out.trans (hb2.mono HW.out.size))
          clear hb2
          go_wp2_with fail
          go_ret
          exact ⟨ret_bool F.out.symm, B2.out⟩
        · have c1' : ((s : Int) == 11) = false := by rw [beq_eq_false_iff_ne]; omega
          have NM2 : Hid (memB s (fanoL 1) = false) := by show _ = _; rw [MF'.out, beq_eq_false_iff_ne]; exact c1
          clear c1
          go_wp2_with fail
          refine L1.out.mono ?_
          rintro e w2 ⟨rfl, hb2⟩
          have B2 := hid (HW.out.trans (hb2.mono HW.out.size))
          clear hb2
          go_wp2_with fail
          go_roundw
          case rel => exact ⟨1, by omega, by go_num, NM2, B2⟩
          case measure => simp [intOf]; omega
      · have q1 : IntKind.i64.wrap 2 = 2 := by decide
        have q2 : Int.tmod 2 7 = 2 := by decide
        have q3 : IntKind.i64.wrap 4 = 4 := by decide
        have q4 : Int.tmod 4 7 = 4 := by decide
        have L1 := hid (Set_lit wr [1, 2, 4] (by decide) (by decide))
        rw [show setOf [1, 2, 4] = 22 from rfl] at L1
        have MF' : Hid (memB s (fanoL 2) = (s == 22)) := MF.out
        have ML' : Hid (s = 22 → memB s (fanoL m) = true) := ML.out
        clear MF ML
        by_cases c1 : s = 22
        · have F : Hid ((pop s == 3 && !memB s (fanoL m)) = false) := by show _ = _; rw [ML'.out c1]; simp
          have c1' : ((s : Int) == 22) = true := by rw [c1]; rfl
          clear c1
          go_wp2_with fail
          refine L1.out.mono ?_
          rintro e w2 ⟨rfl, hb2⟩
          have B2 := hid (HW.out.trans (hb2.mono HW.out.size))
          clear hb2
          go_wp2_with fail
          go_ret
          exact ⟨ret_bool F.out.symm, B2.out⟩
        · have c1' : ((s : Int) == 22) = false := by rw [beq_eq_false_iff_ne]; omega
          have NM2 : Hid (memB s (fanoL 2) = false) := by show _ = _; rw [MF'.out, beq_eq_false_iff_ne]; exact c1
          clear c1
          go_wp2_with fail
          refine L1.out.mono ?_
          rintro e w2 ⟨rfl, hb2⟩
          have B2 := hid (HW.out.trans (hb2.mono HW.out.size))
          clear hb2
          go_wp2_with fail
          go_roundw
          case rel => exact ⟨2, by omega, by go_num, NM2, B2⟩
          case measure => simp [intOf]; omega
      · have q1 : IntKind.i64.wrap 3 = 3 := by decide
        have q2 : Int.tmod 3 7 = 3 := by decide
        have q3 : IntKind.i64.wrap 5 = 5 := by decide
        have q4 : Int.tmod 5 7 = 5 := by decide
        have L1 := hid (Set_lit wr [2, 3, 5] (by decide) (by decide))
        rw [show setOf [2, 3, 5] = 44 from rfl] at L1
        have MF' : Hid (memB s (fanoL 3) = (s == 44)) := MF.out
        have ML' : Hid (s = 44 → memB s (fanoL m) = true) := ML.out
        clear MF ML
        by_cases c1 : s = 44
        · have F : Hid ((pop s == 3 && !memB s (fanoL m)) = false) := by show _ = _; rw [ML'.out c1]; simp
          have c1' : ((s : Int) == 44) = true := by rw [c1]; rfl
          clear c1
          go_wp2_with fail
          refine L1.out.mono ?_
          rintro e w2 ⟨rfl, hb2⟩
          have B2 := hid (HW.out.trans (hb2.mono HW.out.size))
          clear hb2
          go_wp2_with fail
          go_ret
          exact ⟨ret_bool F.out.symm, B2.out⟩
        · have c1' : ((s : Int) == 44) = false := by rw [beq_eq_false_iff_ne]; omega
          have NM2 : Hid (memB s (fanoL 3) = false) := by show _ = _; rw [MF'.out, beq_eq_false_iff_ne]; exact c1
          clear c1
          go_wp2_with fail
          refine L1.out.mono ?_
          rintro e w2 ⟨rfl, hb2⟩
          have B2 := hid (HW.out.trans (hb2.mono HW.out.size))
          clear hb2
          go_wp2_with fail
          go_roundw
          case rel => exact ⟨3, by omega, by go_num, NM2, B2⟩
          case measure => simp [intOf]; omega
      · have q1 : IntKind.i64.wrap 4 = 4 := by decide
        have q2 : Int.tmod 4 7 = 4 := by decide
        have q3 : IntKind.i64.wrap 6 = 6 := by decide
        have q4 : Int.tmod 6 7 = 6 := by decide
        have L1 := hid (Set_lit wr [3, 4, 6] (by decide) (by decide))
        rw [show setOf [3, 4, 6] = 88 from rfl] at L1
        have MF' : Hid (memB s (fanoL 4) = (s == 88)) := MF.out
        have ML' : Hid (s = 88 → memB s (fanoL m) = true) := ML.out
        clear MF ML
        by_cases c1 : s = 88
        · have F : Hid ((pop s == 3 && !memB s (fanoL m)) = false) := by show _ = _; rw [ML'.out c1]; simp
          have c1' : ((s : Int) == 88) = true := by rw [c1]; rfl
          clear c1
          go_wp2_with fail
          refine L1.out.mono ?_
          rintro e w2 ⟨rfl, hb2⟩
          have B2 := hid (HW.out.trans (hb2.mono HW.out.size))
          clear hb2
          go_wp2_with fail
          go_ret
          exact ⟨ret_bool F.out.symm, B2.out⟩
        · have c1' : ((s : Int) == 88) = false := by rw [beq_eq_false_iff_ne]; omega
          have NM2 : Hid (memB s (fanoL 4) = false) := by show _ = _; rw [MF'.out, beq_eq_false_iff_ne]; exact c1
          clear c1
          go_wp2_with fail
          refine L1.out.mono ?_
          rintro e w2 ⟨rfl, hb2⟩
          have B2 := hid (HW.out.trans (hb2.mono HW.out.size))
          clear hb2
          go_wp2_with fail
          go_roundw
          case rel => exact ⟨4, by omega, by go_num, NM2, B2⟩
          case measure => simp [intOf]; omega
      · have q1 : IntKind.i64.wrap 5 = 5 := by decide
        have q2 : Int.tmod 5 7 = 5 := by decide
        have q3 : IntKind.i64.wrap 7 = 7 := by decide
        have q4 : Int.tmod 7 7 = 0 := by decide
        have L1 := hid (Set_lit wr [4, 5, 0] (by decide) (by decide))
        rw [show setOf [4, 5, 0] = 49 from rfl] at L1
        have MF' : Hid (memB s (fanoL 5) = (s == 49)) := MF.out
        have ML' : Hid (s = 49 → memB s (fanoL m) = true) := ML.out
        clear MF ML
        by_cases c1 : s = 49
        · have F : Hid ((pop s == 3 && !memB s (fanoL m)) = false) := by show _ = _; rw [ML'.out c1]; simp
          have c1' : ((s : Int) == 49) = true := by rw [c1]; rfl
          clear c1
          go_wp2_with fail
          refine L1.out.mono ?_
          rintro e w2 ⟨rfl, hb2⟩
          have B2 := hid (HW.out.trans (hb2.mono HW.out.size))
          clear hb2
          go_wp2_with fail
          go_ret
          exact ⟨ret_bool F.out.symm, B2.out⟩
        · have c1' : ((s : Int) == 49) = false := by rw [beq_eq_false_iff_ne]; omega
          have NM2 : Hid (memB s (fanoL 5) = false) := by show _ = _; rw [MF'.out, beq_eq_false_iff_ne]; exact c1
          clear c1
          go_wp2_with fail
          refine L1.out.mono ?_
          rintro e w2 ⟨rfl, hb2⟩
          have B2 := hid (HW.out.trans (hb2.mono HW.out.size))
          clear hb2
          go_wp2_with fail
          go_roundw
          case rel => exact ⟨5, by omega, by go_num, NM2, B2⟩
          case measure => simp [intOf]; omega
      · have q1 : IntKind.i64.wrap 6 = 6 := by decide
        have q2 : Int.tmod 6 7 = 6 := by decide
        have q3 : IntKind.i64.wrap 8 = 8 := by decide
        have q4 : Int.tmod 8 7 = 1 := by decide
        have L1 := hid (Set_lit wr [5, 6, 1] (by decide) (by decide))
        rw [show setOf [5, 6, 1] = 98 from rfl] at L1
        have MF' : Hid (memB s (fanoL 6) = (s == 98)) := MF.out
        have ML' : Hid (s = 98 → memB s (fanoL m) = true) := ML.out
        clear MF ML
        by_cases c1 : s = 98
        · have F : Hid ((pop s == 3 && !memB s (fanoL m)) = false) := by show _ = _; rw [ML'.out c1]; simp
          have c1' : ((s : Int) == 98) = true := by rw [c1]; rfl
          clear c1
          go_wp2_with fail
          refine L1.out.mono ?_
          rintro e w2 ⟨rfl, hb2⟩
          have B2 := hid (HW.out.trans (hb2.mono HW.out.size))
          clear hb2
          go_wp2_with fail
          go_ret
          exact ⟨ret_bool F.out.symm, B2.out⟩
        · have c1' : ((s : Int) == 98) = false := by rw [beq_eq_false_iff_ne]; omega
          have NM2 : Hid (memB s (fanoL 6) = false) := by show _ = _; rw [MF'.out, beq_eq_false_iff_ne]; exact c1
          clear c1
          go_wp2_with fail
          refine L1.out.mono ?_
          rintro e w2 ⟨rfl, hb2⟩
          have B2 := hid (HW.out.trans (hb2.mono HW.out.size))
          clear hb2
          go_wp2_with fail
          go_roundw
          case rel => exact ⟨6, by omega, by go_num, NM2, B2⟩
          case measure => simp [intOf]; omega
      · have q1 : IntKind.i64.wrap 7 = 7 := by decide
        have q2 : Int.tmod 7 7 = 0 := by decide
        have q3 : IntKind.i64.wrap 9 = 9 := by decide
        have q4 : Int.tmod 9 7 = 2 := by decide
        have L1 := hid (Set_lit wr [6, 0, 2] (by decide) (by decide))
        rw [show setOf [6, 0, 2] = 69 from rfl] at L1
        have MF' : Hid (memB s (fanoL 7) = (s == 69)) := MF.out
        have ML' : Hid (s = 69 → memB s (fanoL m) = true) := ML.out
        clear MF ML
        by_cases c1 : s = 69
        · have F : Hid ((pop s == 3 && !memB s (fanoL m)) = false) := by show _ = _; rw [ML'.out c1]; simp
          have c1' : ((s : Int) == 69) = true := by rw [c1]; rfl
          clear c1
          go_wp2_with fail
          refine L1.out.mono ?_
          rintro e w2 ⟨rfl, hb2⟩
          have B2 := hid (HW.out.trans (hb2.mono HW.out.size))
          clear hb2
          go_wp2_with fail
          go_ret
          exact ⟨ret_bool F.out.symm, B2.out⟩
        · have c1' : ((s : Int) == 69) = false := by rw [beq_eq_false_iff_ne]; omega
          have NM2 : Hid (memB s (fanoL 7) = false) := by show _ = _; rw [MF'.out, beq_eq_false_iff_ne]; exact c1
          clear c1
          go_wp2_with fail
          refine L1.out.mono ?_
          rintro e w2 ⟨rfl, hb2⟩
          have B2 := hid (HW.out.trans (hb2.mono HW.out.size))
          clear hb2
          go_wp2_with fail
          go_roundw
          case rel => exact ⟨7, by omega, by go_num, NM2, B2⟩
          case measure => simp [intOf]; omega
    · have hki : ¬ (k : Int) < (m : Int) := by omega
      obtain rfl : k = m := by omega
      have SZ := hid (Size_any s wr hs)
      have F : Hid ((pop s == 3 && !memB s (fanoL k)) = (pop s == 3)) := by show _ = _; rw [NM.out]; simp
      go_wp2_with fail
      refine SZ.out.mono ?_
      rintro e w2 ⟨rfl, hb2⟩
      have B2 := hid (HW.out.trans (hb2.mono HW.out.size))
      clear hb2
      go_wp2_with fail
      go_ret
      exact ⟨ret_bool (by rw [F.out, Bool.eq_iff_iff, beq_iff_eq, beq_iff_eq]; omega), B2.out⟩
end Go.Proofs.Ytkeeihjcjkndbaa
