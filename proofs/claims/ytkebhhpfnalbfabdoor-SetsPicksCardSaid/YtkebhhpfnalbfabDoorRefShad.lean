/- Contracts of rotaref.Shadow, Blocker, Gale and of their closures; of the closure of SetsPicks. -/
import Derived.Test.YtkebhhpfnalbfabDoorRefLeast
import Derived.Deep.RegionWith
namespace Go.Proofs.YtkebhhpfnalbfabDoor
open Go.RowKit

theorem range_any_step {n k : Nat} {p : Nat → Bool} (h : k < n) : ((List.range n).drop k).any p = (p k || ((List.range n).drop (k + 1)).any p) := by
  rw [any_drop (by simpa using h)]
  simp [List.getD, h]
theorem range_any_done {n k : Nat} {p : Nat → Bool} (h : n ≤ k) : ((List.range n).drop k).any p = false := by
  rw [List.drop_of_length_le (by simpa using h)]; rfl

set_option maxHeartbeats 1600000 in
set_option maxRecDepth 100000 in
theorem Shadow1_any (n s bn bx : Nat) (v : Value) (l : List Nat) (w : World) (hn : n ≤ 8) (hs : s < 256) (hbn : w.cell? ⟨bn, 0, none⟩ = some (.int .i64 n)) (hbx : w.cell? ⟨bx, 0, none⟩ = some v) (h : Ints w v (N l)) :
    Calls Tryd.prog 36 #[.int .i64 s, .pointer (some ⟨bn, 0, none⟩), .pointer (some ⟨bx, 0, none⟩)] w fun e w' => e = .returned (.bool (shadK n l s)) ∧ Below w.heap.size w w' := by
  obtain ⟨a, cap, hv, -⟩ := h.nats
  have HI := hid h
  clear h
  subst hv
  have qn := World.block_lt_of_cell? w _ hbn
  have qx := World.block_lt_of_cell? w _ hbx
  have Hn := hid hbn
  have Hx := hid hbx
  have Qn := hid qn
  have Qx := hid qx
  clear qn qx
  go_enter Tryd.func36, Tryd.ntmps36
  go_wp2_with fail
  clear hbn hbx
  go_loopw [5] (fun i wr => ∃ k : Nat, k ≤ n ∧ i = .int .i64 k ∧ Below w.heap.size w wr ∧ Hid (shadK n l s = ((List.range n).drop k).any fun i => !s.testBit i && memB (s + 2 ^ i) l)) (fun i _ => n - (intOf i).toNat)
  case atStart => exact ⟨0, Nat.zero_le _, rfl, Below.refl _ _, rfl⟩
  case round =>
    obtain ⟨k, hk, rfl, hnx, R⟩ := hrel
    have hbn : wr.cell? ⟨bn, 0, none⟩ = some (.int .i64 n) := (hnx.cell (p := ⟨bn, 0, none⟩) Qn.out).trans Hn.out
    have hbx : wr.cell? ⟨bx, 0, none⟩ = some (.slice a l.length cap) := (hnx.cell (p := ⟨bx, 0, none⟩) Qx.out).trans Hx.out
    by_cases hlt : k < n
    · have D := hid (range_any_step (p := fun i => !s.testBit i && memB (s + 2 ^ i) l) hlt)
      have hk8 : k < 8 := by omega
      rcases hq : s.testBit k with _ | _
      · obtain ⟨T, hT, HT, hT2⟩ : ∃ T : Nat, wrap64 (2 ^ k) = (T : Int) ∧ Hid (T = 2 ^ k) ∧ T ≤ 256 := ⟨2 ^ k, (pow_wrap _ (by omega)).1, rfl, (pow_wrap _ (by omega)).2⟩
        have hadd : IntKind.i64.wrap ((s : Int) + (T : Int)) = ((s + T : Nat) : Int) := wrap_i64_nat (s + T) (by omega)
        have hadd2 : wrap64 ((s : Int) + (T : Int)) = ((s + T : Nat) : Int) := by unfold wrap64; omega
        have hadd3 : (s : Int) + (T : Int) = ((s + T : Nat) : Int) := by omega
        have HIn : Hid (∀ w, Calls Tryd.prog 37 #[.int .i64 s, .int .i64 k] w fun e w' => e = .returned (.bool false) ∧ w' = w) := fun w => by
          have := In_any s k w hs hk8
          rw [hq] at this; exact this
        have HHas : Hid (∀ j, Calls Tryd.prog 33 #[.slice a l.length cap, .int .i64 ((s : Int) + (T : Int))] (wr.drewN j) fun e w' => e = .returned (.bool (memB (s + T) l)) ∧ w' = wr.drewN j) := fun j => by
          rw [hadd3]
          exact Has_any _ l (s + T) _ (HI.out.below (below_drewN hnx j))
        rcases hm : memB (s + T) l with _ | _
        · have F : Hid ((!s.testBit k && memB (s + 2 ^ k) l) = false) := by show (!s.testBit k && memB (s + 2 ^ k) l) = false; rw [← HT.out, hm]; simp
          rw [hm] at HHas
          clear hq hm hadd3
          go_wp2_with fail
          go_quiet (first | (go_at_call 37; exact Calls.quiet_of_same (HIn.out _)) | (go_at_call 33; exact Calls.quiet_of_same (HHas.out _)))
          go_wp2_with fail
          go_roundw
          case rel => exact ⟨k + 1, by omega, by go_num, below_drewN hnx _, by show shadK n l s = _; rw [R.out, D.out, F.out]; rfl⟩
          case measure => simp [intOf]; omega
        · have F : Hid ((!s.testBit k && memB (s + 2 ^ k) l) = true) := by show (!s.testBit k && memB (s + 2 ^ k) l) = true; rw [← HT.out, hm, hq]; rfl
          rw [hm] at HHas
          clear hq hm hadd3
          go_wp2_with fail
          go_quiet (first | (go_at_call 37; exact Calls.quiet_of_same (HIn.out _)) | (go_at_call 33; exact Calls.quiet_of_same (HHas.out _)))
          go_wp2_with fail
          go_ret
          exact ⟨ret_bool (by rw [R.out, D.out, F.out]; rfl), below_drewN hnx _⟩
      · have HIn : Hid (∀ w, Calls Tryd.prog 37 #[.int .i64 s, .int .i64 k] w fun e w' => e = .returned (.bool true) ∧ w' = w) := fun w => by
          have := In_any s k w hs hk8
          rw [hq] at this; exact this
        have F : Hid ((!s.testBit k && memB (s + 2 ^ k) l) = false) := by show (!s.testBit k && memB (s + 2 ^ k) l) = false; rw [hq]; rfl
        clear hq
        go_wp2_with fail
        go_quiet ((go_at_call 37; exact Calls.quiet_of_same (HIn.out _)))
        go_wp2_with fail
        go_roundw
        case rel => exact ⟨k + 1, by omega, by go_num, below_drewN hnx _, by show shadK n l s = _; rw [R.out, D.out, F.out]; rfl⟩
        case measure => simp [intOf]; omega
    · go_wp2_with fail
      go_ret
      exact ⟨ret_bool (by rw [R.out, range_any_done (by omega)]), hnx⟩

theorem Shadow_ref (n : Nat) (v : Value) (l : List Nat) (w : World) (hn : n ≤ 8) (h : Ints w v (N l)) :
    Calls Tryd.prog 16 #[.int .i64 n, v] w fun e w' => ∃ r, e = .returned r ∧ Own w.heap.size w' r ((List.range (2 ^ n)).filter (shadK n l)) ∧ Below w.heap.size w w' := by
  have hmf : ∀ (fn : Fn) (first cap : Array Value) (w : World), (Instr.makeFunc fn first cap).run Tryd.prog w = .ok (.func fn first cap) w := fun _ _ _ _ => rfl
  obtain ⟨a, cap, hv, -⟩ := h.nats
  have HI := hid h
  clear h
  subst hv
  have hcn : ((w.alloc (.cells #[.int .i64 n] 3)).alloc (.cells #[.slice a l.length cap] 22)).cell? ⟨w.heap.size, 0, none⟩ = some (.int .i64 n) := by
    rw [World.cell?_alloc_past _ _ _ (by simp), World.cell?_alloc_at _ _ _ _ rfl]; rfl
  have hcx : ((w.alloc (.cells #[.int .i64 n] 3)).alloc (.cells #[.slice a l.length cap] 22)).cell? ⟨w.heap.size + 1, 0, none⟩ = some (.slice a l.length cap) := by
    rw [World.cell?_alloc_at _ _ _ _ (by simp)]; rfl
  have b2 : Below w.heap.size w ((w.alloc (.cells #[.int .i64 n] 3)).alloc (.cells #[.slice a l.length cap] 22)) := ((Below.refl _ _).alloc (Nat.le_refl _) _).alloc (by simp) _
  have C1 := hid hcn
  have C2 := hid hcx
  clear hcn hcx
  go_enter Tryd.func16, Tryd.ntmps16
  go_wp2_with fail
  refine (Those_any n 36 #[.pointer (some ⟨w.heap.size, 0, none⟩), .pointer (some ⟨w.heap.size + 1, 0, none⟩)] (shadK n l) ((w.alloc (.cells #[.int .i64 n] 3)).alloc (.cells #[.slice a l.length cap] 22)) hn Tryd.call36 ?_).mono ?_
  · intro x hx w1 hb1 _
    refine Shadow1_any n x w.heap.size (w.heap.size + 1) _ l w1 hn ?_ ((hb1.cell (p := ⟨w.heap.size, 0, none⟩) (by simp; omega)).trans C1.out) ((hb1.cell (p := ⟨w.heap.size + 1, 0, none⟩) (by simp)).trans C2.out) ((HI.out.below b2).below hb1)
    have := (pow_wrap n hn).2; omega
  · rintro e w2 ⟨r, rfl, ho, hb⟩
    have R1 := hid (ho.mono (B' := w.heap.size) (by simp; omega))
    have R2 := hid (b2.trans (hb.mono (by simp; omega)))
    clear ho hb
    go_wp2_with fail
    go_ret
    exact ⟨_, rfl, R1.out, R2.out⟩

set_option maxHeartbeats 800000 in
theorem Blocker1_any (s bx : Nat) (v : Value) (l : List Nat) (w : World) (hs : s < 256) (hl : ∀ s ∈ l, s < 256) (hbx : w.cell? ⟨bx, 0, none⟩ = some v) (h : Ints w v (N l)) :
    Calls Tryd.prog 38 #[.int .i64 s, .pointer (some ⟨bx, 0, none⟩)] w fun e w' => e = .returned (.bool (l.all (meetB s))) ∧ w' = w := by
  obtain ⟨a, cap, hv, hlen, hc⟩ := h.nats
  clear h
  subst hv
  go_enter Tryd.func38, Tryd.ntmps38
  go_wp2_with fail
  go_loop [4] (fun i => ∃ k : Nat, k ≤ l.length ∧ i = .int .i64 k ∧ Hid (l.all (meetB s) = (l.drop k).all (meetB s))) (fun i => l.length - (intOf i).toNat)
  case atStart => exact ⟨0, Nat.zero_le _, rfl, rfl⟩
  case round =>
    obtain ⟨k, hk, rfl, R⟩ := hrel
    by_cases hlt : k < l.length
    · obtain ⟨b, off, rfl, hb, hcell⟩ := hc (by omega)
      have hck := hcell k hlt
      have D := hid (all_drop (p := meetB s) hlt)
      have hx := getD_lt hl k
      clear hcell hc
      generalize l.getD k 0 = x at hck D hx
      have hand : bits .and .i64 (s : Int) (x : Int) = ((s &&& x : Nat) : Int) := i64_and_nat s x (by omega) (by omega)
      by_cases h1 : s &&& x = 0
      · have h1' : (((s &&& x : Nat) : Int) == 0) = true := by rw [h1]; rfl
        go_wp2_with fail
        go_ret
        exact ⟨ret_bool (by rw [R.out, D.out]; simp [meetB, h1]), rfl⟩
      · have h1' : (((s &&& x : Nat) : Int) == 0) = false := by rw [beq_eq_false_iff_ne]; omega
        go_wp2_with fail
        go_round
        case rel => exact ⟨k + 1, by omega, by go_num, by show l.all (meetB s) = _; rw [R.out, D.out]; simp [meetB, h1]⟩
        case measure => simp [intOf]; omega
    · go_wp2_with fail
      go_ret
      exact ⟨ret_bool (by rw [R.out, List.drop_of_length_le (by omega)]; rfl), rfl⟩

theorem Blocker_ref (n : Nat) (v : Value) (l : List Nat) (w : World) (hn : n ≤ 8) (hl : ∀ s ∈ l, s < 256) (h : Ints w v (N l)) :
    Calls Tryd.prog 17 #[.int .i64 n, v] w fun e w' => ∃ r, e = .returned r ∧ Own w.heap.size w' r (blk n l) ∧ Below w.heap.size w w' := by
  have hmf : ∀ (fn : Fn) (first cap : Array Value) (w : World), (Instr.makeFunc fn first cap).run Tryd.prog w = .ok (.func fn first cap) w := fun _ _ _ _ => rfl
  obtain ⟨a, cap, hv, -⟩ := h.nats
  have HI := hid h
  clear h
  subst hv
  go_enter Tryd.func17, Tryd.ntmps17
  go_wp2_with fail
  refine (Those_any n 38 #[.pointer (some ⟨w.heap.size, 0, none⟩)] (fun s => l.all (meetB s)) (w.alloc (.cells #[.slice a l.length cap] 22)) hn Tryd.call38 ?_).mono ?_
  · intro x hx w1 hb1 _
    refine (Blocker1_any x w.heap.size _ l w1 ?_ hl ((hb1.cell (p := ⟨w.heap.size, 0, none⟩) (by simp)).trans (by rw [World.cell?_alloc_at _ _ _ _ rfl]; rfl)) ((HI.out.below ((Below.refl _ _).alloc (Nat.le_refl _) _)).below hb1)).mono ?_
    · have := (pow_wrap n hn).2; omega
    · rintro e w2 ⟨rfl, rfl⟩; exact ⟨rfl, Below.refl _ _⟩
  · rintro e w2 ⟨r, rfl, ho, hb⟩
    have R2 := ((Below.refl w.heap.size w).alloc (Nat.le_refl _) _).trans (hb.mono (by simp))
    have h256 : ((List.range (2 ^ n)).filter fun s => l.all (meetB s)).length ≤ 256 := Nat.le_trans (range_le' _ _) (pow_wrap n hn).2
    have IO := hid (ho.ints (by omega))
    have HL : Hid (∀ s ∈ (List.range (2 ^ n)).filter fun s => l.all (meetB s), s < 256) := (Fam.range n _).lt256 hn
    have HE := hid (block_eq hn l)
    obtain ⟨ra, rc, hr⟩ := ho.form
    rw [hr] at IO ⊢
    clear ho hb hr h256
    generalize ((List.range (2 ^ n)).filter fun s => l.all (meetB s)) = M at *
    go_wp2_with fail
    refine (Least_ref n _ M _ hn HL.out IO.out).mono ?_
    rw [HE.out]
    rintro e w3 ⟨r', rfl, ho, hb⟩
    have R1 := hid (ho.mono (B' := w.heap.size) R2.size)
    have R3 := hid (R2.trans (hb.mono R2.size))
    clear ho hb
    go_wp2_with fail
    go_ret
    exact ⟨_, rfl, R1.out, R3.out⟩

theorem gale_step {x y : List Nat} {k : Nat} (hl : x.length = y.length) (hk : k < x.length) : galeL (x.drop k) (y.drop k) = (decide (x.getD k 0 ≤ y.getD k 0) && galeL (x.drop (k + 1)) (y.drop (k + 1))) := by
  conv => lhs; rw [List.drop_eq_getElem_cons hk, List.drop_eq_getElem_cons (show k < y.length by omega)]
  simp [galeL, List.getD, hk, show k < y.length by omega]

set_option maxHeartbeats 1600000 in
theorem Gale_any (s t : Nat) (w : World) (hs : s < 256) (ht : t < 256) (hp : pop s = pop t) :
    Calls Tryd.prog 12 #[.int .i64 s, .int .i64 t] w fun e w' => e = .returned (.bool (galeL (els s) (els t))) ∧ Below w.heap.size w w' := by
  have HP : Hid ((els s).length = (els t).length) := hp
  clear hp
  go_enter Tryd.func12, Tryd.ntmps12
  go_wp2_with fail
  refine (Elements_any s _ hs).mono ?_
  rintro e w1 ⟨r, rfl, ho, hb⟩
  have h9 : (els s).length ≤ 8 := pop_le s hs
  have I1 := ho.ints (by omega)
  clear ho
  obtain ⟨a, cap, hv, hlen, hc⟩ := I1.nats
  rw [hv] at I1 ⊢
  have J1 := hid I1
  clear hc I1 hv
  go_wp2_with fail
  refine (Elements_any t _ ht).mono ?_
  rintro e w2 ⟨r2, rfl, ho, hb2⟩
  have h10 : (els t).length ≤ 8 := pop_le t ht
  have I2 := ho.ints (by omega)
  have I1 := J1.out.below hb2
  clear ho J1
  obtain ⟨a2, cap2, hv2, hlen2, hc2⟩ := I2.nats
  obtain ⟨a', cap', hv, hlen, hc⟩ := I1.nats
  obtain ⟨rfl, -, rfl⟩ : a = a' ∧ True ∧ cap = cap' := by simpa using hv
  rw [hv2]
  rw [← HP.out] at hc2 hlen2 ⊢
  have b2 := hb.trans (hb2.mono hb.size)
  clear hv hv2 I1 I2 hb hb2
  generalize hx : els s = x at *
  generalize hy : els t = y at *
  have HX := hid hx
  have HY := hid hy
  clear hx hy
  go_wp2_with fail
  go_loopw [7] (fun i wr => ∃ k : Nat, k ≤ x.length ∧ i = .int .i64 k ∧ Below w2.heap.size w2 wr ∧ Hid (galeL x y = galeL (x.drop k) (y.drop k))) (fun i _ => x.length - (intOf i).toNat)
  case atStart => exact ⟨0, Nat.zero_le _, rfl, Below.refl _ _, rfl⟩
  case round =>
    obtain ⟨k, hk, rfl, hnx, R⟩ := hrel
    have bx := b2.trans (hnx.mono b2.size)
    by_cases hlt : k < x.length
    · obtain ⟨b, off, rfl, hb, hcell⟩ := hc (by omega)
      obtain ⟨b', off', rfl, hb', hcell'⟩ := hc2 (by omega)
      have hck : wr.cell? ⟨b, off + k, none⟩ = some (.int .i64 (x.getD k 0 : Nat)) := (hnx.cell (p := ⟨b, off + k, none⟩) hb).trans (hcell k hlt)
      have hck2 : wr.cell? ⟨b', off' + k, none⟩ = some (.int .i64 (y.getD k 0 : Nat)) := (hnx.cell (p := ⟨b', off' + k, none⟩) hb').trans (hcell' k hlt)
      have D := hid (gale_step HP.out hlt)
      have hki : (k : Int) < (x.length : Int) := by omega
      clear hcell hcell' hc hc2
      generalize x.getD k 0 = p at *
      generalize y.getD k 0 = q at *
      by_cases hxy : q < p
      · have hxy' : (q : Int) < (p : Int) := by omega
        have P : Hid (decide (p ≤ q) = false) := by show decide (p ≤ q) = false; simp; omega
        go_wp2_with fail
        go_quiet (fail)
        go_wp2_with fail
        go_ret
        exact ⟨ret_bool (by rw [HX.out, HY.out, R.out, D.out, P.out]; rfl), below_drewN bx _⟩
      · have hxy' : ¬ (q : Int) < (p : Int) := by omega
        have P : Hid (decide (p ≤ q) = true) := by show decide (p ≤ q) = true; simp; omega
        go_wp2_with fail
        go_quiet (fail)
        go_wp2_with fail
        go_roundw
        case rel => exact ⟨k + 1, by omega, by go_num, below_drewN hnx _, by show galeL x y = _; rw [R.out, D.out, P.out]; rfl⟩
        case measure => simp [intOf]; omega
    · have F : Hid (galeL x y = true) := by show galeL x y = true; rw [R.out, List.drop_of_length_le (by omega)]; simp [galeL]
      go_wp2_with fail
      go_ret
      exact ⟨ret_bool (by rw [HX.out, HY.out, F.out]), bx⟩

set_option maxHeartbeats 800000 in
theorem Picks1_any (s bx k : Nat) (w : World) (hs : s < 256) (hbx : w.cell? ⟨bx, 0, none⟩ = some (.int .i64 k)) :
    Calls Tryd.prog 7 #[.int .i64 s, .pointer (some ⟨bx, 0, none⟩)] w fun e w' => e = .returned (.bool (pop s == k)) ∧ Below w.heap.size w w' := by
  have hb' : bx < w.heap.size := World.block_lt_of_cell? w _ hbx
  go_enter Tryd.func7, Tryd.ntmps7
  go_wp2_with fail
  go_region_with ((go_at_call 8; refine (Size_any s _ hs).mono ?_; rintro e w1 ⟨rfl, hb1⟩; have hc1 := (hb1.cell (p := ⟨bx, 0, none⟩) hb').trans hbx))
  all_goals go_wp2_with fail
  all_goals go_ret
  all_goals exact ⟨ret_bool (by rw [Bool.eq_iff_iff, beq_iff_eq, beq_iff_eq]; omega), (Below.refl _ _).drew.trans hb1⟩
end Go.Proofs.YtkebhhpfnalbfabDoor
