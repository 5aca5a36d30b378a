/- meet.independentInBoth, meet.largest, meet.tightest, meet.closedInBoth. -/
import Derived.Test.YtomajfpincehnaaIsIndQ
import Derived.Test.YtomajfpincehnaaAlkQ
import Derived.Test.YtomajfpincehnaaShrW
import Derived.Test.YtomajfpincehnaaPlainAll1
import Derived.Test.YtomajfpincehnaaSieveQ
namespace Go.Proofs.Ytomajfpincehnaa
open Go.RowKit Go.Shelf

theorem below_drewM {B : Nat} {w w' : World} (h : Below B w w') (k : Nat) : Below B w (w'.drewN k) := h.trans (drewN_below _ _ _)
theorem own_two {B : Nat} {W W4 : World} {v : Value} {l : List Nat} (h : Own B W v l) (j j' : Nat) (e : W4 = (W.drewN j).drewN j') : Own B W4 v l := by
  subst e
  exact (h.below (drewN_below _ _ j)).below (drewN_below _ _ j')
set_option maxRecDepth 20000 in
set_option maxHeartbeats 2000000 in
theorem indBoth_any (va vb : Value) (T : Nat) (r q : Nat → Nat) (w : World) (hT : T ≤ 256) (ha : RkAt w va T r) (hb : RkAt w vb T q) :
    Calls Try.prog 15 #[va, vb] w fun e w' => ∃ v, e = .returned v ∧ Own w.heap.size w' v ((List.range T).filter (comB r q)) ∧ Below w.heap.size w w' := by
  obtain ⟨i0, hi, hz0, hz1, hz2⟩ := info_parts Try.infoInt
  have IA := hid (fun t w' (ht : t < T) (hb' : Below w.heap.size w w') => isInd_q va T r t w' hT ht (ha.below hb'))
  have IB := hid (fun t w' (ht : t < T) (hb' : Below w.heap.size w w') => isInd_q vb T q t w' hT ht (hb.below hb'))
  obtain ⟨p, HP⟩ : ∃ p : Nat → Bool, Hid (comB r q = p) := ⟨_, rfl⟩
  have PX : Hid (∀ k, p k = (r k == pop k && q k == pop k)) := fun k => by rw [← HP.out]; rfl
  rw [HP.out]
  obtain ⟨rb, roff, rcap, rfl, -, -⟩ := ha
  obtain ⟨rb', roff', rcap', rfl, -, -⟩ := hb
  clear HP
  go_enter Try.func15, Try.ntmps15
  go_wp2_with fail
  go_loopw [5, 9] (fun u i wr => ∃ k : Nat, k ≤ T ∧ i = .int .i64 k ∧ Own w.heap.size wr u ((List.range k).filter p) ∧ Below w.heap.size w wr) (fun _ i _ => T - (intOf i).toNat)
  case atStart => exact ⟨0, Nat.zero_le _, rfl, Own.nil _ _, Below.refl _ _⟩
  case round =>
    obtain ⟨k, hk, rfl, hown, hnx⟩ := hrel
    have hsz := hnx.size
    by_cases hlt : k < T
    · have Hhit := hid (fun hp => rg_hit (p := p) (k := k) hp)
      have Hmiss := hid (fun hp => rg_miss (p := p) (k := k) hp)
      have hfl := rg_le p k
      have HO := hid hown
      have HNX := hid hnx
      have J2 := hid (IA.out k wr (by omega) hnx)
      have J3 := hid (fun n => IB.out k (wr.drewN n) hlt (hnx.trans (drewN_below _ _ _)))
      have PK := hid (PX.out k)
      clear IA IB hown hnx PX
      generalize (List.range k).filter p = acc at *
      generalize (r k == pop k) = b2 at *
      generalize (q k == pop k) = b3 at *
      rcases b2 with _ | _
      · go_wp2_with fail
        refine J2.out.mono ?_
        rintro e w2 ⟨rfl, j, rfl⟩
        go_wp2_with fail
        go_roundw
        case rel => exact ⟨k + 1, by omega, by go_num, by rw [Hmiss.out PK.out]; exact HO.out.below (drewN_below _ _ _), below_drewM HNX.out _⟩
        case measure => simp [intOf]; omega
      · go_wp2_with fail
        refine J2.out.mono ?_
        rintro e w2 ⟨rfl, j, rfl⟩
        have J4 := hid (J3.out j)
        clear J3
        rcases b3 with _ | _
        · go_wp2_with fail
          refine J4.out.mono ?_
          rintro e w3 ⟨rfl, j', rfl⟩
          have R1 := hid (HO.out.below (drewN_below _ _ (j + j')))
          have R2 := hid (below_drewM HNX.out (j + j'))
          go_wp2_with fail
          go_roundw
          case rel => exact ⟨k + 1, by omega, by go_num, by rw [Hmiss.out PK.out]; exact R1.out, R2.out⟩
          case measure => simp [intOf]; omega
        · go_wp2_with fail
          refine J4.out.mono ?_
          rintro e w4 ⟨rfl, j', hw4⟩
          have R1 := hid (own_two HO.out j j' hw4)
          have R2 : Below w.heap.size w w4 := by rw [hw4]; exact below_drewM (below_drewM HNX.out j) j'
          have hs2 : w.heap.size ≤ w4.heap.size := R2.size
          clear HNX HO J4 J2 hw4
          go_wp2_with (at_builtin; refine wpList_append_own _ rfl _ _ 28 rfl w.heap.size 3 i0 (.int .i64 0) 1 8 Try.underlying28 hi hz0 hz1 hz2 rfl (by decide) _ _ _ rfl (R1.out.alloc _) ⟨w4.heap.size, 0, none⟩ 1 1 [.int .i64 (k : Nat)] rfl rfl ?c1 ?c2 ?c3 ?c4 ?c5 ?_)
          case c1 => exact cell_one_new _ _ _
          case c2 => intro u hu; simp at hu; subst hu; rfl
          case c3 => unfold maxLen; omega
          case c4 => omega
          case c5 => simp; omega
          intro v' w5 hown' hgrow _
          have R3 := hid (Own.snoc hown')
          have R4 := hid (Own.grown R1.out R2 (by omega) hgrow)
          clear hown' hgrow
          go_wp2_with fail
          go_roundw
          case rel => exact ⟨k + 1, by omega, by go_num, by rw [Hhit.out PK.out]; exact R3.out, R4.out⟩
          case measure => simp [intOf]; omega
    · obtain rfl : k = T := by omega
      have HO := hid hown
      have HB := hid hnx
      clear hown hnx
      go_wp2_with fail
      go_ret
      exact ⟨_, rfl, HO.out, HB.out⟩
set_option maxRecDepth 20000 in
set_option maxHeartbeats 1000000 in
theorem largest_any (v : Value) (l : List Nat) (w : World) (h : Ints w v (N l)) (hl : l.Pairwise (· < ·)) (hl8 : ∀ x ∈ l, x < 256) (hlen : l.length ≤ 256) :
    Calls Try.prog 14 #[v] w fun e w' => e = .returned (.int .i64 (lgF l : Nat)) ∧ w' = w := by
  obtain ⟨a, cap, rfl, -, hc⟩ := h.nats
  have HL : Hid (∀ k, k ≤ l.length → lgF (l.take k) < 256) := fun k hk => lg_lt hl hl8 (by decide) hk
  have HN : Hid (∀ k, k < l.length → lgF (l.take (k + 1)) = if pop (lgF (l.take k)) < pop (l.getD k 0) then l.getD k 0 else lgF (l.take k)) := fun k hk => lg_next hk
  have HG : Hid (∀ k, k < l.length → l.getD k 0 < 256) := fun k hk => by rw [getD_get hk]; exact hl8 _ (List.getElem_mem hk)
  have HE : Hid (lgF (l.take l.length) = lgF l) := by show _ = _; rw [List.take_length]
  clear hl hl8
  go_enter Try.func14, Try.ntmps14
  go_wp2_with fail
  go_loop [3, 8] (fun u i => ∃ k : Nat, k ≤ l.length ∧ i = .int .i64 k ∧ u = .int .i64 (lgF (l.take k) : Nat)) (fun _ i => l.length - (intOf i).toNat)
  case atStart => exact ⟨0, Nat.zero_le _, rfl, rfl⟩
  case round =>
    obtain ⟨k, hk, rfl, rfl⟩ := hrel
    by_cases hlt : k < l.length
    · have hki : (k : Int) < (l.length : Int) := by omega
      obtain ⟨b, off, rfl, hb, hcell⟩ := hc (by omega)
      have hck := hcell k hlt
      have hn := HN.out k hlt
      have h1 := HL.out k hk
      have h2 := HG.out k hlt
      have HNN := hid hn
      clear hn hcell hc
      generalize l.getD k 0 = x at *
      generalize lgF (l.take k) = f at *
      have S1 := hid (fun w => size_any x w h2)
      have S2 := hid (fun w => size_any f w h1)
      have p1 := pop_le x h2
      have p2 := pop_le f h1
      by_cases c : pop f < pop x
      · have c' : (pop f : Int) < (pop x : Int) := by omega
        have HC := hid c
        clear c HL HN HG
        generalize pop f = pf at *
        generalize pop x = px at *
        go_wp2_with fail
        refine (S1.out _).mono ?_
        rintro e w1 ⟨rfl, rfl⟩
        go_wp2_with fail
        refine (S2.out _).mono ?_
        rintro e w2 ⟨rfl, rfl⟩
        go_wp2_with fail
        go_round
        case rel => exact ⟨k + 1, by omega, by go_num, by rw [HNN.out, if_pos HC.out]⟩
        case measure => simp [intOf]; omega
      · have c' : ¬ (pop f : Int) < (pop x : Int) := by omega
        have HC := hid c
        clear c HL HN HG
        generalize pop f = pf at *
        generalize pop x = px at *
        go_wp2_with fail
        refine (S1.out _).mono ?_
        rintro e w1 ⟨rfl, rfl⟩
        go_wp2_with fail
        refine (S2.out _).mono ?_
        rintro e w2 ⟨rfl, rfl⟩
        go_wp2_with fail
        go_round
        case rel => exact ⟨k + 1, by omega, by go_num, by rw [HNN.out, if_neg HC.out]⟩
        case measure => simp [intOf]; omega
    · obtain rfl : k = l.length := by omega
      have E := HE.out
      generalize lgF (l.take l.length) = f at *
      have HEE := hid E
      clear E HE HL HN HG
      go_wp2_with fail
      go_ret
      exact ⟨ret_int (by rw [HEE.out]), rfl⟩
set_option maxRecDepth 20000 in
set_option maxHeartbeats 1000000 in
theorem tightest_any (va vb : Value) (n : Nat) (r q : Nat → Nat) (w : World) (hn : n ≤ 8) (hr8 : ∀ i, r i ≤ 8) (hq8 : ∀ i, q i ≤ 8) (ha : RkAt w va (2 ^ n) r) (hb : RkAt w vb (2 ^ n) q) :
    Calls Try.prog 16 #[va, vb] w fun e w' => e = .returned (.int .i64 (tgF n r q (2 ^ n) : Nat)) ∧ Below w.heap.size w w' := by
  have HF : Hid (∀ k, k ≤ 2 ^ n → tgF n r q k < 2 ^ n) := fun k hk => (tg_spec k hk).1
  have HS : Hid (∀ k, tgF n r q (k + 1) = if r k + q (2 ^ n - 1 - k) < r (tgF n r q k) + q (2 ^ n - 1 - tgF n r q k) then k else tgF n r q k) := fun k => rfl
  have HD : Hid (∀ k : Nat, k < 2 ^ n → bits .andNot .i64 ((2 ^ n - 1 : Nat) : Int) (k : Int) = ((2 ^ n - 1 - k : Nat) : Int)) := fun k hk => by
    rw [i64_andNot_nat _ _ (by have := lt256 hn (full_lt n); omega) (by have := lt256 hn hk; omega)]
    exact congrArg Int.ofNat (dif_cpl hk)
  obtain ⟨f, hf0, HFF⟩ : ∃ f : Nat → Nat, f 0 = 0 ∧ Hid (tgF n r q = f) := ⟨_, rfl, rfl⟩
  rw [HFF.out] at HF HS ⊢
  obtain ⟨T, HT, hT2, hT1⟩ : ∃ T : Nat, Hid (2 ^ n = T) ∧ T ≤ 256 ∧ 1 ≤ T := ⟨2 ^ n, Eq.refl (2 ^ n), (pow_wrap _ hn).2, Nat.one_le_two_pow⟩
  rw [HT.out] at HF HS HD ha hb ⊢
  have HA := hid ha
  have HBB := hid hb
  obtain ⟨rb, roff, rcap, rfl, -, -⟩ := ha
  obtain ⟨rb', roff', rcap', rfl, -, -⟩ := hb
  obtain ⟨A, hA, hAT⟩ : ∃ A : Nat, (T : Int) - 1 = (A : Int) ∧ A + 1 = T := ⟨T - 1, by omega, by omega⟩
  have hA2 : T - 1 = A := by omega
  rw [hA2] at HS HD
  clear hA2
  go_enter Try.func16, Try.ntmps16
  go_wp2_with fail
  go_loopw [6, 13] (fun u i wr => ∃ k : Nat, k ≤ T ∧ i = .int .i64 k ∧ u = .int .i64 (f k : Nat) ∧ Hid (Below w.heap.size w wr)) (fun _ i _ => T - (intOf i).toNat)
  case atStart => exact ⟨0, Nat.zero_le _, rfl, by rw [hf0]; rfl, Below.refl _ _⟩
  case round =>
    obtain ⟨k, hk, rfl, rfl, HW⟩ := hrel
    by_cases hlt : k < T
    · have cell : ∀ {b off cap : Nat} {g : Nat → Nat}, RkAt w (.slice (some ⟨b, off, none⟩) T cap) T g → ∀ i, i < T → wr.cell? ⟨b, off + i, none⟩ = some (.int .i64 (g i : Nat)) := fun {b off cap g} h i hi => by
        obtain ⟨b', off', cp', e, h1, h2⟩ := h.below HW.out
        obtain ⟨⟨rfl, rfl⟩, rfl⟩ : (b = b' ∧ off = off') ∧ cap = cp' := by simpa using e
        exact h2 i hi
      have hfk := HF.out k hk
      have x1 := cell HA.out k hlt
      have x2 := cell HBB.out (A - k) (by omega)
      have x3 := cell HA.out (f k) hfk
      have x4 := cell HBB.out (A - f k) (by omega)
      have d1 := HD.out k hlt
      have d2 := HD.out (f k) hfk
      have r1 := hr8 k
      have r2 := hq8 (A - k)
      have r3 := hr8 (f k)
      have r4 := hq8 (A - f k)
      have ST := hid (HS.out k)
      obtain ⟨y, hy, hyT⟩ : ∃ y, A - k = y ∧ y < T := ⟨_, rfl, by omega⟩
      obtain ⟨z, hz, hzT⟩ : ∃ z, A - f k = z ∧ z < T := ⟨_, rfl, by omega⟩
      rw [hy] at x2 d1 r2 ST
      rw [hz] at x4 d2 r4 ST
      clear cell HF HS HD HA HBB hr8 hq8 hy hz
      generalize f k = g at *
      generalize r k = a1 at *
      generalize q y = a2 at *
      generalize r g = a3 at *
      generalize q z = a4 at *
      by_cases c : a1 + a2 < a3 + a4
      · have c' : (a1 : Int) + a2 < (a3 : Int) + a4 := by omega
        have HC := hid c
        clear c
        go_wp2_with fail
        go_quiet (fail)
        go_wp2_with fail
        go_roundw
        case rel => exact ⟨k + 1, by omega, by go_num, by rw [ST.out, if_pos HC.out], below_drewM HW.out _⟩
        case measure => simp [intOf]; omega
      · have c' : ¬ (a1 : Int) + a2 < (a3 : Int) + a4 := by omega
        have HC := hid c
        clear c
        go_wp2_with fail
        go_quiet (fail)
        go_wp2_with fail
        go_roundw
        case rel => exact ⟨k + 1, by omega, by go_num, by rw [ST.out, if_neg HC.out], below_drewM HW.out _⟩
        case measure => simp [intOf]; omega
    · obtain rfl : k = T := by omega
      go_wp2_with fail
      go_ret
      exact ⟨rfl, HW.out⟩
end Go.Proofs.Ytomajfpincehnaa
