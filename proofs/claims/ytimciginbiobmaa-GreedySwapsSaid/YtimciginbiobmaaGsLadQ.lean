/- rotaref.Ladder. -/
import Derived.Test.YtimciginbiobmaaGsRingQ
namespace Go.Proofs.Ytimciginbiobmaa
open Go.RowKit

theorem rm_add {a x : Nat} (ha : a < 256) (hx : a.testBit x = true) : rm a x + 2 ^ x = a := by
  have h8 := bit8 ha hx
  have h1 : rm a x &&& 2 ^ x = 0 := Nat.eq_of_testBit_eq fun i => by
    rw [Nat.testBit_and, rm_bit, Nat.testBit_two_pow]
    by_cases e : x = i
    · subst e; simp
    · simp [e]
  rw [add_disj _ (Nat.lt_trans (rm_lt ha hx) ha) _ (pow_lt256 h8) h1, ad_rm hx]
theorem swap_add {a x y : Nat} (ha : a < 256) (hx : a.testBit x = true) (hy : a.testBit y = false) (hy8 : y < 8) : ((a : Int) - ((2 ^ x : Nat) : Int)) + ((2 ^ y : Nat) : Int) = ((rm a x ||| 2 ^ y : Nat) : Int) := by
  have h1 := rm_add ha hx
  have h2 : rm a x &&& 2 ^ y = 0 := Nat.eq_of_testBit_eq fun i => by
    rw [Nat.testBit_and, rm_bit, Nat.testBit_two_pow]
    by_cases e : y = i
    · subst e; simp [hy]
    · simp [e]
  have h3 := add_disj _ (Nat.lt_trans (rm_lt ha hx) ha) _ (pow_lt256 hy8) h2
  omega
theorem sub_wrap {a p q : Nat} (ha : a < 256) (hp : p < 256) (hq : q < 256) : IntKind.i64.wrap ((a : Int) - (p : Int)) = (a : Int) - (p : Int) ∧ wrap64 ((a : Int) - (p : Int)) = (a : Int) - (p : Int) ∧ IntKind.i64.wrap ((a : Int) - (p : Int) + (q : Int)) = (a : Int) - (p : Int) + (q : Int) ∧ wrap64 ((a : Int) - (p : Int) + (q : Int)) = (a : Int) - (p : Int) + (q : Int) := by
  refine ⟨?_, ?_, ?_, ?_⟩
  · rw [IntKind.wrap_i64]; omega
  · unfold wrap64; omega
  · rw [IntKind.wrap_i64]; omega
  · unfold wrap64; omega
set_option maxRecDepth 20000 in
set_option maxHeartbeats 4000000 in
theorem RLadder_ok (m b : Nat) (v : Value) (l : List Nat) (hbs : Bas l) (hbl : b ∈ l) : ∀ (d a : Nat) (w : World), a ∈ l → pop (dif a b) = d → Ints w v (N l) →
    Calls Try.prog 34 #[.agg #[.int .i64 m, v], .int .i64 a, .int .i64 b] w fun e w' => ∃ r, e = .returned r ∧ Own w.heap.size w' r (ladder l a b) ∧ Below w.heap.size w w' := by
  intro d
  induction d with
  | zero =>
    intro a w hal hd h
    have e : a = b := eq_of_pop (hbs.lt b hbl) (dif_zero (hbs.lt a hal) hd) (Nat.le_of_eq (hbs.size b hbl a hal))
    subst e
    rw [ladder_end]
    have B0 := below_box w #[.int .i64 m, v]
    have HB := hid B0
    obtain ⟨sa, scap, rfl, _, _⟩ := h
    have OL := hid (Own.lit1 (B := w.heap.size) (w.alloc (.cells #[.int .i64 m, .slice sa (N l).length scap] 34)) a (by simp))
    have HB2 := hid (B0.trans ((below_alloc _ (.cells #[.int .i64 a] 3)).mono (by simp)))
    rw [World.size_alloc] at OL
    go_enter Try.func34, Try.ntmps34
    go_wp2_with fail
    go_ret
    exact ⟨_, rfl, OL.out, HB2.out⟩
  | succ d ih =>
    intro a w hal hd h
    have hne : a ≠ b := fun e => by
      subst e
      have : dif a a = 0 := Nat.eq_of_testBit_eq fun i => by rw [dif_bit]; simp
      rw [this] at hd
      have : pop 0 = 0 := by decide
      omega
    have ha8 := hbs.lt a hal
    have hb8 := hbs.lt b hbl
    obtain ⟨i0, hi0, hz0, hz1, hz2⟩ := info_parts Try.infoInt
    have hnz : ((a : Int) == (b : Int)) = false := by rw [beq_eq_false_iff_ne]; omega
    have B0 := below_box w #[.int .i64 m, v]
    have HV := hid (h.below B0)
    have HB := hid B0
    obtain ⟨sa, scap, rfl, _, _⟩ := h
    have hd0 := dif_pos ha8 hb8 (hbs.size a hal b hbl) hne
    have hab : bits .andNot .i64 (a : Int) (b : Int) = ((dif a b : Nat) : Int) := i64_andNot_nat a b (by omega) (by omega)
    have hba : bits .andNot .i64 (b : Int) (a : Int) = ((dif b a : Nat) : Int) := i64_andNot_nat b a (by omega) (by omega)
    have E1 := hid (fun w => Elements_any (dif a b) w (dif_lt ha8))
    have E2 := hid (fun w => Elements_any (dif b a) w (dif_lt hb8))
    go_enter Try.func34, Try.ntmps34
    go_wp2_with fail
    refine (E1.out _).mono ?_
    rintro e w1 ⟨r1, rfl, ho1, hb1⟩
    have hx1 := tz_bitL _ (dif_lt (b := b) ha8) hd0
    rw [dif_bit] at hx1
    simp at hx1
    have hx8 := tz_lt _ (dif_lt (b := b) ha8) hd0
    obtain ⟨y0, n1, n2, n3, n4, n5, n6⟩ := next_is hbs hal hbl hne
    have ND := next_dif hbs hal hbl hne
    have LS := hid (ladder_step hbs hal hbl hne)
    have hstep := els_step _ (dif_lt (b := b) ha8) hd0
    rw [hstep] at ho1
    have hel8 : (els (wl (dif a b))).length ≤ 8 := by
      have := congrArg List.length hstep
      rw [← pop_els, List.length_cons] at this
      have := pop_le _ (dif_lt (b := b) ha8)
      omega
    have HDR : Hid (downR l a b = rm a (tz (dif a b))) := rfl
    generalize tz (dif a b) = x at *
    generalize els (wl (dif a b)) = rest at *
    obtain ⟨ra, rcap, rfl, _, hcl⟩ := (ho1.ints (by simp; omega)).nats
    obtain ⟨rb, roff, rfl, _, hcell⟩ := hcl (by simp)
    have h0 : w1.cell? ⟨rb, roff, none⟩ = some (.int .i64 x) := hcell 0 (by simp)
    have HB1 := hid (HB.out.trans (hb1.mono HB.out.size))
    have HV1 := hid (HV.out.below hb1)
    obtain ⟨z0, z1⟩ := box_cells hb1
    have hs1 := hb1.size
    rw [World.size_alloc] at hs1
    have hl1 : (0 : Int) < (((x :: rest).length : Nat) : Int) := by rw [List.length_cons]; omega
    clear hcl hcell ho1 hb1 hstep
    generalize (x :: rest).length = L1 at *
    have E2' := hid (E2.out w1)
    go_wp2_with fail
    refine E2'.out.mono ?_
    rintro e w2 ⟨r2, rfl, ho2, hb2⟩
    have y0' := (hb2.cell (p := ⟨w.heap.size, 0, none⟩) (by show w.heap.size < _; omega)).trans z0
    have y1' := (hb2.cell (p := ⟨w.heap.size, 1, none⟩) (by show w.heap.size < _; omega)).trans z1
    have HB2 := hid (HB1.out.trans (hb2.mono HB1.out.size))
    have HV2 := hid (HV1.out.below hb2)
    have hs2 : w.heap.size + 1 ≤ w2.heap.size := Nat.le_trans hs1 hb2.size
    have hel2 : (els (dif b a)).length ≤ 8 := by rw [← pop_els]; exact pop_le _ (dif_lt hb8)
    have HE : Hid (∀ y ∈ els (dif b a), b.testBit y = true ∧ a.testBit y = false) := fun y hy => by
      have := (mem_els (dif_lt (b := a) hb8)).1 hy
      rw [dif_bit] at this
      simpa using this
    generalize els (dif b a) = IN at *
    obtain ⟨ia, icap, rfl, _, hcl⟩ := (ho2.ints (by omega)).nats
    clear ho2 hb2 z0 z1 HB1 HV1 hs1 h0 E1 E2 E2'
    go_wp2_with fail
    go_loopw [9] (fun q wr => ∃ k : Nat, k ≤ IN.length ∧ q = .int .i64 k ∧ Hid (∀ j, j < k → memB (downR l a b ||| 2 ^ IN.getD j 0) l = false) ∧ Hid (Below w2.heap.size w2 wr)) (fun q _ => IN.length - (intOf q).toNat)
    case atStart => exact ⟨0, Nat.zero_le _, rfl, fun j hj => by omega, Below.refl _ _⟩
    case round =>
      obtain ⟨k, hk, rfl, R, HW⟩ := hrel
      by_cases hlt : k < IN.length
      · have hki : (k : Int) < (IN.length : Int) := by omega
        obtain ⟨cb, coff, rfl, hcb, hcell⟩ := hcl (by omega)
        have hck := (HW.out.cell (p := ⟨cb, coff + k, none⟩) hcb).trans (hcell k hlt)
        have hmem : IN.getD k 0 ∈ IN := by simp only [List.getD, List.getElem?_eq_getElem hlt, Option.getD_some]; exact List.getElem_mem _
        obtain ⟨e1, e2⟩ := HE.out _ hmem
        have hy8 := bit8 hb8 e1
        have R2 : Hid (memB (downR l a b ||| 2 ^ IN.getD k 0) l = false → ∀ j, j < k + 1 → memB (downR l a b ||| 2 ^ IN.getD j 0) l = false) := fun h j hj => by
          by_cases e : j = k
          · subst e; exact h
          · exact R.out j (by omega)
        have FN : Hid (memB (downR l a b ||| 2 ^ IN.getD k 0) l = true → downR l a b ||| 2 ^ IN.getD k 0 = nextR l a b) := fun h => by
          have hsp : IN = IN.take k ++ IN.getD k 0 :: IN.drop (k + 1) := by
            conv => lhs; rw [← List.take_append_drop k IN, List.drop_eq_getElem_cons hlt]
            simp [List.getD, hlt]
          rw [hsp, List.find?_append, List.find?_eq_none.2 (fun z hz => by
            obtain ⟨j, hj, rfl⟩ := List.mem_iff_getElem.1 hz
            have hj' : j < k := by rw [List.length_take] at hj; omega
            have := R.out j hj'
            rw [List.getElem_take]
            simp only [List.getD, List.getElem?_eq_getElem (show j < IN.length by omega), Option.getD_some] at this
            rw [this]
            simp)] at n1
          rw [List.find?_cons, h] at n1
          simp only [Option.none_or, Option.some.injEq] at n1
          rw [n3, ← n1]
        have SA := swap_add ha8 hx1.1 e2 hy8
        have HDE : Hid (rm a x ||| 2 ^ IN.getD k 0 = downR l a b ||| 2 ^ IN.getD k 0) := by show _ = _; rw [HDR.out]
        rw [HDE.out] at SA
        have hpw1 : IntKind.i64.wrap (2 ^ x) = ((2 ^ x : Nat) : Int) := by rw [show (2 : Int) ^ x = ((2 ^ x : Nat) : Int) by simp]; exact wrap_i64_nat _ (by have := pow_lt256 hx8; omega)
        have hpw1' : wrap64 (2 ^ x) = ((2 ^ x : Nat) : Int) := (pow_wrap x (by omega)).1
        generalize IN.getD k 0 = y at *
        have hpw2 : IntKind.i64.wrap (2 ^ y) = ((2 ^ y : Nat) : Int) := by rw [show (2 : Int) ^ y = ((2 ^ y : Nat) : Int) by simp]; exact wrap_i64_nat _ (by have := pow_lt256 hy8; omega)
        have hpw2' : wrap64 (2 ^ y) = ((2 ^ y : Nat) : Int) := (pow_wrap y (by omega)).1
        have hxn : ¬ (x : Int) < 0 := by omega
        have hyn : ¬ (y : Int) < 0 := by omega
        have px8 := pow_lt256 hx8
        have py8 := pow_lt256 hy8
        clear hcell n1
        generalize downR l a b ||| 2 ^ y = t at *
        generalize 2 ^ x = px at *
        generalize 2 ^ y = py at *
        have HIH := hid ih
        have HND := hid ND
        have HN3 := hid n3
        have HHD := hid hd
        obtain ⟨hw1, hw2, hw3, hw4⟩ := sub_wrap (a := a) (p := px) (q := py) ha8 px8 py8
        rw [SA] at hw3 hw4
        clear ih ND n3 hd hx1 e1 e2 hd0 hne n5 n6 hab hba hnz
        go_wp2_with fail
        go_quiet (fail)
        have t1 : (wr.drewN nq).cell? ⟨w.heap.size, 1, none⟩ = some (.slice sa (N l).length scap) := (HW.out.cell (p := ⟨w.heap.size, 1, none⟩) (by show w.heap.size < _; omega)).trans y1'
        have t0 : (wr.drewN nq).cell? ⟨w.heap.size, 0, none⟩ = some (.int .i64 m) := (HW.out.cell (p := ⟨w.heap.size, 0, none⟩) (by show w.heap.size < _; omega)).trans y0'
        have HW3 : Hid (Below w2.heap.size w2 (wr.drewN nq)) := HW.out.trans (drewN_below _ _ _)
        have hs3 : w2.heap.size ≤ (wr.drewN nq).heap.size := HW.out.size
        clear hck
        generalize wr.drewN nq = w3 at *
        have HV3 := hid (HV2.out.below HW3.out)
        have HAS := hid (Has_any _ l t w3 HV3.out)
        rcases hq : memB t l with _ | _
        · rw [hq] at HAS
          have R3 := hid (R2.out hq)
          clear hq R2 FN
          go_wp2_with fail
          refine HAS.out.mono ?_
          rintro e w' ⟨rfl, hw'⟩
          obtain rfl := hw'.symm
          go_wp2_with fail
          go_roundw
          case rel => exact ⟨k + 1, by omega, by go_num, R3, HW3⟩
          case measure => simp [intOf]; omega
        · rw [hq] at HAS
          have hnx := FN.out hq
          clear hq R2 FN
          have hBL := below_alloc w3 (.cells #[.int .i64 a] 3)
          have q1 := (hBL.cell (p := ⟨w.heap.size, 1, none⟩) (by show w.heap.size < _; omega)).trans t1
          have q0 := (hBL.cell (p := ⟨w.heap.size, 0, none⟩) (by show w.heap.size < _; omega)).trans t0
          have IH := hid (HIH.out (nextR l a b) (w3.alloc (.cells #[.int .i64 a] 3)) n4 (by have := HND.out.1; have := HHD.out; omega) (HV3.out.below hBL))
          rw [← hnx] at IH
          have OL := hid (Own.lit1 (B := w.heap.size) w3 a (by omega))
          have HB3 : Hid (Below w.heap.size w (w3.alloc (.cells #[.int .i64 a] 3))) := (HB2.out.trans (HW3.out.mono HB2.out.size)).trans (hBL.mono (by omega))
          have LSE : Hid (ladder l a b = a :: ladder l t b) := by show _ = _; rw [LS.out, hnx]
          have HLL : Hid ((ladder l t b).length ≤ 9) := by
            show _ ≤ _
            rw [ladder_len]
            have := pop_le _ (dif_lt (b := b) (hbs.lt _ n4))
            rw [hnx]
            omega
          clear hBL hnx n2 n4 SA
          go_wp2_with fail
          refine HAS.out.mono ?_
          rintro e w' ⟨rfl, hw'⟩
          obtain rfl := hw'.symm
          go_wp2_with fail
          refine IH.out.mono ?_
          rintro e w5 ⟨r5, rfl, ho5, hb5⟩
          have OL5 := hid (OL.out.below hb5)
          have HB5 := hid (HB3.out.trans (hb5.mono HB3.out.size))
          have hl5 := HLL.out
          have hcells : ∃ g cap, r5 = .slice (some ⟨g, 0, none⟩) (ladder l t b).length cap := by
            obtain ⟨h0, h1⟩ := ho5
            rcases h1 with ⟨rfl, hn⟩ | ⟨g, cap, cur, rfl, _⟩
            · rw [ladder_len] at hn; omega
            · exact ⟨g, cap, rfl⟩
          obtain ⟨g5, cap5, rfl⟩ := hcells
          obtain ⟨q1', q2', q3', _, hq5⟩ := (ho5.ints (by omega)).nats
          obtain ⟨b5, off5, e5, _, hc5⟩ := hq5 (by rw [ladder_len]; omega)
          have hcj : ∀ j u, (V (ladder l t b))[j]? = some u → w5.cell? ((⟨g5, 0, none⟩ : Addr).add j) = some u := fun j u hu => by
            subst e5
            cases q3'
            have hj : j < (ladder l t b).length := by
              have := (List.getElem?_eq_some_iff.1 hu).1
              rwa [V_len] at this
            have := hc5 j hj
            simp only [V, List.getElem?_map] at hu
            rw [List.getElem?_eq_getElem hj] at hu
            simp only [Option.map_some, Option.some.injEq] at hu
            simp only [List.getD, List.getElem?_eq_getElem hj, Option.getD_some] at this
            rw [← hu, ← this]
            by_cases hj0 : j = 0
            · subst hj0; simp [Addr.add]
            · simp [Addr.add, hj0]
          have hs5 := HB5.out.size
          clear hb5 ho5 hq5 hc5 e5 q3' OL
          have hGL : Hid (a :: ladder l t b = [a] ++ ladder l t b) := rfl
          have hVL := V_len (ladder l t b)
          have hV1 : ∀ u ∈ V (ladder l t b), u.oneCell' = true := fun u hu => by
            simp only [V, List.mem_map] at hu
            obtain ⟨z, _, rfl⟩ := hu
            rfl
          go_wp2_with (at_builtin; refine wpList_append_own _ rfl _ _ 32 rfl w.heap.size 3 i0 (.int .i64 0) 1 8 Try.underlying32 hi0 hz0 hz1 hz2 rfl (by decide) _ _ _ rfl OL5.out ⟨g5, 0, none⟩ (ladder l t b).length cap5 (V (ladder l t b)) rfl (by rw [hVL, Nat.mul_one]) hcj hV1 ?c3 ?c4 ?c5 ?_)
          case c3 => unfold maxLen; simp; omega
          case c4 => simp; omega
          case c5 => omega
          intro v' w6 hown' hgrow _
          have R3 : Hid (Own w.heap.size w6 v' (ladder l a b)) := by
            show Own _ _ _ _
            rw [LSE.out]
            unfold Own
            have e1 : V (a :: ladder l t b) = V [a] ++ V (ladder l t b) := rfl
            have e2 : (a :: ladder l t b).length = [a].length + (ladder l t b).length := by simp; omega
            rw [e1, e2]
            exact hown'
          have hs35 : w.heap.size ≤ w3.heap.size := by omega
          have R4 := hid (HB5.out.grown hgrow HB5.out.size (fun k e => by cases e; exact hs35))
          clear hown' hgrow
          go_wp2_with fail
          go_ret
          exact ⟨_, rfl, R3.out, R4.out⟩
      · exfalso
        have hm := n2
        obtain ⟨j, hj, he⟩ := List.mem_iff_getElem.1 hm
        have h1 := R.out j (by omega)
        simp only [List.getD, List.getElem?_eq_getElem hj, Option.getD_some] at h1
        rw [he, ← n3] at h1
        unfold memB at h1
        simp [n4] at h1
end Go.Proofs.Ytimciginbiobmaa
