/- greedy.checkWeights, weigh, last, grow. -/
import Derived.Test.YthbcnolpjcppoabDoorGrSortQ
import Derived.Test.YthbcnolpjcppoabDoorPlainAll
import Derived.Deep.OwnRows
namespace Go.Proofs.YthbcnolpjcppoabDoor
open Go.RowKit

/-- What checkWeights tells. -/
def cwR (n : Int) (ws : List Int) : Int := if (ws.length : Int) ≠ n then 3 else if ws.all fun x => decide (-1000 ≤ x ∧ x ≤ 1000) then 0 else 1
set_option maxRecDepth 20000 in
set_option maxHeartbeats 800000 in
theorem checkWeights_any (n : Int) (v : Value) (ws : List Int) (w : World) (h : Ints w v ws) :
    Calls Tryd.prog 17 #[.int .i64 n, v] w fun e w' => e = .returned (.int .i64 (cwR n ws)) ∧ w' = w := by
  obtain ⟨a, cap, rfl, hl, hc⟩ := h
  have E0 : Hid (cwR n ws = if (ws.length : Int) ≠ n then 3 else if ws.all fun x => decide (-1000 ≤ x ∧ x ≤ 1000) then 0 else 1) := rfl
  generalize cwR n ws = res at *
  by_cases hn : (ws.length : Int) = n
  · subst hn
    rw [if_neg (by simp)] at E0
    go_enter Tryd.func17, Tryd.ntmps17
    go_wp2_with fail
    go_loop [13] (fun i => ∃ k : Nat, k ≤ ws.length ∧ i = .int .i64 k ∧ Hid (∀ i, i < k → decide (-1000 ≤ ws.getD i 0 ∧ ws.getD i 0 ≤ 1000) = true)) (fun i => ws.length - (intOf i).toNat)
    case atStart => exact ⟨0, Nat.zero_le _, rfl, fun i hi => by omega⟩
    case round =>
      obtain ⟨k, hk, rfl, R⟩ := hrel
      by_cases hlt : k < ws.length
      · have hki : (k : Int) < (ws.length : Int) := by omega
        obtain ⟨b, off, rfl, hb, hcell⟩ := hc (by omega)
        have hck := hcell k hlt
        have R2 : Hid (decide (-1000 ≤ ws.getD k 0 ∧ ws.getD k 0 ≤ 1000) = true → ∀ i, i < k + 1 → decide (-1000 ≤ ws.getD i 0 ∧ ws.getD i 0 ≤ 1000) = true) := fun h i hi => by
          by_cases e : i = k
          · subst e; exact h
          · exact R.out i (by omega)
        have R3 : Hid (decide (-1000 ≤ ws.getD k 0 ∧ ws.getD k 0 ≤ 1000) = false → (ws.all fun x => decide (-1000 ≤ x ∧ x ≤ 1000)) = false) := fun h => by
          rw [List.all_eq_false]
          refine ⟨ws.getD k 0, ?_, by rw [h]; simp⟩
          simp only [List.getD, List.getElem?_eq_getElem hlt, Option.getD_some]
          exact List.getElem_mem _
        clear hcell hc
        generalize ws.getD k 0 = x at *
        by_cases h1 : x < -1000
        · have F := R3.out (by rw [decide_eq_false_iff_not]; omega)
          rw [F] at E0
          go_wp2_with fail
          go_ret
          exact ⟨by rw [E0.out]; rfl, rfl⟩
        · by_cases h2 : 1000 < x
          · have F := R3.out (by rw [decide_eq_false_iff_not]; omega)
            rw [F] at E0
            go_wp2_with fail
            go_ret
            exact ⟨by rw [E0.out]; rfl, rfl⟩
          · have R4 := hid (R2.out (by rw [decide_eq_true_eq]; omega))
            clear R2 R3
            go_wp2_with fail
            go_round
            case rel => exact ⟨k + 1, by omega, by go_num, R4⟩
            case measure => simp [intOf]; omega
      · obtain rfl : k = ws.length := by omega
        have F : (ws.all fun x => decide (-1000 ≤ x ∧ x ≤ 1000)) = true := List.all_eq_true.2 fun y hy => by
          obtain ⟨i, hi, rfl⟩ := List.mem_iff_getElem.1 hy
          have := R.out i hi
          simpa [List.getD, hi] using this
        rw [F] at E0
        go_wp2_with fail
        go_ret
        exact ⟨by rw [E0.out]; rfl, rfl⟩
  · rw [if_pos hn] at E0
    have hn' : ((ws.length : Int) != n) = true := by simp [hn]
    go_enter Tryd.func17, Tryd.ntmps17
    go_wp2_with fail
    go_ret
    exact ⟨by rw [E0.out]; rfl, rfl⟩
theorem Own.lit0 {B : Nat} (w : World) (h : B ≤ w.heap.size) : Own B (w.alloc (.cells #[.int .i64 0] 3)) (.slice (some ⟨w.heap.size, 0, none⟩) 1 1) [0] :=
  ⟨rfl, .inr ⟨w.heap.size, 1, #[.int .i64 0], rfl, h, World.alloc_heap_new w _, Nat.le_refl _, by unfold maxLen; omega, rfl, rfl⟩⟩
theorem last_any {B : Nat} {v : Value} {l : List Nat} {x : Nat} {w : World} (h : Own B w v (l ++ [x])) (hl : l.length ≤ 256) :
    Calls Tryd.prog 14 #[v] w fun e w' => e = .returned (.int .i64 x) ∧ w' = w := by
  obtain ⟨a, cap, rfl, _, hc⟩ := (h.ints (by simp; omega)).nats
  rw [List.length_append] at *
  obtain ⟨b, off, rfl, _, hcell⟩ := hc (by simp)
  have h0 := hcell l.length (by simp)
  rw [show (l ++ [x]).getD l.length 0 = x by simp [List.getD]] at h0
  clear hc hcell h
  simp only [List.length_cons, List.length_nil, Nat.zero_add] at *
  generalize l.length = n at *
  have hni : ((n + 1 : Nat) : Int) - 1 = (n : Int) := by omega
  have hni2 : (n : Int) < ((n + 1 : Nat) : Int) := by omega
  go_enter Tryd.func14, Tryd.ntmps14
  go_wp2_with fail
  go_ret
  exact ⟨rfl, rfl⟩
set_option maxRecDepth 20000 in
set_option maxHeartbeats 800000 in
theorem weigh_any (v : Value) (ws : List Int) (s : Nat) (w : World) (h : Ints w v ws) (hs : s < 256) (hn : ws.length ≤ 8) (hw : ∀ i, -1000 ≤ ws.getD i 0 ∧ ws.getD i 0 ≤ 1000) :
    Calls Tryd.prog 15 #[v, .int .i64 s] w fun e w' => e = .returned (.int .i64 (weiTo (fun i => ws.getD i 0) s ws.length)) ∧ w' = w := by
  obtain ⟨a, cap, rfl, hl, hc⟩ := h
  obtain ⟨F, hF, HF⟩ : ∃ F : Nat → Int, (fun i => ws.getD i 0) = F ∧ Hid (∀ k, ws.getD k 0 = F k) := ⟨_, rfl, fun k => rfl⟩
  have hwF : ∀ i, -1000 ≤ F i ∧ F i ≤ 1000 := fun i => by rw [← HF.out]; exact hw i
  rw [hF]
  clear hw hF
  go_enter Tryd.func15, Tryd.ntmps15
  go_wp2_with fail
  go_loop [5, 10] (fun q i => ∃ k : Nat, k ≤ ws.length ∧ i = .int .i64 k ∧ q = .int .i64 (weiTo F s k)) (fun _ i => ws.length - (intOf i).toNat)
  case atStart => exact ⟨0, Nat.zero_le _, rfl, rfl⟩
  case round =>
    obtain ⟨k, hk, rfl, rfl⟩ := hrel
    by_cases hlt : k < ws.length
    · have hki : (k : Int) < (ws.length : Int) := by omega
      obtain ⟨b, off, rfl, hb, hcell⟩ := hc (by omega)
      have hck := hcell k hlt
      have hpw : wrap64 (2 ^ k) = ((2 ^ k : Nat) : Int) := (pow_wrap k (by omega)).1
      have WI := hid (fun w => within_any (2 ^ k) s w (pow_lt256 (by omega)) hs)
      have hsb : subB (2 ^ k) s = s.testBit k := by
        rw [Bool.eq_iff_iff, subB_iff]
        refine ⟨fun h => h k (by rw [Nat.testBit_two_pow]; simp), fun h i hi => ?_⟩
        rw [Nat.testBit_two_pow] at hi
        simp at hi
        exact hi ▸ h
      rw [hsb] at WI
      rw [HF.out] at hck
      have hx := hwF k
      have hq := weiTo_le hwF s k
      have E1 : Hid (weiTo F s (k + 1) = weiTo F s k + if s.testBit k = true then F k else 0) := rfl
      have hk8 : (k : Int) ≤ 8 := by omega
      clear hcell hc hsb
      generalize 2 ^ k = pk at *
      generalize weiTo F s k = q at *
      generalize F k = x at *
      rcases hb : s.testBit k with _ | _
      · rw [hb] at WI
        rw [hb] at E1
        clear hb
        go_wp2_with fail
        refine (WI.out _).mono ?_
        rintro e w' ⟨rfl, rfl⟩
        go_wp2_with fail
        go_round
        case rel => exact ⟨k + 1, by omega, by go_num, by rw [E1.out]; simp⟩
        case measure => simp [intOf]; omega
      · rw [hb] at WI
        rw [hb] at E1
        clear hb
        go_wp2_with fail
        refine (WI.out _).mono ?_
        rintro e w' ⟨rfl, rfl⟩
        go_wp2_with fail
        go_round
        case rel => exact ⟨k + 1, by omega, by go_num, by rw [E1.out]; simp⟩
        case measure => simp [intOf]; omega
    · obtain rfl : k = ws.length := by omega
      go_wp2_with fail
      go_ret
      exact ⟨rfl, rfl⟩
set_option maxRecDepth 20000 in
set_option maxHeartbeats 2000000 in
theorem grow_any (v u : Value) (m : Nat) (r : Nat → Nat) (o : List Nat) (w : World) (h : RkAt w v (2 ^ m) r) (hu : Ints w u (N o)) (hm : m ≤ 8) (hB : Beg m o) (ho8 : o.length ≤ 8) :
    Calls Tryd.prog 18 #[v, u] w fun e w' => ∃ x, e = .returned x ∧ Own w.heap.size w' x (0 :: gr r 0 o) ∧ Below w.heap.size w w' := by
  obtain ⟨i0, hi0, hz0, hz1, hz2⟩ := info_parts Tryd.infoInt
  have HRK := hid h
  obtain ⟨a, cap, rfl, hl, hc⟩ := hu.nats
  obtain ⟨rb, roff, rcap, rfl, _, _⟩ := h
  obtain ⟨T, HT, hT2⟩ : ∃ T : Nat, Hid (T = 2 ^ m) ∧ T ≤ 256 := ⟨2 ^ m, rfl, (pow_wrap _ hm).2⟩
  have HLT : Hid (∀ s x, s < T → x < m → s ||| 2 ^ x < T) := fun s x hs hx => by rw [HT.out] at *; exact ad_lt hs hx
  have h0T : 0 < T := by rw [HT.out]; exact Nat.two_pow_pos m
  rw [← HT.out] at HRK
  rw [← HT.out]
  clear HT
  have HLIT := hid (Own.lit0 w (Nat.le_refl _))
  go_enter Tryd.func18, Tryd.ntmps18
  go_wp2_with fail
  have hB0 := below_alloc w (.cells #[.int .i64 0] 3)
  revert HLIT hB0
  generalize w.alloc (.cells #[.int .i64 0] 3) = W1
  intro HLIT hB0
  go_loopw [5, 12] (fun v i wr => ∃ (k cur : Nat) (acc : List Nat), k ≤ o.length ∧ i = .int .i64 k ∧ cur < T ∧ acc.length ≤ k ∧ Hid (Own w.heap.size wr v (acc ++ [cur])) ∧ Hid (acc ++ cur :: gr r cur (o.drop k) = 0 :: gr r 0 o) ∧ Hid (Below w.heap.size w wr)) (fun _ i _ => o.length - (intOf i).toNat)
  case atStart => exact ⟨0, 0, [], Nat.zero_le _, rfl, h0T, Nat.le_refl _, HLIT, rfl, hB0⟩
  case round =>
    obtain ⟨k, cur, acc, hk, rfl, hcT, hak, HO, HP, HW⟩ := hrel
    obtain ⟨va, vc, hve⟩ := HO.out.form
    rw [List.length_append, List.length_singleton] at hve
    by_cases hlt : k < o.length
    · have hki : (k : Int) < (o.length : Int) := by omega
      obtain ⟨b, off, rfl, hb, hcell⟩ := hc (by omega)
      have hck := (HW.out.cell (p := ⟨b, off + k, none⟩) hb).trans (hcell k hlt)
      have hxm : o.getD k 0 < m := hB.at hlt
      have D : o.drop k = o.getD k 0 :: o.drop (k + 1) := by rw [List.drop_eq_getElem_cons hlt]; simp [List.getD, hlt]
      rw [D] at HP
      have hG : gr r cur (o.getD k 0 :: o.drop (k + 1)) = if r (cur ||| 2 ^ o.getD k 0) = pop (cur ||| 2 ^ o.getD k 0) then (cur ||| 2 ^ o.getD k 0) :: gr r (cur ||| 2 ^ o.getD k 0) (o.drop (k + 1)) else gr r cur (o.drop (k + 1)) := rfl
      rw [hG] at HP
      clear hG D hcell
      generalize o.getD k 0 = x at *
      have hpw : wrap64 (2 ^ x) = ((2 ^ x : Nat) : Int) := (pow_wrap x (by omega)).1
      have hpw2 : IntKind.i64.wrap (2 ^ x) = ((2 ^ x : Nat) : Int) := by rw [show (2 : Int) ^ x = ((2 ^ x : Nat) : Int) by simp]; exact wrap_i64_nat _ (by have := pow_lt256 (i := x) (by omega); omega)
      have hx8 := pow_lt256 (i := x) (by omega)
      have hor : bits .or .i64 (cur : Int) ((2 ^ x : Nat) : Int) = ((cur ||| 2 ^ x : Nat) : Int) := i64_or_nat _ _ (by omega) (by omega)
      have hzT := HLT.out cur x hcT hxm
      have hxn : ¬ (x : Int) < 0 := by omega
      have LA := hid (fun w2 (h2 : Below wr.heap.size wr w2) => last_any (l := acc) (x := cur) (w := w2) (HO.out.below h2) (by omega))
      generalize hpx : 2 ^ x = px at *
      generalize cur ||| px = z at *
      subst hve
      go_wp2_with fail
      go_quiet ((go_at_call 14; refine (LA.out _ (drewN_below _ _ _)).mono ?_; rintro e w' ⟨rfl, rfl⟩; exact ⟨rfl, _, rfl⟩))
      have HO3 : Hid (Own w.heap.size (wr.drewN nq) (.slice va (acc.length + 1) vc) (acc ++ [cur])) := HO.out.below (drewN_below _ _ _)
      have HB3 : Hid (Below w.heap.size w (wr.drewN nq)) := HW.out.trans (drewN_below _ _ _)
      have hs3 : (wr.drewN nq).heap.size = wr.heap.size := rfl
      have hs0 := HW.out.size
      clear hck LA
      generalize wr.drewN nq = w3 at *
      have IN := hid (isInd_any _ T r z w3 hT2 hzT (HRK.out.below HB3.out))
      rcases hq : r z == pop z with _ | _
      · rw [hq] at IN
        rw [if_neg (by simpa using hq)] at HP
        clear hq
        go_wp2_with fail
        refine IN.out.mono ?_
        rintro e w4 ⟨rfl, hb4⟩
        have HO4 := hid (HO3.out.below hb4)
        have HB4 := hid (HB3.out.trans (hb4.mono HB3.out.size))
        clear hb4
        go_wp2_with fail
        go_roundw
        case rel => exact ⟨k + 1, cur, acc, by omega, by go_num, hcT, by omega, HO4, HP, HB4⟩
        case measure => simp [intOf]; omega
      · rw [hq] at IN
        rw [if_pos (by simpa using hq)] at HP
        clear hq
        go_wp2_with fail
        refine IN.out.mono ?_
        rintro e w4 ⟨rfl, hb4⟩
        have HO4 := hid (HO3.out.below hb4)
        have HB4 := hid (HB3.out.trans (hb4.mono HB3.out.size))
        have hs4 := HB4.out.size
        clear hb4
        go_wp2_with (at_builtin; refine wpList_append_own _ rfl _ _ 22 rfl w.heap.size 3 i0 (.int .i64 0) 1 8 Tryd.underlying22 hi0 hz0 hz1 hz2 rfl (by decide) _ _ _ rfl (HO4.out.alloc _) ⟨w4.heap.size, 0, none⟩ 1 1 [.int .i64 (z : Nat)] rfl rfl ?c1 ?c2 ?c3 ?c4 ?c5 ?_)
        case c1 => exact cell_one_new _ _ _
        case c2 => intro u hu; simp at hu; subst hu; rfl
        case c3 => unfold maxLen; simp; omega
        case c4 => simp; omega
        case c5 => simp; omega
        intro v' w5 hown' hgrow _
        have R3 := hid (Own.snoc (l := acc ++ [cur]) (s := z) (by rw [List.length_append]; exact hown'))
        have R4 := hid (Own.grown HO4.out HB4.out hs4 hgrow)
        clear hown' hgrow
        go_wp2_with fail
        go_roundw
        case rel => exact ⟨k + 1, z, acc ++ [cur], by omega, by go_num, hzT, by simp; omega, R3, by show _ = _; rw [← HP.out]; simp, R4⟩
        case measure => simp [intOf]; omega
    · obtain rfl : k = o.length := by omega
      rw [List.drop_length] at HP
      subst hve
      have HO9 : Hid (Own w.heap.size wr (.slice va (acc.length + 1) vc) (0 :: gr r 0 o)) := by rw [← HP.out]; exact HO.out
      have HW9 := hid HW.out
      clear HO HP HW
      go_wp2_with fail
      go_ret
      exact ⟨_, rfl, HO9.out, HW9.out⟩
end Go.Proofs.YthbcnolpjcppoabDoor
