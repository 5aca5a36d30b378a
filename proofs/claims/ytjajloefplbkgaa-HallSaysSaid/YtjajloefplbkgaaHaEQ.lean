/- hall.stand. -/
import Derived.Test.YtjajloefplbkgaaHaDQ
namespace Go.Proofs.Ytjajloefplbkgaa
open Go.RowKit

theorem wpList_snocH {B : Nat} {w : World} {l : List Nat} {v : Value} {b : Nat} {ad : Addr} {ops : Array Oper} {rest : List Oper} {o : Oper} {a : Act} {Q : Exit → Act → World → Prop} (hgd : o.guard = none) (s x : Operand)
    (ho : o.op = .call { callee := .builtin .append, args := #[s, x], argTypes := #[22, 22] }) (hs : a.eval s = v) (hx : a.eval x = .slice (some ad) 1 1) (h : Own B w v l) (hc : w.cell? ad = some (.int .i64 b)) (hl : l.length ≤ 256) (hB : B ≤ w.heap.size)
    (hK : ∀ v' w', Own B w' v' (l ++ [b]) → w.grownBy w' v.ownBlock → wpList Try.prog ops Q rest (a.put o.dst v') w') : wpList Try.prog ops Q (o :: rest) a w := by
  obtain ⟨i0, hi, hz0, hz1, hz2⟩ := info_parts Try.infoInt
  refine wpList_plain hgd fun K hk => ?_
  obtain ⟨v', w', hrun, r1, r2, r3⟩ := run_append_own (P := Try.prog) w B 22 o.type 3 i0 (.int .i64 0) 1 8 Try.underlying22 hi hz0 hz1 hz2 rfl (by decide) v l.length (V l) h ad 1 1 [.int .i64 b] rfl
      (fun j u hu => by
        have hj : j < 1 := (List.getElem?_eq_some_iff.1 hu).1
        obtain rfl : j = 0 := by omega
        simp only [List.getElem?_cons_zero] at hu
        rw [← hu, ← hc]
        simp [Addr.add])
      (by intro u hu; simp at hu; subst hu; rfl) (by unfold maxLen; omega) (by omega) hB
  unfold Oper.wp
  simp [execOp, ho, resolve, invoke, builtin, hs, hx, hrun, Result.andThen]
  exact hk _ _ (hK v' w' (Own.snoc r1) r2)
/-- What is answered of a list that stands. -/
def StaE (w : World) (o : Option (List Nat)) (e : Ending) (w' : World) : Prop := ((∀ L, o = some L → ∃ v, e = .returned (.tuple #[v, .int .i64 0]) ∧ Own w.heap.size w' v L) ∧ (o = none → e = .returned (.tuple #[.slice none 0 0, .int .i64 5]))) ∧ Below w.heap.size w w'
theorem dropN {l : List Nat} {k : Nat} (hk : k < l.length) : l.drop k = l.getD k 0 :: l.drop (k + 1) := by
  rw [List.drop_eq_getElem_cons hk, List.getD_eq_getElem?_getD, List.getElem?_eq_getElem hk]
  rfl
theorem ints_drop {w : World} {b off cap : Nat} {l : List Nat} {j : Nat} (h : Ints w (.slice (some ⟨b, off, none⟩) l.length cap) (N l)) (hj : j ≤ l.length) : Ints w (.slice (some ⟨b, off + j, none⟩) (l.length - j) (cap - j)) (N (l.drop j)) := by
  have hN : ∀ q : List Nat, (N q).length = q.length := fun q => by simp [N]
  obtain ⟨a, c, e, h1, h2⟩ := h.nats
  obtain ⟨rfl, rfl⟩ : some ⟨b, off, none⟩ = a ∧ cap = c := by simpa using e
  refine ⟨_, cap - j, by rw [hN, List.length_drop], by rw [hN, List.length_drop]; omega, fun hp => ⟨b, off + j, rfl, ?_, fun i hi => ?_⟩⟩
  · rw [hN, List.length_drop] at hp
    obtain ⟨b', off', e', h3, _⟩ := h2 (by omega)
    obtain ⟨rfl, rfl⟩ : b = b' ∧ off = off' := by simpa using e'
    exact h3
  · rw [hN, List.length_drop] at hp hi
    obtain ⟨b', off', e', _, h3⟩ := h2 (by omega)
    obtain ⟨rfl, rfl⟩ : b = b' ∧ off = off' := by simpa using e'
    have := h3 (j + i) (by omega)
    rw [Nat.add_assoc, this]
    simp [N, List.getD_eq_getElem?_getD, hi]
    rw [List.getElem?_eq_getElem (by omega)]
    rfl
theorem ints_none {w : World} {b off cap : Nat} {l : List Nat} {j : Nat} (_h : Ints w (.slice (some ⟨b, off, none⟩) l.length cap) (N l)) (hj : l.length ≤ j) : Ints w (.slice (some ⟨b, off, none⟩) 0 0) (N (l.drop j)) := by
  have hN : ∀ q : List Nat, (N q).length = q.length := fun q => by simp [N]
  refine ⟨_, 0, by rw [hN, List.length_drop, Nat.sub_eq_zero_of_le hj], by rw [hN, List.length_drop]; omega, fun hp => ?_⟩
  rw [hN, List.length_drop] at hp
  omega
theorem sta_go {r : Nat → Nat} {t : Nat} {l acc : List Nat} {k : Nat} {S : Option (List Nat)} (hk : k < l.length) (h : S = (staF r t (l.drop k)).map (acc ++ ·)) :
    (leaF r t (l.getD k 0) (l.drop (k + 1)) = none → S = none) ∧ ∀ i, leaF r t (l.getD k 0) (l.drop (k + 1)) = some i → S = (staF r (t ||| bt i) (l.drop (k + 1))).map ((acc ++ [i]) ++ ·) := by
  rw [dropN hk, staF] at h
  constructor
  · intro e
    rw [e] at h
    exact h
  · intro i e
    rw [e] at h
    rw [h, Option.map_map]
    congr 1
    funext L
    show acc ++ i :: L = acc ++ [i] ++ L
    simp
theorem lea_in {n : Nat} {r : Nat → Nat} {t s : Nat} {l : List Nat} {i : Nat} (hn : n ≤ 8) (hs : s < 2 ^ n) (h : leaF r t s l = some i) : i < n ∧ s.testBit i = true ∧ t.testBit i = false ∧ r (t ||| bt i) = pop (t ||| bt i) ∧ barF r (t ||| bt i) l = none := by
  unfold leaF at h
  have h1 := List.mem_of_find?_eq_some h
  have h2 := List.find?_some h
  have h3 := (mem_els (lt256 hn (sub_lt (dif_subl s t) hs))).1 h1
  rw [dif_bit] at h3
  simp at h3
  unfold leaB at h2
  rw [Bool.and_eq_true, beq_iff_eq, Option.isNone_iff_eq_none] at h2
  refine ⟨?_, h3.1, h3.2, h2.1, h2.2⟩
  refine Classical.byContradiction fun hx => ?_
  rw [Nat.testBit_lt_two_pow (Nat.lt_of_lt_of_le hs (Nat.pow_le_pow_right (by decide) (by omega)))] at h3
  cases h3.1
theorem bt_size : ∀ i : Nat, i < 8 → pop (bt i - 1) = i ∧ bt i - 1 < 256 ∧ 1 ≤ bt i ∧ bt i < 256 := by decide +kernel
set_option maxRecDepth 20000 in
set_option maxHeartbeats 4000000 in
theorem sta_any (n : Nat) (r : Nat → Nat) (u : Value) (a : Option Addr) (cap : Nat) (l : List Nat) (w : World) (hcap : l.length ≤ cap) (hn : n ≤ 8) (hr8 : ∀ i, i < 2 ^ n → r i ≤ 8) (hk8 : l.length ≤ 8) (hl : ∀ x ∈ l, x < 2 ^ n) (hu : RkAt w u (2 ^ n) r) (h : Ints w (.slice a l.length cap) (N l)) :
    Calls Try.prog 33 #[u, .slice a l.length cap] w (StaE w (staF r 0 l)) := by
  have HI := hid h
  have HU := hid hu
  obtain ⟨a', cap', e, hlen, hc⟩ := h.nats
  obtain ⟨rfl, rfl⟩ : a = a' ∧ cap = cap' := by simpa using e
  obtain ⟨rb, roff, rcap, rfl, -, -⟩ := hu
  have hT : 2 ^ n ≤ 256 := Nat.pow_le_pow_right (by decide) hn
  have hT0 : 0 < 2 ^ n := Nat.two_pow_pos n
  have LEA := hid (fun t s v (q : List Nat) w ht hs hk hl hu h => lea_any n t s r (.slice (some ⟨rb, roff, none⟩) (2 ^ n) rcap) v q w hn ht hs hr8 hk hl hu h)
  have HG := hid (fun t acc k S hk h => sta_go (r := r) (t := t) (l := l) (acc := acc) (k := k) (S := S) hk h)
  have HX : Hid (∀ k, k < l.length → l.getD k 0 < 2 ^ n) := fun k hk => hl _ (by rw [List.getD_eq_getElem?_getD, List.getElem?_eq_getElem hk]; exact List.getElem_mem _)
  have HS0 : Hid (staF r 0 l = (staF r 0 (l.drop 0)).map (([] : List Nat) ++ ·)) := by
    show _ = _
    rw [List.drop_zero]
    cases staF r 0 l <;> rfl
  have HSN : Hid (∀ t, staF r t (l.drop l.length) = some []) := fun t => by rw [List.drop_length]; rfl
  have LIN := hid (fun t s q i hs h => lea_in (n := n) (r := r) (t := t) (s := s) (l := q) (i := i) hn hs h)
  have HLL := hid hl
  clear h hl e
  generalize staF r 0 l = SO at *
  go_enter Try.func33, Try.ntmps33
  go_wp2_with fail
  go_loopw [6, 7, 8, 9, 10, 13] (fun f t _ _ _ i wr => ∃ (k tk : Nat) (acc : List Nat), k ≤ l.length ∧ i = .int .i64 k ∧ t = .int .i64 tk ∧ tk < 2 ^ n ∧ acc.length = k ∧ Hid (Own w.heap.size wr f acc) ∧ Hid (SO = (staF r tk (l.drop k)).map (acc ++ ·)) ∧ Hid (Below w.heap.size w wr)) (fun _ _ _ _ _ i _ => l.length - (intOf i).toNat)
  case atStart => exact ⟨0, 0, [], Nat.zero_le _, rfl, rfl, hT0, rfl, Own.nil _ _, HS0.out, Below.refl _ _⟩
  case round =>
    obtain ⟨k, tk, acc, hk, rfl, rfl, htk, hacc, HO, HE, HW⟩ := hrel
    by_cases hlt : k < l.length
    · obtain ⟨b, off, rfl, hb, hcell⟩ := hc (by omega)
      have x1 := (HW.out.cell (p := ⟨b, off + k, none⟩) hb).trans (hcell k hlt)
      have hx := HX.out k hlt
      obtain ⟨G1, G2⟩ := HG.out tk acc k SO hlt HE.out
      have HG1 := hid G1
      have HG2 := hid G2
      have hki : (k : Int) < (l.length : Int) := by omega
      have LI := hid (fun i h => LIN.out tk (l.getD k 0) (l.drop (k + 1)) i hx h)
      clear hcell hc G1 G2
      have HDL : Hid ((l.drop (k + 1)).length ≤ 8) := by show _ ≤ _; rw [List.length_drop]; omega
      have LE := hid (fun va h => LEA.out tk _ va (l.drop (k + 1)) wr htk hx HDL.out (fun y hy => HLL.out y (List.mem_of_mem_drop hy)) (HU.out.below HW.out) h)
      have L1 := hid (ints_drop (j := k + 1) (HI.out.below HW.out) (by omega))
      have L2 := hid (fun hj : l.length ≤ k + 1 => ints_none (j := k + 1) (HI.out.below HW.out) hj)
      generalize l.getD k 0 = x at *
      have hcase : cap = k + 1 ∨ k + 1 < cap := by omega
      rcases hcase with rfl | hcgt
      all_goals
        rcases hlea : leaF r tk x (l.drop (k + 1)) with _ | i
        · have E := hid (HG1.out hlea)
          rw [hlea] at LE
          have LE2 : Hid (∀ va, Ints wr va (N (l.drop (k + 1))) → Calls Try.prog 39 #[.slice (some ⟨rb, roff, none⟩) (2 ^ n) rcap, .int .i64 tk, .int .i64 x, va] wr fun e w' => e = .returned (.int .i64 0) ∧ Below wr.heap.size wr w') := LE.out
          clear hlea HG1 HG2 LI HG LE
          go_wp2_with fail
          all_goals first
            | with_reducible refine (LE2.out _ L1.out).mono ?_
            | with_reducible refine (LE2.out _ (L2.out (by omega))).mono ?_
          all_goals
            rintro e w5 ⟨rfl, hb5⟩
            have HB5 := hid (HW.out.trans (hb5.mono HW.out.size))
            clear hb5
            go_wp2_with fail
            go_ret2
            refine ⟨⟨fun L hL => ?_, fun _ => rfl⟩, HB5.out⟩
            rw [E.out] at hL
            cases hL
        · have E := hid (HG2.out i hlea)
          obtain ⟨hi, _, _, _, _⟩ := LI.out i hlea
          obtain ⟨z1, z2, z3, z4⟩ := bt_size i (by omega)
          have htk2 : tk ||| bt i < 2 ^ n := Nat.or_lt_two_pow htk (Nat.pow_lt_pow_right (by decide) hi)
          have hor : bits .or .i64 (tk : Int) (bt i : Int) = ((tk ||| bt i : Nat) : Int) := i64_or_nat _ _ (by omega) (by omega)
          have S1 := hid (fun w => size_any (bt i - 1) w z2)
          rw [z1] at S1
          rw [hlea] at LE
          have LE2 : Hid (∀ va, Ints wr va (N (l.drop (k + 1))) → Calls Try.prog 39 #[.slice (some ⟨rb, roff, none⟩) (2 ^ n) rcap, .int .i64 tk, .int .i64 x, va] wr fun e w' => e = .returned (.int .i64 (bt i : Nat)) ∧ Below wr.heap.size wr w') := LE.out
          have hsub : ((bt i : Nat) : Int) - 1 = ((bt i - 1 : Nat) : Int) := by omega
          have hz0 : ((bt i : Nat) : Int) ≠ 0 := by omega
          obtain ⟨fa, fc, hf⟩ := ownsRow_form' HO.out
          clear hlea HG1 HG2 LI HG LE
          generalize bt i = Z at *
          rw [hacc] at hf
          subst hf
          go_wp2_with fail
          all_goals first
            | with_reducible refine (LE2.out _ L1.out).mono ?_
            | with_reducible refine (LE2.out _ (L2.out (by omega))).mono ?_
          all_goals
            rintro e w5 ⟨rfl, hb5⟩
            have HB5 := hid (HW.out.trans (hb5.mono HW.out.size))
            have HO5 := hid (HO.out.below hb5)
            clear hb5
            have OD := hid (HO5.out.below ((Below.refl _ _).alloc (Nat.le_refl _) (.cells #[.int .i64 (i : Nat)] 3)))
            have hcN : (w5.alloc (.cells #[.int .i64 (i : Nat)] 3)).cell? ⟨w5.heap.size, 0, none⟩ = some (.int .i64 (i : Nat)) := (Boxed.new w5 3 _).cell
            have hs5 := HB5.out.size
            go_wp2_with fail
            refine (S1.out _).mono ?_
            rintro e w' ⟨rfl, hw'⟩
            obtain rfl := hw'.symm
            have hl9 : acc.length ≤ 256 := by omega
            go_wp2_with (at_builtin; refine wpList_snocH rfl (.tmp 28) (.tmp 32) rfl rfl rfl OD.out hcN hl9 (by rw [World.size_alloc]; omega) ?_)
            intro v' w' h1 h2
            have R1 := hid h1
            have R2 := hid (HO5.out.grown HB5.out hs5 h2)
            clear h1 h2 OD hcN
            go_wp2_with fail
            go_roundw
            case rel => exact ⟨k + 1, tk ||| Z, acc ++ [i], by omega, by go_num, rfl, htk2, by rw [List.length_append, hacc]; rfl, R1.out, E.out, R2.out⟩
            case measure => simp [intOf]; omega
    · obtain rfl : k = l.length := by omega
      rw [HSN.out] at HE
      have E : Hid (SO = some acc) := by
        show _ = _
        rw [HE.out]
        show some (acc ++ []) = _
        rw [List.append_nil]
      go_wp2_with fail
      go_ret2
      refine ⟨⟨fun L hL => ?_, fun h => ?_⟩, HW.out⟩
      · rw [E.out] at hL
        obtain rfl := Option.some.inj hL
        exact ⟨_, rfl, HO.out⟩
      · rw [E.out] at h
        cases h
end Go.Proofs.Ytjajloefplbkgaa
