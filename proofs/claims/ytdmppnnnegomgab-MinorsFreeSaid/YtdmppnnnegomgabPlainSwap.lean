/- Plain mathematics: deleting and contracting are not in each other's way. -/
import Derived.Test.YtdmppnnnegomgabPlainMinor
namespace Go.Proofs.Ytdmppnnnegomgab

/-- Numbers anew twice are numbers anew once. -/
theorem old_old {k j : Nat} (hk : k < 256) (hj : j < 2 ^ pop k) (t : Nat) : old (els k) (old (els j) t) = old (els (old (els k) j)) t := by
  have h8 := pop_le k hk
  have j8 : j < 256 := lt256 h8 hj
  have ho : old (els k) j < 256 := old_lt (fun x h => els_8 h) j
  have key : els (old (els k) j) = (els j).map fun i => (els k).getD i 0 := by
    refine sorted_ext (els_up _) ?_ fun x => ?_
    · rw [List.pairwise_map]
      refine (els_up j).imp_of_mem fun {a b} ha hb hab => ?_
      have ha' := bit_n hj ((mem_els j8).1 ha)
      have hb' := bit_n hj ((mem_els j8).1 hb)
      rw [← els_len] at ha' hb'
      have := List.pairwise_iff_getElem.1 (els_up k) a b ha' hb' hab
      simpa [List.getD, ha', hb'] using this
    · rw [mem_els ho, old_bit, List.mem_map]
      constructor
      · rintro ⟨i, h1, h2⟩
        exact ⟨i, (mem_els j8).2 h2, by simp [List.getD, h1]⟩
      · rintro ⟨i, h1, h2⟩
        have h3 := (mem_els j8).1 h1
        have h4 := bit_n hj h3
        rw [← els_len] at h4
        refine ⟨i, ?_, h3⟩
        simp only [List.getD, List.getElem?_eq_getElem h4, Option.getD_some] at h2
        rw [List.getElem?_eq_getElem h4, h2]
  rw [key]
  refine Nat.eq_of_testBit_eq fun x => ?_
  rw [Bool.eq_iff_iff, old_bit, old_bit]
  constructor
  · rintro ⟨i, h1, h2⟩
    rw [old_bit] at h2
    obtain ⟨q, h3, h4⟩ := h2
    refine ⟨q, ?_, h4⟩
    rw [List.getElem?_map, h3]
    simp [List.getD, h1]
  · rintro ⟨q, h1, h2⟩
    rw [List.getElem?_map] at h1
    cases h3 : (els j)[q]? with
    | none => rw [h3] at h1; cases h1
    | some i =>
      rw [h3] at h1
      have h4 := bit_n hj ((mem_els j8).1 (List.mem_of_getElem? h3))
      rw [← els_len] at h4
      refine ⟨i, ?_, old_bit.2 ⟨q, h3, h2⟩⟩
      simp only [Option.map_some, Option.some.injEq, List.getD, List.getElem?_eq_getElem h4, Option.getD_some] at h1
      rw [List.getElem?_eq_getElem h4, h1]
theorem old_dif {k : Nat} (hk : k < 256) {s : Nat} (hs : s < 2 ^ pop k) : old (els k) (dif (2 ^ pop k - 1) s) = dif k (old (els k) s) := by
  rw [dif_cpl hs, old_cpl hk hs]
theorem dif_bit' (a b i : Nat) : (dif a b).testBit i = (a.testBit i && !b.testBit i) := dif_bit a b i
/-- The two roads. -/
theorem swap_eq {n : Nat} {l : List Nat} (hn : n ≤ 8) (hb : Bas l) {d c : Nat} (hd : d < 2 ^ n) (hc : c < 2 ^ n) (hdc : d &&& c = 0) :
    let kd := dif (2 ^ n - 1) d
    let kc := dif (2 ^ n - 1) c
    let c' := shf (els kd) c
    let d' := shf (els kc) d
    pop (dif (2 ^ pop kd - 1) c') = pop (dif (2 ^ pop kc - 1) d') ∧ minL (pop kd) (minL n l d 0) c' c' = minL (pop kc) (minL n l c c) d' 0 := by
  intro kd kc c' d'
  have kd8 : kd < 256 := kept_lt hn d
  have kc8 : kc < 256 := kept_lt hn c
  have pd := kept_le hn d
  have pc := kept_le hn c
  have hc' : c' < 2 ^ pop kd := shf_lt c
  have hd' : d' < 2 ^ pop kc := shf_lt d
  have bit0 : ∀ j, d.testBit j = true → c.testBit j = true → False := fun j h1 h2 => by
    have := congrArg (fun x => x.testBit j) hdc
    simp [h1, h2] at this
  have e1 : old (els kd) c' = c := by
    show old (els kd) (shf (els kd) c) = c
    rw [old_shf kd8]
    refine Nat.eq_of_testBit_eq fun j => ?_
    rw [and_bit, dif_bit, full_bit]
    have h1 := bit0 j
    have h2 := bit_n hc (i := j)
    cases e1 : d.testBit j <;> cases e2 : c.testBit j <;> simp_all
  have e2 : old (els kc) d' = d := by
    show old (els kc) (shf (els kc) d) = d
    rw [old_shf kc8]
    refine Nat.eq_of_testBit_eq fun j => ?_
    rw [and_bit, dif_bit, full_bit]
    have h1 := bit0 j
    have h2 := bit_n hd (i := j)
    cases e1 : d.testBit j <;> cases e2 : c.testBit j <;> simp_all
  have k1 : dif (2 ^ pop kd - 1) c' < 2 ^ pop kd := kept_ltn _ _
  have k2 : dif (2 ^ pop kc - 1) d' < 2 ^ pop kc := kept_ltn _ _
  have f1 : old (els kd) (dif (2 ^ pop kd - 1) c') = dif kd c := by rw [old_dif kd8 hc', e1]
  have f2 : old (els kc) (dif (2 ^ pop kc - 1) d') = dif kc d := by rw [old_dif kc8 hd', e2]
  have f3 : dif kd c = dif kc d := Nat.eq_of_testBit_eq fun j => by
    rw [dif_bit, dif_bit, dif_bit, dif_bit]
    cases (2 ^ n - 1).testBit j <;> cases d.testBit j <;> cases c.testBit j <;> rfl
  have hp : pop (dif (2 ^ pop kd - 1) c') = pop (dif (2 ^ pop kc - 1) d') := by
    rw [← els_pop kd8 k1, ← els_pop kc8 k2, f1, f2, f3]
  refine ⟨hp, ?_⟩
  have b1 := min_bas hn hb d 0
  have b2 := min_bas hn hb c c
  have hL := min_fam (pop kd) (minL n l d 0) c' c'
  have hR := min_fam (pop kc) (minL n l c c) d' 0
  rw [← hp] at hR
  refine bas_ext (kept_le pd c') hL (min_bas pd b1 c' c') hR (min_bas pc b2 d' 0) fun t ht => ?_
  have ht2 : t < 2 ^ pop (dif (2 ^ pop kc - 1) d') := by rw [← hp]; exact ht
  rw [min_rk pd b1 c' c' ht, min_rk pc b2 d' 0 ht2]
  unfold minR
  rw [Nat.or_zero]
  have g1 : old (els (dif (2 ^ pop kd - 1) c')) t < 2 ^ pop kd := old_ltn pd c' t
  have g2 : old (els (dif (2 ^ pop kc - 1) d')) t < 2 ^ pop kc := old_ltn pc d' t
  rw [min_rk hn hb d 0 (Nat.or_lt_two_pow g1 hc'), min_rk hn hb d 0 hc', min_rk hn hb c c g2, min_rk hn hb c c (Nat.two_pow_pos _)]
  unfold minR
  have m1 : old (els kd) (old (els (dif (2 ^ pop kd - 1) c')) t ||| c') = old (els (dif kd c)) t ||| c := by rw [old_or, e1, old_old kd8 k1, f1]
  have m2 : old (els kc) (old (els (dif (2 ^ pop kc - 1) d')) t) = old (els (dif kd c)) t := by rw [old_old kc8 k2, f2, f3]
  show rk l (old (els kd) (old (els (dif (2 ^ pop kd - 1) c')) t ||| c') ||| 0) - rk l 0 - (rk l (old (els kd) c' ||| 0) - rk l 0) = rk l (old (els kc) (old (els (dif (2 ^ pop kc - 1) d')) t) ||| c) - rk l c - (rk l (old (els kc) 0 ||| c) - rk l c)
  rw [m1, m2, e1, old_zero, Nat.or_zero, Nat.or_zero, Nat.zero_or, hb.rk.zero]
  omega
end Go.Proofs.Ytdmppnnnegomgab
