/- From what Check answers to matroids. -/
import Derived.Test.YtgfbajkonlaciaaCheckW
import Derived.Test.YtgfbajkonlaciaaSingW
namespace Go.Proofs.Ytgfbajkonlaciaa
open Go.RowKit

theorem give_iff {p : Nat → Bool} {a b : Nat} (ha : a < 256) (hb : b < 256) : giveB p a b = true ↔ ∀ x, a.testBit x = true → b.testBit x = false → ∃ y, b.testBit y = true ∧ a.testBit y = false ∧ p (rm a x ||| 2 ^ y) = true := by
  unfold giveB takeB
  simp only [List.all_eq_true, List.any_eq_true, mem_els (dif_lt ha), mem_els (dif_lt hb), dif_bit, Bool.and_eq_true, Bool.not_eq_true']
  constructor
  · intro h x h1 h2
    obtain ⟨y, h3, h4⟩ := h x ⟨h1, h2⟩
    exact ⟨y, h3.1, h3.2, h4⟩
  · intro h x h1
    obtain ⟨y, h3, h4, h5⟩ := h x h1.1 h1.2
    exact ⟨y, ⟨h3, h4⟩, h5⟩
theorem one_iff {l : List Nat} : oneB l = true ↔ ∀ a ∈ l, ∀ b ∈ l, pop a = pop b := by
  unfold oneB
  simp only [List.all_eq_true, beq_iff_eq]
  constructor
  · intro h a ha b hb
    rw [h a ha, h b hb]
  · intro h a ha
    cases l with
    | nil => cases ha
    | cons x l => exact h a ha x (by simp)
theorem bas_iff {l : List Nat} (hl : ∀ s ∈ l, s < 256) : Bas l ↔ l ≠ [] ∧ oneB l = true ∧ exchB l = true := by
  have hx : exchB l = true ↔ ∀ a ∈ l, ∀ b ∈ l, ∀ x, a.testBit x = true → b.testBit x = false → ∃ y, b.testBit y = true ∧ a.testBit y = false ∧ rm a x ||| 2 ^ y ∈ l := by
    unfold exchB
    simp only [List.all_eq_true]
    constructor
    · intro h a ha b hb
      have := (give_iff (hl a ha) (hl b hb)).1 (h a ha b hb)
      simpa only [memB, decide_eq_true_eq] using this
    · intro h a ha b hb
      refine (give_iff (hl a ha) (hl b hb)).2 ?_
      simpa only [memB, decide_eq_true_eq] using h a ha b hb
  rw [hx, one_iff]
  exact ⟨fun h => ⟨h.ne, h.size, h.exch⟩, fun h => ⟨hl, h.2.1, h.2.2, h.1⟩⟩
theorem chk_of {n : Int} {zs : List Int} (h : chkR n zs = 0) : ∃ (m : Nat) (l : List Nat), n = m ∧ m ≤ 8 ∧ zs = N l ∧ Fam m l ∧ Bas l := by
  unfold chkR at h
  split at h
  · cases h
  · rename_i hf
    have hf' : famR n zs = 0 := Classical.byContradiction fun e => hf e
    obtain ⟨m, l, rfl, hm, rfl, hfam⟩ := fam_of hf'
    refine ⟨m, l, rfl, hm, rfl, hfam, ?_⟩
    rw [N_back] at h
    split at h
    · cases h
    · rename_i h1
      split at h
      · rename_i h2
        refine (bas_iff (hfam.lt256 hm)).2 ⟨fun e => h1 (.inl (by subst e; rfl)), ?_, h2⟩
        cases ho : oneB l
        · exact absurd (.inr ho) h1
        · rfl
      · cases h
theorem chk_mk {m : Nat} {l : List Nat} (hm : m ≤ 8) (hf : Fam m l) (hb : Bas l) : chkR m (N l) = 0 := by
  obtain ⟨h1, h2, h3⟩ := (bas_iff (hf.lt256 hm)).1 hb
  unfold chkR
  rw [fam_mk hm hf, N_back, h2, h3]
  have : N l ≠ [] := fun e => h1 (by unfold N at e; simpa using e)
  simp [this]
end Go.Proofs.Ytgfbajkonlaciaa

namespace Go.Proofs.Ytgfbajkonlaciaa
open Go.RowKit

/-- A function value that answers as p does below T, wherever nothing below B has turned. -/
def AnswersTo (B : Nat) (w : World) (g : Nat) (cs : Array Value) (T : Nat) (p : Nat → Bool) : Prop :=
  ∀ x, x < T → ∀ w1, Below B w w1 → B ≤ w1.heap.size → Calls Try.prog g (#[.int .i64 (x : Nat)] ++ cs) w1 fun e w2 => e = .returned (.bool (p x)) ∧ Below w1.heap.size w1 w2
/-- The function can be entered. -/
def Enters (g : Nat) : Prop := ∀ (args : Array Value) (w : World), (callFunc g args).run Try.prog w = .ok (.enter g args) w
theorem rg_hit {p : Nat → Bool} {k : Nat} (hp : p k = true) : (List.range (k + 1)).filter p = (List.range k).filter p ++ [k] := by
  rw [List.range_succ, List.filter_append]; simp [hp]
theorem rg_miss {p : Nat → Bool} {k : Nat} (hp : p k = false) : (List.range (k + 1)).filter p = (List.range k).filter p := by
  rw [List.range_succ, List.filter_append]; simp [hp]
theorem rg_le (p : Nat → Bool) (k : Nat) : ((List.range k).filter p).length ≤ k := by
  have := List.length_filter_le p (List.range k)
  rwa [List.length_range] at this

set_option maxHeartbeats 1600000 in
theorem Sieve_any (n g : Nat) (cs : Array Value) (p : Nat → Bool) (w : World) (hn : n ≤ 8) (eg : Enters g) (hg : AnswersTo w.heap.size w g cs (2 ^ n) p) :
    Calls Try.prog 48 #[.int .i64 n, .func (.func g) #[] cs] w fun e w' => ∃ r, e = .returned r ∧ Own w.heap.size w' r ((List.range (2 ^ n)).filter p) ∧ Below w.heap.size w w' := by
  obtain ⟨i0, hi, hz0, hz1, hz2⟩ := info_parts Try.infoInt
  have HG := hid hg
  clear hg
  unfold Enters at eg
  obtain ⟨T, HT, hT2, hT⟩ : ∃ T : Nat, Hid (T = 2 ^ n) ∧ T ≤ 256 ∧ wrap64 (2 ^ n) = (T : Int) := ⟨2 ^ n, rfl, (pow_wrap _ hn).2, (pow_wrap _ hn).1⟩
  rw [← HT.out] at HG ⊢
  go_enter Try.func48, Try.ntmps48
  go_wp2_with fail
  try rw [hT]
  go_loopw [5, 9] (fun u i wr => ∃ k : Nat, k ≤ T ∧ i = .int .i64 k ∧ Own w.heap.size wr u ((List.range k).filter p) ∧ Below w.heap.size w wr) (fun _ i _ => T - (intOf i).toNat)
  case atStart => exact ⟨0, Nat.zero_le _, rfl, Own.nil _ _, Below.refl _ _⟩
  case round =>
    obtain ⟨k, hk, rfl, hown, hnx⟩ := hrel
    have hsz := hnx.size
    by_cases hlt : k < T
    · have Hhit := hid (fun hp => rg_hit (p := p) (k := k) hp)
      have Hmiss := hid (fun hp => rg_miss (p := p) (k := k) hp)
      have hfl := rg_le p k
      have HO := hid hown
      have G := hid (HG.out k hlt wr hnx hsz)
      clear hown
      generalize (List.range k).filter p = acc at *
      rcases hq : p k with _ | _
      · have HQ := hid hq
        clear hq
        go_wp2_with fail
        refine G.out.mono ?_
        rw [HQ.out]
        rintro e w2 ⟨rfl, hb2⟩
        have R1 := hid (HO.out.below hb2)
        have R2 := hid (hnx.trans (hb2.mono hsz))
        clear hb2
        go_wp2_with fail
        go_roundw
        case rel => exact ⟨k + 1, by omega, by go_num, by rw [Hmiss.out HQ.out]; exact R1.out, R2.out⟩
        case measure => simp [intOf]; omega
      · have HQ := hid hq
        clear hq
        go_wp2_with fail
        refine G.out.mono ?_
        rw [HQ.out]
        rintro e w2 ⟨rfl, hb2⟩
        have R1 := hid (HO.out.below hb2)
        have R2 := hnx.trans (hb2.mono hsz)
        have hs2 := hb2.size
        clear hb2
        go_wp2_with (at_builtin; refine wpList_append_own _ rfl _ _ 22 rfl w.heap.size 3 i0 (.int .i64 0) 1 8 Try.underlying22 hi hz0 hz1 hz2 rfl (by decide) _ _ _ rfl (R1.out.alloc _) ⟨w2.heap.size, 0, none⟩ 1 1 [.int .i64 (k : Nat)] rfl rfl ?c1 ?c2 ?c3 ?c4 ?c5 ?_)
        case c1 => exact cell_one_new _ _ _
        case c2 => intro u hu; simp at hu; subst hu; rfl
        case c3 => unfold maxLen; omega
        case c4 => omega
        case c5 => simp; omega
        intro v' w3 hown' hgrow _
        have R3 := hid (Own.snoc hown')
        have R4 := hid (Own.grown R1.out R2 (by omega) hgrow)
        clear hown' hgrow
        go_wp2_with fail
        go_roundw
        case rel => exact ⟨k + 1, by omega, by go_num, by rw [Hhit.out HQ.out]; exact R3.out, R4.out⟩
        case measure => simp [intOf]; omega
    · have hk' : k = T := by omega
      subst hk'
      go_wp2_with fail
      go_ret
      exact ⟨_, rfl, hown, hnx⟩
end Go.Proofs.Ytgfbajkonlaciaa
