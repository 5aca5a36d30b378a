/- What package meet answers, whatever is handed in. -/
import Derived.Test.YteeopmbddeplcaaMtBQ
import Derived.Test.YteeopmbddeplcaaTolJQ
namespace Go.Proofs.Yteeopmbddeplcaa
open Go.RowKit

theorem setR_twoU (m : Nat) (s : Int) : setR m s = 1 ∨ (setR m s = 0 ∧ ∃ k : Nat, s = k ∧ k < 2 ^ m) := by
  unfold setR
  split
  · rename_i h
    obtain ⟨_, _, h3, h4⟩ := h
    refine .inr ⟨rfl, s.toNat, by omega, ?_⟩
    rw [Int.toNat_natCast] at h4
    have e : ((2 ^ m : Nat) : Int) = (2 : Int) ^ m := by simp
    omega
  · exact .inl rfl
theorem meet_is (n k : Int) (zs ys ws : List Int) (s : Int) : ∃ (S B P : Nat) (L : List Nat), L.length ≤ 256 ∧
    (∀ (v u : Value) (w : World), Ints w v zs → Ints w u ys → Calls Try.prog 16 #[.agg #[.int .i64 n, v], .agg #[.int .i64 k, u]] w fun e w' => e = .returned (.tuple #[.int .i64 S, .int .i64 B, .int .i64 (uniQ n zs k ys)]) ∧ Below w.heap.size w w') ∧
    (∀ (v u x : Value) (w : World), Ints w v zs → Ints w u ys → Ints w x ws → Calls Try.prog 17 #[.agg #[.int .i64 n, v], .agg #[.int .i64 k, u], x] w fun e w' => ∃ a L' c, e = .returned (.tuple #[.slice a L' c, .int .i64 (hvQ n zs k ys ws)]) ∧ ToldJ w.heap.size w' (hvQ n zs k ys ws) (.slice a L' c) L ∧ Below w.heap.size w w') ∧
    (∀ (v u : Value) (w : World), Ints w v zs → Ints w u ys → Calls Try.prog 18 #[.agg #[.int .i64 n, v], .agg #[.int .i64 k, u], .int .i64 s] w fun e w' => e = .returned (.tuple #[.int .i64 P, .int .i64 (spQ n zs k ys s)]) ∧ Below w.heap.size w w') ∧
    (uniQ n zs k ys ≠ 0 → S = 0 ∧ B = 0 ∧ hvQ n zs k ys ws = uniQ n zs k ys ∧ spQ n zs k ys s = uniQ n zs k ys) ∧ (spQ n zs k ys s ≠ 0 → P = 0) ∧
    (uniQ n zs k ys = 0 → ∃ (m : Nat) (l l' : List Nat), n = m ∧ k = m ∧ m ≤ 8 ∧ zs = N l ∧ ys = N l' ∧ Fam m l ∧ Bas l ∧ Fam m l' ∧ Bas l' ∧ S = comS m (rk l) (rk l') ∧ B = barS m (rk l) (rk l') ∧ hvQ n zs k ys ws = cwR m ws ∧ (cwR m ws = 0 → L = hvL m (rk l) (rk l') (fun s => weiTo (fun i => ws.getD i 0) s m)) ∧
      ((spQ n zs k ys s = 1 ∧ setR m s = 1) ∨ (spQ n zs k ys s = 0 ∧ setR m s = 0 ∧ ∃ t : Nat, s = t ∧ t < 2 ^ m ∧ P = spS (rk l) (rk l') m t))) := by
  by_cases hq : uniQ n zs k ys = 0
  · have hh : hvQ n zs k ys ws = cwR n ws := by unfold hvQ; rw [if_neg (fun h => h hq)]
    have hp : spQ n zs k ys s = setR n s := by unfold spQ; rw [if_neg (fun h => h hq)]
    obtain ⟨m, l, l', rfl, rfl, hm, rfl, rfl, hf, hb, hf', hb'⟩ := uni_of hq
    have hr := hb.rkOn m
    have hr' := hb'.rkOn m
    have CO : ∀ (v u : Value) (w : World), Ints w v (N l) → Ints w u (N l') → Calls Try.prog 16 #[.agg #[.int .i64 m, v], .agg #[.int .i64 m, u]] w fun e w' => e = .returned (.tuple #[.int .i64 (comS m (rk l) (rk l') : Nat), .int .i64 (barS m (rk l) (rk l') : Nat), .int .i64 (uniQ m (N l) m (N l'))]) ∧ Below w.heap.size w w' := fun v u w h h' => by
      rw [hq]
      exact Common_ok m v u l l' w hm hf hb h hf' hb' h'
    have HV : ∃ L : List Nat, L.length ≤ 256 ∧ (cwR m ws = 0 → L = hvL m (rk l) (rk l') (fun s => weiTo (fun i => ws.getD i 0) s m)) ∧ ∀ (v u x : Value) (w : World), Ints w v (N l) → Ints w u (N l') → Ints w x ws → Calls Try.prog 17 #[.agg #[.int .i64 m, v], .agg #[.int .i64 m, u], x] w fun e w' => ∃ a L' c, e = .returned (.tuple #[.slice a L' c, .int .i64 (hvQ m (N l) m (N l') ws)]) ∧ ToldJ w.heap.size w' (hvQ m (N l) m (N l') ws) (.slice a L' c) L ∧ Below w.heap.size w w' := by
      by_cases hw : cwR m ws = 0
      · refine ⟨_, ?_, fun _ => rfl, fun v u x w h h' hx => ?_⟩
        · rw [hv_len hm hr hr']
          have := comK_le hm hr hr'
          omega
        · rw [hh, hw]
          refine (Heaviest_ok m v u x l l' ws w hm hf hb h hf' hb' h' hx hw).mono ?_
          rintro e w' ⟨y, rfl, ho, hb2⟩
          obtain ⟨a, c, rfl⟩ := ownsRow_form' ho
          exact ⟨a, _, c, rfl, .inr ⟨rfl, ho⟩, hb2⟩
      · refine ⟨[], by decide, fun h => absurd h hw, fun v u x w h h' hx => ?_⟩
        refine (Heaviest_none m m v u x (N l) (N l') ws w h h' hx (by rw [hh]; exact hw)).mono ?_
        rintro e w' ⟨rfl, hb2⟩
        exact ⟨none, 0, 0, rfl, .inl ⟨by rw [hh]; exact hw, rfl⟩, hb2⟩
    obtain ⟨L, hL1, hL2, hL3⟩ := HV
    rcases setR_twoU m s with hs | ⟨hs, t, rfl, ht⟩
    · refine ⟨_, _, 0, L, hL1, CO, hL3, fun v u w h h' => ?_, fun h => absurd hq h, fun _ => rfl, fun _ => ⟨m, l, l', rfl, rfl, hm, rfl, rfl, hf, hb, hf', hb', rfl, rfl, hh, hL2, .inl ⟨by rw [hp, hs], hs⟩⟩⟩
      exact Spanned_none m m s v u (N l) (N l') w h h' (by rw [hp, hs]; decide)
    · refine ⟨_, _, spS (rk l) (rk l') m t, L, hL1, CO, hL3, fun v u w h h' => ?_, fun h => absurd hq h, fun h => absurd (by rw [hp, hs]) h, fun _ => ⟨m, l, l', rfl, rfl, hm, rfl, rfl, hf, hb, hf', hb', rfl, rfl, hh, hL2, .inr ⟨by rw [hp, hs], hs, t, rfl, ht, rfl⟩⟩⟩
      rw [hp, hs]
      exact Spanned_ok m t v u l l' w hm hf hb h hf' hb' h' ht
  · have hh : hvQ n zs k ys ws = uniQ n zs k ys := by unfold hvQ; rw [if_pos hq]
    have hp : spQ n zs k ys s = uniQ n zs k ys := by unfold spQ; rw [if_pos hq]
    refine ⟨0, 0, 0, [], by decide, fun v u w h h' => Common_none n k v u zs ys w h h' hq, fun v u x w h h' hx => ?_, fun v u w h h' => Spanned_none n k s v u zs ys w h h' (by rw [hp]; exact hq), fun _ => ⟨rfl, rfl, hh, hp⟩, fun _ => rfl, fun h => absurd h hq⟩
    refine (Heaviest_none n k v u x zs ys ws w h h' hx (by rw [hh]; exact hq)).mono ?_
    rintro e w' ⟨rfl, hb2⟩
    exact ⟨none, 0, 0, rfl, .inl ⟨by rw [hh]; exact hq, rfl⟩, hb2⟩
end Go.Proofs.Yteeopmbddeplcaa
