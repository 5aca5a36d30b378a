/- greedy.Best, Steps and First of whatever is handed in. -/
import Derived.Test.YthbcnolpjcppoabGyOrdQ
import Derived.Test.YthbcnolpjcppoabGrFW
import Derived.Test.YthbcnolpjcppoabGsUQ
namespace Go.Proofs.Ythbcnolpjcppoab
open Go.RowKit

theorem st_parts {n : Int} {zs ws : List Int} (h : stE n zs ws = 0) : ∃ (m : Nat) (l : List Nat), n = m ∧ m ≤ 8 ∧ zs = N l ∧ Fam m l ∧ Bas l ∧ cwR m ws = 0 := by
  have hchk : chkR n zs = 0 := by
    unfold stE at h
    split at h
    · rename_i h1; exact absurd h h1
    · rename_i h1; exact Decidable.byContradiction h1
  have hcw : cwR n ws = 0 := by
    unfold stE at h
    rw [if_neg (by simp [hchk])] at h
    exact h
  obtain ⟨m, l, rfl, hm, rfl, hf, hb⟩ := chk_of hchk
  exact ⟨m, l, rfl, hm, rfl, hf, hb, hcw⟩
/-- What Best and Steps answer. -/
structure BestIs (n : Int) (zs ws : List Int) (bE nE : Int) (L : List Nat) : Prop where
  len : L.length ≤ 256
  zero : stE n zs ws ≠ 0 → bE = 0
  zero2 : stE n zs ws ≠ 0 → nE = 0
  best : ∀ (v u : Value) (w : World), Ints w v zs → Ints w u ws → Calls Try.prog 17 #[.agg #[.int .i64 n, v], u] w fun e w' => e = .returned (.tuple #[.int .i64 bE, .int .i64 nE, .int .i64 (stE n zs ws)]) ∧ Below w.heap.size w w'
  steps : ∀ (v u : Value) (w : World), Ints w v zs → Ints w u ws → Calls Try.prog 18 #[.agg #[.int .i64 n, v], u] w fun e w' => ∃ r, e = .returned (.tuple #[r, .int .i64 (stE n zs ws)]) ∧ ToldL w.heap.size w' (stE n zs ws) r L ∧ Below w.heap.size w w'
  good : stE n zs ws = 0 → ∃ (m : Nat) (l : List Nat), n = m ∧ m ≤ 8 ∧ zs = N l ∧ Fam m l ∧ Bas l ∧ cwR m ws = 0 ∧ bE = (grS (rk l) 0 (hvO ws) : Nat) ∧ nE = weiTo (fun i => ws.getD i 0) (grS (rk l) 0 (hvO ws)) m ∧ L = 0 :: gr (rk l) 0 (hvO ws)
theorem bestIs (n : Int) (zs ws : List Int) : ∃ bE nE L, BestIs n zs ws bE nE L := by
  by_cases h : stE n zs ws = 0
  · obtain ⟨m, l, rfl, hm, rfl, hf, hb, hcw⟩ := st_parts h
    have hby := hvO_by ws
    rw [(cw_of hcw).1] at hby
    have hol : (hvO ws).length ≤ 8 := by
      have := (order_perm hby.beg hby.all).length_eq
      rw [List.length_range] at this
      omega
    have hgl : ∀ (o : List Nat) (s : Nat), (gr (rk l) s o).length ≤ o.length := fun o => by
      induction o with
      | nil => intro s; simp [gr]
      | cons x o ih =>
        intro s
        unfold gr
        split
        · simp; exact ih _
        · have := ih s; simp; omega
    refine ⟨_, _, _, ⟨?_, fun hc => absurd h hc, fun hc => absurd h hc, fun v u w hv hu => ?_, fun v u w hv hu => ?_, fun _ => ⟨m, l, rfl, hm, rfl, hf, hb, hcw, rfl, rfl, rfl⟩⟩⟩
    · have := hgl (hvO ws) 0
      simp; omega
    · rw [h]
      exact Best_ok m v u l ws w hv hu hm hf hb hcw
    · rw [h]
      refine (Steps_ok m v u l ws w hv hu hm hf hb hcw).mono ?_
      rintro e w' ⟨r, rfl, h1, h2⟩
      exact ⟨r, rfl, .inr ⟨rfl, h1⟩, h2⟩
  · refine ⟨0, 0, [], ⟨by simp, fun _ => rfl, fun _ => rfl, fun v u w hv hu => Best_bad n v u zs ws w hv hu h, fun v u w hv hu => ?_, fun hc => absurd hc h⟩⟩
    refine (Steps_bad n v u zs ws w hv hu h).mono ?_
    rintro e w' ⟨rfl, h2⟩
    exact ⟨_, rfl, .inl ⟨h, rfl⟩, h2⟩
theorem N_inj {a b : List Nat} (h : N a = N b) : a = b := by
  unfold N at h
  exact List.map_inj_right (fun a b h => by omega) |>.1 h
/-- What First answers. -/
structure FirstIs (n : Int) (zs os : List Int) (tE hE : Int) : Prop where
  zero : hE ≠ 0 → tE = 0
  first : ∀ (v u : Value) (w : World), Ints w v zs → Ints w u os → Calls Try.prog 26 #[.agg #[.int .i64 n, v], u] w fun e w' => e = .returned (.tuple #[.int .i64 tE, .int .i64 hE]) ∧ Below w.heap.size w w'
  bad : chkR n zs ≠ 0 → hE = chkR n zs
  good : chkR n zs = 0 → ∃ (m : Nat) (l : List Nat), n = m ∧ m ≤ 8 ∧ zs = N l ∧ Fam m l ∧ Bas l ∧ (hE = if ordB m os then 0 else 1) ∧ (ordB m os = true → ∃ o : List Nat, os = N o ∧ Beg m o ∧ o.length = m ∧ tE = (grS (rk l) 0 o : Nat))
theorem firstIs (n : Int) (zs os : List Int) : ∃ tE hE, FirstIs n zs os tE hE := by
  by_cases h : chkR n zs = 0
  · obtain ⟨m, l, rfl, hm, rfl, hf, hb⟩ := chk_of h
    rcases ho : ordB m os with _ | _
    · refine ⟨0, 1, ⟨fun _ => rfl, fun v u w hv hu => ?_, fun hc => absurd h hc, fun _ => ⟨m, l, rfl, hm, rfl, hf, hb, by rw [ho]; rfl, fun hc => by rw [ho] at hc; cases hc⟩⟩⟩
      refine (First_x m v u l os w hv hu hm hf hb).mono ?_
      rintro e w' ⟨he, hb'⟩
      rcases he with ⟨_, rfl⟩ | ⟨o, h1, h2, h3, _⟩
      · exact ⟨rfl, hb'⟩
      · rw [of_ord hm h1 h2 h3] at ho; cases ho
    · obtain ⟨o, h1, h2, h3⟩ := ord_of ho
      refine ⟨(grS (rk l) 0 o : Nat), 0, ⟨fun hc => absurd rfl hc, fun v u w hv hu => ?_, fun hc => absurd h hc, fun _ => ⟨m, l, rfl, hm, rfl, hf, hb, by rw [ho]; rfl, fun _ => ⟨o, h1, h2, h3, rfl⟩⟩⟩⟩
      refine (First_x m v u l os w hv hu hm hf hb).mono ?_
      rintro e w' ⟨he, hb'⟩
      rcases he with ⟨hc, _⟩ | ⟨o', h1', h2', h3', rfl⟩
      · rw [ho] at hc; cases hc
      · have : o' = o := N_inj (h1'.symm.trans h1)
        subst this
        exact ⟨rfl, hb'⟩
  · exact ⟨0, chkR n zs, ⟨fun _ => rfl, fun v u w hv hu => First_bad n v u zs os w hv hu h, fun _ => rfl, fun hc => absurd hc h⟩⟩
end Go.Proofs.Ythbcnolpjcppoab
