/- greedy.Steps, greedy.Best. -/
import Derived.Test.YthbcnolpjcppoabDoorGrWQ
namespace Go.Proofs.YthbcnolpjcppoabDoor
open Go.RowKit

/-- What Steps and Best tell by their error. -/
def stE (n : Int) (zs ws : List Int) : Int := if chkR n zs ≠ 0 then chkR n zs else cwR n ws
theorem cw_of {m : Nat} {ws : List Int} (h : cwR m ws = 0) : ws.length = m ∧ ∀ i, -1000 ≤ ws.getD i 0 ∧ ws.getD i 0 ≤ 1000 := by
  unfold cwR at h
  split at h
  · cases h
  · rename_i h1
    split at h
    · rename_i h2
      refine ⟨by omega, fun i => ?_⟩
      by_cases hi : i < ws.length
      · have := List.all_eq_true.1 h2 (ws.getD i 0) (by simp only [List.getD, List.getElem?_eq_getElem hi, Option.getD_some]; exact List.getElem_mem _)
        simpa using this
      · simp [List.getD, List.getElem?_eq_none (Nat.le_of_not_lt hi)]
    · cases h
set_option maxRecDepth 20000 in
set_option maxHeartbeats 2000000 in
theorem Steps_bad (n : Int) (v u : Value) (zs ws : List Int) (w : World) (h : Ints w v zs) (hu : Ints w u ws) (he : stE n zs ws ≠ 0) :
    Calls Tryd.prog 6 #[.agg #[.int .i64 n, v], u] w fun e w' => e = .returned (.tuple #[.slice none 0 0, .int .i64 (stE n zs ws)]) ∧ Below w.heap.size w w' := by
  have B0 := below_box w #[.int .i64 n, v]
  have HV := hid (h.below B0)
  have HU := hid (hu.below B0)
  have HB := hid B0
  have SE : Hid (stE n zs ws = if chkR n zs ≠ 0 then chkR n zs else cwR n ws) := rfl
  have hn0 : (stE n zs ws != 0) = true := by simp [he]
  obtain ⟨a, cap, rfl, _, _⟩ := h
  obtain ⟨ua, ucap, rfl, _, _⟩ := hu
  clear B0 he
  by_cases hc : chkR n zs = 0
  · rw [if_neg (by simp [hc])] at SE
    obtain ⟨m, l, rfl, hm, rfl, hf, hb⟩ := chk_of hc
    have RK := hid (Ranks_ok m _ l _ hm hf hb HV.out)
    rw [SE.out] at hn0 ⊢
    obtain ⟨q, HQ⟩ : ∃ q, Hid (cwR m ws = q) := ⟨_, rfl⟩
    rw [HQ.out] at hn0 ⊢
    go_enter Tryd.func6, Tryd.ntmps6
    go_wp2_with fail
    refine RK.out.mono ?_
    rintro e w1 ⟨r, rfl, hr, hb1⟩
    have x0 := (box_cells hb1).1
    have HB1 := hid (HB.out.trans (hb1.mono HB.out.size))
    have CW := hid (checkWeights_any m _ ws w1 (HU.out.below hb1))
    obtain ⟨rb, roff, rcap, rfl, _, _⟩ := hr
    rw [HQ.out] at CW
    generalize 2 ^ m = T at *
    clear hb1
    go_wp2_with fail
    refine CW.out.mono ?_
    rintro e w2 ⟨rfl, rfl⟩
    go_wp2_with fail
    go_ret2
    exact ⟨rfl, HB1.out⟩
  · rw [if_pos hc] at SE
    have RK := hid (Ranks_bad n _ zs _ HV.out hc)
    rw [SE.out] at hn0 ⊢
    generalize chkR n zs = q at *
    go_enter Tryd.func6, Tryd.ntmps6
    go_wp2_with fail
    refine RK.out.mono ?_
    rintro e w1 ⟨rfl, hb1⟩
    have HB1 := hid (HB.out.trans (hb1.mono HB.out.size))
    clear hb1
    go_wp2_with fail
    go_ret2
    exact ⟨rfl, HB1.out⟩
set_option maxRecDepth 20000 in
set_option maxHeartbeats 2000000 in
theorem Steps_ok (m : Nat) (v u : Value) (l : List Nat) (ws : List Int) (w : World) (h : Ints w v (N l)) (hu : Ints w u ws) (hm : m ≤ 8) (hf : Fam m l) (hb : Bas l) (hw : cwR m ws = 0) :
    Calls Tryd.prog 6 #[.agg #[.int .i64 m, v], u] w fun e w' => ∃ r, e = .returned (.tuple #[r, .int .i64 0]) ∧ Own w.heap.size w' r (0 :: gr (rk l) 0 (hvO ws)) ∧ Below w.heap.size w w' := by
  have B0 := below_box w #[.int .i64 m, v]
  have HV := hid (h.below B0)
  have HU := hid (hu.below B0)
  have HB := hid B0
  obtain ⟨a, cap, rfl, _, _⟩ := h
  obtain ⟨ua, ucap, rfl, _, _⟩ := hu
  have HLW := hid (cw_of hw).1
  have hl8 : ws.length ≤ 8 := by rw [HLW.out]; exact hm
  have RK := hid (Ranks_ok m _ l _ hm hf hb HV.out)
  have hby := hvO_by ws
  clear B0
  go_enter Tryd.func6, Tryd.ntmps6
  go_wp2_with fail
  refine RK.out.mono ?_
  rintro e w1 ⟨r, rfl, hr, hb1⟩
  have x0 := (box_cells hb1).1
  have HB1 := hid (HB.out.trans (hb1.mono HB.out.size))
  have HU1 := hid (HU.out.below hb1)
  have CW := hid (checkWeights_any m _ ws w1 HU1.out)
  rw [hw] at CW
  have HR1 := hid hr
  obtain ⟨rb, roff, rcap, rfl, _, _⟩ := hr
  obtain ⟨T, HT⟩ : ∃ T, Hid (2 ^ m = T) := ⟨2 ^ m, Eq.refl (2 ^ m)⟩
  rw [HT.out] at HR1 ⊢
  have HF := hid (heaviest_any _ ws w1 HU1.out hl8)
  clear hb1
  go_wp2_with fail
  refine CW.out.mono ?_
  rintro e w2 ⟨rfl, hw2⟩
  obtain rfl := hw2.symm
  go_wp2_with fail
  refine HF.out.mono ?_
  rintro e w3 ⟨o3, rfl, ho3, hb3⟩
  have hoL : (hvO ws).length ≤ 8 := by
    have := (order_perm hby.beg hby.all).length_eq
    rw [List.length_range] at this
    omega
  have GR := hid (grow_any (.slice (some ⟨rb, roff, none⟩) T rcap) o3 m (rk l) (hvO ws) w3 (by rw [HT.out]; exact HR1.out.below hb3) (ho3.ints (by omega)) hm (by rw [← HLW.out]; exact hby.beg) hoL)
  have HB3 := hid (HB1.out.trans (hb3.mono HB1.out.size))
  obtain ⟨oa, oc, rfl⟩ := ho3.form
  clear hb3 ho3
  go_wp2_with fail
  refine GR.out.mono ?_
  rintro e w4 ⟨g4, rfl, ho4, hb4⟩
  have HB4 := hid (HB3.out.trans (hb4.mono HB3.out.size))
  have HO4 := hid (ho4.mono HB3.out.size)
  obtain ⟨ga, gc, hge⟩ := ho4.form
  subst hge
  clear hb4 ho4
  go_wp2_with fail
  go_ret2
  exact ⟨_, rfl, HO4.out, HB4.out⟩
set_option maxRecDepth 20000 in
set_option maxHeartbeats 2000000 in
theorem Best_bad (n : Int) (v u : Value) (zs ws : List Int) (w : World) (h : Ints w v zs) (hu : Ints w u ws) (he : stE n zs ws ≠ 0) :
    Calls Tryd.prog 4 #[.agg #[.int .i64 n, v], u] w fun e w' => e = .returned (.tuple #[.int .i64 0, .int .i64 0, .int .i64 (stE n zs ws)]) ∧ Below w.heap.size w w' := by
  have B0 := below_box w #[.int .i64 n, v]
  have ST := hid (Steps_bad n v u zs ws _ (h.below B0) (hu.below B0) he)
  have HB := hid B0
  have hn0 : (stE n zs ws != 0) = true := by simp [he]
  obtain ⟨a, cap, rfl, _, _⟩ := h
  obtain ⟨ua, ucap, rfl, _, _⟩ := hu
  clear B0 he
  generalize stE n zs ws = q at *
  go_enter Tryd.func4, Tryd.ntmps4
  go_wp2_with fail
  refine ST.out.mono ?_
  rintro e w1 ⟨rfl, hb1⟩
  have HB1 := hid (HB.out.trans (hb1.mono HB.out.size))
  clear hb1
  go_wp2_with fail
  refine bodyPost_ret (results_tmp3 rfl _ _ _) rfl ?_
  exact ⟨rfl, HB1.out⟩
set_option maxRecDepth 20000 in
set_option maxHeartbeats 2000000 in
theorem Best_ok (m : Nat) (v u : Value) (l : List Nat) (ws : List Int) (w : World) (h : Ints w v (N l)) (hu : Ints w u ws) (hm : m ≤ 8) (hf : Fam m l) (hb : Bas l) (hw : cwR m ws = 0) :
    Calls Tryd.prog 4 #[.agg #[.int .i64 m, v], u] w fun e w' => e = .returned (.tuple #[.int .i64 (grS (rk l) 0 (hvO ws) : Nat), .int .i64 (weiTo (fun i => ws.getD i 0) (grS (rk l) 0 (hvO ws)) m), .int .i64 0]) ∧ Below w.heap.size w w' := by
  have B0 := below_box w #[.int .i64 m, v]
  have ST := hid (Steps_ok m v u l ws _ (h.below B0) (hu.below B0) hm hf hb hw)
  have HU := hid (hu.below B0)
  have HB := hid B0
  obtain ⟨a, cap, rfl, _, _⟩ := h
  obtain ⟨ua, ucap, rfl, _, _⟩ := hu
  obtain ⟨hlw, hwb⟩ := cw_of hw
  have hby := hvO_by ws
  rw [hlw] at hby
  have hg := gr_bas hm hf hb hby.beg hby.all
  have hg8 := hb.lt _ hg
  have WE := hid (fun w1 (h1 : Ints w1 (.slice ua ws.length ucap) ws) => weigh_any _ ws (grS (rk l) 0 (hvO ws)) w1 h1 hg8 (by rw [hlw]; exact hm) hwb)
  rw [hlw] at WE
  rw [hlw] at ST HU ⊢
  have LST := hid (gr_last (rk l) (hvO ws) 0)
  have GLN : Hid ((gr (rk l) 0 (hvO ws)).length ≤ 8) := by
    have h1 : ∀ (o : List Nat) (s : Nat), (gr (rk l) s o).length ≤ o.length := fun o => by
      induction o with
      | nil => intro s; simp [gr]
      | cons x o ih =>
        intro s
        unfold gr
        split
        · simp; exact ih _
        · have := ih s; simp; omega
    have h2 := (order_perm hby.beg hby.all).length_eq
    rw [List.length_range] at h2
    exact Nat.le_trans (h1 _ 0) (by omega)
  generalize weiTo (fun i => ws.getD i 0) (grS (rk l) 0 (hvO ws)) m = q at *
  generalize grS (rk l) 0 (hvO ws) = z at *
  generalize gr (rk l) 0 (hvO ws) = G at *
  clear B0 hlw hw
  go_enter Tryd.func4, Tryd.ntmps4
  go_wp2_with fail
  refine ST.out.mono ?_
  rintro e w1 ⟨r1, rfl, ho1, hb1⟩
  have HB1 := hid (HB.out.trans (hb1.mono HB.out.size))
  have WE1 := hid (WE.out w1 (HU.out.below hb1))
  obtain ⟨pre, hpre⟩ : ∃ pre, 0 :: G = pre ++ [z] := by
    have := LST.out
    rw [List.getLast?_eq_some_iff] at this
    exact this
  have hpl : pre.length ≤ 256 := by
    have := congrArg List.length hpre
    have h8 := GLN.out
    simp at this
    omega
  have LA := hid (last_any (l := pre) (x := z) (w := w1) (v := r1) (by rw [← hpre]; exact ho1) hpl)
  obtain ⟨ra, rc, hre⟩ := ho1.form
  subst hre
  clear hb1 ho1 hpre
  go_wp2_with fail
  refine LA.out.mono ?_
  rintro e w2 ⟨rfl, hw2⟩
  obtain rfl := hw2.symm
  go_wp2_with fail
  refine WE1.out.mono ?_
  rintro e w3 ⟨rfl, hw3⟩
  obtain rfl := hw3.symm
  go_wp2_with fail
  refine bodyPost_ret (results_tmp3 rfl _ _ _) rfl ?_
  exact ⟨rfl, HB1.out⟩
end Go.Proofs.YthbcnolpjcppoabDoor
