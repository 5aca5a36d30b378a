/- rotaref.Climb. -/
import Derived.Test.YthbcnolpjcppoabGyGreedyQ
import Derived.Deep.RegionLaw
namespace Go.Proofs.Ythbcnolpjcppoab
open Go.RowKit

/-- append, as one step of a region that draws. -/
theorem step_app_own {P : Program} {w : World} {ops : Array Oper} {o : Oper} {a : Act} {K : Act → World → Prop} {Q : Exit → Act → World → Prop} {E : Prop}
    (hg : o.guard = none) (s x : Operand) (t : TypeId) (hop : o.op = Op.call { callee := Callee.builtin Builtin.append, args := #[s, x], argTypes := #[t, t] })
    (base : Nat) (e : TypeId) (i : TypeInfo) (z : Value) (size bytes : Nat) (h1 : P.underlying t = some (.slice e)) (h2 : P.info? e = some i) (h3 : i.zero = some z) (h4 : i.size = size) (h5 : i.bytes = bytes) (h6 : z.cells.size = size) (h7 : 0 < size)
    (v : Value) (k : Nat) (xs : List Value) (hs : a.eval s = v) (hown : w.ownsRow base e size v k xs) (ad : Addr) (m c : Nat) (news : List Value) (hx : a.eval x = .slice (some ad) m c) (hn : news.length = m * size)
    (hc : ∀ j u, news[j]? = some u → w.cell? (ad.add j) = some u) (h1c : ∀ u ∈ news, u.oneCell' = true) (b1 : k + m ≤ maxLen) (b2 : (k + m) * bytes ≤ 140737488355328) (b3 : base ≤ w.heap.size)
    (hK : ∀ v' w', w'.ownsRow base e size v' (k + m) (xs ++ news) → w.grownBy w' v.ownBlock → K (a.put o.dst v') w') :
    if Region.wanted o (yielded ops a.tmps) = true then Oper.wp P o a w K Q else E := by
  have hw : Region.wanted o (yielded ops a.tmps) = true := by simp [Region.wanted, hg]
  rw [if_pos hw]
  obtain ⟨v', w', hrun, r1, r2, r3⟩ := run_append_own (P := P) w base t o.type e i z size bytes h1 h2 h3 h4 h5 h6 h7 v k xs hown ad m c news hn hc h1c b1 b2 b3
  unfold Oper.wp
  simp [execOp, hop, resolve, invoke, builtin, hs, hx, hrun, Result.andThen]
  exact hK v' w' r1 r2

theorem Own.drewR {B : Nat} {w : World} {v : Value} {l : List Nat} (h : Own B w v l) : Own B w.drew v l := h.below ((Below.refl _ _).drew)
theorem own_last {B : Nat} {w : World} {v : Value} {acc : List Nat} {cur : Nat} (h : Own B w v (acc ++ [cur])) : ∃ g cap, v = .slice (some ⟨g, 0, none⟩) (acc.length + 1) cap ∧ w.cell? ⟨g, acc.length, none⟩ = some (.int .i64 (cur : Nat)) := by
  obtain ⟨g, cap, hv⟩ := Go.Joins.ownsRow_form h (by simp)
  subst hv
  have h1 := World.ownsRow.cellAt h acc.length (by simp)
  refine ⟨g, cap, by simp, ?_⟩
  rw [h1]
  simp [V]
set_option maxRecDepth 20000 in
set_option maxHeartbeats 2000000 in
theorem Climb_ok (m : Nat) (v u : Value) (l : List Nat) (ws : List Int) (w : World) (h : Ints w v (N l)) (hu : Ints w u ws) (hm : m ≤ 8) (hf : Fam m l) (hb : Bas l) (hlw : ws.length = m) :
    Calls Try.prog 22 #[.agg #[.int .i64 m, v], u] w fun e w' => ∃ r, e = .returned r ∧ Own w.heap.size w' r (0 :: gr (rk l) 0 (hvO ws)) ∧ Below w.heap.size w w' := by
  obtain ⟨i0, hi0, hz0, hz1, hz2⟩ := info_parts Try.infoInt
  have B0 := below_box w #[.int .i64 m, v]
  have HB0 := hid B0
  have HV := hid (fun w' (hb' : Below w.heap.size w w') => h.below hb')
  have hby := hvO_by ws
  have RD := hid (Ranked_any u ws _ (hu.below B0) (by omega))
  rw [hlw] at hby
  have hg := gr_bas hm hf hb hby.beg hby.all
  have hg8 := hb.lt _ hg
  have hx8 : ∀ x ∈ hvO ws, x < 8 := fun x hx => Nat.lt_of_lt_of_le (hby.beg.lt x hx) hm
  have hol : (hvO ws).length ≤ 8 := by
    have := (order_perm hby.beg hby.all).length_eq
    rw [List.length_range] at this
    omega
  have CG := hid (climb_gr (rk l) (hvO ws) 0 hby.beg.once (fun x _ => by simp) (by decide) hx8)
  have GO := hid (fun W v' u' hv' hu' => Greedy_ok m v' u' l (hvO ws) W hv' hu' hm hf hb hby.beg hby.all hol)
  rw [← CG.out]
  obtain ⟨a, cap, rfl⟩ := cells_of h
  obtain ⟨b, bcap, rfl, _, _⟩ := hu
  clear h B0 CG hby hg hlw
  generalize grS (rk l) 0 (hvO ws) = G at *
  generalize hvO ws = o at *
  go_enter Try.func22, Try.ntmps22
  go_wp2_with fail
  refine RD.out.mono ?_
  rintro e w1 ⟨r1, rfl, ho1, hb1⟩
  have x := box_cells hb1
  obtain ⟨x0, x1⟩ := x
  have HB1 := hid (HB0.out.trans (hb1.mono HB0.out.size))
  have HO1 := hid ho1
  obtain ⟨oa, oc, hfo⟩ := ho1.form
  subst hfo
  have G1 := hid (GO.out w1 _ _ (HV.out _ HB1.out) (HO1.out.ints (by omega)))
  clear hb1 ho1
  go_wp2_with fail
  refine G1.out.mono ?_
  rintro e w2 ⟨rfl, hb2⟩
  have HO2 := hid (HO1.out.below hb2)
  have HB2 := hid (HB1.out.trans (hb2.mono HB1.out.size))
  have HLIT := hid (Own.lit0 (B := w2.heap.size) w2 (Nat.le_refl _))
  have HCO : Hid (0 < o.length → ∃ ob ooff, oa = some ⟨ob, ooff, none⟩ ∧ ob < w2.heap.size ∧ ∀ i, i < o.length → w2.cell? ⟨ob, ooff + i, none⟩ = some (.int .i64 (o.getD i 0 : Nat))) := by
    obtain ⟨oa', oc', he, _, hco⟩ := (HO2.out.ints (by omega)).nats
    injection he with h1 h2 h3
    subst h1
    exact hco
  clear hb2 G1 RD GO HO1 HB1 x0 x1
  go_wp2_with fail
  have hB0 := hid ((Below.refl w2.heap.size w2).alloc (Nat.le_refl _) (.cells #[.int .i64 0] 3))
  revert HLIT hB0
  generalize w2.alloc (.cells #[.int .i64 0] 3) = W1
  intro HLIT hB0
  have hs2 := HB2.out.size
  go_loopw [7, 8] (fun v i wr => ∃ (k cur : Nat) (acc : List Nat), k ≤ o.length ∧ i = .int .i64 k ∧ cur ≤ 255 * k ∧ acc.length ≤ k ∧ Hid (Own w2.heap.size wr v (acc ++ [cur])) ∧ Hid (acc ++ cur :: climb G cur (o.drop k) = 0 :: climb G 0 o) ∧ Hid (Below w2.heap.size w2 wr)) (fun _ i _ => o.length - (intOf i).toNat)
  case atStart => exact ⟨0, 0, [], Nat.zero_le _, rfl, by omega, Nat.le_refl _, HLIT, rfl, hB0⟩
  case round =>
    obtain ⟨k, cur, acc, hk, rfl, hcT, hak, HO, HP, HW⟩ := hrel
    obtain ⟨g, vc, hve, hcl⟩ := own_last HO.out
    subst hve
    have hs0 := HW.out.size
    by_cases hlt : k < o.length
    · have HLT := hid hlt
      have hki : (k : Int) < (o.length : Int) := by omega
      obtain ⟨ob, ooff, rfl, hob, hoc⟩ := HCO.out (by omega)
      have hck := (HW.out.cell (p := ⟨ob, ooff + k, none⟩) hob).trans (hoc k hlt)
      clear hoc
      have hxm : o.getD k 0 < 8 := hx8 _ (by simp only [List.getD, List.getElem?_eq_getElem hlt, Option.getD_some]; exact List.getElem_mem _)
      rw [drop_cons hlt] at HP
      have hG : climb G cur (o.getD k 0 :: o.drop (k + 1)) = if G.testBit (o.getD k 0) then (cur + 2 ^ o.getD k 0) :: climb G (cur + 2 ^ o.getD k 0) (o.drop (k + 1)) else climb G cur (o.drop (k + 1)) := rfl
      rw [hG] at HP
      have IN := hid (fun w => In_any G (o.getD k 0) w hg8 hxm)
      clear hG
      generalize o.getD k 0 = x at *
      have hpw : wrap64 (2 ^ x) = ((2 ^ x : Nat) : Int) := (pow_wrap x (by omega)).1
      have hp8 := pow_lt256 (i := x) (by omega)
      have hxn : ¬ (x : Int) < 0 := by omega
      rcases hq : G.testBit x with _ | _
      · rw [hq] at IN
        rw [if_neg (by simp [hq])] at HP
        clear hq
        go_wp2_with fail
        refine (IN.out _).mono ?_
        rintro e w' ⟨rfl, hw'⟩
        obtain rfl := hw'.symm
        go_wp2_with fail
        go_roundw
        case rel => exact ⟨k + 1, cur, acc, by have := HLT.out; omega, by go_num, by omega, by omega, HO, HP, HW⟩
        case measure => have := HLT.out; simp [intOf]; omega
      · rw [hq] at IN
        rw [if_pos hq] at HP
        clear hq
        have hni : ((acc.length + 1 : Nat) : Int) - 1 = (acc.length : Int) := by omega
        have hni2 : (acc.length : Int) < ((acc.length + 1 : Nat) : Int) := by omega
        have hac8 : acc.length ≤ 8 := by omega
        have hcu : cur ≤ 2040 := by omega
        generalize hn : acc.length = n at *
        go_wp2_with fail
        refine (IN.out _).mono ?_
        rintro e w' ⟨rfl, hw'⟩
        obtain rfl := hw'.symm
        go_wp2_with fail
        have hpw2 : IntKind.i64.wrap (2 ^ x) = ((2 ^ x : Nat) : Int) := by rw [show (2 : Int) ^ x = ((2 ^ x : Nat) : Int) by simp]; exact wrap_i64_nat _ (by omega)
        have hwn : IntKind.i64.wrap (n : Int) = (n : Int) := wrap_i64_nat _ (by omega)
        have hnn : (n : Int) < (n : Int) + 1 := by omega
        have hsum : ((cur : Int) + ((2 ^ x : Nat) : Int)) = ((cur + 2 ^ x : Nat) : Int) := by omega
        have hcur2 : cur + 2 ^ x ≤ 255 * (k + 1) := by omega
        generalize 2 ^ x = px at *
        have hwr : IntKind.i64.wrap ((cur : Int) + (px : Int)) = ((cur + px : Nat) : Int) := by rw [hsum]; exact wrap_i64_nat _ (by omega)
        generalize hz : cur + px = z at *
        clear hsum
        have hw0 : wr.drew.cell? ⟨g, n, none⟩ = some (.int .i64 (cur : Nat)) := hcl
        have hw1 : wr.drew.cell? ⟨ob, ooff + k, none⟩ = some (.int .i64 (x : Nat)) := hck
        go_region_law (refine step_app_own rfl (.tmp 27) (.tmp 40) 22 rfl w2.heap.size 3 i0 (.int .i64 0) 1 8 Try.underlying22 hi0 hz0 hz1 hz2 rfl (by decide) _ _ _ rfl ((HO.out.drewR).alloc _) ⟨wr.drew.heap.size, 0, none⟩ 1 1 [.int .i64 (z : Nat)] rfl rfl (cell_one_new _ _ _) (by intro u hu; simp at hu; subst hu; rfl) (by unfold maxLen; simp; omega) (by simp; omega) (by simp; omega) ?_; intro v' w4 hown' hgrow)
        all_goals (
          have R3 := hid (Own.snoc (l := acc ++ [cur]) (s := z) hown')
          have R4 := hid (Own.grown HO.out.drewR HW.out.drew hs0 hgrow)
          clear hown' hgrow
          go_wp2_with fail
          go_roundw
          (case rel => exact ⟨k + 1, z, acc ++ [cur], by have := HLT.out; omega, by go_num, hcur2, by simp; omega, R3, by show _ = _; rw [← HP.out]; simp, R4⟩)
          (case measure => have := HLT.out; simp [intOf]; omega))
    · obtain rfl : k = o.length := by omega
      rw [List.drop_length] at HP
      have HO9 : Hid (Own w.heap.size wr (.slice (some ⟨g, 0, none⟩) (acc.length + 1) vc) (0 :: climb G 0 o)) := by rw [← HP.out]; exact HO.out.mono hs2
      have HW9 := hid (HB2.out.trans (HW.out.mono hs2))
      go_wp2_with fail
      go_ret
      exact ⟨_, rfl, HO9.out, HW9.out⟩
end Go.Proofs.Ythbcnolpjcppoab
