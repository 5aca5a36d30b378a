/- The law rotakeep.GreedyBest. -/
import Derived.Test.YthbcnolpjcppoabDoorGbRefQ
import Derived.Test.YthbcnolpjcppoabDoorBelowQ
namespace Go.Proofs.YthbcnolpjcppoabDoor
open Go.RowKit

theorem hv1234 : hvO (N [1, 2, 3, 4]) = [3, 2, 1, 0] := by
  have h := hvO_by (N [1, 2, 3, 4])
  exact h.unique ⟨⟨by decide, by decide⟩, by decide, by simp [Hvy, List.pairwise_cons, N]⟩
theorem best1234 : grS (rk twoL) 0 (hvO (N [1, 2, 3, 4])) = 12 ∧ weiTo (fun i => (N [1, 2, 3, 4]).getD i 0) 12 4 = 7 := by
  rw [hv1234]
  exact ⟨by decide +kernel, by decide +kernel⟩
theorem Ints.cellsN {w : World} {ta : Option Addr} {m cap : Nat} {o : List Nat} (h : Ints w (.slice ta m cap) (N o)) (hol : o.length = m) (h0 : 0 < m) : ∃ b off, ta = some ⟨b, off, none⟩ ∧ b < w.heap.size ∧ ∀ i, i < m → w.cell? ⟨b, off + i, none⟩ = some (.int .i64 (o.getD i 0 : Nat)) := by
  subst hol
  obtain ⟨a, c, he, _, hc⟩ := h.nats
  injection he with h1 h2 h3
  subst h1
  exact hc h0
theorem Row.ints {g : Nat} {w : World} {n : Nat} {f : Nat → Nat} (h : Row g w n f) (hn : n ≤ 256) : Ints w (.slice (some ⟨g, 0, none⟩) n n) (N ((List.range n).map f)) := by
  have hg : g < w.heap.size := by
    obtain ⟨cur, h1, _⟩ := h
    exact (Array.getElem?_eq_some_iff.1 h1).1
  have hl : (N ((List.range n).map f)).length = n := by simp [N]
  refine ⟨some ⟨g, 0, none⟩, n, by rw [hl], by rw [hl]; omega, fun _ => ⟨g, 0, rfl, hg, fun i hi => ?_⟩⟩
  rw [hl] at hi
  rw [Nat.zero_add, h.cell hi]
  simp [N, List.getD, hi]
/-- The places, as far as filled. -/
def Plc (g : Nat) (w : World) (m k : Nat) (o : List Nat) : Prop := ∃ f : Nat → Nat, Row g w m f ∧ (∀ j, j < k → f (o.getD j 0) = j) ∧ ∀ i, f i < 8
theorem Plc.new (w : World) (m : Nat) (o : List Nat) : Plc w.heap.size (w.alloc (.cells (madeCells #[.int .i64 0] m) 3)) m 0 o :=
  ⟨_, Row.new w m, fun j hj => absurd hj (Nat.not_lt_zero j), fun _ => by decide⟩
theorem Plc.set {g : Nat} {w : World} {m k : Nat} {o : List Nat} (h : Plc g w m k o) (hm : m ≤ 8) (hk : k < m) (hB : Beg m o) (hol : o.length = m) : Plc g (w.setCell ⟨g, o.getD k 0, none⟩ (.int .i64 (k : Nat))) m (k + 1) o := by
  obtain ⟨f, h1, h2, h3⟩ := h
  have hget : ∀ j, j < m → ∃ hj : j < o.length, o.getD j 0 = o[j] := fun j hj => ⟨by omega, by simp [List.getD, show j < o.length by omega]⟩
  obtain ⟨hko, hkx⟩ := hget k hk
  have hx : o.getD k 0 < m := hB.lt _ (by rw [hkx]; exact List.getElem_mem _)
  refine ⟨fun i => if o.getD k 0 = i then k else f i, h1.set _ _ hx fun i hi => rfl, fun j hj => ?_, fun i => ?_⟩
  · by_cases e : j = k
    · subst e; simp
    · obtain ⟨hjo, hjx⟩ := hget j (by omega)
      have hj' : j < k := by omega
      have hne : ¬ o.getD k 0 = o.getD j 0 := by
        rw [hkx, hjx]
        intro h
        have hp := List.pairwise_iff_getElem.1 hB.once
        exact hp j k hjo hko hj' h.symm
      simp only [hne, if_false]
      exact h2 j (by omega)
  · simp only
    split
    · omega
    · exact h3 i
theorem Plc.cell {g : Nat} {w : World} {m k : Nat} {o : List Nat} (h : Plc g w m k o) {i : Nat} (hi : i < m) : ∃ q : Nat, w.cell? ⟨g, i, none⟩ = some (.int .i64 q) ∧ w.frozen? ⟨g, i, none⟩ = false := by
  obtain ⟨f, h1, _, _⟩ := h
  exact ⟨_, h1.cell hi, h1.frozen i⟩
theorem Plc.done {g : Nat} {w : World} {m : Nat} {o : List Nat} (h : Plc g w m m o) (hm : m ≤ 8) (hB : Beg m o) (hol : o.length = m) : ∃ p : List Nat, Ints w (.slice (some ⟨g, 0, none⟩) m m) (N p) ∧ p.length = m ∧ (∀ i, i < m → p.getD (o.getD i 0) 0 = i) ∧ ∀ i, p.getD i 0 < 8 := by
  obtain ⟨f, h1, h2, h3⟩ := h
  refine ⟨(List.range m).map f, h1.ints (by omega), by simp, fun i hi => ?_, fun i => ?_⟩
  · have hx : o.getD i 0 < m := hB.lt _ (by simp only [List.getD, List.getElem?_eq_getElem (show i < o.length by omega), Option.getD_some]; exact List.getElem_mem _)
    rw [← h2 i hi] 
    rw [h2 i hi]
    simp only [List.getD] at hx ⊢
    rw [List.getElem?_map, List.getElem?_range hx]
    exact h2 i hi
  · by_cases hi : i < m
    · simp only [List.getD]
      rw [List.getElem?_map, List.getElem?_range hi]
      exact h3 i
    · simp [List.getD, List.getElem?_eq_none (show ((List.range m).map f).length ≤ i by simp; omega)]
set_option maxRecDepth 100000 in
set_option maxHeartbeats 4000000 in
theorem gbest_law (n : Int) (v : Value) (zs : List Int) (u : Value) (ws : List Int) (t : Value) (os : List Int) (w : World) (hw : Tabbed w) (h : Ints w v zs) (hu : Ints w u ws) (ht : Ints w t os) :
    Calls Tryd.prog 3 #[.agg #[.int .i64 n, v], u, t] w fun e w' => e = .returned (.bool true) ∧ Below w.heap.size w w' := by
  have B0 := below_box w #[.int .i64 n, v]
  have HM := hid (fun w' (hb : Below w.heap.size w w') => h.below hb)
  have HMU := hid (fun w' (hb : Below w.heap.size w w') => hu.below hb)
  have HMT := hid (fun w' (hb : Below w.heap.size w w') => ht.below hb)
  have HTB := hid (fun w' (hb : Below w.heap.size w w') => hw.below hb)
  have HB0 := hid B0
  obtain ⟨a, cap, rfl, _, _⟩ := h
  obtain ⟨ua, ucap, rfl, _, _⟩ := hu
  obtain ⟨ta, tcap, rfl, _, _⟩ := ht
  clear hw
  go_enter Tryd.func3, Tryd.ntmps3
  go_wp2_with fail
  refine (two_any _).mono ?_
  rintro e w1 ⟨v1, rfl, hi1, hb1⟩
  obtain ⟨z0, z1⟩ := box_cells hb1
  have HB1 := hid (HB0.out.trans (hb1.mono HB0.out.size))
  have hs1 := hb1.size
  rw [World.size_alloc] at hs1
  have kB := below_alloc w1 (.cells (V [1, 2, 3, 4]).toArray 3)
  have BE := hid (Best_ok 4 v1 _ twoL (N [1, 2, 3, 4]) _ (hi1.below kB) (litsAt w1 [1, 2, 3, 4]) (by omega) two_fam two_bas (by decide +kernel))
  rw [best1234.1, best1234.2] at BE
  have y0 := (kB.cell (p := ⟨w.heap.size, 0, none⟩) (by show w.heap.size < _; omega)).trans z0
  have y1 := (kB.cell (p := ⟨w.heap.size, 1, none⟩) (by show w.heap.size < _; omega)).trans z1
  have HB1' := hid (HB1.out.trans (kB.mono HB1.out.size))
  have hs1' : w.heap.size + 1 ≤ (w1.alloc (.cells (V [1, 2, 3, 4]).toArray 3)).heap.size := Nat.le_trans hs1 kB.size
  clear hb1 hi1 kB z0 z1
  go_wp2_with fail
  refine BE.out.mono ?_
  rintro e w2 ⟨rfl, hb2⟩
  have x0 := (hb2.cell (p := ⟨w.heap.size, 0, none⟩) (by show w.heap.size < _; omega)).trans y0
  have x1 := (hb2.cell (p := ⟨w.heap.size, 1, none⟩) (by show w.heap.size < _; omega)).trans y1
  have HB2 := hid (HB1'.out.trans (hb2.mono HB1'.out.size))
  have hs2 : w.heap.size + 1 ≤ w2.heap.size := Nat.le_trans hs1' hb2.size
  clear hb2 y0 y1 HB1 HB1' hs1 hs1' BE
  by_cases hst : stE n zs ws = 0
  · have hchk : chkR n zs = 0 := by
      unfold stE at hst
      split at hst
      · rename_i h1; exact absurd hst h1
      · rename_i h1; exact Decidable.byContradiction h1
    have hcw : cwR n ws = 0 := by
      unfold stE at hst
      rw [if_neg (by simp [hchk])] at hst
      exact hst
    obtain ⟨m, l, rfl, hm, rfl, hf, hb⟩ := chk_of hchk
    clear hst hchk
    obtain ⟨hlw, hwb⟩ := cw_of hcw
    have HLW := hid hlw
    have hby := hvO_by ws
    rw [hlw] at hby
    have hg := gr_bas hm hf hb hby.beg hby.all
    have hg8 := hb.lt _ hg
    have hgn := hf.lt _ hg
    have B1 := hid (Best_ok m _ _ l ws w2 (HM.out _ HB2.out) (HMU.out _ HB2.out) hm hf hb hcw)
    have S1 := hid (fun w' (hb' : Below w.heap.size w w') => Steps_ok m _ _ l ws w' (HM.out _ hb') (HMU.out _ hb') hm hf hb hcw)
    have h8o : ∀ x ∈ hvO ws, x < 8 := fun x hx => Nat.lt_of_lt_of_le (hby.beg.lt x hx) hm
    have GLN : (gr (rk l) 0 (hvO ws)).length = pop (grS (rk l) 0 (hvO ws)) := by
      have := gr_len (rk l) (hvO ws) 0 hby.beg.once (fun x _ => by simp) (by decide) h8o
      have p0 : pop 0 = 0 := by decide
      omega
    have GLL : (0 :: gr (rk l) 0 (hvO ws)).getD (pop (grS (rk l) 0 (hvO ws))) 0 = grS (rk l) 0 (hvO ws) := by
      have := gr_last (rk l) (hvO ws) 0
      rw [List.getLast?_eq_getElem?, List.length_cons, GLN, Nat.add_sub_cancel] at this
      simp only [List.getD]
      rw [this]
      rfl
    have SH : Hid (∀ s, s < 2 ^ m → rk l s = pop s → pop s ≤ (gr (rk l) 0 (hvO ws)).length ∧ (0 :: gr (rk l) 0 (hvO ws)).getD (pop s) 0 < 2 ^ m ∧ weiTo (fun i => ws.getD i 0) s m ≤ weiTo (fun i => ws.getD i 0) ((0 :: gr (rk l) 0 (hvO ws)).getD (pop s) 0) m) := fun s hs hi => step_heavy hm hf hb hby hs hi
    have WE := hid (fun w' (hb' : Below w.heap.size w w') s (hs : s < 2 ^ ws.length) => Weighs_any _ ws s w' (HMU.out _ hb') (by rw [hlw]; exact hm) hs hwb)
    have WB := weiTo_le hwb (grS (rk l) 0 (hvO ws)) m
    rw [hlw] at B1 S1 WE ⊢
    rw [show (N l).length = l.length by simp [N]] at *
    have MZ : memZ (grS (rk l) 0 (hvO ws) : Nat) (N l) = true := by rw [memZ_N]; unfold memB; simpa using hg
    have CT := hid (fun w' (hb' : Below w.heap.size w w') => ContainsZ_any _ (N l) ((grS (rk l) 0 (hvO ws) : Nat) : Int) w' (HM.out _ hb'))
    rw [MZ] at CT
    have SZ := hid (fun w => Size_any (grS (rk l) 0 (hvO ws)) w hg8)
    have WEz := hid (fun w' (hb' : Below w.heap.size w w') => WE.out w' hb' _ hgn)
    have hz8 := pop_le _ hg8
    generalize gr (rk l) 0 (hvO ws) = G at *
    generalize hq0 : weiTo (fun i => ws.getD i 0) (grS (rk l) 0 (hvO ws)) m = q at *
    generalize grS (rk l) 0 (hvO ws) = z at *
    clear hlw MZ hq0 hby h8o
    go_wp2_with fail
    refine B1.out.mono ?_
    rintro e w3 ⟨rfl, hb3⟩
    have z0 := (hb3.cell (p := ⟨w.heap.size, 0, none⟩) (by show w.heap.size < _; omega)).trans x0
    have z1 := (hb3.cell (p := ⟨w.heap.size, 1, none⟩) (by show w.heap.size < _; omega)).trans x1
    have HB3 := hid (HB2.out.trans (hb3.mono HB2.out.size))
    have hs3 : w.heap.size + 1 ≤ w3.heap.size := Nat.le_trans hs2 hb3.size
    have S3 := hid (S1.out _ HB3.out)
    clear hb3 x0 x1 HB2 hs2 B1 S1
    go_wp2_with fail
    refine S3.out.mono ?_
    rintro e w4 ⟨r4, rfl, ho4, hb4⟩
    have x0 := (hb4.cell (p := ⟨w.heap.size, 0, none⟩) (by show w.heap.size < _; omega)).trans z0
    have x1 := (hb4.cell (p := ⟨w.heap.size, 1, none⟩) (by show w.heap.size < _; omega)).trans z1
    have HB4 := hid (HB3.out.trans (hb4.mono HB3.out.size))
    have hs4 : w.heap.size + 1 ≤ w4.heap.size := Nat.le_trans hs3 hb4.size
    obtain ⟨ra, rcap, rfl, _, hcl⟩ := (ho4.ints (by simp; omega)).nats
    rw [List.length_cons, GLN] at hcl ⊢
    obtain ⟨rb, roff, rfl, hrb, hcell⟩ := hcl (by omega)
    have HCL := hid hcell
    have cl4 : w4.cell? ⟨rb, roff + pop z, none⟩ = some (.int .i64 z) := by have := hcell (pop z) (by omega); rw [GLL] at this; exact this
    clear hb4 z0 z1 HB3 hs3 S3 hcl hcell ho4
    have WE4 := hid (fun w' (hb' : Below w4.heap.size w4 w') => WEz.out w' (HB4.out.trans (hb'.mono HB4.out.size)))
    generalize hpz : pop z = pz at *
    go_wp2_with fail
    refine (SZ.out _).mono ?_
    rintro e w5 ⟨rfl, hb5⟩
    have y0 := (hb5.cell (p := ⟨w.heap.size, 0, none⟩) (by show w.heap.size < _; omega)).trans x0
    have y1 := (hb5.cell (p := ⟨w.heap.size, 1, none⟩) (by show w.heap.size < _; omega)).trans x1
    have cl5 := (hb5.cell (p := ⟨rb, roff + pz, none⟩) hrb).trans cl4
    have HB5 := hid (HB4.out.trans (hb5.mono HB4.out.size))
    have hs5 : w.heap.size + 1 ≤ w5.heap.size := Nat.le_trans hs4 hb5.size
    have WE5 := hid (WE4.out _ hb5)
    have HK5 := hid hb5
    have hpi : (pz : Int) < ((pz + 1 : Nat) : Int) := by omega
    have hpj : ((pz + 1 : Nat) : Int) - 1 = (pz : Int) := by omega
    clear hb5 x0 x1
    go_wp2_with fail
    refine WE5.out.mono ?_
    rintro e w6 ⟨rfl, hb6⟩
    have x0 := (hb6.cell (p := ⟨w.heap.size, 0, none⟩) (by show w.heap.size < _; omega)).trans y0
    have x1 := (hb6.cell (p := ⟨w.heap.size, 1, none⟩) (by show w.heap.size < _; omega)).trans y1
    have HB6 := hid (HB5.out.trans (hb6.mono HB5.out.size))
    have hs6 : w.heap.size + 1 ≤ w6.heap.size := Nat.le_trans hs5 hb6.size
    have HK6 := hid (HK5.out.trans (hb6.mono HK5.out.size))
    have CT6 := hid (CT.out _ HB6.out)
    clear hb6 y0 y1 HB5 hs5 cl5 WE5 HK5
    go_wp2_with fail
    refine CT6.out.mono ?_
    rintro e w' ⟨rfl, hw'⟩
    obtain rfl := hw'.symm
    have IN := hid (Independents_ok m _ l w6 hm hf hb (HM.out _ HB6.out))
    go_wp2_with fail
    refine IN.out.mono ?_
    rintro e w7 ⟨r7, rfl, ho7, hb7⟩
    have y0 := (hb7.cell (p := ⟨w.heap.size, 0, none⟩) (by show w.heap.size < _; omega)).trans x0
    have y1 := (hb7.cell (p := ⟨w.heap.size, 1, none⟩) (by show w.heap.size < _; omega)).trans x1
    have HB7 := hid (HB6.out.trans (hb7.mono HB6.out.size))
    have hs7 : w.heap.size + 1 ≤ w7.heap.size := Nat.le_trans hs6 hb7.size
    have HK7 := hid (HK6.out.trans (hb7.mono HK6.out.size))
    have hfl := ran_len hm (fun s => rk l s == pop s)
    have CM : Hid (∀ s ∈ (List.range (2 ^ m)).filter (fun s => rk l s == pop s), s < 2 ^ m ∧ rk l s = pop s) := fun s hs => by rw [List.mem_filter, List.mem_range] at hs; simpa using hs
    have HI7 := hid (ho7.ints (by first | omega | exact hfl))
    clear hb7 ho7 x0 x1 HB6 hs6 HK6 CT6 IN
    generalize (List.range (2 ^ m)).filter (fun s => rk l s == pop s) = FR at *
    obtain ⟨fa, fcap, rfl, _, hcf⟩ := HI7.out.nats
    have GLN' : G.length = pz := GLN
    go_wp2_with fail
    go_loopw [116] (fun i wr => ∃ k : Nat, k ≤ FR.length ∧ i = .int .i64 k ∧ Hid (Below w7.heap.size w7 wr)) (fun i _ => FR.length - (intOf i).toNat)
    case atStart => exact ⟨0, Nat.zero_le _, rfl, Below.refl _ _⟩
    case round =>
    obtain ⟨k, hk, rfl, HW⟩ := hrel
    have BR := hid (HB7.out.trans (HW.out.mono HB7.out.size))
    have hsr := HW.out.size
    have KR := hid (HK7.out.trans (HW.out.mono HK7.out.size))
    by_cases hlt : k < FR.length
    · have hki : (k : Int) < (FR.length : Int) := by omega
      obtain ⟨fb, foff, rfl, hfb, hfcell⟩ := hcf (by omega)
      have hfk := (HW.out.cell (p := ⟨fb, foff + k, none⟩) hfb).trans (hfcell k hlt)
      have hmem : FR.getD k 0 ∈ FR := by simp only [List.getD, List.getElem?_eq_getElem hlt, Option.getD_some]; exact List.getElem_mem _
      obtain ⟨hsl, hsi⟩ := CM.out _ hmem
      obtain ⟨hp1, hp2, hp3⟩ := SH.out _ hsl hsi
      clear hmem hsi hfcell
      generalize FR.getD k 0 = s at *
      have W1 := hid (WE.out wr BR.out s hsl)
      have WS := hid (fun w' (hb' : Below wr.heap.size wr w') => WE.out w' (BR.out.trans (hb'.mono BR.out.size)) _ hp2)
      have hs8 : s < 256 := lt256 hm hsl
      have SZs := hid (fun w => Size_any s w hs8)
      have hcl := HCL.out (pop s) (by omega)
      have KC := hid (fun w' (hb' : Below wr.heap.size wr w') => ((KR.out.trans (hb'.mono KR.out.size)).cell (p := ⟨rb, roff + pop s, none⟩) hrb).trans hcl)
      have hpi2 : (pop s : Int) < ((pz + 1 : Nat) : Int) := by omega
      clear hcl
      generalize (0 :: G).getD (pop s) 0 = g at *
      generalize weiTo (fun i => ws.getD i 0) s m = q1 at *
      generalize weiTo (fun i => ws.getD i 0) g m = q2 at *
      generalize pop s = ps at *
      have hq : decide (q2 < q1) = false := by simp; omega
      go_wp2_with fail
      refine W1.out.mono ?_
      rintro e w8 ⟨rfl, hb8⟩
      go_wp2_with fail
      refine (SZs.out _).mono ?_
      rintro e w9 ⟨rfl, hb9⟩
      have HB9 := hid (hb8.trans (hb9.mono hb8.size))
      have KC9 := KC.out _ HB9.out
      have WS9 := hid (WS.out _ HB9.out)
      go_wp2_with fail
      refine WS9.out.mono ?_
      rintro e wa ⟨rfl, hba⟩
      have HBa := hid (HB9.out.trans (hba.mono HB9.out.size))
      go_wp2_with fail
      go_round
      case rel => exact ⟨k + 1, by omega, by go_num, HW.out.trans (HBa.out.mono HW.out.size)⟩
      case measure => simp [intOf]; omega
    · obtain rfl : k = FR.length := by omega
      have x0 := (HW.out.cell (p := ⟨w.heap.size, 0, none⟩) (by show w.heap.size < _; omega)).trans y0
      have x1 := (HW.out.cell (p := ⟨w.heap.size, 1, none⟩) (by show w.heap.size < _; omega)).trans y1
      have FG := hid (First_good m _ _ l os wr (HM.out _ BR.out) (HMT.out _ BR.out) hm hf hb)
      clear y0 y1 hcf HI7 CM SH HCL
      go_wp2_with fail
      refine FG.out.mono ?_
      rintro e w8 ⟨he, hb8⟩
      have y0 := (hb8.cell (p := ⟨w.heap.size, 0, none⟩) (by show w.heap.size < _; omega)).trans x0
      have y1 := (hb8.cell (p := ⟨w.heap.size, 1, none⟩) (by show w.heap.size < _; omega)).trans x1
      have HB8 := hid (BR.out.trans (hb8.mono BR.out.size))
      have hs8 : w.heap.size + 1 ≤ w8.heap.size := Nat.le_trans hs7 (Nat.le_trans hsr hb8.size)
      clear hb8 x0 x1
      rcases he with rfl | ⟨o, rfl, hBg, hol, rfl⟩
      · go_wp2_with fail
        go_ret
        exact ⟨by first | rfl | exact ret_bool (by simp), HB8.out⟩
      · have HOL := hid hol
        have hml : (N o).length = m := by simp [N, hol]
        rw [hml]
        have HMT2 : Hid (∀ w', Below w.heap.size w w' → Ints w' (.slice ta m tcap) (N o)) := fun w' hb' => by
          have := HMT.out w' hb'
          rw [hml] at this
          exact this
        clear hml HMT
        have hmk := fun w => run_make_row' (P := Tryd.prog) 22 3 (.int .i64 0) 8 Tryd.underlying22 Tryd.infoInt rfl .i64 .i64 m (by omega) (by omega) w
        have P0 := hid (Plc.new w8 m o)
        have z0 := cellA (.cells (madeCells #[.int .i64 0] m) 3) y0
        have z1 := cellA (.cells (madeCells #[.int .i64 0] m) 3) y1
        have kB := hid (HB8.out.alloc (by omega) (.cells (madeCells #[.int .i64 0] m) 3))
        have hsw : (w8.alloc (.cells (madeCells #[.int .i64 0] m) 3)).heap.size = w8.heap.size + 1 := by simp
        go_wp2_with fail
        clear hmk y0 y1
        revert P0 z0 z1 kB hsw
        generalize w8.alloc (.cells (madeCells #[.int .i64 0] m) 3) = W1
        intro P0 z0 z1 kB hsw
        have hgn2 := (gr_bas hm hf hb hBg (beg_all hm hBg hol))
        have GP := hid (fun p hpl hp t ht => gale_places (p := p) (t := t) hm hf hb hBg hol hpl hp ht)
        have hg2 := hf.lt _ hgn2
        have HLT := hid (fun t (ht : t ∈ l) => hf.lt t ht)
        clear hgn2
        generalize grS (rk l) 0 o = z2 at *
        go_loopw [147] (fun i wr => ∃ k : Nat, k ≤ m ∧ i = .int .i64 k ∧ Hid (Plc w8.heap.size wr m k o) ∧ Hid (Below w8.heap.size W1 wr)) (fun i _ => m - (intOf i).toNat)
        case atStart => exact ⟨0, Nat.zero_le _, rfl, P0.out, Below.refl _ _⟩
        case round =>
        clear BR hsr KR HW HB7 HK7 hs7
        obtain ⟨k, hk, rfl, HP, HW⟩ := hrel
        have BR := hid (kB.out.trans (HW.out.mono (by omega)))
        by_cases hlt : k < m
        · have hki : (k : Int) < (m : Int) := by omega
          obtain ⟨tb, toff, rfl, htb, htcell⟩ := (HMT2.out _ BR.out).cellsN hol (by omega)
          have htk := htcell k hlt
          have hxm : o.getD k 0 < m := hBg.lt _ (by simp only [List.getD, List.getElem?_eq_getElem (show k < o.length by omega), Option.getD_some]; exact List.getElem_mem _)
          have P2 := hid (HP.out.set hm hlt hBg hol)
          obtain ⟨q9, hc9, hf9⟩ := HP.out.cell hxm
          have B2 := hid (HW.out.setCell (p := ⟨w8.heap.size, o.getD k 0, none⟩) (Nat.le_refl _) (.int .i64 k))
          have hxi : ((o.getD k 0 : Nat) : Int) < (m : Int) := by omega
          clear htcell
          generalize o.getD k 0 = x at *
          go_wp2_with fail
          go_roundw
          case rel => exact ⟨k + 1, by omega, by go_num, P2, B2⟩
          case measure => simp [intOf]; omega
        · obtain rfl : m = k := by omega
          obtain ⟨p, hpI, hpl, hpp, hp8⟩ := HP.out.done hm hBg hol
          have HPI := hid hpI
          have GQ := hid (fun t (ht : t ∈ l) => GP.out p hpl hpp t ht)
          have IM1 := hid (fun w' (hb' : Below wr.heap.size wr w') => Image_any _ p z2 w' (HPI.out.below hb') (by omega) (by rw [hpl]; exact hg2) hp8)
          have IM2 := hid (fun t (ht : t ∈ l) w' (hb' : Below wr.heap.size wr w') => Image_any _ p t w' (HPI.out.below hb') (by omega) (by rw [hpl]; exact HLT.out t ht) hp8)
          have HS1 := HW.out.size
          have x0 := (HW.out.cell (p := ⟨w.heap.size, 0, none⟩) (by show w.heap.size < _; omega)).trans z0
          have x1 := (HW.out.cell (p := ⟨w.heap.size, 1, none⟩) (by show w.heap.size < _; omega)).trans z1
          have HCB := hid (fun h0 => (HM.out _ BR.out).cellsN rfl h0)
          clear GP HP hpI hpp hp8 HMT2 z0 z1
          go_wp2_with fail
          obtain ⟨wz, hwz⟩ : ∃ wz, wz = wr := ⟨_, rfl⟩
          have HWZ := hid HW.out
          rw [← hwz] at BR IM1 IM2 HCB HPI HS1 ⊢
          clear HW HWZ x0 x1 hwz wr
          go_loopw [160] (fun i wr => ∃ k : Nat, k ≤ l.length ∧ i = .int .i64 k ∧ Hid (Below wz.heap.size wz wr)) (fun i _ => l.length - (intOf i).toNat)
          case atStart => exact ⟨0, Nat.zero_le _, rfl, Below.refl _ _⟩
          case round =>
          obtain ⟨k, hk, rfl, HW⟩ := hrel
          have BR2 := hid (BR.out.trans (HW.out.mono BR.out.size))
          by_cases hlt : k < l.length
          · have hki : (k : Int) < (l.length : Int) := by omega
            obtain ⟨lb, loff, rfl, hlb, hlcell⟩ := HCB.out (by omega)
            have hlk := (HW.out.cell (p := ⟨lb, loff + k, none⟩) hlb).trans (hlcell k hlt)
            have hmem : l.getD k 0 ∈ l := by simp only [List.getD, List.getElem?_eq_getElem hlt, Option.getD_some]; exact List.getElem_mem _
            have I1 := hid (IM1.out wr HW.out)
            have I2 := hid (fun w' (hb' : Below wr.heap.size wr w') => IM2.out _ hmem w' (HW.out.trans (hb'.mono HW.out.size)))
            have GT := GQ.out _ hmem
            have TB := hid (fun w' (hb' : Below wr.heap.size wr w') => below_any (image p z2 : Nat) (image p (l.getD k 0) : Nat) w' (HTB.out w' (BR2.out.trans (hb'.mono BR2.out.size))))
            rw [GT] at TB
            clear hlcell hmem GT
            generalize l.getD k 0 = t2 at *
            generalize image p z2 = i1 at *
            generalize image p t2 = i2 at *
            go_wp2_with fail
            refine I1.out.mono ?_
            rintro e wa ⟨rfl, hba⟩
            have Ia := hid (I2.out _ hba)
            go_wp2_with fail
            refine Ia.out.mono ?_
            rintro e wb ⟨rfl, hbb⟩
            have HBb := hid (hba.trans (hbb.mono hba.size))
            have Tb := hid (TB.out _ HBb.out)
            go_wp2_with fail
            refine Tb.out.mono ?_
            rintro e wc ⟨rfl, hwc⟩
            obtain rfl := hwc.symm
            go_wp2_with fail
            go_round
            case rel => exact ⟨k + 1, by omega, by go_num, HW.out.trans (HBb.out.mono HW.out.size)⟩
            case measure => simp [intOf]; omega
          · obtain rfl : k = l.length := by omega
            go_wp2_with fail
            go_ret
            exact ⟨rfl, BR2.out⟩
  · have BB := hid (Best_bad n _ _ zs ws w2 (HM.out _ HB2.out) (HMU.out _ HB2.out) hst)
    have SB := hid (fun w' (hb' : Below w.heap.size w w') => Steps_bad n _ _ zs ws w' (HM.out _ hb') (HMU.out _ hb') hst)
    have hne : (stE n zs ws != 0) = true := by simp [hst]
    generalize stE n zs ws = q at *
    go_wp2_with fail
    refine BB.out.mono ?_
    rintro e w3 ⟨rfl, hb3⟩
    have z0 := (hb3.cell (p := ⟨w.heap.size, 0, none⟩) (by show w.heap.size < _; omega)).trans x0
    have z1 := (hb3.cell (p := ⟨w.heap.size, 1, none⟩) (by show w.heap.size < _; omega)).trans x1
    have HB3 := hid (HB2.out.trans (hb3.mono HB2.out.size))
    have SB3 := hid (SB.out _ HB3.out)
    clear hb3
    go_wp2_with fail
    refine SB3.out.mono ?_
    rintro e w4 ⟨rfl, hb4⟩
    have HB4 := hid (HB3.out.trans (hb4.mono HB3.out.size))
    clear hb4
    go_wp2_with fail
    go_ret
    exact ⟨by first | rfl | exact ret_bool (by simp), HB4.out⟩
end Go.Proofs.YthbcnolpjcppoabDoor
