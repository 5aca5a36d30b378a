/- same.IsOrder, greedy.First, told whole; rotaref.IsOrder, rotaref.Priced, rotalaw.priced. -/
import Derived.Test.YthbcnolpjcppoabGyClimbQ
import Derived.Test.YthbcnolpjcppoabRefAxEQ
import Derived.Test.YthbcnolpjcppoabPrRQ
namespace Go.Proofs.Ythbcnolpjcppoab
open Go.RowKit

/-- An order of all elements. -/
def ordB (n : Nat) (zs : List Int) : Bool := ((List.range n).all fun i => memZ i zs) && decide (zs.length = n)
theorem perm_of : ∀ (n : Nat) (zs : List Int), (∀ i : Nat, i < n → (i : Int) ∈ zs) → zs.length = n → zs.Perm (N (List.range n))
  | 0, zs, _, h => by rw [List.length_eq_zero_iff.1 h]; exact List.Perm.nil
  | n + 1, zs, ha, hl => by
    have hm := ha n (by omega)
    have h1 := List.perm_cons_erase hm
    have h2 := perm_of n (zs.erase (n : Int)) (fun i hi => (List.mem_erase_of_ne (by omega)).2 (ha i (by omega))) (by rw [List.length_erase_of_mem hm, hl]; rfl)
    have h3 : N (List.range (n + 1)) = N (List.range n) ++ [(n : Int)] := by simp [N, List.range_succ]
    rw [h3]
    exact h1.trans ((h2.cons _).trans (List.perm_append_singleton _ _).symm)
theorem ord_of {n : Nat} {zs : List Int} (h : ordB n zs = true) : ∃ o : List Nat, zs = N o ∧ Beg n o ∧ o.length = n := by
  unfold ordB at h
  rw [Bool.and_eq_true, List.all_eq_true, decide_eq_true_iff] at h
  have hp := perm_of n zs (fun i hi => by have := h.1 i (List.mem_range.2 hi); unfold memZ at this; simpa using this) h.2
  have hmem : ∀ z ∈ zs, ∃ i : Nat, i < n ∧ z = (i : Int) := fun z hz => by
    have := hp.mem_iff.1 hz
    unfold N at this
    rw [List.mem_map] at this
    obtain ⟨i, hi, rfl⟩ := this
    exact ⟨i, List.mem_range.1 hi, rfl⟩
  have hpm := hp.map Int.toNat
  have e : (N (List.range n)).map Int.toNat = List.range n := by
    unfold N
    rw [List.map_map]
    conv => rhs; rw [← List.map_id (List.range n)]
    rfl
  rw [e] at hpm
  refine ⟨zs.map Int.toNat, ?_, ⟨fun x hx => ?_, ?_⟩, by simp [h.2]⟩
  · unfold N
    rw [List.map_map]
    conv => lhs; rw [← List.map_id zs]
    apply List.map_congr_left
    intro z hz
    obtain ⟨i, _, rfl⟩ := hmem z hz
    simp
  · exact List.mem_range.1 (hpm.mem_iff.1 hx)
  · exact hpm.nodup_iff.2 List.nodup_range
theorem of_ord {n : Nat} {zs : List Int} {o : List Nat} (hn : n ≤ 8) (h1 : zs = N o) (h2 : Beg n o) (h3 : o.length = n) : ordB n zs = true := by
  unfold ordB
  rw [Bool.and_eq_true, List.all_eq_true, decide_eq_true_iff]
  refine ⟨fun i hi => ?_, by rw [h1]; simp [N, h3]⟩
  rw [h1, memZ_N]
  unfold memB
  simpa using beg_all hn h2 h3 i (List.mem_range.1 hi)
theorem ord_bad {n k : Nat} {zs : List Int} {o o' : List Nat} (hz : zs = N o') (hB : Beg n o') (hk : k < zs.length) (ht : zs.take k = N o) (hbad : zs.getD k 0 < 0 ∨ (n : Int) ≤ zs.getD k 0 ∨ (setL o).testBit (zs.getD k 0).toNat = true) : False := by
  subst hz
  rw [N_len] at hk
  rw [N_getD] at hbad
  have hx := hB.at hk
  have ho : o'.take k = o := by
    have : N (o'.take k) = N o := by rw [← ht]; simp [N]
    unfold N at this
    exact List.map_inj_right (fun a b h => by omega) |>.1 this
  rcases hbad with h | h | h
  · omega
  · omega
  · rw [setL_has, ← ho] at h
    have h' : o'.getD k 0 ∈ o'.take k := by simpa using h
    obtain ⟨j, hj, hje⟩ := List.mem_iff_getElem.1 h'
    have hj2 : j < k := by simp at hj; omega
    have := hB.inj (i := j) (j := k) (by omega) hk (by rw [← hje]; simp [List.getD, show j < o'.length by omega])
    omega
set_option maxRecDepth 20000 in
set_option maxHeartbeats 2000000 in
theorem IsOrder_x (n : Nat) (v : Value) (zs : List Int) (w : World) (hn : n ≤ 8) (h : Ints w v zs) :
    Calls Try.prog 72 #[.int .i64 n, v] w fun e w' => e = .returned (.bool (ordB n zs)) ∧ w' = w := by
  obtain ⟨a, cap, rfl, hl, hc⟩ := h
  have HOO := hid (fun h => ord_of (n := n) (zs := zs) h)
  have HOT := hid (fun o h1 h2 h3 => of_ord (n := n) (zs := zs) (o := o) hn h1 h2 h3)
  obtain ⟨Q, HQ⟩ : ∃ Q, Hid (ordB n zs = Q) := ⟨_, Eq.refl (ordB n zs)⟩
  rw [HQ.out] at HOO HOT ⊢
  go_enter Try.func72, Try.ntmps72
  go_wp2_with fail
  go_loop [5, 10] (fun q i => ∃ (k : Nat) (o : List Nat), k ≤ zs.length ∧ i = .int .i64 k ∧ q = .int .i64 (setL o : Nat) ∧ Hid (zs.take k = N o) ∧ Hid (Beg n o)) (fun _ i => zs.length - (intOf i).toNat)
  case atStart => exact ⟨0, [], Nat.zero_le _, rfl, rfl, by show _ = _; simp [N], ⟨by simp, List.nodup_nil⟩⟩
  case round =>
    obtain ⟨k, o, hk, rfl, rfl, HT, HBG⟩ := hrel
    by_cases hlt : k < zs.length
    · have hki : (k : Int) < (zs.length : Int) := by omega
      obtain ⟨b, off, rfl, hb, hcell⟩ := hc (by omega)
      have hck := hcell k hlt
      have HTK : Hid (zs.take (k + 1) = zs.take k ++ [zs.getD k 0]) := by
        show _ = _
        rw [List.take_succ_eq_append_getElem hlt]
        simp [List.getD, hlt]
      have hs8 : setL o < 256 := lt256 hn (setL_lt HBG.out.lt)
      have HQF : Hid (zs.getD k 0 < 0 ∨ (n : Int) ≤ zs.getD k 0 ∨ (setL o).testBit (zs.getD k 0).toNat = true → Q = false) := fun hbad => by
        apply Classical.byContradiction
        intro hne
        obtain ⟨o', hz, hB', hl'⟩ := HOO.out (by simpa using hne)
        exact ord_bad hz hB' hlt HT.out hbad
      clear hcell hc
      generalize zs.getD k 0 = x at *
      by_cases h1 : x < 0
      · have HZ := hid (HQF.out (.inl h1))
        go_wp2_with fail
        go_ret
        exact ⟨by rw [HZ.out]; rfl, rfl⟩
      · by_cases h2 : (n : Int) ≤ x
        · have h1' : decide (x < 0) = false := by simp [h1]
          have h2' : decide ((n : Int) ≤ x) = true := by simp [h2]
          have HZ := hid (HQF.out (.inr (.inl h2)))
          go_wp2_with fail
          go_ret
          exact ⟨by rw [HZ.out]; rfl, rfl⟩
        · obtain ⟨y, rfl⟩ : ∃ y : Nat, x = y := ⟨x.toNat, by omega⟩
          have hyn : y < n := by omega
          have h1' : decide ((y : Int) < 0) = false := by simp
          have h2' : decide ((n : Int) ≤ (y : Int)) = false := by simp; omega
          have h2'' : decide (n ≤ y) = false := by simp; omega
          have SF := shr1_fact (setL o) hs8 y (by omega)
          have SN := hid (setL_snoc o y)
          have hpw : wrap64 (2 ^ y) = ((2 ^ y : Nat) : Int) := (pow_wrap y (by omega)).1
          have hor : bits .or .i64 ((setL o : Nat) : Int) ((2 ^ y : Nat) : Int) = ((setL o ||| 2 ^ y : Nat) : Int) := i64_or_nat _ _ (by omega) (by have := pow_lt256 (i := y) (by omega); omega)
          have HBS := hid (fun h => beg_snoc (x := y) HBG.out hyn h)
          have HNS : Hid (zs.take (k + 1) = N (o ++ [y])) := by
            show _ = _
            rw [HTK.out, HT.out]
            simp [N]
          clear h1 h2
          rcases hq : (setL o).testBit y with _ | _
          · rw [hq] at SF
            have HBS2 := hid (HBS.out hq)
            clear hq HBS
            rw [← SN.out] at hor
            generalize setL o = st at *
            generalize hp : 2 ^ y = py at *
            go_wp2_with fail
            go_round
            case rel => exact ⟨k + 1, o ++ [y], by omega, by go_num, rfl, HNS, HBS2⟩
            case measure => simp [intOf]; omega
          · rw [hq] at SF
            have HZ := hid (HQF.out (.inr (.inr (by simpa using hq))))
            clear hq HQF
            generalize setL o = st at *
            go_wp2_with fail
            go_ret
            exact ⟨by rw [HZ.out]; rfl, rfl⟩
    · obtain rfl : k = zs.length := by omega
      rw [List.take_length] at HT
      have hz : zs.length = o.length := by rw [HT.out]; simp [N]
      by_cases hzn : zs.length = n
      · have HZ := hid (HOT.out o HT.out HBG.out (by omega))
        have hzi : (zs.length : Int) = (n : Int) := by omega
        clear hz
        go_wp2_with fail
        go_ret
        exact ⟨by rw [HZ.out]; exact ret_bool (by simp), rfl⟩
      · have HZ : Hid (Q = false) := by
          show Q = false
          apply Classical.byContradiction
          intro hne
          obtain ⟨o', hz', _, hl'⟩ := HOO.out (by simpa using hne)
          exact hzn (by rw [hz', ← hl']; simp [N])
        have hzi : ¬ (zs.length : Int) = (n : Int) := by omega
        clear hz
        go_wp2_with fail
        go_ret
        exact ⟨by rw [HZ.out]; exact ret_bool (by simp; omega), rfl⟩
/-- What First answers of a matroid, whole. -/
def FstX (m : Nat) (l : List Nat) (zs : List Int) (e : Ending) : Prop := (ordB m zs = false ∧ e = .returned (.tuple #[.int .i64 0, .int .i64 1])) ∨ ∃ o : List Nat, zs = N o ∧ Beg m o ∧ o.length = m ∧ e = .returned (.tuple #[.int .i64 (grS (rk l) 0 o : Nat), .int .i64 0])
set_option maxRecDepth 20000 in
set_option maxHeartbeats 2000000 in
theorem First_x (m : Nat) (v u : Value) (l : List Nat) (zs : List Int) (w : World) (h : Ints w v (N l)) (hu : Ints w u zs) (hm : m ≤ 8) (hf : Fam m l) (hb : Bas l) :
    Calls Try.prog 26 #[.agg #[.int .i64 m, v], u] w fun e w' => FstX m l zs e ∧ Below w.heap.size w w' := by
  have B0 := below_box w #[.int .i64 m, v]
  have HV := hid (h.below B0)
  have HU := hid (hu.below B0)
  have HB := hid B0
  obtain ⟨a, cap, rfl, _, _⟩ := h
  obtain ⟨ua, ucap, rfl, _, _⟩ := hu
  have RK := hid (Ranks_ok m _ l _ hm hf hb HV.out)
  clear B0
  go_enter Try.func26, Try.ntmps26
  go_wp2_with fail
  refine RK.out.mono ?_
  rintro e w1 ⟨r, rfl, hr, hb1⟩
  have x0 := (box_cells hb1).1
  have HB1 := hid (HB.out.trans (hb1.mono HB.out.size))
  have HU1 := hid (HU.out.below hb1)
  have IO := hid (IsOrder_x m _ zs w1 hm HU1.out)
  have HR1 := hid hr
  obtain ⟨rb, roff, rcap, rfl, _, _⟩ := hr
  obtain ⟨T, HT⟩ : ∃ T, Hid (2 ^ m = T) := ⟨2 ^ m, Eq.refl (2 ^ m)⟩
  rw [HT.out] at HR1 ⊢
  clear hb1
  go_wp2_with fail
  refine IO.out.mono ?_
  rintro e w2 ⟨rfl, hw2⟩
  obtain rfl := hw2.symm
  rcases hq : ordB m zs with _ | _
  · have HQ : Hid (ordB m zs = false) := hq
    clear hq
    go_wp2_with fail
    go_ret2
    exact ⟨.inl ⟨HQ.out, rfl⟩, HB1.out⟩
  · obtain ⟨o, hz, hBg, hol⟩ := ord_of hq
    subst hz
    have HHO := hid hol
    have GR := hid (grow_any (.slice (some ⟨rb, roff, none⟩) T rcap) _ m (rk l) o w1 (by rw [HT.out]; exact HR1.out) HU1.out hm hBg (by omega))
    clear hq hol
    go_wp2_with fail
    refine GR.out.mono ?_
    rintro e w4 ⟨g4, rfl, ho4, hb4⟩
    have HB4 := hid (HB1.out.trans (hb4.mono HB1.out.size))
    have hgl := gr_last (rk l) o 0
    obtain ⟨pre, hpre⟩ : ∃ pre, 0 :: gr (rk l) 0 o = pre ++ [grS (rk l) 0 o] := by
      rw [List.getLast?_eq_some_iff] at hgl
      exact hgl
    have hgn : (gr (rk l) 0 o).length ≤ o.length := by
      have h1 : ∀ (o : List Nat) (s : Nat), (gr (rk l) s o).length ≤ o.length := fun o => by
        induction o with
        | nil => intro s; simp [gr]
        | cons x o ih =>
          intro s
          unfold gr
          split
          · simp; exact ih _
          · have := ih s; simp; omega
      exact h1 o 0
    have hpl : pre.length ≤ 256 := by
      have h1 := congrArg List.length hpre
      have h2 := HHO.out
      simp at h1
      omega
    have LA := hid (last_any (l := pre) (x := grS (rk l) 0 o) (w := w4) (v := g4) (by rw [← hpre]; exact ho4) hpl)
    obtain ⟨ga, gc, hge⟩ := ho4.form
    subst hge
    have FIN : Hid (∃ o' : List Nat, N o = N o' ∧ Beg m o' ∧ o'.length = m ∧ Ending.returned (.tuple #[.int .i64 (grS (rk l) 0 o : Nat), .int .i64 0]) = .returned (.tuple #[.int .i64 (grS (rk l) 0 o' : Nat), .int .i64 0])) := ⟨o, rfl, hBg, HHO.out, rfl⟩
    clear hb4 ho4 hpre hgl hgn hpl
    generalize grS (rk l) 0 o = z at *
    go_wp2_with fail
    refine LA.out.mono ?_
    rintro e w5 ⟨rfl, hw5⟩
    obtain rfl := hw5.symm
    go_wp2_with fail
    go_ret2
    exact ⟨.inr FIN.out, HB4.out⟩
set_option maxRecDepth 20000 in
set_option maxHeartbeats 2000000 in
theorem First_bad (n : Int) (v u : Value) (zs os : List Int) (w : World) (h : Ints w v zs) (hu : Ints w u os) (hc : chkR n zs ≠ 0) :
    Calls Try.prog 26 #[.agg #[.int .i64 n, v], u] w fun e w' => e = .returned (.tuple #[.int .i64 0, .int .i64 (chkR n zs)]) ∧ Below w.heap.size w w' := by
  have B0 := below_box w #[.int .i64 n, v]
  have HB := hid B0
  have RK := hid (Ranks_bad n _ zs _ (h.below B0) hc)
  have hn0 : (chkR n zs != 0) = true := by simp [hc]
  obtain ⟨a, cap, rfl, _, _⟩ := h
  obtain ⟨ua, ucap, rfl, _, _⟩ := hu
  clear B0 hc
  generalize chkR n zs = q at *
  go_enter Try.func26, Try.ntmps26
  go_wp2_with fail
  refine RK.out.mono ?_
  rintro e w1 ⟨rfl, hb1⟩
  have HB1 := hid (HB.out.trans (hb1.mono HB.out.size))
  clear hb1
  go_wp2_with fail
  go_ret2
  exact ⟨rfl, HB1.out⟩
set_option maxRecDepth 20000 in
set_option maxHeartbeats 2000000 in
theorem RIsOrder_any (n : Nat) (v : Value) (zs : List Int) (w : World) (hn : n ≤ 8) (h : Ints w v zs) :
    Calls Try.prog 29 #[v, .int .i64 n] w fun e w' => e = .returned (.bool (ordB n zs)) ∧ w' = w := by
  have HI := hid h
  obtain ⟨a, cap, rfl, hl, hc⟩ := h
  have HE : Hid (ordB n zs = (((List.range n).all fun i => memZ i zs) && decide (zs.length = n))) := rfl
  generalize ordB n zs = Q at *
  go_enter Try.func29, Try.ntmps29
  go_wp2_with fail
  go_loop [5] (fun i => ∃ k : Nat, k ≤ n ∧ i = .int .i64 k ∧ Hid (((List.range k).all fun i => memZ i zs) = true)) (fun i => n - (intOf i).toNat)
  case atStart => exact ⟨0, Nat.zero_le _, rfl, by show _ = true; simp⟩
  case round =>
    obtain ⟨k, hk, rfl, R⟩ := hrel
    by_cases hlt : k < n
    · have hki : (k : Int) < (n : Int) := by omega
      have CT := hid (ContainsZ_any _ zs (k : Int) w HI.out)
      have R2 : Hid (((List.range (k + 1)).all fun i => memZ i zs) = memZ k zs) := by show _ = _; rw [List.range_succ, List.all_append, R.out]; simp
      have R3 : Hid (memZ k zs = false → ((List.range n).all fun i => memZ i zs) = false) := fun h => by
        rw [List.all_eq_false]
        exact ⟨k, List.mem_range.2 hlt, by rw [h]; simp⟩
      rcases hq : memZ (k : Int) zs with _ | _
      · have F := R3.out hq
        rw [F] at HE
        rw [hq] at CT
        have HZ : Hid (Q = false) := HE.out
        clear hq
        go_wp2_with fail
        refine CT.out.mono ?_
        rintro e w' ⟨rfl, hw'⟩
        obtain rfl := hw'.symm
        go_wp2_with fail
        go_ret
        exact ⟨by rw [HZ.out]; rfl, rfl⟩
      · rw [hq] at CT R2
        clear hq
        go_wp2_with fail
        refine CT.out.mono ?_
        rintro e w' ⟨rfl, hw'⟩
        obtain rfl := hw'.symm
        go_wp2_with fail
        go_round
        case rel => exact ⟨k + 1, by omega, by go_num, R2⟩
        case measure => simp [intOf]; omega
    · obtain rfl : k = n := by omega
      rw [R.out, Bool.true_and] at HE
      go_wp2_with fail
      go_ret
      refine ⟨?_, rfl⟩
      rw [HE.out]
      exact ret_bool (by first | rfl | (rw [Bool.eq_iff_iff]; simp; done) | (rw [Bool.eq_iff_iff]; simp; omega))
set_option maxRecDepth 20000 in
set_option maxHeartbeats 2000000 in
theorem priced_any (n : Int) (v u : Value) (zs ws : List Int) (w : World) (h : Ints w v zs) (hu : Ints w u ws) :
    Calls Try.prog 19 #[.agg #[.int .i64 n, v], u] w fun e w' => e = .returned (.int .i64 (stE n zs ws)) ∧ Below w.heap.size w w' := by
  have B0 := below_box w #[.int .i64 n, v]
  have HB := hid B0
  have HM := hid (Matroid_ref n v zs _ (h.below B0))
  have HU := hid (fun w' (hb' : Below w.heap.size w w') => hu.below hb')
  have SE : Hid (stE n zs ws = if chkR n zs ≠ 0 then chkR n zs else cwR n ws) := rfl
  generalize stE n zs ws = Q at *
  obtain ⟨a, cap, rfl, _, _⟩ := h
  obtain ⟨ua, ucap, rfl, _, _⟩ := hu
  clear B0
  by_cases hc : chkR n zs = 0
  · rw [if_neg (by simp [hc])] at SE
    rw [hc] at HM
    go_enter Try.func19, Try.ntmps19
    go_wp2_with fail
    refine HM.out.mono ?_
    rintro e w1 ⟨rfl, hb1⟩
    have x0 := (box_cells hb1).1
    have HB1 := hid (HB.out.trans (hb1.mono HB.out.size))
    have PR := hid (Priced_any n _ ws w1 (HU.out _ HB1.out))
    rw [← SE.out] at PR
    clear hb1
    go_wp2_with fail
    refine PR.out.mono ?_
    rintro e w2 ⟨rfl, hw2⟩
    obtain rfl := hw2.symm
    go_wp2_with fail
    go_ret
    exact ⟨rfl, HB1.out⟩
  · rw [if_pos hc] at SE
    have hn0 : (chkR n zs != 0) = true := by simp [hc]
    rw [← SE.out] at HM hn0
    go_enter Try.func19, Try.ntmps19
    go_wp2_with fail
    refine HM.out.mono ?_
    rintro e w1 ⟨rfl, hb1⟩
    have HB1 := hid (HB.out.trans (hb1.mono HB.out.size))
    clear hb1
    go_wp2_with fail
    go_ret
    exact ⟨rfl, HB1.out⟩
end Go.Proofs.Ythbcnolpjcppoab
