/- same.IsOrder, greedy.First. -/
import Derived.Test.YthbcnolpjcppoabDoorGrBestQ
import Derived.Test.YthbcnolpjcppoabDoorPlainAll
namespace Go.Proofs.YthbcnolpjcppoabDoor
open Go.RowKit

theorem shr1_fact : ∀ s : Nat, s < 256 → ∀ i : Nat, i < 8 → (bits BinOp.and IntKind.i64 ((s : Int) / 2 ^ i) 1 == 1) = s.testBit i := by decide +kernel
theorem setL_lt {n : Nat} {o : List Nat} (h : ∀ x ∈ o, x < n) : setL o < 2 ^ n := lt_of_bits fun j hj => by rw [setL_has] at hj; exact h j (by simpa using hj)
theorem beg_snoc {n : Nat} {o : List Nat} {x : Nat} (h : Beg n o) (hx : x < n) (ht : (setL o).testBit x = false) : Beg n (o ++ [x]) := by
  have hxo : x ∉ o := fun hm => by rw [setL_has] at ht; simp [hm] at ht
  refine ⟨fun y hy => ?_, ?_⟩
  · rw [List.mem_append, List.mem_singleton] at hy
    rcases hy with hy | rfl
    · exact h.lt y hy
    · exact hx
  · rw [List.nodup_append]
    refine ⟨h.once, by simp, fun y hy z hz => ?_⟩
    rw [List.mem_singleton] at hz
    subst hz
    exact fun e => hxo (e ▸ hy)
/-- What IsOrder answers. -/
def OrdAns (n : Nat) (zs : List Int) (e : Ending) : Prop := ∃ q, e = .returned (.bool q) ∧ (q = true → ∃ o : List Nat, zs = N o ∧ Beg n o ∧ o.length = n)
set_option maxRecDepth 20000 in
set_option maxHeartbeats 2000000 in
theorem IsOrder_any (n : Nat) (v : Value) (zs : List Int) (w : World) (hn : n ≤ 8) (h : Ints w v zs) :
    Calls Tryd.prog 24 #[.int .i64 n, v] w fun e w' => OrdAns n zs e ∧ w' = w := by
  obtain ⟨a, cap, rfl, hl, hc⟩ := h
  go_enter Tryd.func24, Tryd.ntmps24
  go_wp2_with fail
  go_loop [5, 10] (fun q i => ∃ (k : Nat) (o : List Nat), k ≤ zs.length ∧ i = .int .i64 k ∧ q = .int .i64 (setL o : Nat) ∧ Hid (zs.take k = N o) ∧ Hid (Beg n o)) (fun _ i => zs.length - (intOf i).toNat)
  case atStart => exact ⟨0, [], Nat.zero_le _, rfl, rfl, by show _ = _; simp [N], ⟨by simp, List.nodup_nil⟩⟩
  case round =>
    obtain ⟨k, o, hk, rfl, rfl, HT, HBG⟩ := hrel
    by_cases hlt : k < zs.length
    · have hki : (k : Int) < (zs.length : Int) := by omega
      obtain ⟨b, off, rfl, hb, hcell⟩ := hc (by omega)
      have hck := hcell k hlt
      have HTK : Hid (zs.take (k + 1) = zs.take k ++ [zs.getD k 0]) := by
        show _ = _
        rw [List.take_succ_eq_append_getElem hlt]
        simp [List.getD, hlt]
      have hs8 : setL o < 256 := lt256 hn (setL_lt HBG.out.lt)
      clear hcell hc
      generalize zs.getD k 0 = x at *
      by_cases h1 : x < 0
      · go_wp2_with fail
        go_ret
        exact ⟨⟨false, rfl, fun h => by cases h⟩, rfl⟩
      · by_cases h2 : (n : Int) ≤ x
        · have h1' : decide (x < 0) = false := by simp [h1]
          have h2' : decide ((n : Int) ≤ x) = true := by simp [h2]
          go_wp2_with fail
          go_ret
          exact ⟨⟨false, rfl, fun h => by cases h⟩, rfl⟩
        · obtain ⟨y, rfl⟩ : ∃ y : Nat, x = y := ⟨x.toNat, by omega⟩
          have hyn : y < n := by omega
          have h1' : decide ((y : Int) < 0) = false := by simp
          have h2' : decide ((n : Int) ≤ (y : Int)) = false := by simp; omega
          have h2'' : decide (n ≤ y) = false := by simp; omega
          have SF := shr1_fact (setL o) hs8 y (by omega)
          have SN := hid (setL_snoc o y)
          have hpw : wrap64 (2 ^ y) = ((2 ^ y : Nat) : Int) := (pow_wrap y (by omega)).1
          have hor : bits .or .i64 ((setL o : Nat) : Int) ((2 ^ y : Nat) : Int) = ((setL o ||| 2 ^ y : Nat) : Int) := i64_or_nat _ _ (by omega) (by have := pow_lt256 (i := y) (by omega); omega)
          have HBS := hid (fun h => beg_snoc (x := y) HBG.out hyn h)
          have HNS : Hid (zs.take (k + 1) = N (o ++ [y])) := by
            show _ = _
            rw [HTK.out, HT.out]
            simp [N]
          clear h1 h2
          rcases hq : (setL o).testBit y with _ | _
          · rw [hq] at SF
            have HBS2 := hid (HBS.out hq)
            clear hq HBS
            rw [← SN.out] at hor
            generalize setL o = st at *
            generalize hp : 2 ^ y = py at *
            go_wp2_with fail
            go_round
            case rel => exact ⟨k + 1, o ++ [y], by omega, by go_num, rfl, HNS, HBS2⟩
            case measure => simp [intOf]; omega
          · rw [hq] at SF
            clear hq
            generalize setL o = st at *
            go_wp2_with fail
            go_ret
            exact ⟨⟨false, rfl, fun h => by cases h⟩, rfl⟩
    · obtain rfl : k = zs.length := by omega
      rw [List.take_length] at HT
      have hz : zs.length = o.length := by rw [HT.out]; simp [N]
      have HZ := hid hz
      clear hz
      go_wp2_with fail
      go_ret
      refine ⟨⟨_, rfl, fun h => ⟨o, HT.out, HBG.out, ?_⟩⟩, rfl⟩
      have := HZ.out
      simp at h
      omega
/-- What First answers of a matroid. -/
def FstAns (m : Nat) (l : List Nat) (zs : List Int) (e : Ending) : Prop := e = .returned (.tuple #[.int .i64 0, .int .i64 1]) ∨ ∃ o : List Nat, zs = N o ∧ Beg m o ∧ o.length = m ∧ e = .returned (.tuple #[.int .i64 (grS (rk l) 0 o : Nat), .int .i64 0])
set_option maxRecDepth 20000 in
set_option maxHeartbeats 2000000 in
theorem First_good (m : Nat) (v u : Value) (l : List Nat) (zs : List Int) (w : World) (h : Ints w v (N l)) (hu : Ints w u zs) (hm : m ≤ 8) (hf : Fam m l) (hb : Bas l) :
    Calls Tryd.prog 11 #[.agg #[.int .i64 m, v], u] w fun e w' => FstAns m l zs e ∧ Below w.heap.size w w' := by
  have B0 := below_box w #[.int .i64 m, v]
  have HV := hid (h.below B0)
  have HU := hid (hu.below B0)
  have HB := hid B0
  obtain ⟨a, cap, rfl, _, _⟩ := h
  obtain ⟨ua, ucap, rfl, _, _⟩ := hu
  have RK := hid (Ranks_ok m _ l _ hm hf hb HV.out)
  clear B0
  go_enter Tryd.func11, Tryd.ntmps11
  go_wp2_with fail
  refine RK.out.mono ?_
  rintro e w1 ⟨r, rfl, hr, hb1⟩
  have x0 := (box_cells hb1).1
  have HB1 := hid (HB.out.trans (hb1.mono HB.out.size))
  have HU1 := hid (HU.out.below hb1)
  have IO := hid (IsOrder_any m _ zs w1 hm HU1.out)
  have HR1 := hid hr
  obtain ⟨rb, roff, rcap, rfl, _, _⟩ := hr
  obtain ⟨T, HT⟩ : ∃ T, Hid (2 ^ m = T) := ⟨2 ^ m, Eq.refl (2 ^ m)⟩
  rw [HT.out] at HR1 ⊢
  clear hb1
  go_wp2_with fail
  refine IO.out.mono ?_
  rintro e w2 ⟨⟨q, rfl, hq⟩, hw2⟩
  obtain rfl := hw2.symm
  rcases q with _ | _
  · go_wp2_with fail
    go_ret2
    exact ⟨.inl rfl, HB1.out⟩
  · obtain ⟨o, hz, hBg, hol⟩ := hq rfl
    subst hz
    have HHO := hid hol
    have GR := hid (grow_any (.slice (some ⟨rb, roff, none⟩) T rcap) _ m (rk l) o w1 (by rw [HT.out]; exact HR1.out) HU1.out hm hBg (by omega))
    clear hq hol
    go_wp2_with fail
    refine GR.out.mono ?_
    rintro e w4 ⟨g4, rfl, ho4, hb4⟩
    have HB4 := hid (HB1.out.trans (hb4.mono HB1.out.size))
    have hgl := gr_last (rk l) o 0
    obtain ⟨pre, hpre⟩ : ∃ pre, 0 :: gr (rk l) 0 o = pre ++ [grS (rk l) 0 o] := by
      rw [List.getLast?_eq_some_iff] at hgl
      exact hgl
    have hgn : (gr (rk l) 0 o).length ≤ o.length := by
      have h1 : ∀ (o : List Nat) (s : Nat), (gr (rk l) s o).length ≤ o.length := fun o => by
        induction o with
        | nil => intro s; simp [gr]
        | cons x o ih =>
          intro s
          unfold gr
          split
          · simp; exact ih _
          · have := ih s; simp; omega
      exact h1 o 0
    have hpl : pre.length ≤ 256 := by
      have h1 := congrArg List.length hpre
      have h2 := HHO.out
      simp at h1
      omega
    have LA := hid (last_any (l := pre) (x := grS (rk l) 0 o) (w := w4) (v := g4) (by rw [← hpre]; exact ho4) hpl)
    obtain ⟨ga, gc, hge⟩ := ho4.form
    subst hge
    have FIN : Hid (∃ o' : List Nat, N o = N o' ∧ Beg m o' ∧ o'.length = m ∧ Ending.returned (.tuple #[.int .i64 (grS (rk l) 0 o : Nat), .int .i64 0]) = .returned (.tuple #[.int .i64 (grS (rk l) 0 o' : Nat), .int .i64 0])) := ⟨o, rfl, hBg, HHO.out, rfl⟩
    clear hb4 ho4 hpre hgl hgn hpl
    generalize grS (rk l) 0 o = z at *
    go_wp2_with fail
    refine LA.out.mono ?_
    rintro e w5 ⟨rfl, hw5⟩
    obtain rfl := hw5.symm
    go_wp2_with fail
    go_ret2
    exact ⟨.inr FIN.out, HB4.out⟩
end Go.Proofs.YthbcnolpjcppoabDoor
