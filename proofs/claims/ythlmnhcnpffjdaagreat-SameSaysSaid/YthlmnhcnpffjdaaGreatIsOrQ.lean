/- same.IsOrder, told whole. -/
import Derived.Test.YthlmnhcnpffjdaaGreatEqWQ
import Derived.Test.YthlmnhcnpffjdaaGreatPlainAll
namespace Go.Proofs.YthlmnhcnpffjdaaGreat
open Go.RowKit

theorem N_injO {l m : List Nat} (h : N l = N m) : l = m := by
  have : (N l).map Int.toNat = (N m).map Int.toNat := by rw [h]
  simpa [N, List.map_map, Function.comp_def] using this
theorem shr1_fact : ∀ s : Nat, s < 256 → ∀ i : Nat, i < 8 → (bits BinOp.and IntKind.i64 ((s : Int) / 2 ^ i) 1 == 1) = s.testBit i := by decide +kernel
theorem setL_lt {n : Nat} {o : List Nat} (h : ∀ x ∈ o, x < n) : setL o < 2 ^ n := lt_of_bits fun j hj => by rw [setL_has] at hj; exact h j (by simpa using hj)
theorem beg_snoc {n : Nat} {o : List Nat} {x : Nat} (h : Beg n o) (hx : x < n) (ht : (setL o).testBit x = false) : Beg n (o ++ [x]) := by
  have hxo : x ∉ o := fun hm => by rw [setL_has] at ht; simp [hm] at ht
  refine ⟨fun y hy => ?_, ?_⟩
  · rw [List.mem_append, List.mem_singleton] at hy
    rcases hy with hy | rfl
    · exact h.lt y hy
    · exact hx
  · rw [List.nodup_append]
    refine ⟨h.once, by simp, fun y hy z hz => ?_⟩
    rw [List.mem_singleton] at hz
    subst hz
    exact fun e => hxo (e ▸ hy)
/-- An order of n elements. -/
def OrdZ (n : Nat) (zs : List Int) : Prop := ∃ o : List Nat, zs = N o ∧ Beg n o ∧ o.length = n
/-- What IsOrder answers. -/
def OrdAns2 (n : Nat) (zs : List Int) (e : Ending) : Prop := ∃ q, e = .returned (.bool q) ∧ (q = true ↔ OrdZ n zs)
theorem ordZ_at {n : Nat} {zs : List Int} {k : Nat} (h : OrdZ n zs) (hk : k < zs.length) : 0 ≤ zs.getD k 0 ∧ zs.getD k 0 < (n : Int) := by
  obtain ⟨o, rfl, hb, _⟩ := h
  rw [N_len] at hk
  rw [N_getD]
  have := hb.at hk
  omega
theorem ordZ_new {n : Nat} {zs : List Int} {k y : Nat} {o : List Nat} (h : OrdZ n zs) (hk : k < zs.length) (ht : zs.take k = N o) (hy : zs.getD k 0 = y) : (setL o).testBit y = false := by
  obtain ⟨o2, rfl, hb, _⟩ := h
  rw [N_len] at hk
  rw [N_getD] at hy
  have hy2 : o2.getD k 0 = y := by omega
  rw [setL_has, decide_eq_false_iff_not]
  intro hm
  have ho : o2.take k = o := N_injO (by rw [← ht]; simp [N])
  subst ho
  obtain ⟨i, hi, e⟩ := List.getElem_of_mem hm
  rw [List.length_take] at hi
  have e1 : o2.getD i 0 = y := by
    rw [List.getElem_take] at e
    simp [List.getD, (by omega : i < o2.length), e]
  have := hb.inj (by omega) hk (e1.trans hy2.symm)
  omega
set_option maxRecDepth 20000 in
set_option maxHeartbeats 2000000 in
theorem IsOrder_full (n : Nat) (v : Value) (zs : List Int) (w : World) (hn : n ≤ 8) (h : Ints w v zs) :
    Calls Tryz.prog 34 #[.int .i64 n, v] w fun e w' => OrdAns2 n zs e ∧ w' = w := by
  obtain ⟨a, cap, rfl, hl, hc⟩ := h
  go_enter Tryz.func34, Tryz.ntmps34
  go_wp2_with fail
  go_loop [5, 10] (fun q i => ∃ (k : Nat) (o : List Nat), k ≤ zs.length ∧ i = .int .i64 k ∧ q = .int .i64 (setL o : Nat) ∧ Hid (zs.take k = N o) ∧ Hid (Beg n o)) (fun _ i => zs.length - (intOf i).toNat)
  case atStart => exact ⟨0, [], Nat.zero_le _, rfl, rfl, by show _ = _; simp [N], ⟨by simp, List.nodup_nil⟩⟩
  case round =>
    obtain ⟨k, o, hk, rfl, rfl, HT, HBG⟩ := hrel
    by_cases hlt : k < zs.length
    · have hki : (k : Int) < (zs.length : Int) := by omega
      obtain ⟨b, off, rfl, hb, hcell⟩ := hc (by omega)
      have hck := hcell k hlt
      have HTK : Hid (zs.take (k + 1) = zs.take k ++ [zs.getD k 0]) := by
        show _ = _
        rw [List.take_succ_eq_append_getElem hlt]
        simp [List.getD, hlt]
      have hs8 : setL o < 256 := lt256 hn (setL_lt HBG.out.lt)
      have HAT := hid (fun h => ordZ_at (n := n) (zs := zs) (k := k) h hlt)
      have HNW := hid (fun y h e => ordZ_new (n := n) (zs := zs) (k := k) (y := y) h hlt HT.out e)
      clear hcell hc
      generalize zs.getD k 0 = x at *
      by_cases h1 : x < 0
      · have HNO : Hid (¬ OrdZ n zs) := fun h => by have := (HAT.out h).1; omega
        go_wp2_with fail
        go_ret
        exact ⟨⟨false, rfl, by simp [HNO.out]⟩, rfl⟩
      · by_cases h2 : (n : Int) ≤ x
        · have h1' : decide (x < 0) = false := by simp [h1]
          have h2' : decide ((n : Int) ≤ x) = true := by simp [h2]
          have HNO : Hid (¬ OrdZ n zs) := fun h => by have := (HAT.out h).2; omega
          go_wp2_with fail
          go_ret
          exact ⟨⟨false, rfl, by simp [HNO.out]⟩, rfl⟩
        · obtain ⟨y, rfl⟩ : ∃ y : Nat, x = y := ⟨x.toNat, by omega⟩
          have hyn : y < n := by omega
          have h1' : decide ((y : Int) < 0) = false := by simp
          have h2' : decide ((n : Int) ≤ (y : Int)) = false := by simp; omega
          have h2'' : decide (n ≤ y) = false := by simp; omega
          have SF := shr1_fact (setL o) hs8 y (by omega)
          have SN := hid (setL_snoc o y)
          have hpw : wrap64 (2 ^ y) = ((2 ^ y : Nat) : Int) := (pow_wrap y (by omega)).1
          have hor : bits .or .i64 ((setL o : Nat) : Int) ((2 ^ y : Nat) : Int) = ((setL o ||| 2 ^ y : Nat) : Int) := i64_or_nat _ _ (by omega) (by have := pow_lt256 (i := y) (by omega); omega)
          have HBS := hid (fun h => beg_snoc (x := y) HBG.out hyn h)
          have HNS : Hid (zs.take (k + 1) = N (o ++ [y])) := by
            show _ = _
            rw [HTK.out, HT.out]
            simp [N]
          clear h1 h2
          rcases hq : (setL o).testBit y with _ | _
          · rw [hq] at SF
            have HBS2 := hid (HBS.out hq)
            clear hq HBS HNW
            rw [← SN.out] at hor
            generalize setL o = st at *
            generalize hp : 2 ^ y = py at *
            go_wp2_with fail
            go_round
            case rel => exact ⟨k + 1, o ++ [y], by omega, by go_num, rfl, HNS, HBS2⟩
            case measure => simp [intOf]; omega
          · rw [hq] at SF
            have HNO : Hid (¬ OrdZ n zs) := fun h => by have := HNW.out y h rfl; rw [hq] at this; cases this
            clear hq HNW
            generalize setL o = st at *
            go_wp2_with fail
            go_ret
            exact ⟨⟨false, rfl, by simp [HNO.out]⟩, rfl⟩
    · obtain rfl : k = zs.length := by omega
      rw [List.take_length] at HT
      have hz : zs.length = o.length := by rw [HT.out]; simp [N]
      have HZ := hid hz
      clear hz
      go_wp2_with fail
      go_ret
      refine ⟨⟨_, rfl, ?_⟩, rfl⟩
      have h9 := HZ.out
      constructor
      · intro h
        refine ⟨o, HT.out, HBG.out, ?_⟩
        simp at h
        omega
      · rintro ⟨o2, e, _, hl2⟩
        rw [e, N_len, hl2]
        simp
end Go.Proofs.YthlmnhcnpffjdaaGreat
