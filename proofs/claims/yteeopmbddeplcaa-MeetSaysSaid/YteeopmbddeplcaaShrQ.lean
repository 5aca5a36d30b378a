/- join.canBeShared. -/
import Derived.Test.YteeopmbddeplcaaIsIndQ
import Derived.Test.YteeopmbddeplcaaPlainAll
namespace Go.Proofs.Yteeopmbddeplcaa
open Go.RowKit Go.Shelf

theorem RkAt.drewN {w : World} {v : Value} {T : Nat} {r : Nat → Nat} (h : RkAt w v T r) (k : Nat) : RkAt (w.drewN k) v T r := h.below (drewN_below _ _ _)
set_option maxRecDepth 20000 in
set_option maxHeartbeats 2000000 in
theorem share_any (va vb : Value) (T : Nat) (r q : Nat → Nat) (s : Nat) (w : World) (hT : T ≤ 256) (hs : s < T) (ha : RkAt w va T r) (hb : RkAt w vb T q) :
    Calls Try.prog 52 #[va, vb, .int .i64 s] w fun e w' => e = .returned (.bool (shareB r q s)) ∧ Below w.heap.size w w' := by
  have IA := hid (fun t w' (ht : t < T) (hb' : Below w.heap.size w w') => isInd_q va T r t w' hT ht (ha.below hb'))
  have IB := hid (fun t w' (ht : t < T) (hb' : Below w.heap.size w w') => isInd_q vb T q t w' hT ht (hb.below hb'))
  obtain ⟨p, HP⟩ : ∃ p : Nat → Bool, Hid ((fun t => subB t s && r t == pop t && q (dif s t) == pop (dif s t)) = p) := ⟨_, rfl⟩
  have HF : Hid (shareB r q s = (List.range (s + 1)).any p) := by show _ = _; rw [← HP.out]; rfl
  generalize shareB r q s = Q at *
  have hL : (List.range (s + 1)).length = s + 1 := List.length_range
  have HG : Hid (∀ k, k < s + 1 → (List.range (s + 1)).getD k 0 = k) := fun k hk => by simp [List.getD, hk]
  clear ha hb
  go_enter Try.func52, Try.ntmps52
  go_wp2_with fail
  go_loopw [10] (fun i wr => ∃ k : Nat, k ≤ s + 1 ∧ i = .int .i64 k ∧ Hid ((List.range (s + 1)).any p = ((List.range (s + 1)).drop k).any p) ∧ Hid (Below w.heap.size w wr)) (fun i _ => s + 1 - (intOf i).toNat)
  case atStart => exact ⟨0, Nat.zero_le _, rfl, rfl, Below.refl _ _⟩
  case round =>
    obtain ⟨k, hk, rfl, R, hnx⟩ := hrel
    by_cases hlt : k < s + 1
    · have D := hid (any_drop (p := p) (l := List.range (s + 1)) (k := k) (by omega))
      rw [HG.out k hlt] at D
      have PX : Hid (p k = (subB k s && r k == pop k && q (dif s k) == pop (dif s k))) := by show _ = _; rw [← HP.out]
      have J1 := hid (within_any k s wr (by omega) (by omega))
      have J2 := hid (IA.out k wr (by omega) hnx.out)
      have hdl : dif s k < T := Nat.lt_of_le_of_lt (subB_le (dif_subl s k)) hs
      have J3 := hid (fun n => IB.out (dif s k) (wr.drewN n) hdl (hnx.out.trans (drewN_below _ _ _)))
      have hdn : bits .andNot .i64 (s : Int) (k : Int) = ((dif s k : Nat) : Int) := i64_andNot_nat s k (by omega) (by omega)
      clear IA IB HP HG
      generalize subB k s = b1 at *
      generalize (r k == pop k) = b2 at *
      generalize (q (dif s k) == pop (dif s k)) = b3 at *
      generalize dif s k = d at *
      rcases b1 with _ | _
      · go_wp2_with fail
        refine J1.out.mono ?_
        rintro e w1 ⟨rfl, rfl⟩
        go_wp2_with fail
        go_roundw
        case rel => exact ⟨k + 1, by omega, by go_num, by show _ = _; rw [R.out, D.out, PX.out]; simp, hnx⟩
        case measure => simp [intOf]; omega
      · rcases b2 with _ | _
        · go_wp2_with fail
          refine J1.out.mono ?_
          rintro e w1 ⟨rfl, rfl⟩
          go_wp2_with fail
          refine J2.out.mono ?_
          rintro e w2 ⟨rfl, j, rfl⟩
          go_wp2_with fail
          go_roundw
          case rel => exact ⟨k + 1, by omega, by go_num, by show _ = _; rw [R.out, D.out, PX.out]; simp, hnx.out.trans (drewN_below _ _ _)⟩
          case measure => simp [intOf]; omega
        · go_wp2_with fail
          refine J1.out.mono ?_
          rintro e w1 ⟨rfl, rfl⟩
          go_wp2_with fail
          refine J2.out.mono ?_
          rintro e w2 ⟨rfl, j, rfl⟩
          have J4 := hid (J3.out j)
          clear J3
          rcases b3 with _ | _
          · go_wp2_with fail
            refine J4.out.mono ?_
            rintro e w3 ⟨rfl, j', rfl⟩
            go_wp2_with fail
            go_roundw
            case rel => exact ⟨k + 1, by omega, by go_num, by show _ = _; rw [R.out, D.out, PX.out]; simp, hnx.out.trans (drewN_below _ _ _)⟩
            case measure => simp [intOf]; omega
          · go_wp2_with fail
            refine J4.out.mono ?_
            rintro e w3 ⟨rfl, j', rfl⟩
            go_wp2_with fail
            go_ret
            exact ⟨ret_bool (by rw [HF.out, R.out, D.out, PX.out]; simp), hnx.out.trans (drewN_below _ _ _)⟩
    · go_wp2_with fail
      go_ret
      exact ⟨ret_bool (by rw [HF.out, R.out, List.drop_of_length_le (by omega)]; rfl), hnx.out⟩
end Go.Proofs.Yteeopmbddeplcaa
