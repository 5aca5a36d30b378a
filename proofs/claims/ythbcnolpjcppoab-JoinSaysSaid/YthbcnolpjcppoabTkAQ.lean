/- join.takeAll. -/
import Derived.Test.YthbcnolpjcppoabCoBQ
import Derived.Test.YthbcnolpjcppoabOwnQ
import Derived.Test.YthbcnolpjcppoabWithIndQ
namespace Go.Proofs.Ythbcnolpjcppoab
open Go.RowKit

theorem dif_less {s x : Nat} (hs : s < 256) (hx : subB x s = true) (h0 : x ≠ 0) : dif s x < s ∧ pop (dif s x) + 1 ≤ pop s := by
  have p := pop_split hx
  have hp : pop x ≠ 0 := fun e => h0 ((pop_pos x (Nat.lt_of_le_of_lt (subB_le hx) hs)).1 e)
  have h1 := subB_le (dif_subl s x)
  refine ⟨?_, by omega⟩
  rcases Nat.lt_or_ge (dif s x) s with g | g
  · exact g
  · have e : dif s x = s := by omega
    rw [e] at p
    omega
set_option maxRecDepth 20000 in
set_option maxHeartbeats 2000000 in
theorem takeAll_any (v : Value) (T s0 : Nat) (f : Nat → Nat) (w : World) (hT : T ≤ 256) (hs0 : s0 < T) (hf : ∀ s, s < T → subB (f s) s = true) (h : RkAt w v T f) :
    Calls Try.prog 86 #[v, .int .i64 s0] w fun e w' => ∃ u, e = .returned u ∧ Own w.heap.size w' u (takeF f 9 s0) ∧ Below w.heap.size w w' := by
  obtain ⟨i0, hi, hz0, hz1, hz2⟩ := info_parts Try.infoInt
  obtain ⟨b, off, cap, rfl, hb, hc⟩ := h
  have HF := hid hf
  have h8 := pop_le s0 (by omega)
  clear hf
  go_enter Try.func86, Try.ntmps86
  go_wp2_with fail
  go_loopw [1, 5] (fun i u wr => ∃ (s : Nat) (acc : List Nat), s < T ∧ i = .int .i64 s ∧ pop s + acc.length ≤ 8 ∧ Hid (Own w.heap.size wr u acc) ∧ Hid (takeF f 9 s0 = acc ++ takeF f (9 - acc.length) s) ∧ Hid (Below w.heap.size w wr)) (fun i _ _ => (intOf i).toNat)
  case atStart => exact ⟨s0, [], hs0, rfl, by simp; omega, Own.nil _ _, rfl, Below.refl _ _⟩
  case round =>
    obtain ⟨s, acc, hsT, rfl, hpa, HO, HP, HW⟩ := hrel
    have hck : wr.cell? ⟨b, off + s, none⟩ = some (.int .i64 (f s : Nat)) := (HW.out.cell (p := ⟨b, off + s, none⟩) hb).trans (hc s hsT)
    have hsub := HF.out s hsT
    have hfl := subB_le hsub
    have hsT' : (s : Int) < (T : Int) := by omega
    obtain ⟨d, hd⟩ : ∃ d, 9 - acc.length = d + 1 := ⟨8 - acc.length, by omega⟩
    have HD := hid hd
    rw [hd] at HP
    have HT : Hid (takeF f (d + 1) s = if f s = 0 then [] else f s :: takeF f d (dif s (f s))) := rfl
    have hs3 := HW.out.size
    have HCS := hid (hc s hsT)
    have hdn : bits .andNot .i64 (s : Int) (f s : Int) = ((dif s (f s) : Nat) : Int) := i64_andNot_nat s (f s) (by omega) (by omega)
    clear hd
    by_cases hx : f s = 0
    · rw [HT.out, if_pos hx, List.append_nil] at HP
      rw [hx] at hck
      obtain ⟨ra, rc, hr⟩ := ownsRow_form' HO.out
      subst hr
      go_wp2_with fail
      go_ret
      exact ⟨_, rfl, by rw [HP.out]; exact HO.out, HW.out⟩
    · rw [HT.out, if_neg hx] at HP
      obtain ⟨l1, l2⟩ := dif_less (by omega) hsub hx
      have hx' : ((f s : Int) == 0) = false := by rw [beq_eq_false_iff_ne]; omega
      have hx'' : ¬ (f s : Int) = 0 := by omega
      clear HT hsub hx
      generalize dif s (f s) = s' at *
      generalize f s = x at *
      have hal : acc.length ≤ 8 := by omega
      go_wp2_with (at_builtin; refine wpList_append_own _ rfl _ _ 22 rfl w.heap.size 3 i0 (.int .i64 0) 1 8 Try.underlying22 hi hz0 hz1 hz2 rfl (by decide) _ _ _ rfl (HO.out.alloc _) ⟨wr.heap.size, 0, none⟩ 1 1 [.int .i64 (x : Nat)] rfl rfl ?c1 ?c2 ?c3 ?c4 ?c5 ?_)
      case c1 => exact cell_one_new _ _ _
      case c2 => intro u hu; simp at hu; subst hu; rfl
      case c3 => unfold maxLen; omega
      case c4 => omega
      case c5 => simp; omega
      intro v' w4 hown' hgrow _
      have R3 := hid (Own.snoc hown')
      have R4 := hid (Own.grown HO.out HW.out hs3 hgrow)
      have hck4 : w4.cell? ⟨b, off + s, none⟩ = some (.int .i64 (x : Nat)) := (R4.out.cell (p := ⟨b, off + s, none⟩) hb).trans HCS.out
      clear hown' hgrow
      go_wp2_with fail
      go_roundw
      case rel =>
        refine ⟨s', acc ++ [x], by omega, by go_num, by simp; omega, R3, ?_, R4⟩
        show _ = _
        rw [HP.out]
        have hd := HD.out
        rw [show 9 - (acc ++ [x]).length = d by simp; omega]
        simp
      case measure => simp [intOf]; omega
end Go.Proofs.Ythbcnolpjcppoab
