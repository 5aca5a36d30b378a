/- slices.Compare; rotaref.Greedy's places. -/
import Derived.Test.YthbcnolpjcppoabGyRankQ
import Derived.Test.YthbcnolpjcppoabCmpQ
import Derived.Test.YthbcnolpjcppoabRefQ
namespace Go.Proofs.Ythbcnolpjcppoab
open Go.RowKit

set_option maxRecDepth 20000 in
set_option maxHeartbeats 2000000 in
theorem places_any (s pb : Nat) (v : Value) (o : List Nat) (w : World) (hp : w.cell? ⟨pb, 0, none⟩ = some v) (hpb : pb < w.heap.size) (h : Ints w v (N o)) (hs : s < 256) (ho8 : o.length ≤ 8) (hx : ∀ x ∈ o, x < 8) :
    Calls Try.prog 68 #[.int .i64 s, .pointer (some ⟨pb, 0, none⟩)] w fun e w' => ∃ r, e = .returned r ∧ Own w.heap.size w' r (posL o s) ∧ Below w.heap.size w w' := by
  obtain ⟨i0, hi0, hz0, hz1, hz2⟩ := info_parts Try.infoInt
  obtain ⟨a, cap, rfl, hl, hc⟩ := h.nats
  go_enter Try.func68, Try.ntmps68
  go_wp2_with fail
  go_loopw [4, 5] (fun u i wr => ∃ (k : Nat) (acc : List Nat), k ≤ o.length ∧ i = .int .i64 k ∧ acc.length ≤ k ∧ Hid (Own w.heap.size wr u acc) ∧ Hid (acc = (List.range k).filter (fun i => s.testBit (o.getD i 0))) ∧ Hid (Below w.heap.size w wr)) (fun _ i _ => o.length - (intOf i).toNat)
  case atStart => exact ⟨0, [], Nat.zero_le _, rfl, Nat.le_refl _, Own.nil _ _, Eq.refl ([] : List Nat), Below.refl _ _⟩
  case round =>
    obtain ⟨k, acc, hk, rfl, hak, HO, HP, HW⟩ := hrel
    obtain ⟨va, vc, hve⟩ := HO.out.form
    subst hve
    have hpc := (HW.out.cell (p := ⟨pb, 0, none⟩) hpb).trans hp
    have hs0 := HW.out.size
    by_cases hlt : k < o.length
    · have hki : (k : Int) < (o.length : Int) := by omega
      obtain ⟨b, off, rfl, hb, hcell⟩ := hc (by omega)
      have hck := (HW.out.cell (p := ⟨b, off + k, none⟩) hb).trans (hcell k hlt)
      have hx8 : o.getD k 0 < 8 := hx _ (by simp only [List.getD, List.getElem?_eq_getElem hlt, Option.getD_some]; exact List.getElem_mem _)
      have PT := hid (posL_to o s k)
      have IN := hid (fun w => In_any s (o.getD k 0) w hs hx8)
      clear hcell
      generalize o.getD k 0 = x at *
      rcases hq : s.testBit x with _ | _
      · rw [hq] at IN PT
        have HP2 : Hid (acc = (List.range (k + 1)).filter (fun i => s.testBit (o.getD i 0))) := by show _ = _; rw [PT.out, ← HP.out]; simp
        go_wp2_with fail
        refine (IN.out _).mono ?_
        rintro e w' ⟨rfl, hw'⟩
        obtain rfl := hw'.symm
        go_wp2_with fail
        go_roundw
        case rel => exact ⟨k + 1, acc, by omega, by go_num, by omega, HO, HP2, HW⟩
        case measure => simp [intOf]; omega
      · rw [hq] at IN PT
        have HP2 : Hid (acc ++ [k] = (List.range (k + 1)).filter (fun i => s.testBit (o.getD i 0))) := by show _ = _; rw [PT.out, ← HP.out]; simp
        go_wp2_with fail
        refine (IN.out _).mono ?_
        rintro e w' ⟨rfl, hw'⟩
        obtain rfl := hw'.symm
        go_wp2_with (at_builtin; refine wpList_append_own _ rfl _ _ 22 rfl w.heap.size 3 i0 (.int .i64 0) 1 8 Try.underlying22 hi0 hz0 hz1 hz2 rfl (by decide) _ _ _ rfl (HO.out.alloc _) ⟨wr.heap.size, 0, none⟩ 1 1 [.int .i64 (k : Nat)] rfl rfl ?c1 ?c2 ?c3 ?c4 ?c5 ?_)
        case c1 => exact cell_one_new _ _ _
        case c2 => intro u hu; simp at hu; subst hu; rfl
        case c3 => unfold maxLen; omega
        case c4 => omega
        case c5 => simp; omega
        intro v' w5 hown' hgrow _
        have R3 := hid (Own.snoc (l := acc) (s := k) hown')
        have R4 := hid (Own.grown HO.out HW.out hs0 hgrow)
        clear hown' hgrow
        go_wp2_with fail
        go_roundw
        case rel => exact ⟨k + 1, acc ++ [k], by omega, by go_num, by simp; omega, R3, HP2, R4⟩
        case measure => simp [intOf]; omega
    · obtain rfl : k = o.length := by omega
      have HO9 : Hid (Own w.heap.size wr (.slice va acc.length vc) (posL o s)) := by have := HO.out; rw [HP.out] at this ⊢; exact this
      go_wp2_with fail
      go_ret
      exact ⟨_, rfl, HO9.out, HW.out⟩
end Go.Proofs.Ythbcnolpjcppoab
