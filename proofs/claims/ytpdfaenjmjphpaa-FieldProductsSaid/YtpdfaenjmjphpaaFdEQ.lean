/- slices.Clone of a list of numbers, slices.IndexFunc over rows. -/
import Derived.Test.YtpdfaenjmjphpaaOwZW
import Derived.Test.YtpdfaenjmjphpaaKLfQ
import Derived.Lib.SliceRun
namespace Go.Proofs.Ytpdfaenjmjphpaa
open Go.RowKit

theorem OwnZ.tblZ {t : TypeId} {B : Nat} {w : World} {v : Value} {l : List Int} (h : OwnZ t B w v l) (hl : 0 < l.length) : ∃ g cap, v = .slice (some ⟨g, 0, none⟩) l.length cap ∧ B ≤ g ∧ TblZ g w l.length (fun i => l.getD i 0) := by
  have hh := h
  obtain ⟨h0, h1⟩ := h
  rcases h1 with ⟨hv, h2⟩ | ⟨g, cap, cur, hv, hg, hheap, hr⟩
  · omega
  · subst hv
    refine ⟨g, cap, rfl, hg, fun i hi => ?_, fun i => by simp [World.frozen?, hheap], ?_⟩
    · rw [World.ownsRow.cellAt hh i (by omega)]
      simp [VZ, List.getD, hi]
    · rcases Nat.lt_or_ge g w.heap.size with h | h
      · exact h
      · rw [Array.getElem?_eq_none h] at hheap; cases hheap
set_option maxHeartbeats 1000000 in
theorem CloneI_ok (T : Nat) (f : Nat → Int) (v : Value) (w : World) (h : RdZ w v T f fun _ => True) (hT : T ≤ 256) :
    Calls Try.prog 17 #[v] w fun e w' => ∃ a cap, e = .returned (.slice a T cap) ∧ (0 < T → ∃ g, a = some ⟨g, 0, none⟩ ∧ w.heap.size ≤ g ∧ TblZ g w' T f) ∧ Below w.heap.size w w' := by
  obtain ⟨i0, hi, hz0, hz1, hz2⟩ := info_parts Try.infoInt
  obtain ⟨a, cap, rfl, hc⟩ := h
  rcases a with _ | x
  · obtain rfl : T = 0 := by
      rcases Nat.eq_zero_or_pos T with h | h
      · exact h
      · obtain ⟨b, off, e, -⟩ := hc h; cases e
    have hnil : ∀ W, (binOp .eql 35 (.slice none 0 cap) (.slice none 0 0)).run Try.prog W = .ok (.bool true) W := fun W => Lib.run_eql_slice_nil W _ _ _ _ _ _ _ Try.underlying35
    clear hc
    go_enter Try.func17, Try.ntmps17
    go_wp2_with fail
    go_ret
    exact ⟨none, 0, rfl, fun h => by omega, Below.refl _ _⟩
  · have hnil : ∀ W, (binOp .eql 35 (.slice (some x) T cap) (.slice none 0 0)).run Try.prog W = .ok (.bool false) W := fun W => Lib.run_eql_slice_nil W _ _ _ _ _ _ _ Try.underlying35
    have OE : OwnZ 3 w.heap.size (w.alloc (.cells #[] 3)) (.slice (some ⟨w.heap.size, 0, none⟩) 0 0) [] := ⟨rfl, .inr ⟨w.heap.size, 0, #[], rfl, Nat.le_refl _, World.alloc_heap_new w _, Nat.le_refl _, Nat.zero_le _, rfl, rfl⟩⟩
    have HOE := hid OE
    have HCL : Hid (∀ j u, (VZ ((List.range T).map f))[j]? = some u → (w.alloc (.cells #[] 3)).cell? (x.add j) = some u) := fun j u hu => by
      have hj : j < T := by
        have := (List.getElem?_eq_some_iff.1 hu).1
        simpa [VZ] using this
      obtain ⟨b, off, e, -, hb, hcell⟩ := hc (by omega)
      obtain rfl : x = ⟨b, off, none⟩ := by simpa using e
      have e1 : (w.alloc (.cells #[] 3)).cell? ⟨b, off + j, none⟩ = some (.int .i64 (f j)) := (((Below.refl _ w).alloc (Nat.le_refl _) _).cell (p := ⟨b, off + j, none⟩) hb).trans (hcell j hj)
      have e2 : u = .int .i64 (f j) := by
        simp [VZ, hj] at hu
        exact hu.symm
      rw [e2, ← e1]
      simp only [Addr.add]
      split
      · rename_i e; simp_all
      · rfl
    have HVL : Hid ((VZ ((List.range T).map f)).length = T * 1) := by show _ = _; rw [VZ_len]; simp
    have H1C : Hid (∀ u ∈ VZ ((List.range T).map f), u.oneCell' = true) := fun u hu => by
      unfold VZ at hu
      obtain ⟨x, _, rfl⟩ := List.mem_map.1 hu
      rfl
    have HFI : Hid (∀ B w' v', w'.ownsRow B 3 1 v' T (VZ [] ++ VZ ((List.range T).map f)) → OwnZ 3 B w' v' ((List.range T).map f)) := fun B w' v' ho => by
      unfold OwnZ
      have e : ((List.range T).map f).length = T := by simp
      rw [e]
      exact ho
    have HFO : Hid (∀ w' v', OwnZ 3 w.heap.size w' v' ((List.range T).map f) → ∃ a cap, v' = .slice a T cap ∧ (0 < T → ∃ g, a = some ⟨g, 0, none⟩ ∧ w.heap.size ≤ g ∧ TblZ g w' T f)) := fun w' v' ho => by
      have hlen : ((List.range T).map f).length = T := by simp
      rcases Nat.eq_zero_or_pos T with h0 | h0
      · rcases Go.Joins.ownsRow_forms ho with ⟨rfl, -⟩ | ⟨g, cap, rfl⟩
        · exact ⟨none, 0, by rw [h0], fun h => by omega⟩
        · exact ⟨_, cap, by rw [hlen], fun h => by omega⟩
      · obtain ⟨g, cap, e, hg, ht⟩ := ho.tblZ (by omega)
        rw [hlen] at e ht
        exact ⟨_, cap, e, fun _ => ⟨g, rfl, hg, ht.congr fun i hi => by simp [List.getD, hi]⟩⟩
    clear hc OE
    generalize VZ ((List.range T).map f) = vs at *
    go_enter Try.func17, Try.ntmps17
    go_wp2_with (at_builtin; refine wpList_append_own _ rfl _ _ 35 rfl w.heap.size 3 i0 (.int .i64 0) 1 8 Try.underlying35 hi hz0 hz1 hz2 rfl (by decide) _ _ _ rfl HOE.out x T cap vs rfl HVL.out HCL.out H1C.out ?c3 ?c4 ?c5 ?_)
    case c3 => unfold maxLen; simp; omega
    case c4 => simp; omega
    case c5 => simp
    intro v' w' ho hg _
    obtain ⟨a', c', rfl, h1⟩ := HFO.out _ _ (HFI.out _ _ _ ho)
    have H1 := hid h1
    have H2 : Hid (Below w.heap.size w w') := ((Below.refl _ w).alloc (Nat.le_refl _) _).grown hg (by simp) (fun k e => by cases e; exact Nat.le_refl _)
    clear ho hg h1
    go_wp2_with fail
    go_ret
    exact ⟨_, _, rfl, H1.out, H2.out⟩
/-- The numbers of a column, from row d on. -/
def colFrom (f : Nat → Nat → Int) (a d N : Nat) : List Int := (List.range (N - d)).map fun i => f (d + i) a
end Go.Proofs.Ytpdfaenjmjphpaa
