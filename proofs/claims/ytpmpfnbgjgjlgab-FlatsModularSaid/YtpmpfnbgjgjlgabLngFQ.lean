/- slices.ContainsFunc and slices.Clone at []int64. -/
import Derived.Test.YtpmpfnbgjgjlgabOwZQ
import Derived.Test.YtpmpfnbgjgjlgabFlEQ
import Derived.Lib.SliceRun
namespace Go.Proofs.Ytpmpfnbgjgjlgab
open Go.RowKit

def AnyNought (g : Nat) : Prop := ∀ (x : Int) (w : World), Calls Try.prog g #[.int .i64 x] w fun e w' => e = .returned (.bool (x != 0)) ∧ w' = w
theorem anyZ_drop {p : Int → Bool} {zs : List Int} {k : Nat} (hk : k < zs.length) : (zs.drop k).any p = (p (zs.getD k 0) || (zs.drop (k + 1)).any p) := by
  rw [drop_getD hk, List.any_cons]
set_option maxRecDepth 20000 in
set_option maxHeartbeats 800000 in
theorem IndexFuncL_any (g : Nat) (v : Value) (zs : List Int) (w : World) (eg : Enters g) (h : Ints w v zs) (hg : AnyNought g) :
    Calls Try.prog 27 #[v, .func (.func g) #[] #[]] w fun e w' => ∃ r : Int, e = .returned (.int .i64 r) ∧ decide (0 ≤ r) = zs.any (fun x => x != 0) ∧ w' = w := by
  obtain ⟨a, cap, rfl, hlen, hc⟩ := h
  have HG := hid hg
  clear hg
  unfold Enters at eg
  obtain ⟨p, HP⟩ : ∃ p : Int → Bool, Hid ((fun x : Int => x != 0) = p) := ⟨_, rfl⟩
  have PX : Hid (∀ x : Int, (x != 0) = p x) := fun x => by rw [← HP.out]
  rw [HP.out]
  clear HP
  go_enter Try.func27, Try.ntmps27
  go_wp2_with fail
  go_loop [5, 8] (fun _ i => ∃ k : Nat, k ≤ zs.length ∧ i = .int .i64 k ∧ Hid (zs.any p = (zs.drop k).any p)) (fun _ i => zs.length - (intOf i).toNat)
  case atStart => exact ⟨0, Nat.zero_le _, rfl, rfl⟩
  case round =>
    obtain ⟨k, hk, rfl, R⟩ := hrel
    by_cases hlt : k < zs.length
    · obtain ⟨b, off, rfl, hb, hcell⟩ := hc (by omega)
      have hck := hcell k hlt
      have D := hid (anyZ_drop (p := p) hlt)
      have HH := hid (HG.out (zs.getD k 0) w)
      rw [PX.out] at HH
      have hki : (k : Int) < (zs.length : Int) := by omega
      clear hcell hc
      generalize zs.getD k 0 = x at *
      cases hp : p x
      · rw [hp] at HH
        have D2 : Hid (zs.any p = (zs.drop (k + 1)).any p) := by show _ = _; rw [R.out, D.out, hp]; rfl
        clear D hp
        go_wp2_with fail
        refine HH.out.mono ?_
        rintro e w2 ⟨rfl, h2⟩
        obtain rfl := h2.symm
        go_wp2_with fail
        go_round
        case rel => exact ⟨k + 1, by omega, by go_num, D2.out⟩
        case measure => simp [intOf]; omega
      · rw [hp] at HH
        have D2 : Hid (zs.any p = true) := by show _ = _; rw [R.out, D.out, hp]; rfl
        clear D hp
        go_wp2_with fail
        refine HH.out.mono ?_
        rintro e w2 ⟨rfl, h2⟩
        obtain rfl := h2.symm
        go_wp2_with fail
        go_ret
        exact ⟨_, rfl, by rw [D2.out]; simp, rfl⟩
    · have D2 : Hid (zs.any p = false) := by show _ = _; rw [R.out, List.drop_of_length_le (by omega)]; rfl
      go_wp2_with fail
      go_ret
      exact ⟨_, rfl, by rw [D2.out]; rfl, rfl⟩
theorem ContainsFuncL_any (g : Nat) (v : Value) (zs : List Int) (w : World) (eg : Enters g) (h : Ints w v zs) (hg : AnyNought g) :
    Calls Try.prog 11 #[v, .func (.func g) #[] #[]] w fun e w' => e = .returned (.bool (zs.any fun x => x != 0)) ∧ w' = w := by
  have IX := hid (IndexFuncL_any g v zs w eg h hg)
  obtain ⟨a, cap, rfl, _, _⟩ := h
  generalize (zs.any fun x => x != 0) = ans at *
  go_enter Try.func11, Try.ntmps11
  go_wp2_with fail
  refine IX.out.mono ?_
  rintro e w2 ⟨r, rfl, hr, h2⟩
  obtain rfl := h2.symm
  have HR := hid hr
  clear hr h2
  go_wp2_with fail
  go_ret
  exact ⟨ret_bool (by rw [← HR.out]), rfl⟩
theorem OwnZ.tblZ {t : TypeId} {B : Nat} {w : World} {v : Value} {l : List Int} (h : OwnZ t B w v l) (h0 : 0 < l.length) : ∃ g cap, v = .slice (some ⟨g, 0, none⟩) l.length cap ∧ B ≤ g ∧ TblZ g w l.length (fun i => l.getD i 0) := by
  have hh := h
  obtain ⟨h1, h2⟩ := h
  rcases h2 with ⟨_, hl⟩ | ⟨g, cap, cur, hv, hg, hheap, -⟩
  · omega
  · subst hv
    refine ⟨g, cap, rfl, hg, fun i hi => ?_, fun i => by simp [World.frozen?, hheap], ?_⟩
    · rw [World.ownsRow.cellAt hh i (by omega)]
      simp [VZ, List.getD, hi]
    · rcases Nat.lt_or_ge g w.heap.size with h | h
      · exact h
      · rw [Array.getElem?_eq_none h] at hheap; cases hheap
set_option maxHeartbeats 1000000 in
theorem CloneL_ok (T : Nat) (f : Nat → Int) (v : Value) (w : World) (h : RkZ w v T f) (hT : T ≤ 256) :
    Calls Try.prog 13 #[v] w fun e w' => ∃ r, e = .returned r ∧ OwnZ 2 w.heap.size w' r ((List.range T).map f) ∧ Below w.heap.size w w' := by
  obtain ⟨i0, hi, hz0, hz1, hz2⟩ := info_parts Try.infoLong
  obtain ⟨b, off, cap, rfl, hb, hcell⟩ := h
  have hnil : ∀ W, (binOp .eql 32 (.slice (some ⟨b, off, none⟩) T cap) (.slice none 0 0)).run Try.prog W = .ok (.bool false) W := fun W => Lib.run_eql_slice_nil W _ _ _ _ _ _ _ Try.underlying32
  have OE : OwnZ 2 w.heap.size (w.alloc (.cells #[] 2)) (.slice (some ⟨w.heap.size, 0, none⟩) 0 0) [] := ⟨rfl, .inr ⟨w.heap.size, 0, #[], rfl, Nat.le_refl _, World.alloc_heap_new w _, Nat.le_refl _, Nat.zero_le _, rfl, rfl⟩⟩
  have HOE := hid OE
  have HCL : Hid (∀ j u, (VZ ((List.range T).map f))[j]? = some u → (w.alloc (.cells #[] 2)).cell? ((⟨b, off, none⟩ : Addr).add j) = some u) := fun j u hu => by
    have hj : j < T := by
      have := (List.getElem?_eq_some_iff.1 hu).1
      simpa [VZ] using this
    have e1 : (w.alloc (.cells #[] 2)).cell? ⟨b, off + j, none⟩ = some (.int .i64 (f j)) := (((Below.refl _ w).alloc (Nat.le_refl _) _).cell (p := ⟨b, off + j, none⟩) hb).trans (hcell j hj)
    have e2 : u = .int .i64 (f j) := by
      simp [VZ, hj] at hu
      exact hu.symm
    rw [e2, ← e1]
    simp only [Addr.add]
    split
    · rename_i e; simp_all
    · rfl
  have HVL : Hid ((VZ ((List.range T).map f)).length = T * 1) := by show _ = _; rw [VZ_len]; simp
  have H1C : Hid (∀ u ∈ VZ ((List.range T).map f), u.oneCell' = true) := fun u hu => by
    unfold VZ at hu
    obtain ⟨x, _, rfl⟩ := List.mem_map.1 hu
    rfl
  have HFI : Hid (∀ B w' v', w'.ownsRow B 2 1 v' T (VZ [] ++ VZ ((List.range T).map f)) → OwnZ 2 B w' v' ((List.range T).map f)) := fun B w' v' ho => by
    unfold OwnZ
    have e : ((List.range T).map f).length = T := by simp
    rw [e]
    exact ho
  clear hcell OE
  generalize VZ ((List.range T).map f) = vs at *
  go_enter Try.func13, Try.ntmps13
  go_wp2_with (at_builtin; refine wpList_append_own _ rfl _ _ 32 rfl w.heap.size 2 i0 (.int .i64 0) 1 8 Try.underlying32 hi hz0 hz1 hz2 rfl (by decide) _ _ _ rfl HOE.out ⟨b, off, none⟩ T cap vs rfl HVL.out HCL.out H1C.out ?c3 ?c4 ?c5 ?_)
  case c3 => unfold maxLen; simp; omega
  case c4 => simp; omega
  case c5 => simp
  intro v' w' ho hg _
  have H1 := hid (HFI.out _ _ _ ho)
  have H2 : Hid (Below w.heap.size w w') := ((Below.refl _ w).alloc (Nat.le_refl _) _).grown hg (by simp) (fun k e => by cases e; exact Nat.le_refl _)
  clear ho hg
  go_wp2_with fail
  go_ret
  exact ⟨_, rfl, H1.out, H2.out⟩
end Go.Proofs.Ytpmpfnbgjgjlgab
