/- slices.Clone of a list of numbers, slices.IndexFunc over rows. -/
import Derived.Test.YtcncaaeofcmefaaFdDW
import Derived.Test.YtcncaaeofcmefaaOwZQ
import Derived.Test.YtcncaaeofcmefaaKLfQ
import Derived.Lib.SliceRun
namespace Go.Proofs.Ytcncaaeofcmefaa
open Go.RowKit

theorem OwnZ.tblZ {t : TypeId} {B : Nat} {w : World} {v : Value} {l : List Int} (h : OwnZ t B w v l) (hl : 0 < l.length) : ∃ g cap, v = .slice (some ⟨g, 0, none⟩) l.length cap ∧ B ≤ g ∧ TblZ g w l.length (fun i => l.getD i 0) := by
  have hh := h
  obtain ⟨h0, h1⟩ := h
  rcases h1 with ⟨hv, h2⟩ | ⟨g, cap, cur, hv, hg, hheap, hr⟩
  · omega
  · subst hv
    refine ⟨g, cap, rfl, hg, fun i hi => ?_, fun i => by simp [World.frozen?, hheap], ?_⟩
    · rw [World.ownsRow.cellAt hh i (by omega)]
      simp [VZ, List.getD, hi]
    · rcases Nat.lt_or_ge g w.heap.size with h | h
      · exact h
      · rw [Array.getElem?_eq_none h] at hheap; cases hheap
set_option maxHeartbeats 1000000 in
theorem CloneI_ok (T : Nat) (f : Nat → Int) (v : Value) (w : World) (h : RdZ w v T f fun _ => True) (hT : T ≤ 256) :
    Calls Try.prog 16 #[v] w fun e w' => ∃ a cap, e = .returned (.slice a T cap) ∧ (0 < T → ∃ g, a = some ⟨g, 0, none⟩ ∧ w.heap.size ≤ g ∧ TblZ g w' T f) ∧ Below w.heap.size w w' := by
  obtain ⟨i0, hi, hz0, hz1, hz2⟩ := info_parts Try.infoInt
  obtain ⟨a, cap, rfl, hc⟩ := h
  rcases a with _ | x
  · obtain rfl : T = 0 := by
      rcases Nat.eq_zero_or_pos T with h | h
      · exact h
      · obtain ⟨b, off, e, -⟩ := hc h; cases e
    have hnil : ∀ W, (binOp .eql 28 (.slice none 0 cap) (.slice none 0 0)).run Try.prog W = .ok (.bool true) W := fun W => Lib.run_eql_slice_nil W _ _ _ _ _ _ _ Try.underlying28
    clear hc
    go_enter Try.func16, Try.ntmps16
    go_wp2_with fail
    go_ret
    exact ⟨none, 0, rfl, fun h => by omega, Below.refl _ _⟩
  · have hnil : ∀ W, (binOp .eql 28 (.slice (some x) T cap) (.slice none 0 0)).run Try.prog W = .ok (.bool false) W := fun W => Lib.run_eql_slice_nil W _ _ _ _ _ _ _ Try.underlying28
    have OE : OwnZ 3 w.heap.size (w.alloc (.cells #[] 3)) (.slice (some ⟨w.heap.size, 0, none⟩) 0 0) [] := ⟨rfl, .inr ⟨w.heap.size, 0, #[], rfl, Nat.le_refl _, World.alloc_heap_new w _, Nat.le_refl _, Nat.zero_le _, rfl, rfl⟩⟩
    have HOE := hid OE
    have HCL : Hid (∀ j u, (VZ ((List.range T).map f))[j]? = some u → (w.alloc (.cells #[] 3)).cell? (x.add j) = some u) := fun j u hu => by
      have hj : j < T := by
        have := (List.getElem?_eq_some_iff.1 hu).1
        simpa [VZ] using this
      obtain ⟨b, off, e, -, hb, hcell⟩ := hc (by omega)
      obtain rfl : x = ⟨b, off, none⟩ := by simpa using e
      have e1 : (w.alloc (.cells #[] 3)).cell? ⟨b, off + j, none⟩ = some (.int .i64 (f j)) := (((Below.refl _ w).alloc (Nat.le_refl _) _).cell (p := ⟨b, off + j, none⟩) hb).trans (hcell j hj)
      have e2 : u = .int .i64 (f j) := by
        simp [VZ, hj] at hu
        exact hu.symm
      rw [e2, ← e1]
      simp only [Addr.add]
      split
      · rename_i e; simp_all
      · rfl
    have HVL : Hid ((VZ ((List.range T).map f)).length = T * 1) := by show _ = _; rw [VZ_len]; simp
    have H1C : Hid (∀ u ∈ VZ ((List.range T).map f), u.oneCell' = true) := fun u hu => by
      unfold VZ at hu
      obtain ⟨x, _, rfl⟩ := List.mem_map.1 hu
      rfl
    have HFI : Hid (∀ B w' v', w'.ownsRow B 3 1 v' T (VZ [] ++ VZ ((List.range T).map f)) → OwnZ 3 B w' v' ((List.range T).map f)) := fun B w' v' ho => by
      unfold OwnZ
      have e : ((List.range T).map f).length = T := by simp
      rw [e]
      exact ho
    have HFO : Hid (∀ w' v', OwnZ 3 w.heap.size w' v' ((List.range T).map f) → ∃ a cap, v' = .slice a T cap ∧ (0 < T → ∃ g, a = some ⟨g, 0, none⟩ ∧ w.heap.size ≤ g ∧ TblZ g w' T f)) := fun w' v' ho => by
      have hlen : ((List.range T).map f).length = T := by simp
      rcases Nat.eq_zero_or_pos T with h0 | h0
      · rcases Go.Joins.ownsRow_forms ho with ⟨rfl, -⟩ | ⟨g, cap, rfl⟩
        · exact ⟨none, 0, by rw [h0], fun h => by omega⟩
        · exact ⟨_, cap, by rw [hlen], fun h => by omega⟩
      · obtain ⟨g, cap, e, hg, ht⟩ := ho.tblZ (by omega)
        rw [hlen] at e ht
        exact ⟨_, cap, e, fun _ => ⟨g, rfl, hg, ht.congr fun i hi => by simp [List.getD, hi]⟩⟩
    clear hc OE
    generalize VZ ((List.range T).map f) = vs at *
    go_enter Try.func16, Try.ntmps16
    go_wp2_with (at_builtin; refine wpList_append_own _ rfl _ _ 28 rfl w.heap.size 3 i0 (.int .i64 0) 1 8 Try.underlying28 hi hz0 hz1 hz2 rfl (by decide) _ _ _ rfl HOE.out x T cap vs rfl HVL.out HCL.out H1C.out ?c3 ?c4 ?c5 ?_)
    case c3 => unfold maxLen; simp; omega
    case c4 => simp; omega
    case c5 => simp
    intro v' w' ho hg _
    obtain ⟨a', c', rfl, h1⟩ := HFO.out _ _ (HFI.out _ _ _ ho)
    have H1 := hid h1
    have H2 : Hid (Below w.heap.size w w') := ((Below.refl _ w).alloc (Nat.le_refl _) _).grown hg (by simp) (fun k e => by cases e; exact Nat.le_refl _)
    clear ho hg h1
    go_wp2_with fail
    go_ret
    exact ⟨_, _, rfl, H1.out, H2.out⟩
theorem enters_red1 : Enters 18 := fun args w => enters_of Try.func18 (by kernel_rfl) rfl args w
theorem red1_ok (rb c cp a ab : Nat) (q : Nat → Int) (w : World) (hq : TblZ rb w c q) (ha : a < c) (hb : w.cell? ⟨ab, 0, none⟩ = some (.int .i64 a)) :
    Calls Try.prog 18 #[.slice (some ⟨rb, 0, none⟩) c cp, .pointer (some ⟨ab, 0, none⟩)] w fun e w' => e = .returned (.bool (q a != 0)) ∧ w' = w := by
  have x0 := hq.cell a ha
  have hai : (a : Int) < (c : Int) := by omega
  go_enter Try.func18, Try.ntmps18
  go_wp2_with fail
  go_ret
  exact ⟨rfl, rfl⟩
/-- The numbers of a column, from row d on. -/
def colFrom (f : Nat → Nat → Int) (a d N : Nat) : List Int := (List.range (N - d)).map fun i => f (d + i) a
set_option maxRecDepth 20000 in
set_option maxHeartbeats 800000 in
theorem IndexCol_ok (g d N c cap ab a K o : Nat) (rb cp : Nat → Nat) (f : Nat → Nat → Int) (w : World) (h : MatB w g N c rb cp f) (hK : N - d = K) (ho : d < N → o = d) (hN : N ≤ 256) (ha : a < c) (hb : w.cell? ⟨ab, 0, none⟩ = some (.int .i64 a)) :
    Calls Try.prog 17 #[.slice (some ⟨g, o, none⟩) K cap, .func (.func 18) #[] #[.pointer (some ⟨ab, 0, none⟩)]] w fun e w' => e = .returned (.int .i64 (firstI (colFrom f a d N) 0)) ∧ w' = w := by
  have eg := enters_red1
  unfold Enters at eg
  have HM := hid h
  clear h
  have hlen : (colFrom f a d N).length = N - d := by simp [colFrom]
  have HL := hid hlen
  have HK := hid hK
  have HKN : K ≤ 256 := by rw [← HK.out]; omega
  have HO := hid ho
  clear hlen hK ho
  go_enter Try.func17, Try.ntmps17
  go_wp2_with fail
  go_loop [5, 8] (fun _ i => ∃ k : Nat, k ≤ K ∧ i = .int .i64 k ∧ Hid (firstI (colFrom f a d N) 0 = firstI (colFrom f a d N) k)) (fun _ i => K - (intOf i).toNat)
  case atStart => exact ⟨0, Nat.zero_le _, rfl, rfl⟩
  case round =>
    obtain ⟨k, hk, rfl, R⟩ := hrel
    by_cases hlt : k < K
    · have hkN : d + k < N := by have := HK.out; omega
      have hck : w.cell? ⟨g, o + k, none⟩ = some (.slice (some ⟨rb (d + k), 0, none⟩) c (cp (d + k))) := by
        rw [HO.out (by omega)]
        exact HM.out.head (d + k) hkN
      have hki : (k : Int) < (K : Int) := by omega
      have hlk : k < (colFrom f a d N).length := by rw [HL.out, HK.out]; exact hlt
      have hg : (colFrom f a d N).getD k 0 = f (d + k) a := by simp [colFrom, List.getD, HK.out, hlt]
      have F1 := hid (fun hz => firstI_hit hlk hz)
      have F2 := hid (fun hz => firstI_miss hlk hz)
      rw [hg] at F1 F2
      have HH := hid (red1_ok (rb (d + k)) c (cp (d + k)) a ab (f (d + k)) w (HM.out.row _ hkN) ha hb)
      clear hlk hg
      generalize f (d + k) a = x at *
      by_cases hx : x = 0
      · have hx' : (x != 0) = false := by rw [hx]; rfl
        have D2 : Hid (firstI (colFrom f a d N) 0 = firstI (colFrom f a d N) (k + 1)) := R.out.trans (F2.out hx)
        rw [hx'] at HH
        clear hx hx' F1 F2
        go_wp2_with fail
        refine HH.out.mono ?_
        rintro e w2 ⟨rfl, h2⟩
        obtain rfl := h2.symm
        go_wp2_with fail
        go_round
        case rel => exact ⟨k + 1, by omega, by go_num, D2.out⟩
        case measure => simp [intOf]; omega
      · have hx' : (x != 0) = true := by rw [bne_iff_ne]; exact hx
        have D2 : Hid (firstI (colFrom f a d N) 0 = (k : Int)) := R.out.trans (F1.out hx)
        rw [hx'] at HH
        clear hx hx' F1 F2
        go_wp2_with fail
        refine HH.out.mono ?_
        rintro e w2 ⟨rfl, h2⟩
        obtain rfl := h2.symm
        go_wp2_with fail
        go_ret
        exact ⟨by rw [D2.out]; rfl, rfl⟩
    · have hk2 : ¬ k < (colFrom f a d N).length := by rw [HL.out, HK.out]; omega
      have D2 : Hid (firstI (colFrom f a d N) 0 = -1) := R.out.trans (firstI_end hk2)
      clear hk2
      go_wp2_with fail
      go_ret
      exact ⟨by rw [D2.out]; rfl, rfl⟩
end Go.Proofs.Ytcncaaeofcmefaa
