/- rotaref.habits. -/
import Derived.Test.YthlmnhcnpffjdaaGreatOrbWQ
import Derived.Test.YthlmnhcnpffjdaaGreatPlainAll
import Derived.Test.YthlmnhcnpffjdaaGreatRefAxBQ
namespace Go.Proofs.YthlmnhcnpffjdaaGreat
open Go.RowKit

/-- One number of a row is put. -/
theorem Own.put {B : Nat} {W : World} {g n c j x : Nat} {L : List Nat} (h : Own B W (.slice (some ⟨g, 0, none⟩) n c) L) (_hj : j < L.length) : Own B (W.setCell ⟨g, j, none⟩ (.int .i64 (x : Nat))) (.slice (some ⟨g, 0, none⟩) n c) (L.set j x) := by
  have hlen := h.len
  obtain ⟨h0, h1⟩ := h
  rcases h1 with ⟨hv, _⟩ | ⟨g', cap, cur, hv, hg, hh, hn, hm, hs, ht⟩
  · cases hv
  · simp only [Value.slice.injEq, Option.some.injEq, Addr.mk.injEq, and_true] at hv
    obtain ⟨rfl, rfl, rfl⟩ := hv
    rw [Nat.mul_one] at hs ht
    refine ⟨by simp [V], .inr ⟨g, c, cur.set! j (.int .i64 (x : Nat)), by simp, hg, ?_, by simpa using hn, hm, by rw [Nat.mul_one]; simpa using hs, ?_⟩⟩
    · obtain ⟨hlt, hk⟩ := Array.getElem?_eq_some_iff.1 hh
      simp only [World.setCell, Array.getElem?_modify, ↓reduceIte, hh, Option.map_some]
      rfl
    · rw [Nat.mul_one, List.length_set]
      simp only [Array.set!_eq_setIfInBounds, Array.toList_setIfInBounds, List.take_set, ht]
      unfold V
      rw [List.map_set]
theorem Own.frozenAt {B : Nat} {W : World} {g n c j : Nat} {L : List Nat} (h : Own B W (.slice (some ⟨g, 0, none⟩) n c) L) : W.frozen? ⟨g, j, none⟩ = false := by
  obtain ⟨h0, h1⟩ := h
  rcases h1 with ⟨hv, _⟩ | ⟨g', cap, cur, hv, hg, hh, _⟩
  · cases hv
  · simp only [Value.slice.injEq, Option.some.injEq, Addr.mk.injEq, and_true] at hv
    obtain ⟨rfl, rfl, rfl⟩ := hv
    simp [World.frozen?, hh]
/-- What has been counted of the first k. -/
def habTo (cs : List Nat) (i k : Nat) : List Nat := hab (cs.take k) i
theorem habTo_len (cs : List Nat) (i k : Nat) : (habTo cs i k).length = 10 := by unfold habTo hab; simp
theorem habTo_at {cs : List Nat} {i k s : Nat} (h : s < 10) : (habTo cs i k).getD s 0 = (cs.take k).countP fun C => C.testBit i && pop C == s := by
  unfold habTo hab
  simp [List.getD, h]
theorem habTo_hit {cs : List Nat} {i k : Nat} (hk : k < cs.length) (hb : (cs.getD k 0).testBit i = true) (hp : pop (cs.getD k 0) < 10) : habTo cs i (k + 1) = (habTo cs i k).set (pop (cs.getD k 0)) ((habTo cs i k).getD (pop (cs.getD k 0)) 0 + 1) := by
  obtain ⟨y, hy⟩ : ∃ y, (habTo cs i k).getD (pop (cs.getD k 0)) 0 = y := ⟨_, rfl⟩
  have hy2 := hy
  rw [habTo_at hp] at hy2
  rw [hy]
  refine List.ext_getElem (by rw [List.length_set, habTo_len, habTo_len]) fun s h1 h2 => ?_
  rw [habTo_len] at h1
  have e1 : ∀ (L : List Nat) (h : s < L.length), L[s] = L.getD s 0 := fun L h => by simp [List.getD, h]
  rw [e1 _ (by rw [habTo_len]; exact h1), habTo_at h1, List.getElem_set, take_snoc hk, List.countP_append]
  by_cases hs : pop (cs.getD k 0) = s
  · rw [if_pos hs, List.countP_singleton, hb, ← hy2, hs]
    simp
  · rw [if_neg hs, List.countP_singleton, e1 _ (by rw [habTo_len]; exact h1), habTo_at h1, hb]
    have : (pop (cs.getD k 0) == s) = false := by simpa using hs
    rw [this]
    simp
theorem habTo_miss {cs : List Nat} {i k : Nat} (hk : k < cs.length) (hb : (cs.getD k 0).testBit i = false) : habTo cs i (k + 1) = habTo cs i k := by
  unfold habTo hab
  refine List.map_congr_left fun s _ => ?_
  rw [take_snoc hk, List.countP_append, List.countP_singleton, hb]
  simp
theorem LL.push {B : Nat} {X : Nat → Prop} {W W' : World} {v v' r : Value} {Ls : List (List Nat)} {D : List Nat} {vs : List Value} (h1 : vs.length = Ls.length) (h3 : ∀ g, v.ownBlock = some g → ¬ X g) (h4 : ∀ j, j < Ls.length → Own B W (vs.getD j undef) (Ls.getD j []) ∧ (∀ g, (vs.getD j undef).ownBlock = some g → ¬ X g ∧ v.ownBlock ≠ some g))
    (hr : Own B W r D) (hrb : ∀ g, r.ownBlock = some g → ¬ X g ∧ v.ownBlock ≠ some g) (hs : Save (fun g => v.ownBlock = some g) W W') (hrow : W'.ownsRow B 22 1 v' (vs.length + 1) (vs ++ [r])) (hb : v'.ownBlock = v.ownBlock ∨ ∃ g, v'.ownBlock = some g ∧ W.heap.size ≤ g ∧ ¬ X g) : LL B X W' v' (Ls ++ [D]) := by
  have hne : ∀ (x : Value) (L : List Nat) (g : Nat), Own B W x L → x.ownBlock = some g → v.ownBlock ≠ some g → v'.ownBlock ≠ some g := fun x L g hx hg hn e => by
    rcases hb with hb | ⟨g2, hb, hg2, _⟩
    · exact hn (by rw [← hb]; exact e)
    · rw [hb] at e
      cases e
      have := (World.ownsRow.lt hx g hg).2
      omega
  refine ⟨vs ++ [r], by simp [h1], by simpa using hrow, fun g hg hx => ?_, fun j hj => ?_⟩
  · rcases hb with hb | ⟨g2, hb, _, hg2⟩
    · exact h3 g (by rw [← hb]; exact hg) hx
    · rw [hb] at hg
      cases hg
      exact hg2 hx
  · rw [List.length_append, List.length_singleton] at hj
    by_cases hlt : j < Ls.length
    · have e1 : (vs ++ [r]).getD j undef = vs.getD j undef := by simp [List.getD, List.getElem?_append_left (show j < vs.length by omega)]
      have e2 : (Ls ++ [D]).getD j [] = Ls.getD j [] := by simp [List.getD, List.getElem?_append_left hlt]
      rw [e1, e2]
      obtain ⟨a1, a2⟩ := h4 j hlt
      exact ⟨a1.saveV2 hs (fun g hg e => (a2 g hg).2 e), fun g hg => ⟨(a2 g hg).1, hne _ _ g a1 hg (a2 g hg).2⟩⟩
    · obtain rfl : j = Ls.length := by omega
      have e1 : (vs ++ [r]).getD Ls.length undef = r := by rw [← h1]; simp [List.getD]
      have e2 : (Ls ++ [D]).getD Ls.length [] = D := by simp [List.getD]
      rw [e1, e2]
      exact ⟨hr.saveV2 hs (fun g hg e => (hrb g hg).2 e), fun g hg => ⟨(hrb g hg).1, hne _ _ g hr hg (hrb g hg).2⟩⟩
end Go.Proofs.YthlmnhcnpffjdaaGreat

namespace Go.Proofs.YthlmnhcnpffjdaaGreat
open Go.RowKit

theorem own_zeros {B b c : Nat} {w : World} (h : w.heap[b]? = some (.cells (madeCells #[.int .i64 0] c) 3 (0, 0))) (hB : B ≤ b) (hc : c ≤ 256) : Own B w (.slice (some ⟨b, 0, none⟩) c c) (List.replicate c 0) := by
  refine ⟨by rw [V_len, Nat.mul_one], .inr ⟨b, c, _, by simp, hB, h, by simp, by unfold maxLen; omega, by rw [size_madeCells, Nat.mul_one], ?_⟩⟩
  rw [List.length_replicate, Nat.mul_one]
  simp only [madeCells, Array.toList_map, Array.toList_range]
  rw [List.take_of_length_le (by simp)]
  unfold V
  rw [List.map_replicate]
  refine List.ext_getElem (by simp) fun i h1 h2 => ?_
  simp [Nat.mod_one]
theorem habTo_zero (cs : List Nat) (i : Nat) : habTo cs i 0 = List.replicate 10 0 := by
  unfold habTo hab
  rw [List.take_zero]
  rfl
theorem hab_bound {cs : List Nat} {i k s : Nat} (hl : cs.length ≤ 256) : (habTo cs i k).getD s 0 ≤ 256 := by
  by_cases h : s < 10
  · rw [habTo_at h]
    exact Nat.le_trans List.countP_le_length (Nat.le_trans (List.length_take_le' _ _) hl)
  · have : (habTo cs i k).getD s 0 = 0 := by simp [List.getD, List.getElem?_eq_none (show (habTo cs i k).length ≤ s by rw [habTo_len]; omega)]
    omega
theorem LL.lower {B B' : Nat} {X : Nat → Prop} {W : World} {v : Value} {Ls : List (List Nat)} (h : LL B X W v Ls) (hB : B' ≤ B) : LL B' X W v Ls := by
  obtain ⟨vs, h1, h2, h3, h4⟩ := h
  exact ⟨vs, h1, Go.Joins.ownsRow_le h2 hB, h3, fun j hj => ⟨(h4 j hj).1.mono hB, (h4 j hj).2⟩⟩
theorem range_map_succ {α : Type} (f : Nat → α) (i : Nat) : (List.range (i + 1)).map f = (List.range i).map f ++ [f i] := by rw [List.range_succ, List.map_append]; rfl
set_option maxRecDepth 20000 in
set_option maxHeartbeats 4000000 in
theorem habits_ok (m : Nat) (v : Value) (l : List Nat) (w : World) (hm : m ≤ 8) (hf : Fam m l) (hb : Bas l) (h : Ints w v (N l)) :
    Calls Tryz.prog 54 #[.agg #[.int .i64 m, v]] w fun e w' => ∃ r, e = .returned r ∧ LL w.heap.size (fun _ => False) w' r ((List.range m).map (hab (cirL m l))) ∧ Below w.heap.size w w' := by
  have HB0 := hid (below_box w #[.int .i64 m, v])
  have CR := hid (Circ_ref m v l _ hm (hf.lt256 hm) (h.below HB0.out))
  rw [show (List.range (2 ^ m)).filter (leastK (depL m l)) = cirL m l from cir_eq hm hb] at CR
  have HCL : Hid ((cirL m l).length ≤ 256 ∧ ∀ s ∈ cirL m l, s < 256) := ⟨fil_len hm _, fun s hs => lt256 hm (mem_cir.1 hs).1⟩
  obtain ⟨a0, cap, hv, -, -⟩ := h.nats
  subst hv
  obtain ⟨i1, hi1, hz0, hz1, hz2⟩ := info_parts Tryz.infoSl
  have mk := fun w => run_make_to 10 10 (Nat.le_refl _) (by decide) w
  rw [show ((10 : Nat) : Int) = 10 from rfl] at mk
  clear hf hb h
  generalize cirL m l = cs at *
  go_enter Tryz.func54, Tryz.ntmps54
  go_wp2_with fail
  refine CR.out.mono ?_
  rintro e w1 ⟨r1, rfl, ho1, hb1⟩
  obtain ⟨x0, x1⟩ := box_cells hb1
  have hs1 := hb1.size
  rw [World.size_alloc] at hs1
  have B1 := hid (HB0.out.trans (hb1.mono HB0.out.size))
  obtain ⟨a2, c2, e2, -, hcc⟩ := (ho1.ints (by have := HCL.out.1; omega)).nats
  subst e2
  have HCC := hid hcc
  have hcl := HCL.out.1
  clear CR hb1 ho1 hcc HB0
  go_wp2_with fail
  go_loopw [4, 5, 6, 7] (fun uo jx _ _ wr => ∃ i : Nat, i ≤ m ∧ jx = .int .i64 i ∧ Hid (LL w1.heap.size (fun _ => False) wr uo ((List.range i).map (hab cs))) ∧ Hid (Below w1.heap.size w1 wr)) (fun _ jx _ _ _ => m - (intOf jx).toNat)
  case atStart => exact ⟨0, Nat.zero_le _, rfl, LL.nil _ _ _, Below.refl _ _⟩
  case round =>
    obtain ⟨i, hi, rfl, HLr, HBr⟩ := hrel
    have y0 := (HBr.out.cell (p := ⟨w.heap.size, 0, none⟩) (by show w.heap.size < _; omega)).trans x0
    have hsr := HBr.out.size
    by_cases hlt : i < m
    · have hlt' : (i : Int) < (m : Int) := by omega
      have hmeas : m - (i + 1) < m - i := by omega
      have bn : Below wr.heap.size wr (wr.alloc (.cells (madeCells #[.int .i64 0] 10) 3)) := (Below.refl _ _).alloc (Nat.le_refl _) _
      have yn := World.alloc_heap_new wr (.cells (madeCells #[.int .i64 0] 10) 3)
      have zn := World.size_alloc wr (.cells (madeCells #[.int .i64 0] 10) 3)
      have OZ : Hid (Own w1.heap.size (wr.alloc (.cells (madeCells #[.int .i64 0] 10) 3)) (.slice (some ⟨wr.heap.size, 0, none⟩) 10 10) (habTo cs i 0)) := by
        show Own _ _ _ _
        rw [habTo_zero]
        exact own_zeros yn hsr (by decide)
      have LZ : Hid (LL w1.heap.size (fun g => g = wr.heap.size) (wr.alloc (.cells (madeCells #[.int .i64 0] 10) 3)) u4 ((List.range i).map (hab cs))) := LL.save (Y := fun _ => False) (LL.other HLr.out (fun k e => .inr (by omega))) (Save.of_below bn) (fun _ e => e.elim)
      have BZ : Hid (Below w1.heap.size w1 (wr.alloc (.cells (madeCells #[.int .i64 0] 10) 3))) := HBr.out.trans (bn.mono hsr)
      have HLN := HLr.out
      clear bn yn
      go_wp2_with fail
      revert OZ LZ BZ zn
      generalize wr.alloc (.cells (madeCells #[.int .i64 0] 10) 3) = WZ
      intro zn OZ LZ BZ
      generalize wr = wO at *
      have INA := hid (fun s w' (hs : s < 256) => In_any s i w' hs (by omega))
      go_loopw [7] (fun jx wr => ∃ k : Nat, k ≤ cs.length ∧ jx = .int .i64 k ∧ Hid (Own w1.heap.size wr (.slice (some ⟨wO.heap.size, 0, none⟩) 10 10) (habTo cs i k)) ∧ Hid (LL w1.heap.size (fun g => g = wO.heap.size) wr u4 ((List.range i).map (hab cs))) ∧ Hid (Below w1.heap.size w1 wr)) (fun jx _ => cs.length - (intOf jx).toNat)
      case atStart => exact ⟨0, Nat.zero_le _, rfl, OZ, LZ, BZ⟩
      case round =>
        obtain ⟨k, hk, rfl, HOx, HLx, HBx⟩ := hrel
        clear OZ LZ BZ
        have hsx := HBx.out.size
        by_cases hlt2 : k < cs.length
        · have hlt2' : (k : Int) < (cs.length : Int) := by omega
          have hmeas2 : cs.length - (k + 1) < cs.length - k := by omega
          obtain ⟨cb, co, rfl, hcb, hcell⟩ := HCC.out (by omega)
          have cC := (HBx.out.cell (p := ⟨cb, co + k, none⟩) hcb).trans (hcell k hlt2)
          have hc8 : cs.getD k 0 < 256 := HCL.out.2 _ (by simp [List.getD, hlt2])
          have I1 := hid (fun w' => INA.out (cs.getD k 0) w' hc8)
          have S1 := hid (fun w' => Size_any (cs.getD k 0) w' hc8)
          have hp8 := pop_le _ hc8
          have HH := hid (fun hb => habTo_hit (cs := cs) (i := i) (k := k) hlt2 hb (by omega))
          have HMI := hid (fun hb => habTo_miss (cs := cs) (i := i) (k := k) hlt2 hb)
          clear hcell INA
          generalize cs.getD k 0 = C at *
          rcases hq : C.testBit i with _ | _
          · rw [hq] at I1
            have HE := hid (HMI.out hq)
            rw [← HE.out] at HOx
            clear hq HH HMI HE S1
            go_wp2_with fail
            refine (I1.out _).mono ?_
            rintro e w' ⟨rfl, hw'⟩
            obtain rfl := hw'.symm
            go_wp2_with fail
            go_roundw
            case rel => exact ⟨k + 1, hlt2, by go_num, HOx, HLx, HBx⟩
            case measure => exact hmeas2
          · rw [hq] at I1
            have HE := hid (HH.out hq)
            clear hq HH HMI
            go_wp2_with fail
            refine (I1.out _).mono ?_
            rintro e w' ⟨rfl, hw'⟩
            obtain rfl := hw'.symm
            go_wp2_with fail
            refine (S1.out _).mono ?_
            rintro e w3 ⟨rfl, hb3⟩
            have O3 := HOx.out.below hb3
            have hat := O3.at (i := pop C) (by rw [habTo_len]; omega)
            have hfz := O3.frozenAt (j := pop C)
            have hbd := hab_bound (cs := cs) (i := i) (k := k) (s := pop C) hcl
            have OP := O3.put (j := pop C) (x := (habTo cs i k).getD (pop C) 0 + 1) (by rw [habTo_len]; omega)
            rw [← HE.out] at OP
            have sv : Save (fun g => g = wO.heap.size) w3 (w3.setCell ⟨wO.heap.size, pop C, none⟩ (.int .i64 (((habTo cs i k).getD (pop C) 0 + 1 : Nat) : Int))) := Save.setCell (X := fun g => g = wO.heap.size) (Save.refl _ w3) (p := ⟨wO.heap.size, pop C, none⟩) (.inl rfl) _
            have L3 := HLx.out.save (Y := fun _ => False) (Save.of_below hb3) (fun _ e => e.elim)
            have LP := hid (L3.save sv (fun g e => .inl e))
            have BP := hid (sv.below (HBx.out.trans (hb3.mono hsx)) (Nat.le_trans hsx hb3.size) (fun g e => by omega))
            have HOP := hid OP
            clear S1 I1 O3 OP sv L3 hb3 HE HOx HLx
            have hp10 : ((pop C : Nat) : Int) < 10 := by omega
            generalize (habTo cs i k).getD (pop C) 0 = z at *
            rw [show ((z + 1 : Nat) : Int) = (z : Int) + 1 by omega] at HOP LP BP
            go_wp2_with fail
            go_roundw
            case rel => exact ⟨k + 1, hlt2, by go_num, HOP, LP, BP⟩
            case measure => exact hmeas2
        · obtain rfl : k = cs.length := by omega
          have hlt2' : ¬ ((cs.length : Nat) : Int) < ((cs.length : Nat) : Int) := by omega
          have hD : habTo cs i cs.length = hab cs i := by unfold habTo; rw [List.take_length]
          rw [hD] at HOx
          have b5 : Below wr.heap.size wr (wr.alloc (.cells #[.slice (some ⟨wO.heap.size, 0, none⟩) 10 10] 22)) := (Below.refl _ _).alloc (Nat.le_refl _) _
          have hc5 : (wr.alloc (.cells #[.slice (some ⟨wO.heap.size, 0, none⟩) 10 10] 22)).cell? ⟨wr.heap.size, 0, none⟩ = some (.slice (some ⟨wO.heap.size, 0, none⟩) 10 10) := (Boxed.new wr 22 _).cell
          have L5 := HLx.out.save (Y := fun _ => False) (Save.of_below b5) (fun _ e => e.elim)
          have O5 := HOx.out.below b5
          have B5 := HBx.out.trans (b5.mono hsx)
          have z5 := World.size_alloc wr (.cells #[.slice (some ⟨wO.heap.size, 0, none⟩) 10 10] 22)
          obtain ⟨vs, f1, f2, f3, f4⟩ := L5
          have hvs : vs.length ≤ 100000 := by rw [f1]; simp; omega
          have NX : Hid (∀ v' w', w'.ownsRow w1.heap.size 22 1 v' (vs.length + 1) (vs ++ [.slice (some ⟨wO.heap.size, 0, none⟩) 10 10]) → (wr.alloc (.cells #[.slice (some ⟨wO.heap.size, 0, none⟩) 10 10] 22)).grownBy w' u4.ownBlock → (v'.ownBlock = u4.ownBlock ∨ v'.ownBlock = some (wr.alloc (.cells #[.slice (some ⟨wO.heap.size, 0, none⟩) 10 10] 22)).heap.size) → Hid (LL w1.heap.size (fun _ => False) w' v' ((List.range (i + 1)).map (hab cs))) ∧ Hid (Below w1.heap.size w1 w')) := fun v' w' h1 h2 h3 => by
            have hsv : Save (fun g => u4.ownBlock = some g) (wr.alloc (.cells #[.slice (some ⟨wO.heap.size, 0, none⟩) 10 10] 22)) w' := Save.of_grown h2 (fun k e => e)
            refine ⟨?_, hsv.below B5 (by rw [z5]; omega) (fun g e => (World.ownsRow.lt f2 g e).1)⟩
            show LL _ _ _ _ _
            rw [range_map_succ]
            refine LL.push (X := fun _ => False) f1 (fun _ _ e => e) (fun j hj => ⟨(f4 j hj).1, fun g hg => ⟨id, ((f4 j hj).2 g hg).2⟩⟩) O5 (fun g hg => ⟨id, fun e => f3 g e (by cases hg; rfl)⟩) hsv h1 ?_
            rcases h3 with h3 | h3
            · exact .inl h3
            · exact .inr ⟨_, h3, Nat.le_refl _, id⟩
          obtain ⟨ua, un, uc, hu4⟩ : ∃ a n c, u4 = .slice a n c := by
            rcases f2.2 with ⟨rfl, _⟩ | ⟨g, cap, cur, rfl, _⟩
            · exact ⟨_, _, _, rfl⟩
            · exact ⟨_, _, _, rfl⟩
          subst hu4
          have F1 := hid f1
          clear f1 f3 f4 O5 b5 B5 INA HCC HOx HLx hD HLN
          go_wp2_with (at_builtin; refine wpList_app1 rfl (.tmp 39) (.tmp 41) rfl rfl rfl Tryz.underlying71 hi1 hz0 rfl hz1 (by rw [hz2]; decide) f2 hc5 rfl hvs (by omega) ?_)
          intro v' w' h1 h2 h3
          obtain ⟨HL6, HB6⟩ := NX.out v' w' h1 h2 (by rw [World.size_alloc]; exact h3)
          obtain ⟨va, vn, vc, hv'⟩ : ∃ a n c, v' = .slice a n c := by
            rcases h1.2 with ⟨rfl, _⟩ | ⟨g, cap, cur, rfl, _⟩
            · exact ⟨_, _, _, rfl⟩
            · exact ⟨_, _, _, rfl⟩
          subst hv'
          clear h1 h2 h3 NX f2 hc5
          go_wp2_with fail
          go_roundw
          case rel => exact ⟨i + 1, hlt, by go_num, HL6, HB6⟩
          case measure => exact hmeas
    · obtain rfl : i = m := by omega
      have hlt' : ¬ (i : Int) < (i : Int) := by omega
      have LR : Hid (LL w.heap.size (fun _ => False) wr u4 ((List.range i).map (hab cs))) := HLr.out.lower (by omega)
      have BR := hid (B1.out.trans (HBr.out.mono B1.out.size))
      go_wp2_with fail
      go_ret
      exact ⟨_, rfl, LR.out, BR.out⟩
end Go.Proofs.YthlmnhcnpffjdaaGreat
