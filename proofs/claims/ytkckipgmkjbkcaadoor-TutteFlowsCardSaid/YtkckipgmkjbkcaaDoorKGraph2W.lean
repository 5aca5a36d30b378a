/- kinds.CheckGraph, Graphic. -/
import Derived.Test.YtkckipgmkjbkcaaDoorKRingQ
import Derived.Test.YtkckipgmkjbkcaaDoorKTransW
namespace Go.Proofs.YtkckipgmkjbkcaaDoor
open Go.RowKit

/-- v is a slice that holds these edges, whatever their ends. -/
def EdgesI (w : World) (v : Value) (F : List (Int × Int)) : Prop := ∃ a cap, v = .slice a F.length cap ∧ F.length ≤ 17592186044416 ∧ (0 < F.length → ∃ b off, a = some ⟨b, off, none⟩ ∧ b < w.heap.size ∧ ∀ i, i < F.length → w.cell? ⟨b, off + i * 2, none⟩ = some (.int .i64 (F.getD i (0, 0)).1) ∧ w.cell? ⟨b, off + i * 2 + 1, none⟩ = some (.int .i64 (F.getD i (0, 0)).2))
theorem EdgesI.below {w w' : World} {v : Value} {F : List (Int × Int)} (h : EdgesI w v F) (hb : Below w.heap.size w w') : EdgesI w' v F := by
  obtain ⟨a, cap, h1, h2, hc⟩ := h
  refine ⟨a, cap, h1, h2, fun hn => ?_⟩
  obtain ⟨b, off, h3, h4, h5⟩ := hc hn
  exact ⟨b, off, h3, Nat.lt_of_lt_of_le h4 hb.size, fun i hi => ⟨(hb.cell (p := ⟨b, off + i * 2, none⟩) h4).trans (h5 i hi).1, (hb.cell (p := ⟨b, off + i * 2 + 1, none⟩) h4).trans (h5 i hi).2⟩⟩
def inB (v n : Int) : Bool := decide (0 ≤ v) && decide (v < n)
def edgeB (n : Int) (e : Int × Int) : Bool := inB e.1 n && inB e.2 n
/-- What is wrong with a graph. -/
def graphR (n : Int) (F : List (Int × Int)) : Int := if 1 ≤ n ∧ n ≤ 7 ∧ F.length ≤ 8 ∧ F.all (edgeB n) = true then 0 else 1
def natE (F : List (Int × Int)) : List (Nat × Nat) := F.map fun e => (e.1.toNat, e.2.toNat)
theorem natE_len (F : List (Int × Int)) : (natE F).length = F.length := by unfold natE; simp
theorem natE_at {F : List (Int × Int)} {i : Nat} (hi : i < F.length) : (natE F).getD i (0, 0) = ((F.getD i (0, 0)).1.toNat, (F.getD i (0, 0)).2.toNat) := by
  unfold natE
  simp [List.getD, hi]
theorem edge_in {n : Int} {F : List (Int × Int)} (h : F.all (edgeB n) = true) {i : Nat} (hi : i < F.length) : 0 ≤ (F.getD i (0, 0)).1 ∧ (F.getD i (0, 0)).1 < n ∧ 0 ≤ (F.getD i (0, 0)).2 ∧ (F.getD i (0, 0)).2 < n := by
  have := List.all_eq_true.1 h (F.getD i (0, 0)) (by simp only [List.getD, List.getElem?_eq_getElem hi, Option.getD_some]; exact List.getElem_mem _)
  unfold edgeB inB at this
  simp at this
  exact ⟨this.1.1, this.1.2, this.2.1, this.2.2⟩
theorem EdgesI.nat {w : World} {v : Value} {n : Int} {F : List (Int × Int)} (h : EdgesI w v F) (hl : F.length ≤ 8) (hF : F.all (edgeB n) = true) : EdgesAt w v (natE F) := by
  obtain ⟨a, cap, h1, h2, hc⟩ := h
  refine ⟨a, cap, by rw [natE_len]; exact h1, by rw [natE_len]; exact hl, fun hn => ?_⟩
  rw [natE_len] at hn
  obtain ⟨b, off, h3, h4, h5⟩ := hc hn
  refine ⟨b, off, h3, h4, fun i hi => ?_⟩
  rw [natE_len] at hi
  have hb := edge_in hF hi
  unfold ea eb
  rw [natE_at hi, (h5 i hi).1, (h5 i hi).2, Int.toNat_of_nonneg hb.1, Int.toNat_of_nonneg hb.2.2.1]
  exact ⟨rfl, rfl⟩
theorem natE_lt {n : Int} {F : List (Int × Int)} (hn : n ≤ 7) (hF : F.all (edgeB n) = true) : ∀ j, j < (natE F).length → ea (natE F) j < 7 ∧ eb (natE F) j < 7 := fun j hj => by
  rw [natE_len] at hj
  have hb := edge_in hF hj
  unfold ea eb
  rw [natE_at hj]
  show (F.getD j (0, 0)).1.toNat < 7 ∧ (F.getD j (0, 0)).2.toNat < 7
  omega
theorem allE_drop {p : Int × Int → Bool} {F : List (Int × Int)} {k : Nat} (hk : k < F.length) : (F.drop k).all p = (p (F.getD k (0, 0)) && (F.drop (k + 1)).all p) := by
  rw [List.drop_eq_getElem_cons hk, List.all_cons]
  simp [List.getD, hk]
theorem isBelow_any (v n : Int) (w : World) : Calls Tryd.prog 37 #[.int .i64 v, .int .i64 n] w fun e w' => e = .returned (.bool (inB v n)) ∧ w' = w := by
  unfold inB
  by_cases h : 0 ≤ v
  · have h1 : decide (0 ≤ v) = true := by simpa using h
    go_enter Tryd.func37, Tryd.ntmps37
    go_wp2_with fail
    go_ret
    exact ⟨by rw [h1]; rfl, rfl⟩
  · have h1 : decide (0 ≤ v) = false := by simpa using h
    go_enter Tryd.func37, Tryd.ntmps37
    go_wp2_with fail
    go_ret
    exact ⟨rfl, rfl⟩
theorem below_boxGr (w : World) (cs : Array Value) : Below w.heap.size w (w.alloc (.cells cs 24)) := (Below.refl _ _).alloc (Nat.le_refl _) _

set_option maxRecDepth 20000 in
set_option maxHeartbeats 1600000 in
theorem CheckGraph_any (n : Int) (v : Value) (F : List (Int × Int)) (w : World) (h : EdgesI w v F) :
    Calls Tryd.prog 22 #[.agg #[.int .i64 n, v]] w fun e w' => e = .returned (.int .i64 (graphR n F)) ∧ Below w.heap.size w w' := by
  obtain ⟨a, cap, rfl, hlen, hc⟩ := h
  have HB0 := hid (below_boxGr w #[.int .i64 n, .slice a F.length cap])
  have HN := hid (World.alloc_heap_new w (.cells #[.int .i64 n, .slice a F.length cap] 24))
  have IB := hid (fun v w' => isBelow_any v n w')
  by_cases hn1 : n < 1
  · have F1 : Hid (graphR n F = 1) := by show _ = _; unfold graphR; rw [if_neg (by omega)]
    have hd : decide (n < 1) = true := by simpa using hn1
    go_enter Tryd.func22, Tryd.ntmps22
    go_wp2_with fail
    go_ret
    exact ⟨ret_int F1.out.symm, HB0.out⟩
  · have hd : decide (n < 1) = false := by simpa using hn1
    by_cases hn7 : 7 < n
    · have F1 : Hid (graphR n F = 1) := by show _ = _; unfold graphR; rw [if_neg (by omega)]
      have hd7 : decide (7 < n) = true := by simpa using hn7
      go_enter Tryd.func22, Tryd.ntmps22
      go_wp2_with fail
      go_ret
      exact ⟨ret_int F1.out.symm, HB0.out⟩
    · have hd7 : decide (7 < n) = false := by simpa using hn7
      by_cases h8 : 8 < F.length
      · have F1 : Hid (graphR n F = 1) := by show _ = _; unfold graphR; rw [if_neg (by omega)]
        have hd8 : decide ((8 : Int) < (F.length : Int)) = true := by simp; omega
        have hd9 : (8 : Int) < (F.length : Int) := by omega
        go_enter Tryd.func22, Tryd.ntmps22
        go_wp2_with fail
        go_ret
        exact ⟨ret_int F1.out.symm, HB0.out⟩
      · have hd8 : decide ((8 : Int) < (F.length : Int)) = false := by simp; omega
        have hd9 : decide (8 < F.length) = false := by simp; omega
        have GR : Hid (graphR n F = if F.all (edgeB n) = true then 0 else 1) := by
          show _ = _
          unfold graphR
          by_cases c : F.all (edgeB n) = true
          · rw [if_pos c, if_pos ⟨by omega, by omega, by omega, c⟩]
          · rw [if_neg c, if_neg (fun d => c d.2.2.2)]
        go_enter Tryd.func22, Tryd.ntmps22
        go_wp2_with fail
        revert HB0 HN
        generalize (w.alloc (.cells #[.int .i64 n, .slice a F.length cap] 24)) = W0
        intro HB0 HN
        have hW0 : w.heap.size < W0.heap.size := (Array.getElem?_eq_some_iff.1 HN.out).1
        go_loopw [22] (fun i wr => ∃ k : Nat, k ≤ F.length ∧ i = .int .i64 k ∧ Hid (Below W0.heap.size W0 wr) ∧ Hid (F.all (edgeB n) = (F.drop k).all (edgeB n))) (fun i _ => F.length - (intOf i).toNat)
        case atStart => exact ⟨0, Nat.zero_le _, rfl, Below.refl _ _, rfl⟩
        case round =>
          obtain ⟨k, hk, rfl, HW, R⟩ := hrel
          by_cases hlt : k < F.length
          · obtain ⟨b, off, rfl, hb, hcell⟩ := hc (by omega)
            have hbW : b < W0.heap.size := Nat.lt_of_lt_of_le hb HB0.out.size
            have cA := ((HW.out.cell (p := ⟨b, off + k * 2, none⟩) hbW).trans (HB0.out.cell (p := ⟨b, off + k * 2, none⟩) hb)).trans (hcell k hlt).1
            have cB := ((HW.out.cell (p := ⟨b, off + k * 2 + 1, none⟩) hbW).trans (HB0.out.cell (p := ⟨b, off + k * 2 + 1, none⟩) hb)).trans (hcell k hlt).2
            have D := hid (allE_drop (p := edgeB n) hlt)
            have EB : Hid (edgeB n (F.getD k (0, 0)) = (inB (F.getD k (0, 0)).1 n && inB (F.getD k (0, 0)).2 n)) := rfl
            have hki : (k : Int) < (F.length : Int) := by omega
            clear hcell hc
            generalize (F.getD k (0, 0)).1 = A at *
            generalize (F.getD k (0, 0)).2 = B at *
            have hkw := below_alloc wr (.cells #[.int .i64 A, .int .i64 B] 30)
            have hnew := World.alloc_heap_new wr (.cells #[.int .i64 A, .int .i64 B] 30)
            obtain ⟨n0, n1, _, _⟩ := two_cells hnew
            have hwb := (hkw.block w.heap.size (Nat.lt_of_lt_of_le hW0 HW.out.size)).trans ((HW.out.block w.heap.size hW0).trans HN.out)
            obtain ⟨g0, g1, _, _⟩ := two_cells hwb
            have BW1 := hid (HW.out.trans (hkw.mono HW.out.size))
            have IA := hid (IB.out A)
            have IC := hid (IB.out B)
            have HBF := hid (HB0.out.trans (BW1.out.mono HB0.out.size))
            clear hkw hnew hwb
            rcases qA : inB A n with _ | _
            · rw [qA] at IA EB
              have F1 : Hid (graphR n F = 1) := by show _ = _; rw [GR.out, R.out, D.out, EB.out]; rfl
              go_wp2_with fail
              refine (IA.out _).mono ?_
              rintro e w' ⟨rfl, hw'⟩
              subst hw'
              go_wp2_with fail
              go_ret
              exact ⟨ret_int F1.out.symm, HBF.out⟩
            · rw [qA] at IA EB
              rcases qB : inB B n with _ | _
              · rw [qB] at IC EB
                have F1 : Hid (graphR n F = 1) := by show _ = _; rw [GR.out, R.out, D.out, EB.out]; rfl
                go_wp2_with fail
                refine (IA.out _).mono ?_
                rintro e w' ⟨rfl, hw'⟩
                subst hw'
                go_wp2_with fail
                refine (IC.out _).mono ?_
                rintro e w' ⟨rfl, hw'⟩
                subst hw'
                go_wp2_with fail
                go_ret
                exact ⟨ret_int F1.out.symm, HBF.out⟩
              · rw [qB] at IC EB
                have R1 : Hid (F.all (edgeB n) = (F.drop (k + 1)).all (edgeB n)) := by show _ = _; rw [R.out, D.out, EB.out]; rfl
                go_wp2_with fail
                refine (IA.out _).mono ?_
                rintro e w' ⟨rfl, hw'⟩
                subst hw'
                go_wp2_with fail
                refine (IC.out _).mono ?_
                rintro e w' ⟨rfl, hw'⟩
                subst hw'
                go_wp2_with fail
                go_roundw
                case rel => exact ⟨k + 1, by omega, by go_num, BW1, R1⟩
                case measure => simp [intOf]; omega
          · have F1 : Hid (graphR n F = 0) := by show _ = _; rw [GR.out, R.out, List.drop_of_length_le (by omega)]; rfl
            have hki : ¬ (k : Int) < (F.length : Int) := by omega
            have HBF := hid (HB0.out.trans (HW.out.mono HB0.out.size))
            go_wp2_with fail
            go_ret
            exact ⟨ret_int F1.out.symm, HBF.out⟩
end Go.Proofs.YtkckipgmkjbkcaaDoor

namespace Go.Proofs.YtkckipgmkjbkcaaDoor
open Go.RowKit

theorem slotG {w : World} {n : Int} {v : Value} : ((w.alloc (.cells #[.int .i64 n, v] 24)).alloc (.cells #[.int .i64 0, .slice none 0 0] 42)).heap[w.heap.size]? = some (.cells #[.int .i64 n, v] 24 (0, 0)) ∧ ((w.alloc (.cells #[.int .i64 n, v] 24)).alloc (.cells #[.int .i64 0, .slice none 0 0] 42)).heap[w.heap.size + 1]? = some (.cells #[.int .i64 0, .slice none 0 0] 42 (0, 0)) := by
  refine ⟨?_, ?_⟩
  · rw [Below.heap_alloc _ _ _ (by simp)]
    exact World.alloc_heap_new w _
  · have := World.alloc_heap_new (w.alloc (.cells #[.int .i64 n, v] 24)) (.cells #[.int .i64 0, .slice none 0 0] 42)
    rwa [World.size_alloc] at this
set_option maxHeartbeats 800000 in
theorem GraphQ_ok (s b : Nat) (n : Int) (v : Value) (E : List (Nat × Nat)) (w : World) (hs : s < 256) (hE : ∀ j, j < E.length → ea E j < 7 ∧ eb E j < 7) (hb : w.heap[b]? = some (.cells #[.int .i64 n, v] 24 (0, 0))) (h : EdgesAt w v E) :
    Calls Tryd.prog 24 #[.int .i64 s, .pointer (some ⟨b, 0, none⟩)] w fun e w' => e = .returned (.bool (!ringB E s)) ∧ Below w.heap.size w w' := by
  have HR := hid (hasRing_any n v E s w hs hE h)
  obtain ⟨a, cap, rfl, _, _⟩ := h
  obtain ⟨z0, z1, _, _⟩ := two_cells hb
  go_enter Tryd.func24, Tryd.ntmps24
  go_wp2_with fail
  refine HR.out.mono ?_
  rintro e w' ⟨rfl, hb'⟩
  have HB := hid hb'
  clear hb'
  go_wp2_with fail
  go_ret
  exact ⟨rfl, HB.out⟩
set_option maxRecDepth 20000 in
set_option maxHeartbeats 1600000 in
theorem Graphic_any (n : Int) (v : Value) (F : List (Int × Int)) (w : World) (h : EdgesI w v F) :
    Calls Tryd.prog 13 #[.agg #[.int .i64 n, v]] w (Makes w (graphR n F) F.length (bigL F.length fun s => !ringB (natE F) s)) := by
  have HI := hid h
  obtain ⟨a, cap, rfl, hlen, hc⟩ := h
  clear hc
  have hmf : ∀ (fn : Fn) (first cap : Array Value) (w : World), (Instr.makeFunc fn first cap).run Tryd.prog w = .ok (.func fn first cap) w := fun _ _ _ _ => rfl
  have HB0 : Hid (Below w.heap.size w ((w.alloc (.cells #[.int .i64 n, .slice a F.length cap] 24)).alloc (.cells #[.int .i64 0, .slice none 0 0] 42))) := ((Below.refl _ _).alloc (Nat.le_refl _) _).alloc (by simp) _
  have HX := hid (slotG (w := w) (n := n) (v := .slice a F.length cap))
  have HSZ : Hid (((w.alloc (.cells #[.int .i64 n, .slice a F.length cap] 24)).alloc (.cells #[.int .i64 0, .slice none 0 0] 42)).heap.size = w.heap.size + 2) := by show _ = _; simp
  have CG := hid (CheckGraph_any n _ F _ (HI.out.below HB0.out))
  go_enter Tryd.func13, Tryd.ntmps13
  go_wp2_with fail
  refine CG.out.mono ?_
  clear CG
  revert HB0 HX HSZ
  generalize ((w.alloc (.cells #[.int .i64 n, .slice a F.length cap] 24)).alloc (.cells #[.int .i64 0, .slice none 0 0] 42)) = W9
  intro HB9 HX9 HSZ9
  rintro e W0 ⟨rfl, hb1⟩
  have HB0 := hid (HB9.out.trans (hb1.mono HB9.out.size))
  have hsz : w.heap.size + 2 ≤ W0.heap.size := by have := hb1.size; have := HSZ9.out; omega
  have HX : Hid (W0.heap[w.heap.size]? = some (.cells #[.int .i64 n, .slice a F.length cap] 24 (0, 0)) ∧ W0.heap[w.heap.size + 1]? = some (.cells #[.int .i64 0, .slice none 0 0] 42 (0, 0))) :=
    ⟨(hb1.block _ (by have := HSZ9.out; omega)).trans HX9.out.1, (hb1.block _ (by have := HSZ9.out; omega)).trans HX9.out.2⟩
  clear hb1 HB9 HX9 HSZ9
  obtain ⟨x0, x1, _, _⟩ := two_cells HX.out.1
  obtain ⟨y2, y3, g2, g3⟩ := two_cells HX.out.2
  by_cases hg : graphR n F = 0
  · have HGR := hid hg
    rw [hg]
    unfold graphR at hg
    split at hg
    · rename_i hgood
      obtain ⟨hn1, hn7, h8, hall⟩ := hgood
      have HEN := hid (HI.out.nat h8 hall)
      have HNL := hid (natE_lt hn7 hall)
      have OI := hid (ofInd_any F.length 24 #[.pointer (some ⟨w.heap.size, 0, none⟩)] (fun s => !ringB (natE F) s) W0 h8 (fun args w => enters_of Tryd.func24 (by kernel_rfl) rfl args w)
        (fun x hx w3 hb3 _ => GraphQ_ok x w.heap.size n _ (natE F) w3 (lt256 h8 hx) HNL.out ((hb3.block _ (by omega)).trans HX.out.1) ((HEN.out.below HB0.out).below hb3)))
      change Hid (Calls _ _ _ _ fun e w' => ∃ r, e = .returned (.agg #[.int .i64 F.length, r]) ∧ Own _ w' r (bigL F.length (fun s => !ringB (natE F) s)) ∧ _) at OI
      obtain ⟨acc, HACC⟩ : ∃ acc : List Nat, Hid (bigL F.length (fun s => !ringB (natE F) s) = acc) := ⟨_, rfl⟩
      rw [HACC.out] at OI
      clear hg hall hn1 hn7
      go_wp2_with fail
      refine OI.out.mono ?_
      rintro e w4 ⟨r4, rfl, hr4, hb4⟩
      obtain ⟨ra, rc, hr⟩ := ownsRow_form' hr4
      subst hr
      have hxx := (hb4.block (w.heap.size + 1) (by omega)).trans HX.out.2
      obtain ⟨y2, y3, g2, g3⟩ := two_cells hxx
      have HC := hid (set_two (x := .int .i64 F.length) (y := .slice ra acc.length rc) hxx)
      have HB4 := hid (HB0.out.trans (hb4.mono HB0.out.size))
      have HD := hid (below_two (b := w.heap.size + 1) (x := .int .i64 F.length) (y := .slice ra acc.length rc) HB4.out (by omega))
      have HII := hid ((hr4.set2 (b := w.heap.size + 1) (x := .int .i64 F.length) (y := .slice ra acc.length rc) (by omega)).mono (by omega : w.heap.size ≤ _))
      clear hb4 hr4 hxx
      go_wp2_with fail
      obtain ⟨c0, c1⟩ := HC.out
      refine bodyPost_ret (v := .tuple #[.agg #[.int .i64 F.length, .slice ra _ rc], .int .i64 0]) ?_ rfl ⟨fun _ => ⟨_, rfl, by rw [HACC.out]; exact HII.out, HD.out⟩, fun e => absurd HGR.out e⟩
      simp [results, Tryd.f13, go_sem, c0, c1]
    · cases hg
  · have F1 : Hid (graphR n F = 1) := by
      show _ = _
      unfold graphR at hg ⊢
      split at hg
      · exact absurd rfl hg
      · rename_i h; rw [if_neg h]
    have HCC := hid (set_two (x := .int .i64 0) (y := .slice none 0 0) HX.out.2)
    have HD := hid (below_two (b := w.heap.size + 1) (x := .int .i64 0) (y := .slice none 0 0) HB0.out (by omega))
    rw [F1.out]
    go_wp2_with fail
    obtain ⟨c0, c1⟩ := HCC.out
    refine bodyPost_ret (v := .tuple #[.agg #[.int .i64 0, .slice none 0 0], .int .i64 1]) ?_ rfl ⟨fun e => absurd (F1.out.symm.trans e) (by decide), fun _ => ⟨by rw [F1.out], HD.out⟩⟩
    simp [results, Tryd.f13, go_sem, c0, c1]
end Go.Proofs.YtkckipgmkjbkcaaDoor
