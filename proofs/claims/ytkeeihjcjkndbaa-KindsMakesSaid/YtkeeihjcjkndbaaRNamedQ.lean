/- rotaref.Named. -/
import Derived.Test.YtkeeihjcjkndbaaKNamedQ
import Derived.Test.YtkeeihjcjkndbaaRefNamQ
import Derived.Test.YtkeeihjcjkndbaaRefGrQ
import Derived.Test.YtkeeihjcjkndbaaPlainAll
namespace Go.Proofs.Ytkeeihjcjkndbaa
open Go.RowKit

theorem natE_K4 : natE K4 = K4n := by decide
theorem k4_isl : islL 4 K4n = k4L := by
  have e : k4L = bigL 6 fun s => !ringB K4n s := by unfold k4L; rw [natE_K4]
  rw [e]
  exact k4_same
theorem vam_same : (List.range (2 ^ 8)).filter (fun s => pop s == 4 && !memB s vamL) = butL 8 4 [15, 51, 60, 195, 204] := rfl
theorem fan_same (m : Nat) : (List.range (2 ^ 7)).filter (fun s => pop s == 3 && !memB s (fanoL m)) = butL 7 3 (fanoL m) := rfl
/-- What the document's Named hands back. -/
def Names (w : World) (s : List UInt8) (e : Ending) (w' : World) : Prop := (namE s = 0 → ∃ r, e = .returned (.tuple #[.agg #[.int .i64 (namN s : Nat), r], .bool true]) ∧ Own w.heap.size w' r (namL s) ∧ Below w.heap.size w w') ∧ (namE s ≠ 0 → e = .returned (.tuple #[.agg #[.int .i64 0, .slice none 0 0], .bool false]) ∧ Below w.heap.size w w')
theorem slotN {w : World} {k : Int} : ((w.alloc (.cells #[.int .i64 0, .slice none 0 0] 26)).alloc (.cells #[.int .i64 k] 3)).heap[w.heap.size]? = some (.cells #[.int .i64 0, .slice none 0 0] 26 (0, 0)) ∧ ((w.alloc (.cells #[.int .i64 0, .slice none 0 0] 26)).alloc (.cells #[.int .i64 k] 3)).heap[w.heap.size + 1]? = some (.cells #[.int .i64 k] 3 (0, 0)) := by
  refine ⟨?_, ?_⟩
  · rw [Below.heap_alloc _ _ _ (by simp)]
    exact World.alloc_heap_new w _
  · have := World.alloc_heap_new (w.alloc (.cells #[.int .i64 0, .slice none 0 0] 26)) (.cells #[.int .i64 k] 3)
    rwa [World.size_alloc] at this
theorem belowN (w : World) (k : Int) : Below w.heap.size w ((w.alloc (.cells #[.int .i64 0, .slice none 0 0] 26)).alloc (.cells #[.int .i64 k] 3)) := ((Below.refl _ _).alloc (Nat.le_refl _) _).alloc (by simp) _
theorem sizeN (w : World) (k : Int) : ((w.alloc (.cells #[.int .i64 0, .slice none 0 0] 26)).alloc (.cells #[.int .i64 k] 3)).heap.size = w.heap.size + 2 := by simp
set_option maxRecDepth 20000 in
set_option maxHeartbeats 1600000 in
theorem RNamed_any (s : List UInt8) (w : World) :
    Calls Try.prog 7 #[.string ⟨s.toArray⟩] w (Names w s) := by
  have hmf : ∀ (fn : Fn) (first cap : Array Value) (w : World), (Instr.makeFunc fn first cap).run Try.prog w = .ok (.func fn first cap) w := fun _ _ _ _ => rfl
  by_cases h1 : s = bFano
  · subst h1
    unfold Names
    rw [show namE bFano = 0 from rfl, show namN bFano = 7 from rfl, show namL bFano = butL 7 3 (fanoL 7) from rfl]
    have HB0 := hid (belowN w 7)
    have HX := hid (slotN (w := w) (k := 7))
    have TH := hid (Those_any 7 24 #[.pointer (some ⟨w.heap.size + 1, 0, none⟩)] (fun s => pop s == 3 && !memB s (fanoL 7)) ((w.alloc (.cells #[.int .i64 0, .slice none 0 0] 26)).alloc (.cells #[.int .i64 7] 3)) (by decide) (fun args w => enters_of Try.func24 (by kernel_rfl) rfl args w)
      (fun x hx w3 hb3 hs3 => fanQ_ok x (w.heap.size + 1) 7 w3 (Nat.lt_trans hx (by decide)) (by decide) ((hb3.cell (p := ⟨w.heap.size + 1, 0, none⟩) (by rw [sizeN]; exact Nat.lt_succ_self _)).trans (Boxed.cell HX.out.2)) (by have := sizeN w 7; omega)))
    rw [fan_same] at TH
    generalize butL 7 3 (fanoL 7) = acc at *
    unfold bFano
    go_enter Try.func7, Try.ntmps7
    go_wp2_with fail
    refine TH.out.mono ?_
    rintro e w4 ⟨r4, rfl, hr4, hb4⟩
    obtain ⟨ra, rc, hr⟩ := ownsRow_form' hr4
    subst hr
    have hxx := (hb4.block _ (by simp; omega)).trans HX.out.1
    obtain ⟨y2, y3, g2, g3⟩ := two_cells hxx
    have NE := hid (nam_end (n := 7) (HB0.out.trans (hb4.mono HB0.out.size)) hxx (hr4.mono (by simp)))
    clear hb4 hr4 hxx
    go_wp2_with fail
    obtain ⟨⟨c0, c1⟩, hO, hD⟩ := NE.out
    refine bodyPost_ret (v := .tuple #[.agg #[.int .i64 7, .slice ra _ rc], .bool true]) ?_ rfl ⟨fun _ => ⟨_, rfl, hO, hD⟩, fun e => absurd rfl e⟩
    simp [results, Try.f7, go_sem, c0, c1]
  by_cases h2 : s = bNon
  · subst h2
    unfold Names
    rw [show namE bNon = 0 from rfl, show namN bNon = 7 from rfl, show namL bNon = butL 7 3 (fanoL 6) from rfl]
    have HB0 := hid (belowN w 6)
    have HX := hid (slotN (w := w) (k := 6))
    have TH := hid (Those_any 7 24 #[.pointer (some ⟨w.heap.size + 1, 0, none⟩)] (fun s => pop s == 3 && !memB s (fanoL 6)) ((w.alloc (.cells #[.int .i64 0, .slice none 0 0] 26)).alloc (.cells #[.int .i64 6] 3)) (by decide) (fun args w => enters_of Try.func24 (by kernel_rfl) rfl args w)
      (fun x hx w3 hb3 hs3 => fanQ_ok x (w.heap.size + 1) 6 w3 (Nat.lt_trans hx (by decide)) (by decide) ((hb3.cell (p := ⟨w.heap.size + 1, 0, none⟩) (by rw [sizeN]; exact Nat.lt_succ_self _)).trans (Boxed.cell HX.out.2)) (by have := sizeN w 6; omega)))
    rw [fan_same] at TH
    generalize butL 7 3 (fanoL 6) = acc at *
    unfold bNon
    go_enter Try.func7, Try.ntmps7
    go_wp2_with fail
    refine TH.out.mono ?_
    rintro e w4 ⟨r4, rfl, hr4, hb4⟩
    obtain ⟨ra, rc, hr⟩ := ownsRow_form' hr4
    subst hr
    have hxx := (hb4.block _ (by simp; omega)).trans HX.out.1
    obtain ⟨y2, y3, g2, g3⟩ := two_cells hxx
    have NE := hid (nam_end (n := 7) (HB0.out.trans (hb4.mono HB0.out.size)) hxx (hr4.mono (by simp)))
    clear hb4 hr4 hxx
    go_wp2_with fail
    obtain ⟨⟨c0, c1⟩, hO, hD⟩ := NE.out
    refine bodyPost_ret (v := .tuple #[.agg #[.int .i64 7, .slice ra _ rc], .bool true]) ?_ rfl ⟨fun _ => ⟨_, rfl, hO, hD⟩, fun e => absurd rfl e⟩
    simp [results, Try.f7, go_sem, c0, c1]
  by_cases h3 : s = bK4
  · subst h3
    unfold Names
    rw [show namE bK4 = 0 from rfl, show namN bK4 = 6 from rfl, show namL bK4 = k4L from rfl]
    have HB0 : Hid (Below w.heap.size w (((w.alloc (.cells #[.int .i64 0, .slice none 0 0] 26)).alloc (.cells #[.int .i64 0] 3)).alloc (.cells #[.int .i64 0, .int .i64 1, .int .i64 0, .int .i64 2, .int .i64 0, .int .i64 3, .int .i64 1, .int .i64 2, .int .i64 1, .int .i64 3, .int .i64 2, .int .i64 3] 45))) := (belowN w 0).alloc (by rw [sizeN]; omega) _
    have HX : Hid ((((w.alloc (.cells #[.int .i64 0, .slice none 0 0] 26)).alloc (.cells #[.int .i64 0] 3)).alloc (.cells #[.int .i64 0, .int .i64 1, .int .i64 0, .int .i64 2, .int .i64 0, .int .i64 3, .int .i64 1, .int .i64 2, .int .i64 1, .int .i64 3, .int .i64 2, .int .i64 3] 45)).heap[w.heap.size]? = some (.cells #[.int .i64 0, .slice none 0 0] 26 (0, 0)) ∧ True) := ⟨by rw [Below.heap_alloc _ _ _ (by rw [sizeN]; omega)]; exact slotN.1, trivial⟩
    have HN := World.alloc_heap_new ((w.alloc (.cells #[.int .i64 0, .slice none 0 0] 26)).alloc (.cells #[.int .i64 0] 3)) (.cells #[.int .i64 0, .int .i64 1, .int .i64 0, .int .i64 2, .int .i64 0, .int .i64 3, .int .i64 1, .int .i64 2, .int .i64 1, .int .i64 3, .int .i64 2, .int .i64 3] 45)
    rw [World.size_alloc, World.size_alloc] at HN
    have HE : EdgesAt (((w.alloc (.cells #[.int .i64 0, .slice none 0 0] 26)).alloc (.cells #[.int .i64 0] 3)).alloc (.cells #[.int .i64 0, .int .i64 1, .int .i64 0, .int .i64 2, .int .i64 0, .int .i64 3, .int .i64 1, .int .i64 2, .int .i64 1, .int .i64 3, .int .i64 2, .int .i64 3] 45)) (.slice (some ⟨w.heap.size + 1 + 1, 0, none⟩) 6 6) K4n := by
      refine ⟨_, 6, rfl, by decide, fun _ => ⟨w.heap.size + 1 + 1, 0, rfl, by simp, fun i hi => ?_⟩⟩
      have hi6 : i < 6 := hi
      rcases (by omega : i = 0 ∨ i = 1 ∨ i = 2 ∨ i = 3 ∨ i = 4 ∨ i = 5) with rfl | rfl | rfl | rfl | rfl | rfl <;> exact ⟨by simp only [World.cell?, HN]; rfl, by simp only [World.cell?, HN]; rfl⟩
    have TH := hid (RGraphic_ok 4 _ K4n _ (by decide) (by decide) K4n_in HE)
    rw [k4_isl] at TH
    have TH2 : Hid (Calls Try.prog 21 #[.agg #[.int .i64 4, .slice (some ⟨w.heap.size + 1 + 1, 0, none⟩) 6 6]] (((w.alloc (.cells #[.int .i64 0, .slice none 0 0] 26)).alloc (.cells #[.int .i64 0] 3)).alloc (.cells #[.int .i64 0, .int .i64 1, .int .i64 0, .int .i64 2, .int .i64 0, .int .i64 3, .int .i64 1, .int .i64 2, .int .i64 1, .int .i64 3, .int .i64 2, .int .i64 3] 45)) fun e w' => ∃ r, e = .returned (.agg #[.int .i64 6, r]) ∧ Own (((w.alloc (.cells #[.int .i64 0, .slice none 0 0] 26)).alloc (.cells #[.int .i64 0] 3)).alloc (.cells #[.int .i64 0, .int .i64 1, .int .i64 0, .int .i64 2, .int .i64 0, .int .i64 3, .int .i64 1, .int .i64 2, .int .i64 1, .int .i64 3, .int .i64 2, .int .i64 3] 45)).heap.size w' r k4L ∧ Below (((w.alloc (.cells #[.int .i64 0, .slice none 0 0] 26)).alloc (.cells #[.int .i64 0] 3)).alloc (.cells #[.int .i64 0, .int .i64 1, .int .i64 0, .int .i64 2, .int .i64 0, .int .i64 3, .int .i64 1, .int .i64 2, .int .i64 1, .int .i64 3, .int .i64 2, .int .i64 3] 45)).heap.size (((w.alloc (.cells #[.int .i64 0, .slice none 0 0] 26)).alloc (.cells #[.int .i64 0] 3)).alloc (.cells #[.int .i64 0, .int .i64 1, .int .i64 0, .int .i64 2, .int .i64 0, .int .i64 3, .int .i64 1, .int .i64 2, .int .i64 1, .int .i64 3, .int .i64 2, .int .i64 3] 45)) w') := TH.out
    clear TH HN HE
    generalize k4L = acc at *
    unfold bK4
    go_enter Try.func7, Try.ntmps7
    go_wp2_with fail
    refine TH2.out.mono ?_
    rintro e w4 ⟨r4, rfl, hr4, hb4⟩
    obtain ⟨ra, rc, hr⟩ := ownsRow_form' hr4
    subst hr
    have hxx := (hb4.block _ (by simp; omega)).trans HX.out.1
    obtain ⟨y2, y3, g2, g3⟩ := two_cells hxx
    have NE := hid (nam_end (n := 6) (HB0.out.trans (hb4.mono HB0.out.size)) hxx (hr4.mono (by simp)))
    clear hb4 hr4 hxx
    go_wp2_with fail
    obtain ⟨⟨c0, c1⟩, hO, hD⟩ := NE.out
    refine bodyPost_ret (v := .tuple #[.agg #[.int .i64 6, .slice ra _ rc], .bool true]) ?_ rfl ⟨fun _ => ⟨_, rfl, hO, hD⟩, fun e => absurd rfl e⟩
    simp [results, Try.f7, go_sem, c0, c1]
  by_cases h4 : s = bVam
  · subst h4
    unfold Names
    rw [show namE bVam = 0 from rfl, show namN bVam = 8 from rfl, show namL bVam = butL 8 4 [15, 51, 60, 195, 204] from rfl]
    have HB0 := hid (belowN w 0)
    have HX := hid (slotN (w := w) (k := 0))
    have TH := hid (Those_any 8 22 #[] (fun s => pop s == 4 && !memB s vamL) ((w.alloc (.cells #[.int .i64 0, .slice none 0 0] 26)).alloc (.cells #[.int .i64 0] 3)) (by decide) (fun args w => enters_of Try.func22 (by kernel_rfl) rfl args w)
      (fun x hx w3 hb3 hs3 => vamQ_ok x w3 hx))
    rw [vam_same] at TH
    generalize butL 8 4 [15, 51, 60, 195, 204] = acc at *
    unfold bVam
    go_enter Try.func7, Try.ntmps7
    go_wp2_with fail
    refine TH.out.mono ?_
    rintro e w4 ⟨r4, rfl, hr4, hb4⟩
    obtain ⟨ra, rc, hr⟩ := ownsRow_form' hr4
    subst hr
    have hxx := (hb4.block _ (by simp; omega)).trans HX.out.1
    obtain ⟨y2, y3, g2, g3⟩ := two_cells hxx
    have NE := hid (nam_end (n := 8) (HB0.out.trans (hb4.mono HB0.out.size)) hxx (hr4.mono (by simp)))
    clear hb4 hr4 hxx
    go_wp2_with fail
    obtain ⟨⟨c0, c1⟩, hO, hD⟩ := NE.out
    refine bodyPost_ret (v := .tuple #[.agg #[.int .i64 8, .slice ra _ rc], .bool true]) ?_ rfl ⟨fun _ => ⟨_, rfl, hO, hD⟩, fun e => absurd rfl e⟩
    simp [results, Try.f7, go_sem, c0, c1]
  have q1 : Hid (namE s = 6) := by show _ = _; unfold namE; rw [if_neg (by simp [h1, h2, h3, h4])]
  have e1 : (s == [102, 97, 110, 111]) = false := by rw [beq_eq_false_iff_ne]; exact h1
  have e2 : (s == [110, 111, 110, 102, 97, 110, 111]) = false := by rw [beq_eq_false_iff_ne]; exact h2
  have e3 : (s == [107, 52]) = false := by rw [beq_eq_false_iff_ne]; exact h3
  have e4 : (s == [118, 97, 109, 111, 115]) = false := by rw [beq_eq_false_iff_ne]; exact h4
  have HB0 := hid (belowN w 0)
  have HX := hid (slotN (w := w) (k := 0))
  obtain ⟨y2, y3, g2, g3⟩ := two_cells HX.out.1
  clear h1 h2 h3 h4
  go_enter Try.func7, Try.ntmps7
  go_wp2_with fail
  refine bodyPost_ret (v := .tuple #[.agg #[.int .i64 0, .slice none 0 0], .bool false]) ?_ rfl ⟨fun e => absurd (q1.out.symm.trans e) (by decide), fun _ => ⟨rfl, HB0.out⟩⟩
  simp [results, Try.f7, go_sem, y2, y3]
end Go.Proofs.Ytkeeihjcjkndbaa
