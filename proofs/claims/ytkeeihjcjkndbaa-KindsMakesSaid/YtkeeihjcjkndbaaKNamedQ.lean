/- kinds.Named. -/
import Derived.Test.YtkeeihjcjkndbaaKNamQ
import Derived.Test.YtkeeihjcjkndbaaKGraph2Q
namespace Go.Proofs.Ytkeeihjcjkndbaa
open Go.RowKit

def K4 : List (Int × Int) := [(0, 1), (0, 2), (0, 3), (1, 2), (1, 3), (2, 3)]
def bFano : List UInt8 := [102, 97, 110, 111]
def bNon : List UInt8 := [110, 111, 110, 102, 97, 110, 111]
def bK4 : List UInt8 := [107, 52]
def bVam : List UInt8 := [118, 97, 109, 111, 115]
/-- What is wrong with a name; the number of elements; the bases. -/
def namE (s : List UInt8) : Int := if s = bFano ∨ s = bNon ∨ s = bK4 ∨ s = bVam then 0 else 6
def namN (s : List UInt8) : Nat := if s = bFano ∨ s = bNon then 7 else if s = bK4 then 6 else 8
def k4L : List Nat := bigL 6 fun s => !ringB (natE K4) s
def namL (s : List UInt8) : List Nat := if s = bFano then butL 7 3 (fanoL 7) else if s = bNon then butL 7 3 (fanoL 6) else if s = bK4 then k4L else butL 8 4 [15, 51, 60, 195, 204]
theorem four_any (w : World) : Calls Try.prog 36 #[] w fun e w' => ∃ v, e = .returned (.agg #[.int .i64 4, v]) ∧ EdgesI w' v K4 ∧ Below w.heap.size w w' := by
  have HB : Hid (Below w.heap.size w ((w.alloc (.cells #[.int .i64 4, .slice (some ⟨w.heap.size + 1, 0, none⟩) 6 6] 48)).alloc (.cells #[.int .i64 0, .int .i64 1, .int .i64 0, .int .i64 2, .int .i64 0, .int .i64 3, .int .i64 1, .int .i64 2, .int .i64 1, .int .i64 3, .int .i64 2, .int .i64 3] 45))) := ((Below.refl _ _).alloc (Nat.le_refl _) _).alloc (by simp) _
  have HN := World.alloc_heap_new (w.alloc (.cells #[.int .i64 4, .slice (some ⟨w.heap.size + 1, 0, none⟩) 6 6] 48)) (.cells #[.int .i64 0, .int .i64 1, .int .i64 0, .int .i64 2, .int .i64 0, .int .i64 3, .int .i64 1, .int .i64 2, .int .i64 1, .int .i64 3, .int .i64 2, .int .i64 3] 45)
  rw [World.size_alloc] at HN
  have HE : Hid (EdgesI ((w.alloc (.cells #[.int .i64 4, .slice (some ⟨w.heap.size + 1, 0, none⟩) 6 6] 48)).alloc (.cells #[.int .i64 0, .int .i64 1, .int .i64 0, .int .i64 2, .int .i64 0, .int .i64 3, .int .i64 1, .int .i64 2, .int .i64 1, .int .i64 3, .int .i64 2, .int .i64 3] 45)) (.slice (some ⟨w.heap.size + 1, 0, none⟩) 6 6) K4) := by
    refine ⟨_, 6, rfl, by decide, fun _ => ⟨w.heap.size + 1, 0, rfl, by simp, fun i hi => ?_⟩⟩
    have hi6 : i < 6 := hi
    rcases (by omega : i = 0 ∨ i = 1 ∨ i = 2 ∨ i = 3 ∨ i = 4 ∨ i = 5) with rfl | rfl | rfl | rfl | rfl | rfl <;> exact ⟨by simp only [World.cell?, HN]; rfl, by simp only [World.cell?, HN]; rfl⟩
  clear HN
  have HG : ((w.alloc (.cells #[.int .i64 4, .slice (some ⟨w.heap.size + 1, 0, none⟩) 6 6] 48)).alloc (.cells #[.int .i64 0, .int .i64 1, .int .i64 0, .int .i64 2, .int .i64 0, .int .i64 3, .int .i64 1, .int .i64 2, .int .i64 1, .int .i64 3, .int .i64 2, .int .i64 3] 45)).heap[w.heap.size]? = some (.cells #[.int .i64 4, .slice (some ⟨w.heap.size + 1, 0, none⟩) 6 6] 48 (0, 0)) := by
    rw [Below.heap_alloc _ _ _ (by simp)]
    exact World.alloc_heap_new w _
  have HCC := hid (two_cells HG)
  clear HG
  go_enter Try.func36, Try.ntmps36
  go_wp2_with fail
  refine bodyPost_ret (v := .agg #[.int .i64 4, .slice (some ⟨w.heap.size + 1, 0, none⟩) 6 6]) ?_ rfl ⟨_, rfl, HE.out, HB.out⟩
  obtain ⟨c0, c1, _, _⟩ := HCC.out
  simp [results, Try.f36, go_sem, c0, c1]
theorem k4_ok : graphR 4 K4 = 0 := by decide
theorem nam_end {w w4 : World} {n : Int} {acc : List Nat} {ra : Option Addr} {rc : Nat} (hB : Below w.heap.size w w4) (hxx : w4.heap[w.heap.size]? = some (.cells #[.int .i64 0, .slice none 0 0] 26 (0, 0))) (ho : Own (w.heap.size + 1) w4 (.slice ra acc.length rc) acc) :
    (((w4.setCell ⟨w.heap.size, 0, none⟩ (.int .i64 n)).setCell ⟨w.heap.size, 1, none⟩ (.slice ra acc.length rc)).cell? ⟨w.heap.size, 0, none⟩ = some (.int .i64 n) ∧ ((w4.setCell ⟨w.heap.size, 0, none⟩ (.int .i64 n)).setCell ⟨w.heap.size, 1, none⟩ (.slice ra acc.length rc)).cell? ⟨w.heap.size, 1, none⟩ = some (.slice ra acc.length rc)) ∧
    Own w.heap.size ((w4.setCell ⟨w.heap.size, 0, none⟩ (.int .i64 n)).setCell ⟨w.heap.size, 1, none⟩ (.slice ra acc.length rc)) (.slice ra acc.length rc) acc ∧ Below w.heap.size w ((w4.setCell ⟨w.heap.size, 0, none⟩ (.int .i64 n)).setCell ⟨w.heap.size, 1, none⟩ (.slice ra acc.length rc)) :=
  ⟨set_two hxx, (ho.set2 (b := w.heap.size) (by omega)).mono (by omega), below_two hB (Nat.le_refl _)⟩
set_option maxRecDepth 20000 in
set_option maxHeartbeats 1600000 in
theorem Named_any (s : List UInt8) (w : World) :
    Calls Try.prog 10 #[.string ⟨s.toArray⟩] w (Makes w (namE s) (namN s : Nat) (namL s)) := by
  have HB0 := hid (below_boxR w #[.int .i64 0, .slice none 0 0])
  have HSZ : Hid ((w.alloc (.cells #[.int .i64 0, .slice none 0 0] 26)).heap.size = w.heap.size + 1) := by show _ = _; simp
  have HX0 := hid (World.alloc_heap_new w (.cells #[.int .i64 0, .slice none 0 0] 26))
  by_cases h1 : s = bFano
  · subst h1
    have q1 : namE bFano = 0 := rfl
    have q2 : namN bFano = 7 := rfl
    have q3 : namL bFano = butL 7 3 (fanoL 7) := rfl
    have FA := hid (fano_any 7 (w.alloc (.cells #[.int .i64 0, .slice none 0 0] 26)) (by decide))
    rw [q1, q2, q3]
    clear q1 q2 q3
    unfold bFano
    go_enter Try.func10, Try.ntmps10
    go_wp2_with fail
    refine FA.out.mono ?_
    rintro e w2 ⟨r2, rfl, ho2, hb2⟩
    have HI2 := hid (ho2.ints (by rw [fanoL_len]; decide))
    have HB2 := hid (HB0.out.trans (hb2.mono HB0.out.size))
    have HX2 := hid ((hb2.block _ (by have := HSZ.out; omega)).trans HX0.out)
    have hs2 : w.heap.size + 1 ≤ w2.heap.size := by have := hb2.size; have := HSZ.out; omega
    obtain ⟨a2, c2, hr2⟩ := ownsRow_form' ho2
    subst hr2
    clear ho2 hb2
    have AB := hid (allBut_any 7 3 _ (fanoL 7) w2 (by decide) HI2.out)
    generalize butL 7 3 (fanoL 7) = acc at *
    go_wp2_with fail
    refine AB.out.mono ?_
    rintro e w4 ⟨r4, rfl, hr4, hb4⟩
    obtain ⟨ra, rc, hr⟩ := ownsRow_form' hr4
    subst hr
    have hxx := (hb4.block _ (by omega)).trans HX2.out
    obtain ⟨y2, y3, g2, g3⟩ := two_cells hxx
    have NE := hid (nam_end (n := 7) (HB2.out.trans (hb4.mono HB2.out.size)) hxx (hr4.mono hs2))
    clear hb4 hr4 hxx
    go_wp2_with fail
    obtain ⟨⟨c0, c1⟩, hO, hD⟩ := NE.out
    refine bodyPost_ret (v := .tuple #[.agg #[.int .i64 7, .slice ra _ rc], .int .i64 0]) ?_ rfl ⟨fun _ => ⟨_, rfl, hO, hD⟩, fun e => absurd rfl e⟩
    simp [results, Try.f10, go_sem, c0, c1]
  by_cases h2 : s = bNon
  · subst h2
    have q1 : namE bNon = 0 := rfl
    have q2 : namN bNon = 7 := rfl
    have q3 : namL bNon = butL 7 3 (fanoL 6) := rfl
    have FA := hid (fano_any 6 (w.alloc (.cells #[.int .i64 0, .slice none 0 0] 26)) (by decide))
    rw [q1, q2, q3]
    clear q1 q2 q3
    unfold bNon
    go_enter Try.func10, Try.ntmps10
    go_wp2_with fail
    refine FA.out.mono ?_
    rintro e w2 ⟨r2, rfl, ho2, hb2⟩
    have HI2 := hid (ho2.ints (by rw [fanoL_len]; decide))
    have HB2 := hid (HB0.out.trans (hb2.mono HB0.out.size))
    have HX2 := hid ((hb2.block _ (by have := HSZ.out; omega)).trans HX0.out)
    have hs2 : w.heap.size + 1 ≤ w2.heap.size := by have := hb2.size; have := HSZ.out; omega
    obtain ⟨a2, c2, hr2⟩ := ownsRow_form' ho2
    subst hr2
    clear ho2 hb2
    have AB := hid (allBut_any 7 3 _ (fanoL 6) w2 (by decide) HI2.out)
    generalize butL 7 3 (fanoL 6) = acc at *
    go_wp2_with fail
    refine AB.out.mono ?_
    rintro e w4 ⟨r4, rfl, hr4, hb4⟩
    obtain ⟨ra, rc, hr⟩ := ownsRow_form' hr4
    subst hr
    have hxx := (hb4.block _ (by omega)).trans HX2.out
    obtain ⟨y2, y3, g2, g3⟩ := two_cells hxx
    have NE := hid (nam_end (n := 7) (HB2.out.trans (hb4.mono HB2.out.size)) hxx (hr4.mono hs2))
    clear hb4 hr4 hxx
    go_wp2_with fail
    obtain ⟨⟨c0, c1⟩, hO, hD⟩ := NE.out
    refine bodyPost_ret (v := .tuple #[.agg #[.int .i64 7, .slice ra _ rc], .int .i64 0]) ?_ rfl ⟨fun _ => ⟨_, rfl, hO, hD⟩, fun e => absurd rfl e⟩
    simp [results, Try.f10, go_sem, c0, c1]
  by_cases h3 : s = bK4
  · subst h3
    have q1 : namE bK4 = 0 := rfl
    have q2 : namN bK4 = 6 := rfl
    have q3 : namL bK4 = k4L := rfl
    have FA := hid (four_any (w.alloc (.cells #[.int .i64 0, .slice none 0 0] 26)))
    rw [q1, q2, q3]
    clear q1 q2 q3
    unfold bK4
    go_enter Try.func10, Try.ntmps10
    go_wp2_with fail
    refine FA.out.mono ?_
    rintro e w2 ⟨r2, rfl, ho2, hb2⟩
    have HB2 := hid (HB0.out.trans (hb2.mono HB0.out.size))
    have HX2 := hid ((hb2.block _ (by have := HSZ.out; omega)).trans HX0.out)
    have hs2 : w.heap.size + 1 ≤ w2.heap.size := by have := hb2.size; have := HSZ.out; omega
    have AB := hid (Graphic_any 4 r2 K4 w2 ho2)
    rw [k4_ok] at AB
    have AB2 : Hid (Calls Try.prog 35 #[.agg #[.int .i64 4, r2]] w2 fun e w' => ∃ r, e = .returned (.tuple #[.agg #[.int .i64 6, r], .int .i64 0]) ∧ Own w2.heap.size w' r k4L ∧ Below w2.heap.size w2 w') := AB.out.mono fun e w' h => h.1 rfl
    obtain ⟨a2, c2, hr2, _, _⟩ := ho2
    subst hr2
    clear hb2 AB
    generalize k4L = acc at *
    go_wp2_with fail
    refine AB2.out.mono ?_
    rintro e w4 ⟨r4, rfl, hr4, hb4⟩
    obtain ⟨ra, rc, hr⟩ := ownsRow_form' hr4
    subst hr
    have hxx := (hb4.block _ (by omega)).trans HX2.out
    obtain ⟨y2, y3, g2, g3⟩ := two_cells hxx
    have NE := hid (nam_end (n := 6) (HB2.out.trans (hb4.mono HB2.out.size)) hxx (hr4.mono hs2))
    clear hb4 hr4 hxx
    go_wp2_with fail
    obtain ⟨⟨c0, c1⟩, hO, hD⟩ := NE.out
    refine bodyPost_ret (v := .tuple #[.agg #[.int .i64 6, .slice ra _ rc], .int .i64 0]) ?_ rfl ⟨fun _ => ⟨_, rfl, hO, hD⟩, fun e => absurd rfl e⟩
    simp [results, Try.f10, go_sem, c0, c1]
  by_cases h4 : s = bVam
  · subst h4
    have q1 : namE bVam = 0 := rfl
    have q2 : namN bVam = 8 := rfl
    have q3 : namL bVam = butL 8 4 [15, 51, 60, 195, 204] := rfl
    have FA := hid (vamos_any (w.alloc (.cells #[.int .i64 0, .slice none 0 0] 26)))
    rw [q1, q2, q3]
    clear q1 q2 q3
    unfold bVam
    go_enter Try.func10, Try.ntmps10
    go_wp2_with fail
    refine FA.out.mono ?_
    rintro e w2 ⟨r2, rfl, hi2, hb2⟩
    have HI2 := hid hi2
    have HB2 := hid (HB0.out.trans (hb2.mono HB0.out.size))
    have HX2 := hid ((hb2.block _ (by have := HSZ.out; omega)).trans HX0.out)
    have hs2 : w.heap.size + 1 ≤ w2.heap.size := by have := hb2.size; have := HSZ.out; omega
    obtain ⟨a2, c2, hr2, _, _⟩ := hi2.nats
    subst hr2
    clear hi2 hb2
    have AB := hid (allBut_any 8 4 _ [15, 51, 60, 195, 204] w2 (by decide) HI2.out)
    generalize butL 8 4 [15, 51, 60, 195, 204] = acc at *
    go_wp2_with fail
    refine AB.out.mono ?_
    rintro e w4 ⟨r4, rfl, hr4, hb4⟩
    obtain ⟨ra, rc, hr⟩ := ownsRow_form' hr4
    subst hr
    have hxx := (hb4.block _ (by omega)).trans HX2.out
    obtain ⟨y2, y3, g2, g3⟩ := two_cells hxx
    have NE := hid (nam_end (n := 8) (HB2.out.trans (hb4.mono HB2.out.size)) hxx (hr4.mono hs2))
    clear hb4 hr4 hxx
    go_wp2_with fail
    obtain ⟨⟨c0, c1⟩, hO, hD⟩ := NE.out
    refine bodyPost_ret (v := .tuple #[.agg #[.int .i64 8, .slice ra _ rc], .int .i64 0]) ?_ rfl ⟨fun _ => ⟨_, rfl, hO, hD⟩, fun e => absurd rfl e⟩
    simp [results, Try.f10, go_sem, c0, c1]
  have q1 : Hid (namE s = 6) := by show _ = _; unfold namE; rw [if_neg (by simp [h1, h2, h3, h4])]
  have e1 : (s == [102, 97, 110, 111]) = false := by rw [beq_eq_false_iff_ne]; exact h1
  have e2 : (s == [110, 111, 110, 102, 97, 110, 111]) = false := by rw [beq_eq_false_iff_ne]; exact h2
  have e3 : (s == [107, 52]) = false := by rw [beq_eq_false_iff_ne]; exact h3
  have e4 : (s == [118, 97, 109, 111, 115]) = false := by rw [beq_eq_false_iff_ne]; exact h4
  obtain ⟨y2, y3, g2, g3⟩ := two_cells HX0.out
  clear h1 h2 h3 h4
  go_enter Try.func10, Try.ntmps10
  go_wp2_with fail
  refine bodyPost_ret (v := .tuple #[.agg #[.int .i64 0, .slice none 0 0], .int .i64 6]) ?_ rfl ⟨fun e => absurd (q1.out.symm.trans e) (by decide), fun _ => ⟨by rw [q1.out], HB0.out⟩⟩
  simp [results, Try.f10, go_sem, y2, y3]
end Go.Proofs.Ytkeeihjcjkndbaa
