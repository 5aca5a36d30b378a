/- What package minors answers, whatever is handed in, in one form. -/
import Derived.Test.YthbldeloocmakabGreatQBelW
import Derived.Test.YthbldeloocmakabGreatTruncW
import Derived.Test.YthbldeloocmakabGreatRelax2Q
import Derived.Test.YthbldeloocmakabGreatFreeQ
import Derived.Test.YthbldeloocmakabGreatPlainAll
import Derived.Test.YthbldeloocmakabGreatPlainInsQ
namespace Go.Proofs.YthbldeloocmakabGreat
open Go.RowKit

set_option maxHeartbeats 1600000 in
theorem Sum_bad (n k : Int) (v u : Value) (zs ys : List Int) (w : World) (h : Ints w v zs) (h' : Ints w u ys) (hc : chk2 n zs k ys ≠ 0) :
    Calls Tryz.prog 17 #[.agg #[.int .i64 n, v], .agg #[.int .i64 k, u]] w (BadU w (chk2 n zs k ys)) := by
  have HI := hid h
  have HI' := hid h'
  obtain ⟨a, cap, rfl, -, -⟩ := h
  obtain ⟨a', cap', rfl, -, -⟩ := h'
  have HB0 := hid (box3_below w n (.slice a zs.length cap) k (.slice a' ys.length cap'))
  have HX : Hid (∀ w2, Below (box3 w n (.slice a zs.length cap) k (.slice a' ys.length cap')).heap.size (box3 w n (.slice a zs.length cap) k (.slice a' ys.length cap')) w2 → _) := fun w2 h => box3_blocks h
  have HSZ := hid (box3_size w n (.slice a zs.length cap) k (.slice a' ys.length cap'))
  have R1 := hid (both_bad n k _ _ zs ys _ (HI.out.below HB0.out) (HI'.out.below HB0.out) hc)
  generalize chk2 n zs k ys = q at *
  have hc' : (q == 0) = false := by rw [beq_eq_false_iff_ne]; exact hc
  go_enter Tryz.func17, Tryz.ntmps17
  go_wp2_with fail
  refine R1.out.mono ?_
  rintro e w1 ⟨rfl, hb1⟩
  obtain ⟨hx0, hx1, hx2⟩ := HX.out w1 hb1
  have HB1 := hid (HB0.out.trans (hb1.mono HB0.out.size))
  have hsz1 : w.heap.size + 3 ≤ w1.heap.size := by have := hb1.size; have := HSZ.out; omega
  have hbb := boxes_below w1 (.slice none 0 0) (.slice none 0 0)
  have hxx := (hbb.block (w.heap.size + 1 + 1) (by omega)).trans hx2
  have HW := hid (HB1.out.trans (hbb.mono HB1.out.size))
  obtain ⟨y2, y3, g2, g3⟩ := two_cells hxx
  have HC := hid (set_two (x := .int .i64 0) (y := .slice none 0 0) hxx)
  have HD := hid (below_two (b := w.heap.size + 1 + 1) (x := .int .i64 0) (y := .slice none 0 0) HW.out (by omega))
  clear hb1 HX HSZ R1 hx0 hx1 hbb hxx hx2
  go_wp2_with fail
  obtain ⟨c0, c1⟩ := HC.out
  refine bodyPost_ret (v := .tuple #[.agg #[.int .i64 0, .slice none 0 0], .int .i64 q]) ?_ rfl ⟨rfl, HD.out⟩
  simp [results, Tryz.f17, go_sem, c0, c1]

set_option maxHeartbeats 800000 in
theorem Simple_bad (n : Int) (v : Value) (zs : List Int) (w : World) (h : Ints w v zs) (hc : chkR n zs ≠ 0) :
    Calls Tryz.prog 22 #[.agg #[.int .i64 n, v]] w (BadM w (chkR n zs)) := by
  have HI := hid h
  obtain ⟨a, cap, rfl, _, _⟩ := h
  have HB0 := hid (boxM_below w n (.slice a zs.length cap))
  have HRK := hid (Ranks_bad n _ zs _ (HI.out.below HB0.out) hc)
  have HX : Hid (∀ w2, Below (boxM w n (.slice a zs.length cap)).heap.size (boxM w n (.slice a zs.length cap)) w2 → _) := fun w2 h => boxM_blocks h
  have HSZ := hid (boxM_size w n (.slice a zs.length cap))
  generalize chkR n zs = q at *
  have hc' : (q == 0) = false := by rw [beq_eq_false_iff_ne]; exact hc
  go_enter Tryz.func22, Tryz.ntmps22
  go_wp2_with fail
  refine HRK.out.mono ?_
  rintro e w1 ⟨rfl, hb1⟩
  obtain ⟨hx0, hx2⟩ := HX.out w1 hb1
  obtain ⟨x00, _, _, _⟩ := two_cells hx0
  have z0 := fun o => cellA (W := w1) o x00
  have hsz1 : w.heap.size + 2 ≤ w1.heap.size := by have := hb1.size; have := HSZ.out; omega
  have hx3 := hx2
  have HB1 : Hid (Below w.heap.size w w1) := HB0.out.trans (hb1.mono HB0.out.size)
  have HC := hid (set_two (x := .int .i64 0) (y := .slice none 0 0) hx3)
  have HD := hid (below_two (b := w.heap.size + 1) (x := .int .i64 0) (y := .slice none 0 0) HB1.out (by omega))
  obtain ⟨y2, y3, g2, g3⟩ := two_cells hx3
  clear hb1 hx0 hx2 hx3 x00
  go_wp2_with fail
  obtain ⟨c0, c1⟩ := HC.out
  refine bodyPost_ret (v := .tuple #[.agg #[.int .i64 0, .slice none 0 0], .int .i64 q]) ?_ rfl ⟨rfl, HD.out⟩
  simp [results, Tryz.f22, go_sem, c0, c1]
theorem ResJ_bad {w : World} {q n : Int} {l : List Nat} {f : Nat} {args : Array Value} (h : Calls Tryz.prog f args w fun e w' => e = .returned (.tuple #[.agg #[.int .i64 0, .slice none 0 0], .int .i64 q]) ∧ Below w.heap.size w w') (hq : q ≠ 0) : Calls Tryz.prog f args w (ResJ w q n l) := by
  refine h.mono ?_
  rintro e w' ⟨rfl, hb⟩
  exact ⟨0, none, 0, 0, rfl, .inr ⟨hq, rfl, rfl⟩, hb⟩
theorem ResJ_ok {w : World} {n : Int} {l : List Nat} {f : Nat} {args : Array Value} (h : Calls Tryz.prog f args w (GivesO w n l)) : Calls Tryz.prog f args w (ResJ w 0 n l) := by
  refine h.mono ?_
  rintro e w' ⟨r, rfl, ho, hb⟩
  obtain ⟨a, c, rfl⟩ := ownsRow_form' ho
  exact ⟨n, a, _, c, rfl, .inl ⟨rfl, rfl, ho⟩, hb⟩
theorem setR_twoK (m : Nat) (s : Int) : setR m s = 1 ∨ (setR m s = 0 ∧ ∃ k : Nat, s = k ∧ k < 2 ^ m) := by
  unfold setR
  split
  · rename_i h
    obtain ⟨_, _, h3, h4⟩ := h
    refine .inr ⟨rfl, s.toNat, by omega, ?_⟩
    rw [Int.toNat_natCast] at h4
    have e : ((2 ^ m : Nat) : Int) = (2 : Int) ^ m := by simp
    omega
  · exact .inl rfl
/-- Sum. -/
theorem sum_is (n k : Int) (zs ys : List Int) (hE : chkR n zs = 0) : ∃ (q N0 : Int) (L : List Nat), L.length ≤ 256 ∧
    (∀ v u w, Ints w v zs → Ints w u ys → Calls Tryz.prog 17 #[.agg #[.int .i64 n, v], .agg #[.int .i64 k, u]] w (ResJ w q N0 L)) ∧
    (chkR k ys ≠ 0 → q = chkR k ys) ∧ (chkR k ys = 0 → ∃ (m j : Nat) (l l' : List Nat), n = m ∧ k = j ∧ m ≤ 8 ∧ j ≤ 8 ∧ zs = N l ∧ ys = N l' ∧ Fam m l ∧ Bas l ∧ Fam j l' ∧ Bas l' ∧ ((8 < m + j ∧ q = 2) ∨ (m + j ≤ 8 ∧ q = 0 ∧ N0 = ((m + j : Nat) : Int) ∧ L = sumL m l j l'))) := by
  by_cases hK : chkR k ys = 0
  · obtain ⟨m, l, rfl, hm, rfl, hf, hb⟩ := chk_of hE
    obtain ⟨j, l', rfl, hj, rfl, hf', hb'⟩ := chk_of hK
    by_cases hmj : m + j ≤ 8
    · exact ⟨0, ((m + j : Nat) : Int), sumL m l j l', fam_len hmj (sum_fam m l j l'), fun v u w h h' => ResJ_ok (Sum_ok m j v u l l' w hmj hf hb h hf' hb' h'), fun h => absurd hK h, fun _ => ⟨m, j, l, l', rfl, rfl, hm, hj, rfl, rfl, hf, hb, hf', hb', .inr ⟨hmj, rfl, rfl, rfl⟩⟩⟩
    · exact ⟨2, 0, [], by decide, fun v u w h h' => ResJ_bad (Sum_large m j v u l l' w hm hj (by omega) hf hb h hf' hb' h') (by decide), fun h => absurd hK h, fun _ => ⟨m, j, l, l', rfl, rfl, hm, hj, rfl, rfl, hf, hb, hf', hb', .inl ⟨by omega, rfl⟩⟩⟩
  · have e : chk2 n zs k ys = chkR k ys := by unfold chk2; rw [if_pos hE]
    refine ⟨chkR k ys, 0, [], by decide, fun v u w h h' => ?_, fun _ => rfl, fun h => absurd h hK⟩
    have h1 := Sum_bad n k v u zs ys w h h' (by rw [e]; exact hK)
    rw [e] at h1
    exact ResJ_bad h1 hK
/-- Free, Relax, Classes, Components, Simple of a matroid. -/
theorem mins_is (n s : Int) (zs : List Int) (hE : chkR n zs = 0) : ∃ (qG qH ND : Int) (LB LC LX LY LD : List Nat) (m : Nat) (l : List Nat), (n = m ∧ m ≤ 8 ∧ zs = N l ∧ Fam m l ∧ Bas l) ∧ (LB.length ≤ 256 ∧ LC.length ≤ 256 ∧ LX.length ≤ 256 ∧ LY.length ≤ 256 ∧ LD.length ≤ 256) ∧
    (∀ v w, Ints w v zs → Calls Tryz.prog 18 #[.agg #[.int .i64 n, v]] w (ResJ w qG ((m + 1 : Nat) : Int) LB)) ∧
    (∀ v w, Ints w v zs → (∀ a L c, v = .slice a L c → L ≤ c) → Calls Tryz.prog 19 #[.agg #[.int .i64 n, v], .int .i64 s] w (ResJ w qH n LC)) ∧
    (∀ v w, Ints w v zs → Calls Tryz.prog 20 #[.agg #[.int .i64 n, v]] w (ResL w 0 LX)) ∧
    (∀ v w, Ints w v zs → Calls Tryz.prog 21 #[.agg #[.int .i64 n, v]] w (ResL w 0 LY)) ∧
    (∀ v w, Ints w v zs → Calls Tryz.prog 22 #[.agg #[.int .i64 n, v]] w (ResJ w 0 ND LD)) ∧
    ((m < 8 ∧ qG = 0 ∧ LB = feL m l) ∨ (m = 8 ∧ qG = 2)) ∧
    ((setR m s = 1 ∧ qH = 1) ∨ (setR m s = 0 ∧ ∃ t : Nat, s = t ∧ t < 2 ^ m ∧ (((cirB (rk l) t && hypB (rk l) m t) = false ∧ qH = 3) ∨ ((cirB (rk l) t && hypB (rk l) m t) = true ∧ qH = 0 ∧ LC = insL l t)))) ∧
    LX = eqL m (pcl (rk l) m) ∧ LY = eqL m (cls (cirL m l) m) ∧ ND = (pop (dif (2 ^ m - 1) (goneP (rk l) (eqL m (pcl (rk l) m)))) : Nat) ∧ LD = minL m l (goneP (rk l) (eqL m (pcl (rk l) m))) 0 := by
  obtain ⟨m, l, rfl, hm, rfl, hf, hb⟩ := chk_of hE
  have FR : ∃ (qG : Int) (LB : List Nat), LB.length ≤ 256 ∧ (∀ v w, Ints w v (N l) → Calls Tryz.prog 18 #[.agg #[.int .i64 m, v]] w (ResJ w qG ((m + 1 : Nat) : Int) LB)) ∧ ((m < 8 ∧ qG = 0 ∧ LB = feL m l) ∨ (m = 8 ∧ qG = 2)) := by
    by_cases h8 : m < 8
    · exact ⟨0, feL m l, fam_len (n := m + 1) (by omega) (basR_fam _ _), fun v w h => ResJ_ok (Free_ok m v l w h8 hf hb h), .inl ⟨h8, rfl, rfl⟩⟩
    · obtain rfl : m = 8 := by omega
      exact ⟨2, [], by decide, fun v w h => ResJ_bad (Free_large v l w hf hb h) (by decide), .inr ⟨rfl, rfl⟩⟩
  have RE : ∃ (qH : Int) (LC : List Nat), LC.length ≤ 256 ∧ (∀ v w, Ints w v (N l) → (∀ a L c, v = .slice a L c → L ≤ c) → Calls Tryz.prog 19 #[.agg #[.int .i64 m, v], .int .i64 s] w (ResJ w qH m LC)) ∧ ((setR m s = 1 ∧ qH = 1) ∨ (setR m s = 0 ∧ ∃ t : Nat, s = t ∧ t < 2 ^ m ∧ (((cirB (rk l) t && hypB (rk l) m t) = false ∧ qH = 3) ∨ ((cirB (rk l) t && hypB (rk l) m t) = true ∧ qH = 0 ∧ LC = insL l t)))) := by
    rcases setR_twoK m s with hs | ⟨hs, t, rfl, ht⟩
    · exact ⟨1, [], by decide, fun v w h _ => ResJ_bad (Relax_arg m s v l w hm hf hb h hs) (by decide), .inl ⟨hs, rfl⟩⟩
    · cases hc : (cirB (rk l) t && hypB (rk l) m t)
      · exact ⟨3, [], by decide, fun v w h _ => ResJ_bad (Relax_shape m t v l w hm hf hb h ht hc) (by decide), .inr ⟨hs, t, rfl, ht, .inl ⟨hc, rfl⟩⟩⟩
      · have hc2 := Bool.and_eq_true_iff.1 hc
        exact ⟨0, insL l t, fam_len hm (ins_bas hm hf hb ht hc2.1 hc2.2).1, fun v w h hcp => ResJ_ok (Relax_ok m t v l w hm hf hb h hcp ht hc2.1 hc2.2), .inr ⟨hs, t, rfl, ht, .inr ⟨hc, rfl, rfl⟩⟩⟩
  obtain ⟨qG, LB, hB, hB1, hB2⟩ := FR
  obtain ⟨qH, LC, hC, hC1, hC2⟩ := RE
  refine ⟨qG, qH, _, LB, LC, _, _, _, m, l, ⟨rfl, hm, rfl, hf, hb⟩, ⟨hB, hC, ?_, ?_, ?_⟩, hB1, hC1, fun v w h => ?_, fun v w h => ?_, fun v w h => ?_, hB2, hC2, rfl, rfl, rfl, rfl⟩
  · exact fam_len hm (eq_fam m _)
  · exact fam_len hm (eq_fam m _)
  · exact fam_len (n := pop (dif (2 ^ m - 1) (goneP (rk l) (eqL m (pcl (rk l) m))))) (kept_le hm _) (min_fam m l _ 0)
  · refine (Classes_ok m v l w hm hf hb h).mono ?_
    rintro e w' ⟨r, L, rfl, hL, ho, hb2⟩
    obtain rfl := clsS_eq hm hb.rk hL
    obtain ⟨a, c, rfl⟩ := ownsRow_form' ho
    exact ⟨a, _, c, rfl, .inr ⟨rfl, ho⟩, hb2⟩
  · refine (Components_ok m v l w hm hf hb h).mono ?_
    rintro e w' ⟨r, L, rfl, hL, ho, hb2⟩
    obtain rfl := comps_eq hm hb hL
    obtain ⟨a, c, rfl⟩ := ownsRow_form' ho
    exact ⟨a, _, c, rfl, .inr ⟨rfl, ho⟩, hb2⟩
  · refine ResJ_ok ((Simple_ok m v l w hm hf hb h).mono ?_)
    rintro e w' ⟨L, hL, hG⟩
    obtain rfl := clsS_eq hm hb.rk hL
    exact hG
theorem mk_is (n k s : Int) (zs ys : List Int) : ∃ (qF qG qH NA NB ND : Int) (LA LB LC LX LY LD : List Nat), (LA.length ≤ 256 ∧ LB.length ≤ 256 ∧ LC.length ≤ 256 ∧ LX.length ≤ 256 ∧ LY.length ≤ 256 ∧ LD.length ≤ 256) ∧
    (∀ v u w, Ints w v zs → Ints w u ys → Calls Tryz.prog 17 #[.agg #[.int .i64 n, v], .agg #[.int .i64 k, u]] w (ResJ w qF NA LA)) ∧
    (∀ v w, Ints w v zs → Calls Tryz.prog 18 #[.agg #[.int .i64 n, v]] w (ResJ w qG NB LB)) ∧
    (∀ v w, Ints w v zs → (∀ a L c, v = .slice a L c → L ≤ c) → Calls Tryz.prog 19 #[.agg #[.int .i64 n, v], .int .i64 s] w (ResJ w qH n LC)) ∧
    (∀ v w, Ints w v zs → Calls Tryz.prog 20 #[.agg #[.int .i64 n, v]] w (ResL w (chkR n zs) LX)) ∧
    (∀ v w, Ints w v zs → Calls Tryz.prog 21 #[.agg #[.int .i64 n, v]] w (ResL w (chkR n zs) LY)) ∧
    (∀ v w, Ints w v zs → Calls Tryz.prog 22 #[.agg #[.int .i64 n, v]] w (ResJ w (chkR n zs) ND LD)) ∧
    (chkR n zs ≠ 0 → qF = chkR n zs ∧ qG = chkR n zs ∧ qH = chkR n zs) ∧
    (chkR n zs = 0 → (chkR k ys ≠ 0 → qF = chkR k ys) ∧ (chkR k ys = 0 → ∃ (m j : Nat) (l l' : List Nat), n = m ∧ k = j ∧ m ≤ 8 ∧ j ≤ 8 ∧ zs = N l ∧ ys = N l' ∧ Fam m l ∧ Bas l ∧ Fam j l' ∧ Bas l' ∧ ((8 < m + j ∧ qF = 2) ∨ (m + j ≤ 8 ∧ qF = 0 ∧ NA = ((m + j : Nat) : Int) ∧ LA = sumL m l j l')))) ∧
    (chkR n zs = 0 → ∃ (m : Nat) (l : List Nat), (n = m ∧ m ≤ 8 ∧ zs = N l ∧ Fam m l ∧ Bas l) ∧ ((m < 8 ∧ qG = 0 ∧ NB = ((m + 1 : Nat) : Int) ∧ LB = feL m l) ∨ (m = 8 ∧ qG = 2)) ∧
      ((setR m s = 1 ∧ qH = 1) ∨ (setR m s = 0 ∧ ∃ t : Nat, s = t ∧ t < 2 ^ m ∧ (((cirB (rk l) t && hypB (rk l) m t) = false ∧ qH = 3) ∨ ((cirB (rk l) t && hypB (rk l) m t) = true ∧ qH = 0 ∧ LC = insL l t)))) ∧
      LX = eqL m (pcl (rk l) m) ∧ LY = eqL m (cls (cirL m l) m) ∧ ND = (pop (dif (2 ^ m - 1) (goneP (rk l) (eqL m (pcl (rk l) m)))) : Nat) ∧ LD = minL m l (goneP (rk l) (eqL m (pcl (rk l) m))) 0) := by
  by_cases hE : chkR n zs = 0
  · obtain ⟨qF, NA, LA, a1, a2, a3, a4⟩ := sum_is n k zs ys hE
    obtain ⟨qG, qH, ND, LB, LC, LX, LY, LD, m, l, b0, ⟨b1, b2, b3, b4, b5⟩, c1, c2, c3, c4, c5, d1, d2, d3, d4, d5, d6⟩ := mins_is n s zs hE
    refine ⟨qF, qG, qH, NA, ((m + 1 : Nat) : Int), ND, LA, LB, LC, LX, LY, LD, ⟨a1, b1, b2, b3, b4, b5⟩, a2, c1, c2, by rw [hE]; exact c3, by rw [hE]; exact c4, by rw [hE]; exact c5, fun h => absurd hE h, fun _ => ⟨a3, a4⟩, fun _ => ⟨m, l, b0, d1.imp (fun ⟨x, y, z⟩ => ⟨x, y, rfl, z⟩) id, d2, d3, d4, d5, d6⟩⟩
  · have e : chk2 n zs k ys = chkR n zs := by unfold chk2; rw [if_neg hE]
    refine ⟨chkR n zs, chkR n zs, chkR n zs, 0, 0, 0, [], [], [], [], [], [], ⟨by decide, by decide, by decide, by decide, by decide, by decide⟩, fun v u w h h' => ?_, fun v w h => ResJ_bad (Free_bad n v zs w h hE) hE, fun v w h _ => ResJ_bad (Relax_bad n s v zs w h hE) hE, fun v w h => ?_, fun v w h => ?_, fun v w h => ResJ_bad (Simple_bad n v zs w h hE) hE, fun _ => ⟨rfl, rfl, rfl⟩, fun h => absurd h hE, fun h => absurd h hE⟩
    · have h1 := Sum_bad n k v u zs ys w h h' (by rw [e]; exact hE)
      rw [e] at h1
      exact ResJ_bad h1 hE
    · refine (Classes_bad n v zs w h hE).mono ?_
      rintro e w' ⟨rfl, hb2⟩
      exact ⟨none, 0, 0, rfl, .inl ⟨hE, rfl⟩, hb2⟩
    · refine (Components_bad n v zs w h hE).mono ?_
      rintro e w' ⟨rfl, hb2⟩
      exact ⟨none, 0, 0, rfl, .inl ⟨hE, rfl⟩, hb2⟩
end Go.Proofs.YthbldeloocmakabGreat
