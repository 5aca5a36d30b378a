/- slices.ContainsFunc over lists of lists, as SameOrbit asks it. -/
import Derived.Test.YthlmnhcnpffjdaaOrbAQ
import Derived.Test.YthlmnhcnpffjdaaRefQ
namespace Go.Proofs.Ythlmnhcnpffjdaa
open Go.RowKit

/-- How a list of lists is read. -/
def LLr (W : World) (v : Value) (Ls : List (List Nat)) : Prop := ∃ a cap, v = .slice a Ls.length cap ∧ (0 < Ls.length → ∃ g, a = some ⟨g, 0, none⟩ ∧ g < W.heap.size ∧ ∀ k, k < Ls.length → ∃ u, W.cell? ⟨g, k, none⟩ = some u ∧ Ints W u (N (Ls.getD k [])))
theorem LL.read {B : Nat} {X : Nat → Prop} {W : World} {v : Value} {Ls : List (List Nat)} (h : LL B X W v Ls) (hl : ∀ L ∈ Ls, L.length ≤ 256) : LLr W v Ls := by
  obtain ⟨vs, h1, h2, h3, h4⟩ := h
  have h0 := h2
  rcases h2.2 with ⟨rfl, hn⟩ | ⟨g, cap, cur, rfl, hb, hgg, hc1, hc2, hc3, htk⟩
  · refine ⟨none, 0, by rw [← h1, hn], fun hp => ?_⟩
    omega
  · refine ⟨some ⟨g, 0, none⟩, cap, by rw [h1], fun _ => ⟨g, rfl, (Array.getElem?_eq_some_iff.1 hgg).1, fun k hk => ?_⟩⟩
    have hc := World.ownsRow.cellAt h0 k (by rw [Nat.mul_one]; omega)
    have hk2 : k < vs.length := by omega
    refine ⟨vs.getD k undef, by rw [hc]; simp [List.getD, hk2], (h4 k hk).1.ints ?_⟩
    have := hl (Ls.getD k []) (by simp [List.getD, hk])
    omega
theorem LLr.below {W W' : World} {v : Value} {Ls : List (List Nat)} (h : LLr W v Ls) (hb : Below W.heap.size W W') : LLr W' v Ls := by
  obtain ⟨a, cap, rfl, h1⟩ := h
  refine ⟨a, cap, rfl, fun hp => ?_⟩
  obtain ⟨g, rfl, hg, h2⟩ := h1 hp
  refine ⟨g, rfl, Nat.lt_of_lt_of_le hg hb.size, fun k hk => ?_⟩
  obtain ⟨u, h3, h4⟩ := h2 k hk
  exact ⟨u, (hb.cell (p := ⟨g, k, none⟩) hg).trans h3, h4.below hb⟩
set_option maxHeartbeats 800000 in
theorem hasF_ok (y r : Value) (L D : List Nat) (m : Int) (bX : Nat) (W : World) (hy : Ints W y (N L)) (hx : W.heap[bX]? = some (.cells #[.int .i64 m, r] 24 (0, 0))) (hr : Ints W r (N D)) :
    Calls Try.prog 30 #[y, .pointer (some ⟨bX, 0, none⟩)] W fun e W' => e = .returned (.bool (decide (D = L))) ∧ Below W.heap.size W W' := by
  have S1 := hid (Same_any r y (N D) (N L) W hr hy)
  obtain ⟨c0, c1⟩ := cells2 hx
  have hd : decide (N D = N L) = decide (D = L) := by
    rw [Bool.eq_iff_iff, decide_eq_true_eq, decide_eq_true_eq]
    exact ⟨N_injO, fun e => by rw [e]⟩
  rw [hd] at S1
  obtain ⟨a, c, rfl, -, -⟩ := hy
  obtain ⟨a', c', rfl, -, -⟩ := hr
  clear hd hx
  go_enter Try.func30, Try.ntmps30
  go_wp2_with fail
  refine S1.out.mono ?_
  rintro e w2 ⟨rfl, hb2⟩
  have H2 := hid hb2
  clear hb2 S1
  go_wp2_with fail
  go_ret
  exact ⟨rfl, H2.out⟩
theorem mem_drop {D : List Nat} {Ls : List (List Nat)} {k : Nat} (h : k < Ls.length) : decide (D ∈ Ls.drop k) = (decide (D = Ls.getD k []) || decide (D ∈ Ls.drop (k + 1))) := by
  have e : Ls.getD k [] = Ls[k] := by simp [List.getD, h]
  rw [List.drop_eq_getElem_cons h, e, Bool.eq_iff_iff, Bool.or_eq_true, decide_eq_true_eq, decide_eq_true_eq, decide_eq_true_eq, List.mem_cons]
set_option maxRecDepth 20000 in
set_option maxHeartbeats 800000 in
theorem IndexLL_ok (v r : Value) (Ls : List (List Nat)) (D : List Nat) (m : Int) (bX : Nat) (w : World) (h : LLr w v Ls) (hl : Ls.length ≤ 100000) (hx : w.heap[bX]? = some (.cells #[.int .i64 m, r] 24 (0, 0))) (hr : Ints w r (N D)) :
    Calls Try.prog 63 #[v, .func (.func 30) #[] #[.pointer (some ⟨bX, 0, none⟩)]] w fun e w' => ∃ r : Int, e = .returned (.int .i64 r) ∧ decide (0 ≤ r) = decide (D ∈ Ls) ∧ Below w.heap.size w w' := by
  have HF := hid (fun y L wr (hb : Below w.heap.size w wr) (hy : Ints wr y (N L)) => hasF_ok y r L D m bX wr hy ((hb.block bX (Array.getElem?_eq_some_iff.1 hx).1).trans hx) (hr.below hb))
  have HR := hid h
  obtain ⟨a, cap, rfl, -⟩ := h
  clear hx hr
  go_enter Try.func63, Try.ntmps63
  go_wp2_with fail
  go_loopw [8] (fun i wr => ∃ k : Nat, k ≤ Ls.length ∧ i = .int .i64 k ∧ Hid (Below w.heap.size w wr) ∧ Hid (decide (D ∈ Ls) = decide (D ∈ Ls.drop k))) (fun i _ => Ls.length - (intOf i).toNat)
  case atStart => exact ⟨0, Nat.zero_le _, rfl, Below.refl _ _, rfl⟩
  case round =>
    obtain ⟨k, hk, rfl, HW, R⟩ := hrel
    by_cases hlt : k < Ls.length
    · have hmeas : Ls.length - (k + 1) < Ls.length - k := by omega
      obtain ⟨a2, c2, e2, h2⟩ := HR.out.below HW.out
      obtain ⟨rfl, rfl⟩ : a = a2 ∧ cap = c2 := by simpa using e2
      obtain ⟨g, rfl, hg, h3⟩ := h2 (by omega)
      obtain ⟨u, h4, h5⟩ := h3 k hlt
      have G := hid (HF.out u _ wr HW.out h5)
      have DD := hid (mem_drop (D := D) hlt)
      obtain ⟨ua, uc, rfl, -, -⟩ := h5
      clear h2 h3 HF
      generalize Ls.getD k [] = L at *
      rcases hq : decide (D = L) with _ | _
      · rw [hq] at G DD
        clear hq
        go_wp2_with fail
        refine G.out.mono ?_
        rintro e w1 ⟨rfl, hb1⟩
        have H1 := hid (HW.out.trans (hb1.mono HW.out.size))
        clear hb1 G
        go_wp2_with fail
        go_roundw
        case rel => exact ⟨k + 1, hlt, by go_num, H1, by show _ = _; rw [R.out, DD.out]; rfl⟩
        case measure => exact hmeas
      · rw [hq] at G DD
        clear hq
        go_wp2_with fail
        refine G.out.mono ?_
        rintro e w1 ⟨rfl, hb1⟩
        have H1 := hid (HW.out.trans (hb1.mono HW.out.size))
        clear hb1 G
        go_wp2_with fail
        go_ret
        exact ⟨_, rfl, by rw [R.out, DD.out]; simp, H1.out⟩
    · have hk2 : ¬ (k : Int) < (Ls.length : Int) := by omega
      have RR : Hid (decide (D ∈ Ls) = false) := by show _ = _; rw [R.out, List.drop_of_length_le (by omega)]; simp
      clear HF R
      go_wp2_with fail
      go_ret
      exact ⟨_, rfl, by have h9 := RR.out; rw [decide_eq_false_iff_not] at h9; simp [h9], HW.out⟩
theorem HasLL_ok (v r : Value) (Ls : List (List Nat)) (D : List Nat) (m : Int) (bX : Nat) (w : World) (h : LLr w v Ls) (hl : Ls.length ≤ 100000) (hx : w.heap[bX]? = some (.cells #[.int .i64 m, r] 24 (0, 0))) (hr : Ints w r (N D)) :
    Calls Try.prog 29 #[v, .func (.func 30) #[] #[.pointer (some ⟨bX, 0, none⟩)]] w fun e w' => e = .returned (.bool (decide (D ∈ Ls))) ∧ Below w.heap.size w w' := by
  have I1 := hid (IndexLL_ok v r Ls D m bX w h hl hx hr)
  obtain ⟨a, cap, rfl, -⟩ := h
  clear hx hr
  go_enter Try.func29, Try.ntmps29
  go_wp2_with fail
  refine I1.out.mono ?_
  rintro e w1 ⟨q, rfl, hq, hb1⟩
  have HR := hid hq
  have HB := hid hb1
  clear hq hb1 I1
  go_wp2_with fail
  go_ret
  exact ⟨ret_bool HR.out, HB.out⟩
end Go.Proofs.Ythlmnhcnpffjdaa
