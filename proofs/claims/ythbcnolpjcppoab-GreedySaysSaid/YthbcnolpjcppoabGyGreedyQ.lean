/- rotaref.Greedy. -/
import Derived.Test.YthbcnolpjcppoabGyGrQ
namespace Go.Proofs.Ythbcnolpjcppoab
open Go.RowKit

theorem cells_of {w : World} {v : Value} {o : List Nat} (h : Ints w v (N o)) : ∃ a cap, v = .slice a o.length cap := by
  obtain ⟨a, cap, hv, _⟩ := h.nats
  exact ⟨a, cap, hv⟩
set_option maxRecDepth 20000 in
set_option maxHeartbeats 2000000 in
theorem Greedy_ok (m : Nat) (v u : Value) (l o : List Nat) (w : World) (h : Ints w v (N l)) (hu : Ints w u (N o)) (hm : m ≤ 8) (hf : Fam m l) (hb : Bas l) (hB : Beg m o) (hall : ∀ i, i < m → i ∈ o) (ho8 : o.length ≤ 8) :
    Calls Try.prog 20 #[.agg #[.int .i64 m, v], u] w fun e w' => e = .returned (.int .i64 (grS (rk l) 0 o : Nat)) ∧ Below w.heap.size w w' := by
  have hg := gr_bas hm hf hb hB hall
  have FC := hid (fun t ht hne => first_cmp (t := t) hm hf hb hB hall ht hne)
  have HX : Hid (∀ x ∈ o, x < 8) := fun x hx => Nat.lt_of_lt_of_le (hB.lt x hx) hm
  have HL8 : Hid (∀ t ∈ l, t < 256) := fun t ht => hb.lt t ht
  generalize grS (rk l) 0 o = G at *
  have B1 : Below w.heap.size w (w.alloc (.cells #[.int .i64 m, v] 24)) := below_box w #[.int .i64 m, v]
  have B2 : Below w.heap.size w ((w.alloc (.cells #[.int .i64 m, v] 24)).alloc (.cells #[u] 22)) := B1.alloc (by simp) _
  obtain ⟨z0, z1⟩ := box_cells (below_alloc (w.alloc (.cells #[.int .i64 m, v] 24)) (.cells #[u] 22))
  have z2 := (cellN (w.alloc (.cells #[.int .i64 m, v] 24)) u 22).1
  rw [World.size_alloc] at z2
  have hsz : ((w.alloc (.cells #[.int .i64 m, v] 24)).alloc (.cells #[u] 22)).heap.size = w.heap.size + 2 := by simp
  have HV := hid (h.below B2)
  have HU := hid (hu.below B2)
  have HB2 := hid B2
  have hl0 : 0 < l.length := List.length_pos_of_mem hg
  have hl256 : l.length ≤ 256 := fam_len hm hf
  obtain ⟨a, cap, rfl⟩ := cells_of h
  obtain ⟨b, bcap, rfl⟩ := cells_of hu
  obtain ⟨lb, loff, rfl, hlb, hlc⟩ : ∃ lb loff, a = some ⟨lb, loff, none⟩ ∧ lb < w.heap.size ∧ ∀ i, i < l.length → w.cell? ⟨lb, loff + i, none⟩ = some (.int .i64 (l.getD i 0 : Nat)) := by
    obtain ⟨a', c', he, _, hc⟩ := h.nats
    injection he with h1 h2 h3
    subst h1
    exact hc hl0
  have HLC : Hid (∀ w', Below w.heap.size w w' → ∀ i, i < l.length → w'.cell? ⟨lb, loff + i, none⟩ = some (.int .i64 (l.getD i 0 : Nat))) := fun w' hb' i hi => (hb'.cell (p := ⟨lb, loff + i, none⟩) hlb).trans (hlc i hi)
  have hl0i : (0 : Int) < (l.length : Int) := by omega
  have c0 := HLC.out _ B2 0 hl0
  rw [Nat.add_zero] at c0
  have ht0 : l.getD 0 0 ∈ l := by simp only [List.getD, List.getElem?_eq_getElem hl0, Option.getD_some]; exact List.getElem_mem _
  clear B1 B2 hlc h hu
  generalize l.getD 0 0 = t0 at *
  go_enter Try.func20, Try.ntmps20
  go_wp2_with fail
  clear c0
  revert z0 z1 z2 hsz HV HU HB2
  generalize (w.alloc (.cells #[.int .i64 m, .slice (some ⟨lb, loff, none⟩) l.length cap] 24)).alloc (.cells #[.slice b o.length bcap] 22) = W1
  intro z0 z1 z2 hsz HV HU HB2
  go_loopw [6, 7] (fun q i wr => ∃ k t : Nat, k ≤ l.length ∧ i = .int .i64 k ∧ q = .int .i64 t ∧ Hid (t ∈ l) ∧ Hid (G ∈ l.take k → t = G) ∧ Hid (Below W1.heap.size W1 wr)) (fun _ i _ => l.length - (intOf i).toNat)
  case atStart => exact ⟨0, t0, Nat.zero_le _, rfl, rfl, ht0, fun h => by simp at h, Below.refl _ _⟩
  case round =>
    obtain ⟨k, t, hk, rfl, rfl, HT, HG, HW⟩ := hrel
    have y0 := (HW.out.cell (p := ⟨w.heap.size, 0, none⟩) (by show w.heap.size < _; omega)).trans z0
    have y1 := (HW.out.cell (p := ⟨w.heap.size, 1, none⟩) (by show w.heap.size < _; omega)).trans z1
    have y2 := (HW.out.cell (p := ⟨w.heap.size + 1, 0, none⟩) (by show w.heap.size + 1 < _; omega)).trans z2
    have HB := hid (HB2.out.trans (HW.out.mono HB2.out.size))
    have hsr := HW.out.size
    by_cases hlt : k < l.length
    · have HLT := hid hlt
      have hki : (k : Int) < (l.length : Int) := by omega
      have hck := HLC.out _ HB.out k hlt
      have hmem : l.getD k 0 ∈ l := by simp only [List.getD, List.getElem?_eq_getElem hlt, Option.getD_some]; exact List.getElem_mem _
      have HTK : Hid (∀ x, x ∈ l.take (k + 1) → x ∈ l.take k ∨ x = l.getD k 0) := fun x hx => by
        rw [take_snoc hlt, List.mem_append, List.mem_singleton] at hx
        exact hx
      generalize l.getD k 0 = s at *
      have P1 := hid (places_any s (w.heap.size + 1) _ o wr y2 (by omega) (HU.out.below HW.out) (HL8.out s hmem) ho8 HX.out)
      have P2 := hid (fun w' (hb' : Below wr.heap.size wr w') => places_any t (w.heap.size + 1) _ o w' ((hb'.cell (p := ⟨w.heap.size + 1, 0, none⟩) (by show w.heap.size + 1 < _; omega)).trans y2) (Nat.lt_of_lt_of_le (by omega) hb'.size) ((HU.out.below HW.out).below hb') (HL8.out t HT.out) ho8 HX.out)
      have HY : Hid (cmpL (posL o s) (posL o t) < 0 → G ∈ l.take (k + 1) → s = G) := fun hc hG => by
        apply Classical.byContradiction
        intro hne
        rcases HTK.out _ hG with h1 | h1
        · have := HG.out h1
          subst this
          have := (FC.out s hmem hne).2
          omega
        · exact hne h1.symm
      have HN : Hid (0 ≤ cmpL (posL o s) (posL o t) → G ∈ l.take (k + 1) → t = G) := fun hc hG => by
        apply Classical.byContradiction
        intro hne
        rcases HTK.out _ hG with h1 | h1
        · exact hne (HG.out h1)
        · subst h1
          have := (FC.out t HT.out hne).1
          omega
      have hps : (posL o s).length ≤ 8 := Nat.le_trans (Nat.le_trans (List.length_filter_le _ _) (by simp)) ho8
      have hpt : (posL o t).length ≤ 8 := Nat.le_trans (Nat.le_trans (List.length_filter_le _ _) (by simp)) ho8
      have CMP := hid (fun x y W hx hy => Compare_any x y (posL o s) (posL o t) W hx hy)
      have HM := hid hmem
      clear hmem
      generalize hC : cmpL (posL o s) (posL o t) = C at *
      go_wp2_with fail
      refine P1.out.mono ?_
      rintro e w3 ⟨r3, rfl, ho3, hb3⟩
      have P3 := hid (P2.out w3 hb3)
      obtain ⟨x3, c3, hf3⟩ := ho3.form
      subst hf3
      go_wp2_with fail
      refine P3.out.mono ?_
      rintro e w4 ⟨r4, rfl, ho4, hb4⟩
      obtain ⟨x4, c4, hf4⟩ := ho4.form
      subst hf4
      have CM4 := hid (CMP.out _ _ w4 ((ho3.ints (by omega)).below hb4) (ho4.ints (by omega)))
      have HB4 := hid (hb3.trans (hb4.mono hb3.size))
      have HW4 := hid (HW.out.trans (HB4.out.mono HW.out.size))
      have x1 := (HB4.out.cell (p := ⟨w.heap.size, 1, none⟩) (by show w.heap.size < _; omega)).trans y1
      have ck4 := (HB4.out.cell (p := ⟨lb, loff + k, none⟩) (by show lb < _; omega)).trans hck
      clear ho3 ho4 hb3 hb4 hC
      go_wp2_with fail
      refine CM4.out.mono ?_
      rintro e w5 ⟨rfl, hw5⟩
      obtain rfl := hw5.symm
      by_cases hc : C < 0
      · have HY2 := hid (HY.out hc)
        have hd : decide (C < 0) = true := by simp [hc]
        go_wp2_with fail
        go_roundw
        case rel => exact ⟨k + 1, s, by have := HLT.out; omega, by go_num, rfl, HM, HY2, HW4⟩
        case measure => have := HLT.out; simp [intOf]; omega
      · have HN2 := hid (HN.out (by omega))
        have hd : decide (C < 0) = false := by simp; omega
        go_wp2_with fail
        go_roundw
        case rel => exact ⟨k + 1, t, by have := HLT.out; omega, by go_num, rfl, HT, HN2, HW4⟩
        case measure => have := HLT.out; simp [intOf]; omega
    · obtain rfl : k = l.length := by omega
      have e := HG.out (by rw [List.take_length]; exact hg)
      subst e
      go_wp2_with fail
      go_ret
      exact ⟨rfl, HB.out⟩
end Go.Proofs.Ythbcnolpjcppoab
