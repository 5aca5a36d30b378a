/- field.noughts, field.clearColumn. -/
import Derived.Test.YtcncaaeofcmefaaFdBW
namespace Go.Proofs.Ytcncaaeofcmefaa
open Go.RowKit

/-- The world when noughts begins to lay its rows: the box of the result, the rows' block, the box of x. -/
def nulW (w : World) (p : Int) (N c : Nat) : World := (((w.alloc (.cells #[.int .i64 0, .int .i64 0, .slice none 0 0] 24)).alloc (.cells (madeCells #[.slice none 0 0] N) 28)).alloc (.cells #[.int .i64 p, .int .i64 c, .slice (some ⟨w.heap.size + 1, 0, none⟩) N N] 24))
theorem NulH.new (w : World) (p : Int) (N c : Nat) : NulH (nulW w p N c) w.heap.size N c 0 := by
  have e1 : (w.alloc (.cells #[.int .i64 0, .int .i64 0, .slice none 0 0] 24)).heap.size = w.heap.size + 1 := by simp
  have hb : Below (w.heap.size + 1 + 1) ((w.alloc (.cells #[.int .i64 0, .int .i64 0, .slice none 0 0] 24)).alloc (.cells (madeCells #[.slice none 0 0] N) 28)) (nulW w p N c) := (Below.refl _ _).alloc (by simp) _
  refine ⟨fun i hi => by omega, fun i _ hi => ?_, fun i => ?_, fun i hi => by omega, by simp [nulW]⟩
  · rw [hb.cell (p := ⟨w.heap.size + 1, i, none⟩) (by show w.heap.size + 1 < _; omega), World.cell?_alloc_at _ _ _ _ (by rw [e1])]
    simp [madeCells, hi, Nat.mod_one]
  · rw [froz_below hb (by omega)]
    exact World.frozen?_alloc_at _ _ _ _ (by rw [e1])
theorem nulW_below (w : World) (p : Int) (N c : Nat) : Below w.heap.size w (nulW w p N c) := (((Below.refl _ _).alloc (Nat.le_refl _) _).alloc (by simp) _).alloc (by simp; omega) _
theorem nulW_box (w : World) (p : Int) (N c : Nat) : (nulW w p N c).heap[w.heap.size + 1 + 1]? = some (.cells #[.int .i64 p, .int .i64 c, .slice (some ⟨w.heap.size + 1, 0, none⟩) N N] 24 (0, 0)) ∧ (nulW w p N c).heap[w.heap.size]? = some (.cells #[.int .i64 0, .int .i64 0, .slice none 0 0] 24 (0, 0)) := by
  constructor
  · have := World.alloc_heap_new ((w.alloc (.cells #[.int .i64 0, .int .i64 0, .slice none 0 0] 24)).alloc (.cells (madeCells #[.slice none 0 0] N) 28)) (.cells #[.int .i64 p, .int .i64 c, .slice (some ⟨w.heap.size + 1, 0, none⟩) N N] 24)
    rwa [show ((w.alloc (.cells #[.int .i64 0, .int .i64 0, .slice none 0 0] 24)).alloc (.cells (madeCells #[.slice none 0 0] N) 28)).heap.size = w.heap.size + 1 + 1 by simp] at this
  · have hb : Below (w.heap.size + 1) (w.alloc (.cells #[.int .i64 0, .int .i64 0, .slice none 0 0] 24)) (nulW w p N c) := ((Below.refl _ _).alloc (by simp) _).alloc (by simp) _
    exact (hb.block _ (by omega)).trans (World.alloc_heap_new w _)
theorem three_frozen {W : World} {b : Nat} {x y z : Value} {t : TypeId} (h : W.heap[b]? = some (.cells #[x, y, z] t (0, 0))) : W.frozen? ⟨b, 0, none⟩ = false ∧ W.frozen? ⟨b, 1, none⟩ = false ∧ W.frozen? ⟨b, 2, none⟩ = false := by
  refine ⟨?_, ?_, ?_⟩ <;> simp [World.frozen?, h]
theorem set_three {W : World} {b : Nat} {x y z x' y' z' : Value} {t : TypeId} (h : W.heap[b]? = some (.cells #[x, y, z] t (0, 0))) : (((W.setCell ⟨b, 0, none⟩ x').setCell ⟨b, 1, none⟩ y').setCell ⟨b, 2, none⟩ z').heap[b]? = some (.cells #[x', y', z'] t (0, 0)) := by
  simp only [World.setCell, Array.getElem?_modify, ↓reduceIte, h, Option.map_some]
  rfl
theorem save_three (w : World) (b : Nat) (x y z : Value) : Save (fun k => k = b) w (((w.setCell ⟨b, 0, none⟩ x).setCell ⟨b, 1, none⟩ y).setCell ⟨b, 2, none⟩ z) := ((save_cell w b 0 x).trans (save_cell _ b 1 y)).trans (save_cell _ b 2 z)
end Go.Proofs.Ytcncaaeofcmefaa

namespace Go.Proofs.Ytcncaaeofcmefaa
open Go.RowKit

set_option maxRecDepth 20000 in
set_option maxHeartbeats 2000000 in
theorem clearColumn_ok (p : Int) (g N c cap y a : Nat) (rb cp : Nat → Nat) (f : Nat → Nat → Int) (w : World) (hp : isP p) (hN : N ≤ 256) (hc : c ≤ 256) (hy : y < N) (ha : a < c) (h : MatB w g N c rb cp f) (hr : ∀ i, i < N → ∀ r, r < c → 0 ≤ f i r ∧ f i r < p) (h0 : f y a ≠ 0) :
    Calls Try.prog 19 #[.int .i64 p, .slice (some ⟨g, 0, none⟩) N cap, .int .i64 y, .int .i64 a] w fun e w' => e = .returned (.tuple #[]) ∧ MatB w' g N c rb cp (clrM p y a f) ∧ Save (fun b => ∃ i, i < N ∧ b = rb i) w w' := by
  have hp2 := isP_pos hp
  have hya := hr y hy a ha
  have hyi : (y : Int) < (N : Int) := by omega
  have hai : (a : Int) < (c : Int) := by omega
  have IV := hid (inverse_ok p (f y a) w hp (by omega) hya.2)
  obtain ⟨v1, v2, v3, -⟩ := invN_spec hp (by omega : 0 < f y a) hya.2
  have HEQ : Hid (∀ r, onesM p y a f r = (f y r * (invN p (f y a) : Nat)) % p) := fun r => rfl
  obtain ⟨t, ht⟩ : ∃ t, invN p (f y a) = t := ⟨_, rfl⟩
  rw [ht] at IV v1 v2 v3 HEQ
  have HM := hid h
  have HR := hid hr
  have HP := hid hp
  have x0 := h.head y hy
  have x1 := (h.row y hy).cell a ha
  clear h hr hp v3 ht hya h0
  generalize f y a = fya at *
  have hp0 : (p == 0) = false := by rw [beq_eq_false_iff_ne]; omega
  go_enter Try.func19, Try.ntmps19
  go_wp2_with fail
  refine IV.out.mono ?_
  rintro e w2 ⟨rfl, h2⟩
  obtain rfl := h2.symm
  go_wp2_with fail
  clear IV x1
  go_loopw [9, 10, 27] (fun _ _ i wr => ∃ k : Nat, k ≤ c ∧ i = .int .i64 k ∧ Hid (MatB wr g N c rb cp (fun i r => if i = y ∧ r < k then onesM p y a f r else f i r)) ∧ Hid (Save (fun b => ∃ i, i < N ∧ b = rb i) w wr)) (fun _ _ i _ => c - (intOf i).toNat)
  case atStart => exact ⟨0, Nat.zero_le _, rfl, HM.out.congr fun i _ r _ => by rw [if_neg (by omega)], Save.refl _ _⟩
  case round =>
    obtain ⟨k, hk, rfl, HK, HS⟩ := hrel
    clear x0
    have x0 := HK.out.head y hy
    by_cases hlt : k < c
    · have c1 := (HK.out.row y hy).cell k hlt
      rw [if_neg (by omega)] at c1
      have c2 := (HK.out.row y hy).frozen k
      have r1 := HR.out y hy k hlt
      have hki : (k : Int) < (c : Int) := by omega
      obtain ⟨m1, hm1, HM1⟩ : ∃ m1, f y k * (t : Int) = m1 ∧ Hid (f y k * (t : Int) = m1) := ⟨_, rfl, rfl⟩
      have b1 : 0 ≤ m1 ∧ m1 ≤ 49 := by
        rw [← HM1.out]
        refine ⟨Int.mul_nonneg (by omega) (by omega), ?_⟩
        have := Int.mul_le_mul (show f y k ≤ 7 by omega) (show (t : Int) ≤ 7 by omega) (by omega) (by omega)
        omega
      obtain ⟨q, hq, HQ⟩ : ∃ q, Int.tmod m1 p = q ∧ Hid (onesM p y a f k = q) := ⟨_, rfl, by
        show _ = Int.tmod m1 p
        rw [Int.tmod_eq_emod_of_nonneg b1.1, HEQ.out, HM1.out]⟩
      have b4 : 0 ≤ q ∧ q < p := by rw [← hq, Int.tmod_eq_emod_of_nonneg b1.1]; exact ⟨Int.emod_nonneg _ (by omega), Int.emod_lt_of_pos _ (by omega)⟩
      have hw1 : IntKind.i64.wrap m1 = m1 := IntWalk.i64_in _ (by omega)
      have hw4 : IntKind.i64.wrap q = q := IntWalk.i64_in _ (by omega)
      have G1 : Hid (MatB (wr.setCell ⟨rb y, k, none⟩ (.int .i64 q)) g N c rb cp (fun i r => if i = y ∧ r < k + 1 then onesM p y a f r else f i r)) := HK.out.set hy hlt q fun j hj s hs => by
        by_cases e : j = y ∧ s = k
        · rw [if_pos e, if_pos ⟨e.1, by omega⟩, e.2, HQ.out]
        · rw [if_neg e]
          by_cases e2 : j = y ∧ s < k
          · rw [if_pos e2, if_pos ⟨e2.1, by omega⟩]
          · rw [if_neg e2, if_neg (by omega)]
      have G2 : Hid (Save (fun b => ∃ i, i < N ∧ b = rb i) w (wr.setCell ⟨rb y, k, none⟩ (.int .i64 q))) := HS.out.setCell (p := ⟨rb y, k, none⟩) (.inl ⟨y, hy, rfl⟩) _
      clear HK HS HM1 HQ
      generalize f y k = fk at *
      go_wp2_with fail
      go_region_with fail
      all_goals go_wp2_with fail
      all_goals exact ⟨⟨k + 1, by omega, by go_num, G1.out.drew, G2.out.drew⟩, by simp [intOf]; omega⟩
    · obtain rfl : k = c := by omega
      have G1 : Hid (MatB wr g N k rb cp (fun i r => if i = y then onesM p y a f r else f i r)) := HK.out.congr fun i _ r hr => by
        by_cases e : i = y
        · rw [if_pos e, if_pos ⟨e, hr⟩]
        · rw [if_neg e, if_neg fun h => e h.1]
      clear HK x0
      have hne : ¬ (k : Int) < (k : Int) := by omega
      go_wp2_with fail
      go_loopw [11, 12, 46] (fun _ _ i wr => ∃ j : Nat, j ≤ N ∧ i = .int .i64 j ∧ Hid (MatB wr g N k rb cp (fun i r => if i < j then clrM p y a f i r else if i = y then onesM p y a f r else f i r)) ∧ Hid (Save (fun b => ∃ i, i < N ∧ b = rb i) w wr)) (fun _ _ i _ => N - (intOf i).toNat)
      case atStart => exact ⟨0, Nat.zero_le _, rfl, G1.out.congr fun i _ r _ => by rw [if_neg (by omega)], HS.out⟩
      case round =>
        obtain ⟨j, hj, rfl, HJ, HT⟩ := hrel
        clear G1 HS
        by_cases hlt : j < N
        · have hji : (j : Int) < (N : Int) := by omega
          have c0 := HJ.out.head j hlt
          by_cases hjy : j = y
          · subst hjy
            have G3 : Hid (MatB wr g N k rb cp (fun i r => if i < j + 1 then clrM p j a f i r else if i = j then onesM p j a f r else f i r)) := HJ.out.congr fun i _ r _ => by
              by_cases e : i < j
              · rw [if_pos e, if_pos (by omega)]
              · rw [if_neg e]
                by_cases e2 : i = j
                · rw [if_pos e2, if_pos (by omega)]; unfold clrM; rw [if_pos e2]
                · rw [if_neg e2, if_neg (by omega)]
            clear HJ
            go_wp2_with fail
            exact ⟨⟨j + 1, by omega, by go_num, G3.out, HT.out⟩, by simp [intOf]; omega⟩
          · have hne2 : ((j : Int) != (y : Int)) = true := by simp; omega
            have hne3 : ¬ (j : Int) = (y : Int) := by omega
            have c1 := HJ.out.head y hy
            have R1 := HJ.out.row j hlt
            have R2 := HJ.out.row y hy
            have E1 : (fun r => if j < j then clrM p y a f j r else if j = y then onesM p y a f r else f j r) = f j := by
              funext r; rw [if_neg (by omega), if_neg hjy]
            have E2 : (fun r => if y < j then clrM p y a f y r else if y = y then onesM p y a f r else f y r) = onesM p y a f := by
              funext r
              by_cases e : y < j
              · rw [if_pos e]; unfold clrM; rw [if_pos rfl]
              · rw [if_neg e, if_pos rfl]
            rw [E1] at R1
            rw [E2] at R2
            have c2 := R1.cell a ha
            have fa := HR.out j hlt a ha
            have hsub : IntKind.i64.wrap (p - f j a) = p - f j a := IntWalk.i64_in _ (by omega)
            have AD : Hid (∀ wx, Below wr.heap.size wr wx → Calls Try.prog 25 #[.int .i64 p, .slice (some ⟨rb j, 0, none⟩) k (cp j), .slice (some ⟨rb y, 0, none⟩) k (cp y), .int .i64 (p - f j a)] wx fun e w' => e = .returned (.tuple #[]) ∧ TblZ (rb j) w' k (fun i => (f j i + (p - f j a) * onesM p y a f i) % p) ∧ Save (fun b => b = rb j) wx w') := fun wx hb =>
              add_ok p (p - f j a) (rb j) (cp j) k (f j) (onesM p y a f) _ wx HP.out (by omega) hc (R1.below hb) (fun i hi => HR.out j hlt i hi) ⟨_, _, rfl, fun _ => ⟨rb y, 0, rfl, fun e => hjy (HJ.out.inj y j hy hlt e).symm, (R2.below hb).size, fun i hi => by rw [Nat.zero_add]; exact (R2.below hb).cell i hi⟩⟩ fun i _ => onesM_in HP.out _ _ _ _
            have G3 : Hid (∀ wx w', Below wr.heap.size wr wx → TblZ (rb j) w' k (fun i => (f j i + (p - f j a) * onesM p y a f i) % p) → Save (fun b => b = rb j) wx w' → MatB w' g N k rb cp (fun i r => if i < j + 1 then clrM p y a f i r else if i = y then onesM p y a f r else f i r) ∧ Save (fun b => ∃ i, i < N ∧ b = rb i) w w') := fun wx w' hb h1 h2 => by
              refine ⟨(HJ.out.below hb).put hlt h1 h2 fun i hi r hr => ?_, (HT.out.trans (Save.of_below hb)).trans (h2.mono fun b e => ⟨j, hlt, e⟩)⟩
              by_cases e : i = j
              · subst e
                rw [if_pos (by omega), if_pos rfl]; unfold clrM; rw [if_neg hjy]
              · rw [if_neg e]
                by_cases e2 : i < j
                · rw [if_pos e2, if_pos (by omega)]
                · rw [if_neg e2, if_neg (by omega)]
            clear HJ HT R1 R2 E1 E2
            generalize f j a = fja at *
            go_wp2_with fail
            go_region_with (go_at_call 25; refine (AD.out _ (Below.refl _ wr).drew).mono ?_; rintro e w4 ⟨rfl, h4, h5⟩; obtain ⟨h6, h7⟩ := G3.out _ _ (Below.refl _ wr).drew h4 h5; have H6 := hid h6; have H7 := hid h7; clear h4 h5 h6 h7)
            all_goals go_wp2_with fail
            all_goals exact ⟨⟨j + 1, by omega, by go_num, H6.out, H7.out⟩, by simp [intOf]; omega⟩
        · obtain rfl : j = N := by omega
          have hne2 : ¬ (j : Int) < (j : Int) := by omega
          have G3 : Hid (MatB wr g j k rb cp (clrM p y a f)) := HJ.out.congr fun i hi r _ => by rw [if_pos hi]
          clear HJ
          go_wp2_with fail
          exact bodyPost_end (results_none rfl _ _ _) rfl ⟨rfl, G3.out, HT.out⟩
end Go.Proofs.Ytcncaaeofcmefaa
