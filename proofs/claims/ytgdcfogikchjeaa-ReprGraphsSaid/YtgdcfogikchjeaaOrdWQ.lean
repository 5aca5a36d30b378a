/- same.order's with. -/
import Derived.Test.YtgdcfogikchjeaaOrdBW
import Derived.Deep.CutRange
import Derived.Deep.RegionLaw
import Derived.RangeFuncNested
namespace Go.Proofs.Ytgdcfogikchjeaa
open Go.RowKit

set_option maxRecDepth 20000 in
set_option maxHeartbeats 2000000 in
theorem with_ok (n x gN gI B : Nat) (p : List Nat) (w : World) (hn : n ≤ 8) (hx : x < n) (hp : p.length < n) (hpx : ∀ i ∈ p, i < n) (hN : Own B w (.slice (some ⟨gN, 0, none⟩) p.length n) p) (hI : Own B w (.slice (some ⟨gI, 0, none⟩) (2 ^ p.length) (2 ^ n)) (imgs p)) (hne : gN ≠ gI) :
    Calls Try.prog 93 #[.agg #[.slice (some ⟨gN, 0, none⟩) p.length n, .slice (some ⟨gI, 0, none⟩) (2 ^ p.length) (2 ^ n)], .int .i64 x] w fun e w' =>
      e = .returned (.agg #[.slice (some ⟨gN, 0, none⟩) (p.length + 1) n, .slice (some ⟨gI, 0, none⟩) (2 ^ (p.length + 1)) (2 ^ n)]) ∧ Own B w' (.slice (some ⟨gN, 0, none⟩) (p.length + 1) n) (p ++ [x]) ∧ Own B w' (.slice (some ⟨gI, 0, none⟩) (2 ^ (p.length + 1)) (2 ^ n)) (imgs (p ++ [x])) ∧ Save (fun k => k = gN ∨ k = gI) w w' := by
  have hlen := imgs_len p.length p rfl
  have hil := imgs_lt (n := n) p.length p rfl hpx
  have HE : Hid (imgs (p ++ [x]) = imgs p ++ (imgs p).map (· ||| 2 ^ x)) := imgs_snoc p x
  have hK8 : 2 ^ (p.length + 1) ≤ 2 ^ n := Nat.pow_le_pow_right (by omega) (by omega)
  have hT := (pow_wrap n hn).2
  rw [Nat.pow_succ] at hK8
  rw [HE.out, show 2 ^ (p.length + 1) = 2 ^ p.length + 2 ^ p.length by rw [Nat.pow_succ]; omega]
  clear HE
  have hX2 : 2 ^ x < 2 ^ n := Nat.pow_lt_pow_right (by omega) hx
  obtain ⟨K, HK⟩ : ∃ K, Hid (2 ^ p.length = K) := ⟨2 ^ p.length, Eq.refl (2 ^ p.length)⟩
  obtain ⟨T, HT⟩ : ∃ T, Hid (2 ^ n = T) := ⟨2 ^ n, Eq.refl (2 ^ n)⟩
  have hshl : Hid (∃ X : Nat, 2 ^ x = X ∧ X < T) := ⟨2 ^ x, rfl, by rw [← HT.out]; exact hX2⟩
  rw [HK.out] at hlen hK8 hI
  rw [HT.out] at hK8 hT hil hI
  rw [HK.out, HT.out]
  clear hX2 hpx
  generalize imgs p = im at *
  have HN := hid hN
  have HI := hid hI
  have hgN := hN.lt.2
  have hgI := hI.lt.2
  clear hN hI
  go_enter Try.func93, Try.ntmps93
  go_wp2_with fail
  obtain ⟨X, HX, hX⟩ := hshl.out
  have hpw2 : IntKind.i64.wrap (2 ^ x) = (X : Int) := by rw [show (2 : Int) ^ x = ((2 ^ x : Nat) : Int) by simp, HX]; exact wrap_i64_nat _ (by omega)
  have HIM : Hid (∀ i, i < K → im.getD i 0 < T ∧ (im.take (i + 1)).map (· ||| 2 ^ x) = (im.take i).map (· ||| 2 ^ x) ++ [im.getD i 0 ||| X]) := fun i hi => by
    refine ⟨hil _ (by rw [show im.getD i 0 = im[i]'(by omega) by simp [List.getD, hlen, hi]]; exact List.getElem_mem _), ?_⟩
    rw [take_snoc (by omega), List.map_append, ← HX]
    rfl
  have HIF : Hid ((im.take K).map (· ||| 2 ^ x) = im.map (· ||| 2 ^ x)) := by show _ = _; rw [← hlen, List.take_length]
  have HC : Hid (∀ wr i L, i < K → Own B wr (.slice (some ⟨gI, 0, none⟩) (K + i) T) (im ++ L) → wr.cell? ⟨gI, i, none⟩ = some (.int .i64 (im.getD i 0 : Nat))) := fun wr i L hi h => by
    have h1 := h.at (i := i) (by rw [List.length_append]; omega)
    rw [h1]
    simp only [List.getD, List.getElem?_append_left (show i < im.length by omega)]
  generalize hf : (fun z => z ||| 2 ^ x) = f at *
  have HF := hid hf
  clear hshl hil hf
  go_loopw [6, 10] (fun _ j wr => ∃ i : Nat, i ≤ K ∧ j = .int .i64 i ∧ Hid (wr.heap[w.heap.size]? = some (.cells #[.slice (some ⟨gN, 0, none⟩) p.length n, .slice (some ⟨gI, 0, none⟩) (K + i) T] 120 (0, 0))) ∧ Hid (wr.heap[w.heap.size + 1]? = some (.cells #[.slice none 0 0, .slice none 0 0] 120 (0, 0))) ∧ Hid (Own B wr (.slice (some ⟨gI, 0, none⟩) (K + i) T) (im ++ (im.take i).map f)) ∧ Hid (Save (fun k => k = gI) w wr)) (fun _ j _ => K - (intOf j).toNat)
  case atStart =>
    refine ⟨0, Nat.zero_le _, rfl, ?_, ?_, ?_, ?_⟩
    · show _ = _
      rw [Below.heap_alloc _ _ _ (by simp)]
      exact World.alloc_heap_new w _
    · show _ = _
      have := World.alloc_heap_new (w.alloc (.cells #[.slice (some ⟨gN, 0, none⟩) p.length n, .slice (some ⟨gI, 0, none⟩) K T] 120)) (.cells #[.slice none 0 0, .slice none 0 0] 120)
      rwa [World.size_alloc] at this
    · show Own _ _ _ _
      simp only [List.take_zero, List.map_nil, List.append_nil]
      exact HI.out.save (X := fun _ => False) (((Save.refl _ _).alloc _).alloc _) id
    · exact ((Save.refl _ _).alloc _).alloc _
  case round =>
    obtain ⟨i, hi, rfl, BO, BR, OI, SV⟩ := hrel
    obtain ⟨c0, c1, f0, f1⟩ := two_cells BO.out
    by_cases hlt : i < K
    · have hlt' : (i : Int) < (K : Int) := by omega
      have cY := HC.out wr i _ hlt OI.out
      obtain ⟨hy, htk⟩ := HIM.out i hlt
      have HTK := hid htk
      clear htk
      generalize im.getD i 0 = y at *
      have hor : bits .or .i64 (y : Int) (X : Int) = ((y ||| X : Nat) : Int) := i64_or_nat _ _ (by omega) (by omega)
      have hsz := SV.out.size
      have hmeas : K - (i + 1) < K - i := by omega
      have hll : (im ++ (im.take i).map f).length = K + i := by simp [hlen]; omega
      have c1d : wr.drew.cell? ⟨w.heap.size, 1, none⟩ = some (.slice (some ⟨gI, 0, none⟩) (K + i) T) := c1
      have c1e : (wr.alloc (.cells #[.int .i64 ((y ||| X : Nat) : Int)] 3)).drew.cell? ⟨w.heap.size, 1, none⟩ = some (.slice (some ⟨gI, 0, none⟩) (K + i) T) := (World.cell?_of_block (w := wr) (Below.heap_alloc wr _ _ (Array.getElem?_eq_some_iff.1 BO.out).1)).trans c1
      have OD : Hid (Own B (wr.alloc (.cells #[.int .i64 ((y ||| X : Nat) : Int)] 3)).drew (.slice (some ⟨gI, 0, none⟩) (K + i) T) (im ++ (im.take i).map f)) := OI.out.save (X := fun _ => False) ((Save.refl _ _).alloc _).drew id
      have hcN : (wr.alloc (.cells #[.int .i64 ((y ||| X : Nat) : Int)] 3)).drew.cell? ⟨wr.heap.size, 0, none⟩ = some (.int .i64 ((y ||| X : Nat) : Int)) := (Boxed.new wr 3 _).cell
      have NX : Hid (∀ w4, Own B w4 (.slice (some ⟨gI, 0, none⟩) (K + i + 1) T) ((im ++ (im.take i).map f) ++ [y ||| X]) → (wr.alloc (.cells #[.int .i64 ((y ||| X : Nat) : Int)] 3)).drew.grownBy w4 (some gI) → (w4.cell? ⟨w.heap.size, 0, none⟩ = some (.slice (some ⟨gN, 0, none⟩) p.length n) ∧ w4.cell? ⟨w.heap.size, 1, none⟩ = some (.slice (some ⟨gI, 0, none⟩) (K + i) T) ∧ w4.frozen? ⟨w.heap.size, 0, none⟩ = false ∧ w4.frozen? ⟨w.heap.size, 1, none⟩ = false) ∧
          Hid ((w4.setCell ⟨w.heap.size, 1, none⟩ (.slice (some ⟨gI, 0, none⟩) (K + i + 1) T)).heap[w.heap.size]? = some (.cells #[.slice (some ⟨gN, 0, none⟩) p.length n, .slice (some ⟨gI, 0, none⟩) (K + i + 1) T] 120 (0, 0))) ∧
          Hid ((w4.setCell ⟨w.heap.size, 1, none⟩ (.slice (some ⟨gI, 0, none⟩) (K + i + 1) T)).heap[w.heap.size + 1]? = some (.cells #[.slice none 0 0, .slice none 0 0] 120 (0, 0))) ∧
          Hid (Own B (w4.setCell ⟨w.heap.size, 1, none⟩ (.slice (some ⟨gI, 0, none⟩) (K + i + 1) T)) (.slice (some ⟨gI, 0, none⟩) (K + i + 1) T) (im ++ (im.take (i + 1)).map f)) ∧ Hid (Save (fun k => k = gI) w (w4.setCell ⟨w.heap.size, 1, none⟩ (.slice (some ⟨gI, 0, none⟩) (K + i + 1) T)))) := fun w4 ho hg => by
        have s4 : Save (fun k => k = gI) wr w4 := ((Save.refl _ _).alloc _).drew.trans (Save.of_grown hg (fun k e => by cases e; rfl))
        have hb := SV.out.size
        have l1 := (Array.getElem?_eq_some_iff.1 BO.out).1
        have l2 := (Array.getElem?_eq_some_iff.1 BR.out).1
        have b1 := (s4.block w.heap.size l1 (by omega)).trans BO.out
        have b2 := (s4.block (w.heap.size + 1) l2 (by omega)).trans BR.out
        refine ⟨two_cells b1, set_one b1, (Below.heap_setCell _ _ _ _ (by show w.heap.size + 1 ≠ w.heap.size; omega)).trans b2, ?_, (SV.out.trans s4).setCell (.inr (Nat.le_refl _)) _⟩
        show Own _ _ _ _
        rw [HTK.out, ← List.append_assoc]
        exact ho.save (show Save (fun k => k = w.heap.size) w4 _ from Save.setCell (X := fun k => k = w.heap.size) (Save.refl _ w4) (p := ⟨w.heap.size, 1, none⟩) (.inl rfl) _) (by omega)
      clear HIM HC HIF HI HN
      go_wp2_with fail
      go_region_law (refine step_room rfl (.tmp 15) (.tmp 20) hll rfl rfl rfl OD.out hcN (by omega) ?_; intro w4 hown' hgrow; have H4 := hid (NX.out w4 hown' hgrow); obtain ⟨⟨d0, d1, e0, e1⟩, -⟩ := H4.out; clear hown' hgrow)
      all_goals (
        obtain ⟨-, R1, R2, R3, R4⟩ := H4.out
        clear NX
        go_wp2_with fail
        go_roundw
        (case rel => exact ⟨i + 1, hlt, by go_num, R1, R2, R3, R4⟩)
        (case measure => exact hmeas))
    · obtain rfl : i = K := by omega
      have hlt' : ¬ (i : Int) < (i : Int) := by omega
      rw [HIF.out] at OI
      have ON := hid (HN.out.save SV.out hne)
      have OD : Hid (Own B (wr.alloc (.cells #[.int .i64 x] 3)) (.slice (some ⟨gN, 0, none⟩) p.length n) p) := ON.out.save (X := fun _ => False) ((Save.refl _ _).alloc _) id
      have hcN : (wr.alloc (.cells #[.int .i64 x] 3)).cell? ⟨wr.heap.size, 0, none⟩ = some (.int .i64 x) := (Boxed.new wr 3 _).cell
      have hsz := SV.out.size
      clear HIM HC HIF HI HN
      go_wp2_with (at_builtin; refine wpList_room rfl (.tmp 25) (.tmp 27) rfl rfl rfl rfl OD.out hcN hp ?_)
      intro w5 ho hg
      have s5 : Save (fun k => k = gN) wr w5 := ((Save.refl _ _).alloc _).trans (Save.of_grown hg (fun k e => by cases e; rfl))
      have l1 := (Array.getElem?_eq_some_iff.1 BO.out).1
      have l2 := (Array.getElem?_eq_some_iff.1 BR.out).1
      have b1 := (s5.block w.heap.size l1 (by omega)).trans BO.out
      have b2 := (s5.block (w.heap.size + 1) l2 (by omega)).trans BR.out
      have OI5 := OI.out.save s5 (fun e => hne e.symm)
      have S5 : Save (fun k => k = gN ∨ k = gI) w w5 := (SV.out.mono (fun _ h => .inr h)).trans (s5.mono (fun _ h => .inl h))
      obtain ⟨d0, d1, e0, e1⟩ := two_cells b1
      have b6 := set_nil (y := .slice (some ⟨gN, 0, none⟩) (p.length + 1) n) b1
      have b7 := (Below.heap_setCell w5 ⟨w.heap.size, 0, none⟩ (.slice (some ⟨gN, 0, none⟩) (p.length + 1) n) (w.heap.size + 1) (by show w.heap.size + 1 ≠ w.heap.size; omega)).trans b2
      have s6 : Save (fun k => k = w.heap.size) w5 (w5.setCell ⟨w.heap.size, 0, none⟩ (.slice (some ⟨gN, 0, none⟩) (p.length + 1) n)) := Save.setCell (X := fun k => k = w.heap.size) (Save.refl _ w5) (p := ⟨w.heap.size, 0, none⟩) (.inl rfl) _
      have ON6 := hid (ho.save s6 (by omega))
      have OI6 := hid (OI5.save s6 (by omega))
      have S6 := hid (S5.andThen s6 (fun k hk e => by omega))
      obtain ⟨m0, m1, -, -⟩ := two_cells b6
      obtain ⟨n0, n1, q0, q1⟩ := two_cells b7
      clear s5 s6 ho hg OI5 S5 b1 b2 l1 l2 ON OD hcN SV OI BO BR
      generalize hW6 : w5.setCell ⟨w.heap.size, 0, none⟩ (.slice (some ⟨gN, 0, none⟩) (p.length + 1) n) = W6 at *
      have r67 := set_two (x := .slice (some ⟨gN, 0, none⟩) (p.length + 1) n) (y := .slice (some ⟨gI, 0, none⟩) (i + i) T) b7
      have s7 : Save (fun k => k = w.heap.size + 1) W6 ((W6.setCell ⟨w.heap.size + 1, 0, none⟩ (.slice (some ⟨gN, 0, none⟩) (p.length + 1) n)).setCell ⟨w.heap.size + 1, 1, none⟩ (.slice (some ⟨gI, 0, none⟩) (i + i) T)) := Save.setCell (X := fun k => k = w.heap.size + 1) (Save.setCell (X := fun k => k = w.heap.size + 1) (Save.refl _ W6) (p := ⟨w.heap.size + 1, 0, none⟩) (.inl rfl) _) (p := ⟨w.heap.size + 1, 1, none⟩) (.inl rfl) _
      have ON7 := hid (ON6.out.save s7 (by omega))
      have OI7 := hid (OI6.out.save s7 (by omega))
      have S7 := hid (S6.out.andThen s7 (fun k hk e => by omega))
      obtain ⟨r6, r7⟩ := r67
      clear s7 b6 b7 ON6 OI6 S6
      go_wp2_with fail
      refine bodyPost_ret (v := .agg #[.slice (some ⟨gN, 0, none⟩) (p.length + 1) n, .slice (some ⟨gI, 0, none⟩) (i + i) T]) ?_ rfl ⟨rfl, ON7.out, by rw [HF.out]; exact OI7.out, S7.out⟩
      simp [results, Try.f93, go_sem, r6, r7]
end Go.Proofs.Ytgdcfogikchjeaa
