/- same.order's with. -/
import Derived.Test.YthlmnhcnpffjdaaGreatOrdVQ
import Derived.Deep.CutRange
import Derived.Deep.RegionLaw
import Derived.RangeFuncNested
import Derived.Test.YthlmnhcnpffjdaaGreatThoseQ
import Derived.Test.YthlmnhcnpffjdaaGreatSieveQ
import Derived.Test.YthlmnhcnpffjdaaGreatPlainAll
namespace Go.Proofs.YthlmnhcnpffjdaaGreat
open Go.RowKit

set_option maxRecDepth 20000 in
set_option maxHeartbeats 2000000 in
theorem with_ok (n x gN gI B : Nat) (p : List Nat) (w : World) (hn : n ≤ 8) (hx : x < n) (hp : p.length < n) (hpx : ∀ i ∈ p, i < n) (hN : Own B w (.slice (some ⟨gN, 0, none⟩) p.length n) p) (hI : Own B w (.slice (some ⟨gI, 0, none⟩) (2 ^ p.length) (2 ^ n)) (imgs p)) (hne : gN ≠ gI) :
    Calls Tryz.prog 36 #[.agg #[.slice (some ⟨gN, 0, none⟩) p.length n, .slice (some ⟨gI, 0, none⟩) (2 ^ p.length) (2 ^ n)], .int .i64 x] w fun e w' =>
      e = .returned (.agg #[.slice (some ⟨gN, 0, none⟩) (p.length + 1) n, .slice (some ⟨gI, 0, none⟩) (2 ^ (p.length + 1)) (2 ^ n)]) ∧ Own B w' (.slice (some ⟨gN, 0, none⟩) (p.length + 1) n) (p ++ [x]) ∧ Own B w' (.slice (some ⟨gI, 0, none⟩) (2 ^ (p.length + 1)) (2 ^ n)) (imgs (p ++ [x])) ∧ Save (fun k => k = gN ∨ k = gI) w w' := by
  have hlen := imgs_len p.length p rfl
  have hil := imgs_lt (n := n) p.length p rfl hpx
  have HE : Hid (imgs (p ++ [x]) = imgs p ++ (imgs p).map (· ||| 2 ^ x)) := imgs_snoc p x
  have hK8 : 2 ^ (p.length + 1) ≤ 2 ^ n := Nat.pow_le_pow_right (by omega) (by omega)
  have hT := (pow_wrap n hn).2
  rw [Nat.pow_succ] at hK8
  rw [HE.out, show 2 ^ (p.length + 1) = 2 ^ p.length + 2 ^ p.length by rw [Nat.pow_succ]; omega]
  clear HE
  have hX2 : 2 ^ x < 2 ^ n := Nat.pow_lt_pow_right (by omega) hx
  obtain ⟨K, HK⟩ : ∃ K, Hid (2 ^ p.length = K) := ⟨2 ^ p.length, Eq.refl (2 ^ p.length)⟩
  obtain ⟨T, HT⟩ : ∃ T, Hid (2 ^ n = T) := ⟨2 ^ n, Eq.refl (2 ^ n)⟩
  have hshl : Hid (∃ X : Nat, 2 ^ x = X ∧ X < T) := ⟨2 ^ x, rfl, by rw [← HT.out]; exact hX2⟩
  rw [HK.out] at hlen hK8 hI
  rw [HT.out] at hK8 hT hil hI
  rw [HK.out, HT.out]
  clear hX2 hpx
  generalize imgs p = im at *
  have HN := hid hN
  have HI := hid hI
  have hgN := hN.lt.2
  have hgI := hI.lt.2
  clear hN hI
  go_enter Tryz.func36, Tryz.ntmps36
  go_wp2_with fail
  obtain ⟨X, HX, hX⟩ := hshl.out
  have hpw2 : IntKind.i64.wrap (2 ^ x) = (X : Int) := by rw [show (2 : Int) ^ x = ((2 ^ x : Nat) : Int) by simp, HX]; exact wrap_i64_nat _ (by omega)
  have HIM : Hid (∀ i, i < K → im.getD i 0 < T ∧ (im.take (i + 1)).map (· ||| 2 ^ x) = (im.take i).map (· ||| 2 ^ x) ++ [im.getD i 0 ||| X]) := fun i hi => by
    refine ⟨hil _ (by rw [show im.getD i 0 = im[i]'(by omega) by simp [List.getD, hlen, hi]]; exact List.getElem_mem _), ?_⟩
    rw [take_snoc (by omega), List.map_append, ← HX]
    rfl
  have HIF : Hid ((im.take K).map (· ||| 2 ^ x) = im.map (· ||| 2 ^ x)) := by show _ = _; rw [← hlen, List.take_length]
  have HC : Hid (∀ wr i L, i < K → Own B wr (.slice (some ⟨gI, 0, none⟩) (K + i) T) (im ++ L) → wr.cell? ⟨gI, i, none⟩ = some (.int .i64 (im.getD i 0 : Nat))) := fun wr i L hi h => by
    have h1 := h.at (i := i) (by rw [List.length_append]; omega)
    rw [h1]
    simp only [List.getD, List.getElem?_append_left (show i < im.length by omega)]
  generalize hf : (fun z => z ||| 2 ^ x) = f at *
  have HF := hid hf
  clear hshl hil hf
  go_loopw [6, 10] (fun _ j wr => ∃ i : Nat, i ≤ K ∧ j = .int .i64 i ∧ Hid (wr.heap[w.heap.size]? = some (.cells #[.slice (some ⟨gN, 0, none⟩) p.length n, .slice (some ⟨gI, 0, none⟩) (K + i) T] 58 (0, 0))) ∧ Hid (wr.heap[w.heap.size + 1]? = some (.cells #[.slice none 0 0, .slice none 0 0] 58 (0, 0))) ∧ Hid (Own B wr (.slice (some ⟨gI, 0, none⟩) (K + i) T) (im ++ (im.take i).map f)) ∧ Hid (Save (fun k => k = gI) w wr)) (fun _ j _ => K - (intOf j).toNat)
  case atStart =>
    refine ⟨0, Nat.zero_le _, rfl, ?_, ?_, ?_, ?_⟩
    · show _ = _
      rw [Below.heap_alloc _ _ _ (by simp)]
      exact World.alloc_heap_new w _
    · show _ = _
      have := World.alloc_heap_new (w.alloc (.cells #[.slice (some ⟨gN, 0, none⟩) p.length n, .slice (some ⟨gI, 0, none⟩) K T] 58)) (.cells #[.slice none 0 0, .slice none 0 0] 58)
      rwa [World.size_alloc] at this
    · show Own _ _ _ _
      simp only [List.take_zero, List.map_nil, List.append_nil]
      exact HI.out.save (X := fun _ => False) (((Save.refl _ _).alloc _).alloc _) id
    · exact ((Save.refl _ _).alloc _).alloc _
  case round =>
    obtain ⟨i, hi, rfl, BO, BR, OI, SV⟩ := hrel
    obtain ⟨c0, c1, f0, f1⟩ := two_cells BO.out
    by_cases hlt : i < K
    · have hlt' : (i : Int) < (K : Int) := by omega
      have cY := HC.out wr i _ hlt OI.out
      obtain ⟨hy, htk⟩ := HIM.out i hlt
      have HTK := hid htk
      clear htk
      generalize im.getD i 0 = y at *
      have hor : bits .or .i64 (y : Int) (X : Int) = ((y ||| X : Nat) : Int) := i64_or_nat _ _ (by omega) (by omega)
      have hsz := SV.out.size
      have hmeas : K - (i + 1) < K - i := by omega
      have hll : (im ++ (im.take i).map f).length = K + i := by simp [hlen]; omega
      have c1d : wr.drew.cell? ⟨w.heap.size, 1, none⟩ = some (.slice (some ⟨gI, 0, none⟩) (K + i) T) := c1
      have c1e : (wr.alloc (.cells #[.int .i64 ((y ||| X : Nat) : Int)] 3)).drew.cell? ⟨w.heap.size, 1, none⟩ = some (.slice (some ⟨gI, 0, none⟩) (K + i) T) := (World.cell?_of_block (w := wr) (Below.heap_alloc wr _ _ (Array.getElem?_eq_some_iff.1 BO.out).1)).trans c1
      have OD : Hid (Own B (wr.alloc (.cells #[.int .i64 ((y ||| X : Nat) : Int)] 3)).drew (.slice (some ⟨gI, 0, none⟩) (K + i) T) (im ++ (im.take i).map f)) := OI.out.save (X := fun _ => False) ((Save.refl _ _).alloc _).drew id
      have hcN : (wr.alloc (.cells #[.int .i64 ((y ||| X : Nat) : Int)] 3)).drew.cell? ⟨wr.heap.size, 0, none⟩ = some (.int .i64 ((y ||| X : Nat) : Int)) := (Boxed.new wr 3 _).cell
      have NX : Hid (∀ w4, Own B w4 (.slice (some ⟨gI, 0, none⟩) (K + i + 1) T) ((im ++ (im.take i).map f) ++ [y ||| X]) → (wr.alloc (.cells #[.int .i64 ((y ||| X : Nat) : Int)] 3)).drew.grownBy w4 (some gI) → (w4.cell? ⟨w.heap.size, 0, none⟩ = some (.slice (some ⟨gN, 0, none⟩) p.length n) ∧ w4.cell? ⟨w.heap.size, 1, none⟩ = some (.slice (some ⟨gI, 0, none⟩) (K + i) T) ∧ w4.frozen? ⟨w.heap.size, 0, none⟩ = false ∧ w4.frozen? ⟨w.heap.size, 1, none⟩ = false) ∧
          Hid ((w4.setCell ⟨w.heap.size, 1, none⟩ (.slice (some ⟨gI, 0, none⟩) (K + i + 1) T)).heap[w.heap.size]? = some (.cells #[.slice (some ⟨gN, 0, none⟩) p.length n, .slice (some ⟨gI, 0, none⟩) (K + i + 1) T] 58 (0, 0))) ∧
          Hid ((w4.setCell ⟨w.heap.size, 1, none⟩ (.slice (some ⟨gI, 0, none⟩) (K + i + 1) T)).heap[w.heap.size + 1]? = some (.cells #[.slice none 0 0, .slice none 0 0] 58 (0, 0))) ∧
          Hid (Own B (w4.setCell ⟨w.heap.size, 1, none⟩ (.slice (some ⟨gI, 0, none⟩) (K + i + 1) T)) (.slice (some ⟨gI, 0, none⟩) (K + i + 1) T) (im ++ (im.take (i + 1)).map f)) ∧ Hid (Save (fun k => k = gI) w (w4.setCell ⟨w.heap.size, 1, none⟩ (.slice (some ⟨gI, 0, none⟩) (K + i + 1) T)))) := fun w4 ho hg => by
        have s4 : Save (fun k => k = gI) wr w4 := ((Save.refl _ _).alloc _).drew.trans (Save.of_grown hg (fun k e => by cases e; rfl))
        have hb := SV.out.size
        have l1 := (Array.getElem?_eq_some_iff.1 BO.out).1
        have l2 := (Array.getElem?_eq_some_iff.1 BR.out).1
        have b1 := (s4.block w.heap.size l1 (by omega)).trans BO.out
        have b2 := (s4.block (w.heap.size + 1) l2 (by omega)).trans BR.out
        refine ⟨two_cells b1, set_one b1, (Below.heap_setCell _ _ _ _ (by show w.heap.size + 1 ≠ w.heap.size; omega)).trans b2, ?_, (SV.out.trans s4).setCell (.inr (Nat.le_refl _)) _⟩
        show Own _ _ _ _
        rw [HTK.out, ← List.append_assoc]
        exact ho.save (show Save (fun k => k = w.heap.size) w4 _ from Save.setCell (X := fun k => k = w.heap.size) (Save.refl _ w4) (p := ⟨w.heap.size, 1, none⟩) (.inl rfl) _) (by omega)
      clear HIM HC HIF HI HN
      go_wp2_with fail
      go_region_law (refine step_room rfl (.tmp 15) (.tmp 20) hll rfl rfl rfl OD.out hcN (by omega) ?_; intro w4 hown' hgrow; have H4 := hid (NX.out w4 hown' hgrow); obtain ⟨⟨d0, d1, e0, e1⟩, -⟩ := H4.out; clear hown' hgrow)
      all_goals (
        obtain ⟨-, R1, R2, R3, R4⟩ := H4.out
        clear NX
        go_wp2_with fail
        go_roundw
        (case rel => exact ⟨i + 1, hlt, by go_num, R1, R2, R3, R4⟩)
        (case measure => exact hmeas))
    · obtain rfl : i = K := by omega
      have hlt' : ¬ (i : Int) < (i : Int) := by omega
      rw [HIF.out] at OI
      have ON := hid (HN.out.save SV.out hne)
      have OD : Hid (Own B (wr.alloc (.cells #[.int .i64 x] 3)) (.slice (some ⟨gN, 0, none⟩) p.length n) p) := ON.out.save (X := fun _ => False) ((Save.refl _ _).alloc _) id
      have hcN : (wr.alloc (.cells #[.int .i64 x] 3)).cell? ⟨wr.heap.size, 0, none⟩ = some (.int .i64 x) := (Boxed.new wr 3 _).cell
      have hsz := SV.out.size
      clear HIM HC HIF HI HN
      go_wp2_with (at_builtin; refine wpList_room rfl (.tmp 25) (.tmp 27) rfl rfl rfl rfl OD.out hcN hp ?_)
      intro w5 ho hg
      have s5 : Save (fun k => k = gN) wr w5 := ((Save.refl _ _).alloc _).trans (Save.of_grown hg (fun k e => by cases e; rfl))
      have l1 := (Array.getElem?_eq_some_iff.1 BO.out).1
      have l2 := (Array.getElem?_eq_some_iff.1 BR.out).1
      have b1 := (s5.block w.heap.size l1 (by omega)).trans BO.out
      have b2 := (s5.block (w.heap.size + 1) l2 (by omega)).trans BR.out
      have OI5 := OI.out.save s5 (fun e => hne e.symm)
      have S5 : Save (fun k => k = gN ∨ k = gI) w w5 := (SV.out.mono (fun _ h => .inr h)).trans (s5.mono (fun _ h => .inl h))
      obtain ⟨d0, d1, e0, e1⟩ := two_cells b1
      have b6 := set_nil (y := .slice (some ⟨gN, 0, none⟩) (p.length + 1) n) b1
      have b7 := (Below.heap_setCell w5 ⟨w.heap.size, 0, none⟩ (.slice (some ⟨gN, 0, none⟩) (p.length + 1) n) (w.heap.size + 1) (by show w.heap.size + 1 ≠ w.heap.size; omega)).trans b2
      have s6 : Save (fun k => k = w.heap.size) w5 (w5.setCell ⟨w.heap.size, 0, none⟩ (.slice (some ⟨gN, 0, none⟩) (p.length + 1) n)) := Save.setCell (X := fun k => k = w.heap.size) (Save.refl _ w5) (p := ⟨w.heap.size, 0, none⟩) (.inl rfl) _
      have ON6 := hid (ho.save s6 (by omega))
      have OI6 := hid (OI5.save s6 (by omega))
      have S6 := hid (S5.andThen s6 (fun k hk e => by omega))
      obtain ⟨m0, m1, -, -⟩ := two_cells b6
      obtain ⟨n0, n1, q0, q1⟩ := two_cells b7
      clear s5 s6 ho hg OI5 S5 b1 b2 l1 l2 ON OD hcN SV OI BO BR
      generalize hW6 : w5.setCell ⟨w.heap.size, 0, none⟩ (.slice (some ⟨gN, 0, none⟩) (p.length + 1) n) = W6 at *
      have r67 := set_two (x := .slice (some ⟨gN, 0, none⟩) (p.length + 1) n) (y := .slice (some ⟨gI, 0, none⟩) (i + i) T) b7
      have s7 : Save (fun k => k = w.heap.size + 1) W6 ((W6.setCell ⟨w.heap.size + 1, 0, none⟩ (.slice (some ⟨gN, 0, none⟩) (p.length + 1) n)).setCell ⟨w.heap.size + 1, 1, none⟩ (.slice (some ⟨gI, 0, none⟩) (i + i) T)) := Save.setCell (X := fun k => k = w.heap.size + 1) (Save.setCell (X := fun k => k = w.heap.size + 1) (Save.refl _ W6) (p := ⟨w.heap.size + 1, 0, none⟩) (.inl rfl) _) (p := ⟨w.heap.size + 1, 1, none⟩) (.inl rfl) _
      have ON7 := hid (ON6.out.save s7 (by omega))
      have OI7 := hid (OI6.out.save s7 (by omega))
      have S7 := hid (S6.out.andThen s7 (fun k hk e => by omega))
      obtain ⟨r6, r7⟩ := r67
      clear s7 b6 b7 ON6 OI6 S6
      go_wp2_with fail
      refine bodyPost_ret (v := .agg #[.slice (some ⟨gN, 0, none⟩) (p.length + 1) n, .slice (some ⟨gI, 0, none⟩) (i + i) T]) ?_ rfl ⟨rfl, ON7.out, by rw [HF.out]; exact OI7.out, S7.out⟩
      simp [results, Tryz.f36, go_sem, r6, r7]
end Go.Proofs.YthlmnhcnpffjdaaGreat

namespace Go.Proofs.YthlmnhcnpffjdaaGreat
open Go.RowKit

/-- An order as a value, and where it lies. -/
def ordV (gN gI n : Nat) (p : List Nat) : Value := .agg #[.slice (some ⟨gN, 0, none⟩) p.length n, .slice (some ⟨gI, 0, none⟩) (2 ^ p.length) (2 ^ n)]
structure OrdAt (B : Nat) (W : World) (gN gI n : Nat) (p : List Nat) : Prop where
  num : Own B W (.slice (some ⟨gN, 0, none⟩) p.length n) p
  img : Own B W (.slice (some ⟨gI, 0, none⟩) (2 ^ p.length) (2 ^ n)) (imgs p)
theorem OrdAt.save {X : Nat → Prop} {B : Nat} {W W' : World} {gN gI n : Nat} {p : List Nat} (h : OrdAt B W gN gI n p) (hs : Save X W W') (h1 : ¬ X gN) (h2 : ¬ X gI) : OrdAt B W' gN gI n p := ⟨h.num.save hs h1, h.img.save hs h2⟩
theorem OrdAt.front {B : Nat} {W : World} {gN gI n x : Nat} {p : List Nat} (h : OrdAt B W gN gI n (p ++ [x])) : OrdAt B W gN gI n p := by
  refine ⟨h.num.front, ?_⟩
  have h1 := h.img
  rw [← h1.len, imgs_snoc] at h1
  have h2 := h1.front
  rwa [imgs_len _ p rfl] at h2
theorem OrdAt.of_with {B : Nat} {W : World} {gN gI n x K2 T : Nat} {p : List Nat} (hN : Own B W (.slice (some ⟨gN, 0, none⟩) (p.length + 1) n) (p ++ [x])) (hI : Own B W (.slice (some ⟨gI, 0, none⟩) K2 T) (imgs (p ++ [x]))) (h2 : 2 ^ (p.length + 1) = K2) (hT : 2 ^ n = T) : OrdAt B W gN gI n (p ++ [x]) := by
  subst h2
  subst hT
  refine ⟨?_, ?_⟩
  · rw [List.length_append]; exact hN
  · rw [List.length_append]; exact hI
/-- One element more is tried. -/
def goStep {σ : Type} (fit : σ → List Nat → Bool) (fnd : σ → List Nat → Bool × σ) (n k : Nat) (p : List Nat) (s : σ) (x : Nat) : Bool × σ := if x ∈ p then (true, s) else if fit s (p ++ [x]) = true then walkO fit fnd n k s (p ++ [x]) else (true, s)
theorem walk_succ {σ : Type} (fit : σ → List Nat → Bool) (fnd : σ → List Nat → Bool × σ) (n k : Nat) (s : σ) (p : List Nat) : walkO fit fnd n (k + 1) s p = loopO (goStep fit fnd n k p) ((List.range n).drop 0) s := by rw [List.drop_zero]; rfl
theorem range_drop {n i : Nat} (h : i < n) : (List.range n).drop i = i :: (List.range n).drop (i + 1) := by
  rw [List.drop_eq_getElem_cons (by simpa using h)]
  simp
theorem Beg.snoc {n x : Nat} {p : List Nat} (h : Beg n p) (hx : x < n) (hn : x ∉ p) : Beg n (p ++ [x]) := by
  refine ⟨fun y hy => ?_, ?_⟩
  · rw [List.mem_append, List.mem_singleton] at hy
    rcases hy with hy | rfl
    · exact h.lt y hy
    · exact hx
  · rw [List.nodup_append]
    refine ⟨h.once, by simp, fun a ha b hb => ?_⟩
    rw [List.mem_singleton] at hb
    subst hb
    exact fun e => hn (e ▸ ha)
set_option maxRecDepth 20000 in
set_option maxHeartbeats 4000000 in
theorem goOn_ok {σ : Type} (n gN gI B ff gf : Nat) (cf cg : Array Value) (fit : σ → List Nat → Bool) (fnd : σ → List Nat → Bool × σ) (Inv : σ → World → Prop) (hn : n ≤ 8) (ef : Enters ff) (eg : Enters gf) (hne : gN ≠ gI)
    (hst : ∀ s W W', Inv s W → Save (fun k => k = gN ∨ k = gI) W W' → Inv s W')
    (hfit : ∀ s p W, Inv s W → Beg n p → 0 < p.length → OrdAt B W gN gI n p → B ≤ W.heap.size → Calls Tryz.prog ff (#[ordV gN gI n p] ++ cf) W fun e W' => e = .returned (.bool (fit s p)) ∧ Inv s W' ∧ Save (fun k => k < B) W W')
    (hfnd : ∀ s p W, Inv s W → Beg n p → p.length = n → OrdAt B W gN gI n p → B ≤ W.heap.size → Calls Tryz.prog gf (#[ordV gN gI n p] ++ cg) W fun e W' => e = .returned (.bool (fnd s p).1) ∧ Inv (fnd s p).2 W' ∧ Save (fun k => k < B) W W') :
    ∀ (k : Nat) (s : σ) (p : List Nat) (w : World), p.length + k = n → Beg n p → Inv s w → OrdAt B w gN gI n p → B ≤ w.heap.size →
      Calls Tryz.prog 66 #[ordV gN gI n p, .int .i64 n, .func (.func ff) #[] cf, .func (.func gf) #[] cg] w fun e W' => e = .returned (.bool (walkO fit fnd n k s p).1) ∧ Inv (walkO fit fnd n k s p).2 W' ∧ OrdAt B W' gN gI n p ∧ Save (fun k => k < B ∨ k = gN ∨ k = gI) w W' := by
  intro k
  induction k with
  | zero =>
    intro s p w hpk hbg hI hO hB
    have hp : p.length = n := by omega
    have F1 := hid (fun w1 (h1 : Inv s w1) (h2 : OrdAt B w1 gN gI n p) h3 => hfnd s p w1 h1 hbg hp h2 h3)
    have HO := hid hO
    have HI := hid hI
    have B1 : Below w.heap.size w (w.alloc (.cells #[.slice (some ⟨gN, 0, none⟩) p.length n, .slice (some ⟨gI, 0, none⟩) (2 ^ p.length) (2 ^ n)] 58)) := (Below.refl _ _).alloc (Nat.le_refl _) _
    have F2 := hid (F1.out _ (hst _ _ _ hI (Save.of_below B1)) (hO.save (X := fun _ => False) (Save.of_below B1) id id) (Nat.le_trans hB B1.size))
    unfold Enters at eg
    have hl := hO.num.lt
    have hl2 := hO.img.lt
    clear hfit hfnd F1 hst hI hO ef
    unfold ordV at *
    have hpn : ((p.length : Int) == (n : Int)) = true := by rw [hp]; simp
    rw [show walkO fit fnd n 0 s p = fnd s p from rfl]
    generalize 2 ^ p.length = K at *
    generalize 2 ^ n = T at *
    have HB1 := hid B1
    clear B1 hp hpk
    go_enter Tryz.func66, Tryz.ntmps66
    go_wp2_with fail
    refine F2.out.mono ?_
    rintro e w2 ⟨rfl, h2, h3⟩
    have H2 := hid h2
    have H3 := hid (Save.trans (X := fun k => k < B ∨ k = gN ∨ k = gI) (Save.of_below HB1.out) (h3.mono fun _ h => .inl h))
    have O3 : Hid (OrdAt B w2 gN gI n p) := (HO.out.save (X := fun _ => False) (Save.of_below HB1.out) id id).save h3 (by omega) (by omega)
    clear h2 h3 F2
    go_wp2_with fail
    go_ret
    exact ⟨rfl, H2.out, O3.out, H3.out⟩
  | succ k ih =>
    intro s p w hpk hbg hI hO hB
    have hp : p.length < n := by omega
    have hpn : ((p.length : Int) == (n : Int)) = false := by rw [beq_eq_false_iff_ne]; omega
    rw [walk_succ]
    obtain ⟨R, HR⟩ : ∃ R, Hid (loopO (goStep fit fnd n k p) ((List.range n).drop 0) s = R) := ⟨_, Eq.refl (loopO (goStep fit fnd n k p) ((List.range n).drop 0) s)⟩
    rw [HR.out]
    have FT := hid (fun s x w1 (hx : x < n) (hm : x ∉ p) (h1 : Inv s w1) (h2 : OrdAt B w1 gN gI n (p ++ [x])) h3 => hfit s (p ++ [x]) w1 h1 (hbg.snoc hx hm) (by simp) h2 h3)
    have IH := hid (fun s x w1 (hx : x < n) (hm : x ∉ p) (h1 : Inv s w1) (h2 : OrdAt B w1 gN gI n (p ++ [x])) h3 => ih s (p ++ [x]) w1 (by simp; omega) (hbg.snoc hx hm) h1 h2 h3)
    have WT := hid (fun x w1 (hx : x < n) (h : OrdAt B w1 gN gI n p) => with_ok n x gN gI B p w1 hn hx hp hbg.lt h.num h.img hne)
    have CT := hid (fun x w1 (h : OrdAt B w1 gN gI n p) => Contains_any _ p x w1 (h.num.ints (by omega)))
    have hl := hO.num.lt
    have hl2 := hO.img.lt
    have B1 : Below w.heap.size w (w.alloc (.cells #[.slice (some ⟨gN, 0, none⟩) p.length n, .slice (some ⟨gI, 0, none⟩) (2 ^ p.length) (2 ^ n)] 58)) := (Below.refl _ _).alloc (Nat.le_refl _) _
    have BO := hid (World.alloc_heap_new w (.cells #[.slice (some ⟨gN, 0, none⟩) p.length n, .slice (some ⟨gI, 0, none⟩) (2 ^ p.length) (2 ^ n)] 58))
    have HI := hid (hst _ _ _ hI (Save.of_below B1))
    have HO := hid (hO.save (X := fun _ => False) (Save.of_below B1) id id)
    have HS : Hid (Save (fun k => k < B ∨ k = gN ∨ k = gI) w (w.alloc (.cells #[.slice (some ⟨gN, 0, none⟩) p.length n, .slice (some ⟨gI, 0, none⟩) (2 ^ p.length) (2 ^ n)] 58))) := Save.of_below B1
    have HST2 : Hid (∀ s a b, Inv s a → Save (fun k => k = gN ∨ k = gI) a b → B ≤ a.heap.size → Inv s b) := fun s a b h1 h2 _ => hst s a b h1 h2
    clear hfit hfnd hst hI hO eg ih hbg hpk B1
    unfold Enters at ef
    unfold ordV at *
    simp only [List.length_append, List.length_singleton] at FT IH
    obtain ⟨K2, HK2⟩ : ∃ K2, Hid (2 ^ (p.length + 1) = K2) := ⟨2 ^ (p.length + 1), Eq.refl (2 ^ (p.length + 1))⟩
    obtain ⟨T, HT⟩ : ∃ T, Hid (2 ^ n = T) := ⟨2 ^ n, Eq.refl (2 ^ n)⟩
    rw [HT.out] at BO HI HO HS
    simp only [HK2.out, HT.out] at FT IH WT CT
    rw [HT.out]
    generalize 2 ^ p.length = K at *
    go_enter Tryz.func66, Tryz.ntmps66
    go_wp2_with fail
    go_loopw [9, 20] (fun _ j wr => ∃ (i : Nat) (sc : σ), i ≤ n ∧ j = .int .i64 i ∧ Hid (Inv sc wr) ∧ Hid (OrdAt B wr gN gI n p) ∧ Hid (wr.heap[w.heap.size]? = some (.cells #[.slice (some ⟨gN, 0, none⟩) p.length n, .slice (some ⟨gI, 0, none⟩) K T] 58 (0, 0))) ∧ Hid (Save (fun k => k < B ∨ k = gN ∨ k = gI) w wr) ∧ Hid (loopO (goStep fit fnd n k p) ((List.range n).drop i) sc = R)) (fun _ j _ => n - (intOf j).toNat)
    case atStart => exact ⟨0, s, Nat.zero_le _, rfl, HI, HO, BO, HS, HR⟩
    case round =>
      obtain ⟨i, sc, hi, rfl, HIr, HOr, BOr, HSr, HLr⟩ := hrel
      clear HI HO BO HS HR
      obtain ⟨c0, c1, -, -⟩ := two_cells BOr.out
      have hwr : w.heap.size < wr.heap.size := (Array.getElem?_eq_some_iff.1 BOr.out).1
      by_cases hlt : i < n
      · have hlt' : (i : Int) < (n : Int) := by omega
        have hmeas : n - (i + 1) < n - i := by omega
        rw [range_drop hlt, loopO] at HLr
        have C1 := hid (CT.out i wr HOr.out)
        by_cases hm : i ∈ p
        · rw [show memB i p = true from decide_eq_true hm] at C1
          have HL2 : Hid (loopO (goStep fit fnd n k p) ((List.range n).drop (i + 1)) sc = R) := by
            show _ = _
            rw [← HLr.out, show goStep fit fnd n k p sc i = (true, sc) from if_pos hm]
            rfl
          clear HLr hm FT IH WT CT
          go_wp2_with fail
          refine C1.out.mono ?_
          rintro e w' ⟨rfl, hw'⟩
          obtain rfl := hw'.symm
          go_wp2_with fail
          go_roundw
          case rel => exact ⟨i + 1, sc, hlt, by go_num, HIr, HOr, BOr, HSr, HL2⟩
          case measure => exact hmeas
        · rw [show memB i p = false from decide_eq_false hm] at C1
          have HGS : Hid (goStep fit fnd n k p sc i = if fit sc (p ++ [i]) = true then walkO fit fnd n k sc (p ++ [i]) else (true, sc)) := if_neg hm
          have W1 := hid (WT.out i wr hlt HOr.out)
          have F1 := hid (fun w1 => FT.out sc i w1 hlt hm)
          have I1 := hid (fun w1 => IH.out sc i w1 hlt hm)
          clear FT IH WT CT hm
          go_wp2_with fail
          refine C1.out.mono ?_
          rintro e w' ⟨rfl, hw'⟩
          obtain rfl := hw'.symm
          clear C1
          go_wp2_with fail
          refine W1.out.mono ?_
          rintro e w2 ⟨rfl, hN2, hI2, hs2⟩
          have O2 : OrdAt B (w2.alloc (.cells #[.slice (some ⟨gN, 0, none⟩) (p.length + 1) n, .slice (some ⟨gI, 0, none⟩) K2 T] 58)) gN gI n (p ++ [i]) := OrdAt.save (X := fun _ => False) (OrdAt.of_with hN2 hI2 HK2.out HT.out) (Save.of_below ((Below.refl _ _).alloc (Nat.le_refl _) _)) id id
          have S2 : Save (fun k => k = gN ∨ k = gI) wr (w2.alloc (.cells #[.slice (some ⟨gN, 0, none⟩) (p.length + 1) n, .slice (some ⟨gI, 0, none⟩) K2 T] 58)) := hs2.alloc _
          have L2 := World.alloc_heap_new w2 (.cells #[.slice (some ⟨gN, 0, none⟩) (p.length + 1) n, .slice (some ⟨gI, 0, none⟩) K2 T] 58)
          have z2 := World.size_alloc w2 (.cells #[.slice (some ⟨gN, 0, none⟩) (p.length + 1) n, .slice (some ⟨gI, 0, none⟩) K2 T] 58)
          have y2 := hs2.size
          have F2 := hid (F1.out _ (HST2.out _ _ _ HIr.out S2 (by omega)) O2 (by omega))
          obtain ⟨d0, d1, -, -⟩ := two_cells L2
          have HO2 := hid O2
          have HS2 := hid S2
          have HL2 := hid L2
          clear W1 F1 hN2 hI2 hs2 O2 S2 L2
          go_wp2_with fail
          refine F2.out.mono ?_
          rintro e w4 ⟨rfl, hI4, hs4⟩
          have hz4 := hs4.size
          have O4 := hid (HO2.out.save hs4 (by omega) (by omega))
          have HI4 := hid hI4
          have S4 : Hid (Save (fun k => k < B ∨ k = gN ∨ k = gI) wr w4) := (HS2.out.mono (fun _ h => .inr h)).trans (hs4.mono (fun _ h => .inl h))
          have BO4 := hid ((S4.out.block w.heap.size hwr (by omega)).trans BOr.out)
          have L4 := (hs4.block w2.heap.size (by omega) (by omega)).trans HL2.out
          obtain ⟨e0, e1, -, -⟩ := two_cells L4
          have SW4 := hid (HSr.out.trans S4.out)
          clear F2 hI4 hs4 HL2 L4 d0 d1 c0 c1
          rcases hfb : fit sc (p ++ [i]) with _ | _
          · have HL3 : Hid (loopO (goStep fit fnd n k p) ((List.range n).drop (i + 1)) sc = R) := by
              show _ = _
              rw [← HLr.out, HGS.out, hfb]
              rfl
            clear HLr HGS hfb I1
            go_wp2_with fail
            go_roundw
            case rel => exact ⟨i + 1, sc, hlt, by go_num, HI4, O4.out.front, BO4, SW4, HL3⟩
            case measure => exact hmeas
          · have I2 := hid (I1.out w4 HI4.out O4.out (by omega))
            rw [hfb, if_pos rfl] at HGS
            rw [HGS.out] at HLr
            clear I1 hfb HGS
            generalize walkO fit fnd n k sc (p ++ [i]) = wk at *
            obtain ⟨wb, ws⟩ := wk
            go_wp2_with fail
            refine I2.out.mono ?_
            rintro e w5 ⟨rfl, hI5, hO5, hs5⟩
            have hz5 := hs5.size
            have hz54 : w.heap.size < w4.heap.size := (Array.getElem?_eq_some_iff.1 BO4.out).1
            have BO5 := hid ((hs5.block w.heap.size hz54 (by omega)).trans BO4.out)
            have SW5 := hid (SW4.out.trans hs5)
            have HI5 := hid hI5
            have O5 := hid hO5.front
            clear I2 hI5 hO5 hs5 e0 e1
            cases wb with
            | true =>
              have HL3 : Hid (loopO (goStep fit fnd n k p) ((List.range n).drop (i + 1)) ws = R) := HLr.out
              clear HLr
              go_wp2_with fail
              go_roundw
              case rel => exact ⟨i + 1, ws, hlt, by go_num, HI5, O5, BO5, SW5, HL3⟩
              case measure => exact hmeas
            | false =>
              have HL3 : Hid ((false, ws) = R) := HLr.out
              clear HLr
              go_wp2_with fail
              go_ret
              exact ⟨by rw [← HL3.out]; rfl, by rw [← HL3.out]; exact HI5.out, O5.out, SW5.out⟩
      · obtain rfl : i = n := by omega
        have hlt' : ¬ (i : Int) < (i : Int) := by omega
        have HL2 : Hid ((true, sc) = R) := by
          show _ = _
          rw [← HLr.out, List.drop_of_length_le (by simp)]
          rfl
        clear HLr FT IH WT CT
        go_wp2_with fail
        go_ret
        exact ⟨by rw [← HL2.out]; rfl, by rw [← HL2.out]; exact HIr.out, HOr.out, HSr.out⟩
end Go.Proofs.YthlmnhcnpffjdaaGreat
