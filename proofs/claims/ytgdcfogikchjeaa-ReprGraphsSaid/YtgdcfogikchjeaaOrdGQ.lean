/- same.order's goOn, for whatever functions answer. -/
import Derived.Test.YtgdcfogikchjeaaOrdWQ
import Derived.Test.YtgdcfogikchjeaaThoseW
import Derived.Test.YtgdcfogikchjeaaSieveW
import Derived.Test.YtgdcfogikchjeaaPlainAll
namespace Go.Proofs.Ytgdcfogikchjeaa
open Go.RowKit

/-- An order as a value, and where it lies. -/
def ordV (gN gI n : Nat) (p : List Nat) : Value := .agg #[.slice (some ⟨gN, 0, none⟩) p.length n, .slice (some ⟨gI, 0, none⟩) (2 ^ p.length) (2 ^ n)]
structure OrdAt (B : Nat) (W : World) (gN gI n : Nat) (p : List Nat) : Prop where
  num : Own B W (.slice (some ⟨gN, 0, none⟩) p.length n) p
  img : Own B W (.slice (some ⟨gI, 0, none⟩) (2 ^ p.length) (2 ^ n)) (imgs p)
theorem OrdAt.save {X : Nat → Prop} {B : Nat} {W W' : World} {gN gI n : Nat} {p : List Nat} (h : OrdAt B W gN gI n p) (hs : Save X W W') (h1 : ¬ X gN) (h2 : ¬ X gI) : OrdAt B W' gN gI n p := ⟨h.num.save hs h1, h.img.save hs h2⟩
theorem OrdAt.front {B : Nat} {W : World} {gN gI n x : Nat} {p : List Nat} (h : OrdAt B W gN gI n (p ++ [x])) : OrdAt B W gN gI n p := by
  refine ⟨h.num.front, ?_⟩
  have h1 := h.img
  rw [← h1.len, imgs_snoc] at h1
  have h2 := h1.front
  rwa [imgs_len _ p rfl] at h2
theorem OrdAt.of_with {B : Nat} {W : World} {gN gI n x K2 T : Nat} {p : List Nat} (hN : Own B W (.slice (some ⟨gN, 0, none⟩) (p.length + 1) n) (p ++ [x])) (hI : Own B W (.slice (some ⟨gI, 0, none⟩) K2 T) (imgs (p ++ [x]))) (h2 : 2 ^ (p.length + 1) = K2) (hT : 2 ^ n = T) : OrdAt B W gN gI n (p ++ [x]) := by
  subst h2
  subst hT
  refine ⟨?_, ?_⟩
  · rw [List.length_append]; exact hN
  · rw [List.length_append]; exact hI
/-- One element more is tried. -/
def goStep {σ : Type} (fit : σ → List Nat → Bool) (fnd : σ → List Nat → Bool × σ) (n k : Nat) (p : List Nat) (s : σ) (x : Nat) : Bool × σ := if x ∈ p then (true, s) else if fit s (p ++ [x]) = true then walkO fit fnd n k s (p ++ [x]) else (true, s)
theorem walk_succ {σ : Type} (fit : σ → List Nat → Bool) (fnd : σ → List Nat → Bool × σ) (n k : Nat) (s : σ) (p : List Nat) : walkO fit fnd n (k + 1) s p = loopO (goStep fit fnd n k p) ((List.range n).drop 0) s := by rw [List.drop_zero]; rfl
theorem range_drop {n i : Nat} (h : i < n) : (List.range n).drop i = i :: (List.range n).drop (i + 1) := by
  rw [List.drop_eq_getElem_cons (by simpa using h)]
  simp
theorem Beg.snoc {n x : Nat} {p : List Nat} (h : Beg n p) (hx : x < n) (hn : x ∉ p) : Beg n (p ++ [x]) := by
  refine ⟨fun y hy => ?_, ?_⟩
  · rw [List.mem_append, List.mem_singleton] at hy
    rcases hy with hy | rfl
    · exact h.lt y hy
    · exact hx
  · rw [List.nodup_append]
    refine ⟨h.once, by simp, fun a ha b hb => ?_⟩
    rw [List.mem_singleton] at hb
    subst hb
    exact fun e => hn (e ▸ ha)
set_option maxRecDepth 20000 in
set_option maxHeartbeats 4000000 in
theorem goOn_ok {σ : Type} (n gN gI B ff gf : Nat) (cf cg : Array Value) (fit : σ → List Nat → Bool) (fnd : σ → List Nat → Bool × σ) (Inv : σ → World → Prop) (hn : n ≤ 8) (ef : Enters ff) (eg : Enters gf) (hne : gN ≠ gI)
    (hst : ∀ s W W', Inv s W → Save (fun k => k = gN ∨ k = gI) W W' → Inv s W')
    (hfit : ∀ s p W, Inv s W → Beg n p → 0 < p.length → OrdAt B W gN gI n p → B ≤ W.heap.size → Calls Try.prog ff (#[ordV gN gI n p] ++ cf) W fun e W' => e = .returned (.bool (fit s p)) ∧ Inv s W' ∧ Save (fun k => k < B) W W')
    (hfnd : ∀ s p W, Inv s W → Beg n p → p.length = n → OrdAt B W gN gI n p → B ≤ W.heap.size → Calls Try.prog gf (#[ordV gN gI n p] ++ cg) W fun e W' => e = .returned (.bool (fnd s p).1) ∧ Inv (fnd s p).2 W' ∧ Save (fun k => k < B) W W') :
    ∀ (k : Nat) (s : σ) (p : List Nat) (w : World), p.length + k = n → Beg n p → Inv s w → OrdAt B w gN gI n p → B ≤ w.heap.size →
      Calls Try.prog 92 #[ordV gN gI n p, .int .i64 n, .func (.func ff) #[] cf, .func (.func gf) #[] cg] w fun e W' => e = .returned (.bool (walkO fit fnd n k s p).1) ∧ Inv (walkO fit fnd n k s p).2 W' ∧ OrdAt B W' gN gI n p ∧ Save (fun k => k < B ∨ k = gN ∨ k = gI) w W' := by
  intro k
  induction k with
  | zero =>
    intro s p w hpk hbg hI hO hB
    have hp : p.length = n := by omega
    have F1 := hid (fun w1 (h1 : Inv s w1) (h2 : OrdAt B w1 gN gI n p) h3 => hfnd s p w1 h1 hbg hp h2 h3)
    have HO := hid hO
    have HI := hid hI
    have B1 : Below w.heap.size w (w.alloc (.cells #[.slice (some ⟨gN, 0, none⟩) p.length n, .slice (some ⟨gI, 0, none⟩) (2 ^ p.length) (2 ^ n)] 120)) := (Below.refl _ _).alloc (Nat.le_refl _) _
    have F2 := hid (F1.out _ (hst _ _ _ hI (Save.of_below B1)) (hO.save (X := fun _ => False) (Save.of_below B1) id id) (Nat.le_trans hB B1.size))
    unfold Enters at eg
    have hl := hO.num.lt
    have hl2 := hO.img.lt
    clear hfit hfnd F1 hst hI hO ef
    unfold ordV at *
    have hpn : ((p.length : Int) == (n : Int)) = true := by rw [hp]; simp
    rw [show walkO fit fnd n 0 s p = fnd s p from rfl]
    generalize 2 ^ p.length = K at *
    generalize 2 ^ n = T at *
    have HB1 := hid B1
    clear B1 hp hpk
    go_enter Try.func92, Try.ntmps92
    go_wp2_with fail
    refine F2.out.mono ?_
    rintro e w2 ⟨rfl, h2, h3⟩
    have H2 := hid h2
    have H3 := hid (Save.trans (X := fun k => k < B ∨ k = gN ∨ k = gI) (Save.of_below HB1.out) (h3.mono fun _ h => .inl h))
    have O3 : Hid (OrdAt B w2 gN gI n p) := (HO.out.save (X := fun _ => False) (Save.of_below HB1.out) id id).save h3 (by omega) (by omega)
    clear h2 h3 F2
    go_wp2_with fail
    go_ret
    exact ⟨rfl, H2.out, O3.out, H3.out⟩
  | succ k ih =>
    intro s p w hpk hbg hI hO hB
    have hp : p.length < n := by omega
    have hpn : ((p.length : Int) == (n : Int)) = false := by rw [beq_eq_false_iff_ne]; omega
    rw [walk_succ]
    obtain ⟨R, HR⟩ : ∃ R, Hid (loopO (goStep fit fnd n k p) ((List.range n).drop 0) s = R) := ⟨_, Eq.refl (loopO (goStep fit fnd n k p) ((List.range n).drop 0) s)⟩
    rw [HR.out]
    have FT := hid (fun s x w1 (hx : x < n) (hm : x ∉ p) (h1 : Inv s w1) (h2 : OrdAt B w1 gN gI n (p ++ [x])) h3 => hfit s (p ++ [x]) w1 h1 (hbg.snoc hx hm) (by simp) h2 h3)
    have IH := hid (fun s x w1 (hx : x < n) (hm : x ∉ p) (h1 : Inv s w1) (h2 : OrdAt B w1 gN gI n (p ++ [x])) h3 => ih s (p ++ [x]) w1 (by simp; omega) (hbg.snoc hx hm) h1 h2 h3)
    have WT := hid (fun x w1 (hx : x < n) (h : OrdAt B w1 gN gI n p) => with_ok n x gN gI B p w1 hn hx hp hbg.lt h.num h.img hne)
    have CT := hid (fun x w1 (h : OrdAt B w1 gN gI n p) => Contains_any _ p x w1 (h.num.ints (by omega)))
    have hl := hO.num.lt
    have hl2 := hO.img.lt
    have B1 : Below w.heap.size w (w.alloc (.cells #[.slice (some ⟨gN, 0, none⟩) p.length n, .slice (some ⟨gI, 0, none⟩) (2 ^ p.length) (2 ^ n)] 120)) := (Below.refl _ _).alloc (Nat.le_refl _) _
    have BO := hid (World.alloc_heap_new w (.cells #[.slice (some ⟨gN, 0, none⟩) p.length n, .slice (some ⟨gI, 0, none⟩) (2 ^ p.length) (2 ^ n)] 120))
    have HI := hid (hst _ _ _ hI (Save.of_below B1))
    have HO := hid (hO.save (X := fun _ => False) (Save.of_below B1) id id)
    have HS : Hid (Save (fun k => k < B ∨ k = gN ∨ k = gI) w (w.alloc (.cells #[.slice (some ⟨gN, 0, none⟩) p.length n, .slice (some ⟨gI, 0, none⟩) (2 ^ p.length) (2 ^ n)] 120))) := Save.of_below B1
    have HST2 : Hid (∀ s a b, Inv s a → Save (fun k => k = gN ∨ k = gI) a b → B ≤ a.heap.size → Inv s b) := fun s a b h1 h2 _ => hst s a b h1 h2
    clear hfit hfnd hst hI hO eg ih hbg hpk B1
    unfold Enters at ef
    unfold ordV at *
    simp only [List.length_append, List.length_singleton] at FT IH
    obtain ⟨K2, HK2⟩ : ∃ K2, Hid (2 ^ (p.length + 1) = K2) := ⟨2 ^ (p.length + 1), Eq.refl (2 ^ (p.length + 1))⟩
    obtain ⟨T, HT⟩ : ∃ T, Hid (2 ^ n = T) := ⟨2 ^ n, Eq.refl (2 ^ n)⟩
    rw [HT.out] at BO HI HO HS
    simp only [HK2.out, HT.out] at FT IH WT CT
    rw [HT.out]
    generalize 2 ^ p.length = K at *
    go_enter Try.func92, Try.ntmps92
    go_wp2_with fail
    go_loopw [9, 20] (fun _ j wr => ∃ (i : Nat) (sc : σ), i ≤ n ∧ j = .int .i64 i ∧ Hid (Inv sc wr) ∧ Hid (OrdAt B wr gN gI n p) ∧ Hid (wr.heap[w.heap.size]? = some (.cells #[.slice (some ⟨gN, 0, none⟩) p.length n, .slice (some ⟨gI, 0, none⟩) K T] 120 (0, 0))) ∧ Hid (Save (fun k => k < B ∨ k = gN ∨ k = gI) w wr) ∧ Hid (loopO (goStep fit fnd n k p) ((List.range n).drop i) sc = R)) (fun _ j _ => n - (intOf j).toNat)
    case atStart => exact ⟨0, s, Nat.zero_le _, rfl, HI, HO, BO, HS, HR⟩
    case round =>
      obtain ⟨i, sc, hi, rfl, HIr, HOr, BOr, HSr, HLr⟩ := hrel
      clear HI HO BO HS HR
      obtain ⟨c0, c1, -, -⟩ := two_cells BOr.out
      have hwr : w.heap.size < wr.heap.size := (Array.getElem?_eq_some_iff.1 BOr.out).1
      by_cases hlt : i < n
      · have hlt' : (i : Int) < (n : Int) := by omega
        have hmeas : n - (i + 1) < n - i := by omega
        rw [range_drop hlt, loopO] at HLr
        have C1 := hid (CT.out i wr HOr.out)
        by_cases hm : i ∈ p
        · rw [show memB i p = true from decide_eq_true hm] at C1
          have HL2 : Hid (loopO (goStep fit fnd n k p) ((List.range n).drop (i + 1)) sc = R) := by
            show _ = _
            rw [← HLr.out, show goStep fit fnd n k p sc i = (true, sc) from if_pos hm]
            rfl
          clear HLr hm FT IH WT CT
          go_wp2_with fail
          refine C1.out.mono ?_
          rintro e w' ⟨rfl, hw'⟩
          obtain rfl := hw'.symm
          go_wp2_with fail
          go_roundw
          case rel => exact ⟨i + 1, sc, hlt, by go_num, HIr, HOr, BOr, HSr, HL2⟩
          case measure => exact hmeas
        · rw [show memB i p = false from decide_eq_false hm] at C1
          have HGS : Hid (goStep fit fnd n k p sc i = if fit sc (p ++ [i]) = true then walkO fit fnd n k sc (p ++ [i]) else (true, sc)) := if_neg hm
          have W1 := hid (WT.out i wr hlt HOr.out)
          have F1 := hid (fun w1 => FT.out sc i w1 hlt hm)
          have I1 := hid (fun w1 => IH.out sc i w1 hlt hm)
          clear FT IH WT CT hm
          go_wp2_with fail
          refine C1.out.mono ?_
          rintro e w' ⟨rfl, hw'⟩
          obtain rfl := hw'.symm
          clear C1
          go_wp2_with fail
          refine W1.out.mono ?_
          rintro e w2 ⟨rfl, hN2, hI2, hs2⟩
          have O2 : OrdAt B (w2.alloc (.cells #[.slice (some ⟨gN, 0, none⟩) (p.length + 1) n, .slice (some ⟨gI, 0, none⟩) K2 T] 120)) gN gI n (p ++ [i]) := OrdAt.save (X := fun _ => False) (OrdAt.of_with hN2 hI2 HK2.out HT.out) (Save.of_below ((Below.refl _ _).alloc (Nat.le_refl _) _)) id id
          have S2 : Save (fun k => k = gN ∨ k = gI) wr (w2.alloc (.cells #[.slice (some ⟨gN, 0, none⟩) (p.length + 1) n, .slice (some ⟨gI, 0, none⟩) K2 T] 120)) := hs2.alloc _
          have L2 := World.alloc_heap_new w2 (.cells #[.slice (some ⟨gN, 0, none⟩) (p.length + 1) n, .slice (some ⟨gI, 0, none⟩) K2 T] 120)
          have z2 := World.size_alloc w2 (.cells #[.slice (some ⟨gN, 0, none⟩) (p.length + 1) n, .slice (some ⟨gI, 0, none⟩) K2 T] 120)
          have y2 := hs2.size
          have F2 := hid (F1.out _ (HST2.out _ _ _ HIr.out S2 (by omega)) O2 (by omega))
          obtain ⟨d0, d1, -, -⟩ := two_cells L2
          have HO2 := hid O2
          have HS2 := hid S2
          have HL2 := hid L2
          clear W1 F1 hN2 hI2 hs2 O2 S2 L2
          go_wp2_with fail
          refine F2.out.mono ?_
          rintro e w4 ⟨rfl, hI4, hs4⟩
          have hz4 := hs4.size
          have O4 := hid (HO2.out.save hs4 (by omega) (by omega))
          have HI4 := hid hI4
          have S4 : Hid (Save (fun k => k < B ∨ k = gN ∨ k = gI) wr w4) := (HS2.out.mono (fun _ h => .inr h)).trans (hs4.mono (fun _ h => .inl h))
          have BO4 := hid ((S4.out.block w.heap.size hwr (by omega)).trans BOr.out)
          have L4 := (hs4.block w2.heap.size (by omega) (by omega)).trans HL2.out
          obtain ⟨e0, e1, -, -⟩ := two_cells L4
          have SW4 := hid (HSr.out.trans S4.out)
          clear F2 hI4 hs4 HL2 L4 d0 d1 c0 c1
          rcases hfb : fit sc (p ++ [i]) with _ | _
          · have HL3 : Hid (loopO (goStep fit fnd n k p) ((List.range n).drop (i + 1)) sc = R) := by
              show _ = _
              rw [← HLr.out, HGS.out, hfb]
              rfl
            clear HLr HGS hfb I1
            go_wp2_with fail
            go_roundw
            case rel => exact ⟨i + 1, sc, hlt, by go_num, HI4, O4.out.front, BO4, SW4, HL3⟩
            case measure => exact hmeas
          · have I2 := hid (I1.out w4 HI4.out O4.out (by omega))
            rw [hfb, if_pos rfl] at HGS
            rw [HGS.out] at HLr
            clear I1 hfb HGS
            generalize walkO fit fnd n k sc (p ++ [i]) = wk at *
            obtain ⟨wb, ws⟩ := wk
            go_wp2_with fail
            refine I2.out.mono ?_
            rintro e w5 ⟨rfl, hI5, hO5, hs5⟩
            have hz5 := hs5.size
            have hz54 : w.heap.size < w4.heap.size := (Array.getElem?_eq_some_iff.1 BO4.out).1
            have BO5 := hid ((hs5.block w.heap.size hz54 (by omega)).trans BO4.out)
            have SW5 := hid (SW4.out.trans hs5)
            have HI5 := hid hI5
            have O5 := hid hO5.front
            clear I2 hI5 hO5 hs5 e0 e1
            cases wb with
            | true =>
              have HL3 : Hid (loopO (goStep fit fnd n k p) ((List.range n).drop (i + 1)) ws = R) := HLr.out
              clear HLr
              go_wp2_with fail
              go_roundw
              case rel => exact ⟨i + 1, ws, hlt, by go_num, HI5, O5, BO5, SW5, HL3⟩
              case measure => exact hmeas
            | false =>
              have HL3 : Hid ((false, ws) = R) := HLr.out
              clear HLr
              go_wp2_with fail
              go_ret
              exact ⟨by rw [← HL3.out]; rfl, by rw [← HL3.out]; exact HI5.out, O5.out, SW5.out⟩
      · obtain rfl : i = n := by omega
        have hlt' : ¬ (i : Int) < (i : Int) := by omega
        have HL2 : Hid ((true, sc) = R) := by
          show _ = _
          rw [← HLr.out, List.drop_of_length_le (by simp)]
          rfl
        clear HLr FT IH WT CT
        go_wp2_with fail
        go_ret
        exact ⟨by rw [← HL2.out]; rfl, by rw [← HL2.out]; exact HIr.out, HOr.out, HSr.out⟩
end Go.Proofs.Ytgdcfogikchjeaa
