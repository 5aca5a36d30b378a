/- links.check, links.nexts. -/
import Derived.Test.YtjnifcfcigcngaaLkBQ
import Derived.Test.YtjnifcfcigcngaaKGraphQ
import Derived.Test.YtjnifcfcigcngaaMkToQ
namespace Go.Proofs.Ytjnifcfcigcngaa
open Go.RowKit

/-- What is wrong with a graph and two sets of its vertices. -/
def lnkE (n : Int) (F : List (Int × Int)) (s t : Int) : Int := if graphR n F = 0 then (if setR n s = 0 then setR n t else setR n s) else graphR n F
set_option maxRecDepth 20000 in
set_option maxHeartbeats 1600000 in
theorem lcheck_any (n s t : Int) (v : Value) (F : List (Int × Int)) (w : World) (h : EdgesI w v F) :
    Calls Try.prog 24 #[.agg #[.int .i64 n, v], .int .i64 s, .int .i64 t] w fun e w' => e = .returned (.int .i64 (lnkE n F s t)) ∧ Below w.heap.size w w' := by
  have HB0 := hid (below_boxGr w #[.int .i64 n, v])
  have HN := hid (World.alloc_heap_new w (.cells #[.int .i64 n, v] 24))
  have CG := hid (CheckGraph_any n v F _ (h.below HB0.out))
  have CK := hid (fun s w' => setsCheck_any n s w')
  have HE : Hid (lnkE n F s t = if graphR n F = 0 then (if setR n s = 0 then setR n t else setR n s) else graphR n F) := rfl
  obtain ⟨a, cap, rfl, hlen, hc⟩ := h
  clear hc
  go_enter Try.func24, Try.ntmps24
  go_wp2_with fail
  refine CG.out.mono ?_
  rintro e W ⟨rfl, hb1⟩
  have HB1 := hid (HB0.out.trans (hb1.mono HB0.out.size))
  have hx := (hb1.block w.heap.size (Array.getElem?_eq_some_iff.1 HN.out).1).trans HN.out
  obtain ⟨z0, z1, _, _⟩ := two_cells hx
  clear hb1 hx HB0 HN CG
  by_cases hg : graphR n F = 0
  · rw [hg] at HE ⊢
    have C1 := hid (CK.out s W)
    by_cases hs : setR n s = 0
    · rw [hs] at HE C1
      have C2 := hid (CK.out t W)
      generalize setR n t = rt at *
      go_wp2_with fail
      refine C1.out.mono ?_
      rintro e w2 ⟨rfl, rfl⟩
      go_wp2_with fail
      refine C2.out.mono ?_
      rintro e w2 ⟨rfl, rfl⟩
      go_wp2_with fail
      go_ret
      exact ⟨ret_int HE.out.symm, HB1.out⟩
    · have hs2 : (setR n s == 0) = false := by simpa using hs
      have HE2 : Hid (lnkE n F s t = setR n s) := by show _ = _; rw [HE.out, if_pos rfl, if_neg hs]
      generalize setR n s = rs at *
      go_wp2_with fail
      refine C1.out.mono ?_
      rintro e w2 ⟨rfl, rfl⟩
      go_wp2_with fail
      go_ret
      exact ⟨ret_int HE2.out.symm, HB1.out⟩
  · have hs2 : (graphR n F == 0) = false := by simpa using hg
    have HE2 : Hid (lnkE n F s t = graphR n F) := by show _ = _; rw [HE.out, if_neg hg]
    generalize graphR n F = rs at *
    go_wp2_with fail
    go_ret
    exact ⟨ret_int HE2.out.symm, HB1.out⟩
set_option maxRecDepth 20000 in
set_option maxHeartbeats 4000000 in
theorem nexts_own (n : Nat) (v : Value) (E : List (Nat × Nat)) (w : World) (hn0 : 1 ≤ n) (hn : n ≤ 7) (hE : ∀ j, j < E.length → ea E j < n ∧ eb E j < n) (h : EdgesAt w v E) :
    Calls Try.prog 26 #[.agg #[.int .i64 n, v]] w fun e w' => ∃ g c, e = .returned (.slice (some ⟨g, 0, none⟩) n c) ∧ w.heap.size ≤ g ∧ RkAt w' (.slice (some ⟨g, 0, none⟩) n c) n (nxF E E.length) ∧ Below w.heap.size w w' := by
  obtain ⟨a, cap, rfl, hlen, hc⟩ := h
  have HB0 : Hid (Below w.heap.size w (w.alloc (.cells #[.int .i64 n, .slice a E.length cap] 24))) := (Below.refl _ _).alloc (Nat.le_refl _) _
  have HN := hid (World.alloc_heap_new w (.cells #[.int .i64 n, .slice a E.length cap] 24))
  have mk := fun w => run_make_to n n (Nat.le_refl _) (by omega) w
  have HLT : Hid (∀ k v, k ≤ E.length → nxF E k v < 128) := fun k v hk => Nat.lt_of_lt_of_le (nx_lt (fun j hj => (hE j hj).2) v k hk) (Nat.pow_le_pow_right (by decide) hn : 2 ^ n ≤ 2 ^ 7)
  have HST : Hid (∀ k v, nxF E (k + 1) v = if ea E k = v then nxF E k v ||| 2 ^ eb E k else nxF E k v) := fun _ _ => rfl
  have HZ : Hid (∀ v, nxF E 0 v = 0) := fun _ => rfl
  generalize nxF E = q at *
  go_enter Try.func26, Try.ntmps26
  go_wp2_with fail
  have HSZ : Hid ((w.alloc (.cells #[.int .i64 n, .slice a E.length cap] 24)).heap.size = w.heap.size + 1) := World.size_alloc _ _
  revert HB0 HN HSZ
  generalize (w.alloc (.cells #[.int .i64 n, .slice a E.length cap] 24)) = W0
  intro HB0 HN HSZ
  have TB0 := hid (Tbl.new W0 n)
  have HB1 := hid (HB0.out.alloc (by have := HSZ.out; omega) (.cells (madeCells #[.int .i64 0] n) 3))
  have HW1 : Hid ((W0.alloc (.cells (madeCells #[.int .i64 0] n) 3)).heap.size = w.heap.size + 2) := by show _ = _; rw [World.size_alloc, HSZ.out]
  rw [HSZ.out] at TB0
  clear mk HB0 HN HSZ
  revert TB0 HB1 HW1
  generalize (W0.alloc (.cells (madeCells #[.int .i64 0] n) 3)) = W1
  clear W0
  intro TB0 HB1 HW1
  go_loopw [5, 12] (fun _ i wr => ∃ k : Nat, k ≤ E.length ∧ i = .int .i64 k ∧ Hid (Tbl (w.heap.size + 1) wr n (q k)) ∧ Hid (Below w.heap.size w wr) ∧ Hid (w.heap.size + 2 ≤ wr.heap.size)) (fun _ i _ => E.length - (intOf i).toNat)
  case atStart => exact ⟨0, Nat.zero_le _, rfl, TB0.out.congr (fun v _ => HZ.out v), HB1.out, by have := HW1.out; show _ ≤ _; omega⟩
  case round =>
    obtain ⟨k, hk, rfl, TB, HW, HS⟩ := hrel
    by_cases hlt : k < E.length
    · obtain ⟨b, off, rfl, hb, hcell⟩ := hc (by omega)
      have hki : (k : Int) < (E.length : Int) := by omega
      have cA := (HW.out.cell (p := ⟨b, off + k * 2, none⟩) hb).trans (hcell k hlt).1
      have cB := (HW.out.cell (p := ⟨b, off + k * 2 + 1, none⟩) hb).trans (hcell k hlt).2
      obtain ⟨hAn, hBn⟩ := hE k hlt
      have hkw := below_alloc wr (.cells #[.int .i64 (ea E k : Nat), .int .i64 (eb E k : Nat)] 42)
      have TJ1 := hid (TB.out.belowK hkw)
      have BW1 := hid (HW.out.trans (hkw.mono HW.out.size))
      have hnew := World.alloc_heap_new wr (.cells #[.int .i64 (ea E k : Nat), .int .i64 (eb E k : Nat)] 42)
      obtain ⟨n0, n1, _, _⟩ := two_cells hnew
      have HS1 : Hid (w.heap.size + 2 ≤ (wr.alloc (.cells #[.int .i64 (ea E k : Nat), .int .i64 (eb E k : Nat)] 42)).heap.size) := by show _ ≤ _; rw [World.size_alloc]; have := HS.out; omega
      have ST := hid (HST.out k)
      have pA := TJ1.out.cell (ea E k) hAn
      have fA := TJ1.out.frozen (ea E k)
      have hqk := HLT.out k (ea E k) hk
      have hAi : ((ea E k : Nat) : Int) < (n : Int) := by omega
      have hBi : ((eb E k : Nat) : Int) < 8 := by omega
      have hB64 : ¬ (64 : Int) ≤ ((eb E k : Nat) : Int) := by omega
      have hpw : wrap64 (2 ^ eb E k) = ((2 ^ eb E k : Nat) : Int) := (pow_wrap _ (by omega)).1
      have hp2 : 2 ^ eb E k < 256 := Nat.pow_lt_pow_right (by decide) (by omega : eb E k < 8)
      have hor : bits .or .i64 ((q k (ea E k) : Nat) : Int) ((2 ^ eb E k : Nat) : Int) = ((q k (ea E k) ||| 2 ^ eb E k : Nat) : Int) := i64_or_nat _ _ (by omega) (by omega)
      clear hkw hnew hcell
      generalize hq1 : q (k + 1) = q1 at *
      generalize ea E k = A at *
      generalize eb E k = B at *
      generalize q k = f at *
      go_wp2_with fail
      generalize (wr.alloc (.cells #[.int .i64 (A : Nat), .int .i64 (B : Nat)] 42)) = W2 at *
      have hpw2 : IntKind.i64.wrap (2 ^ B) = (2 : Int) ^ B := (IntWalk.i64_left _).trans (hpw.trans (by simp))
      have hor2 : bits .or .i64 ((f A : Nat) : Int) ((2 : Int) ^ B) = ((f A ||| 2 ^ B : Nat) : Int) := by rw [← hor]; simp
      have T2 : Hid (Tbl (w.heap.size + 1) (W2.setCell ⟨w.heap.size + 1, A, none⟩ (.int .i64 ((f A ||| 2 ^ B : Nat) : Int))).drew n q1) := (TJ1.out.set (f' := q1) A (f A ||| 2 ^ B) hAn fun v _ => by
        rw [ST.out v]
        by_cases e : A = v
        · subst e; simp
        · rw [if_neg e, if_neg e]).drew
      have B2 : Hid (Below w.heap.size w (W2.setCell ⟨w.heap.size + 1, A, none⟩ (.int .i64 ((f A ||| 2 ^ B : Nat) : Int))).drew) := (BW1.out.setCell (p := ⟨w.heap.size + 1, A, none⟩) (Nat.le_succ _) _).drew
      have HS2 : Hid (w.heap.size + 2 ≤ (W2.setCell ⟨w.heap.size + 1, A, none⟩ (.int .i64 ((f A ||| 2 ^ B : Nat) : Int))).drew.heap.size) := by
        show _ ≤ _
        have : (W2.setCell ⟨w.heap.size + 1, A, none⟩ (.int .i64 ((f A ||| 2 ^ B : Nat) : Int))).drew.heap.size = W2.heap.size := by simp
        rw [this]; exact HS1.out
      go_region_with fail
      all_goals
        generalize (W2.setCell ⟨w.heap.size + 1, A, none⟩ (.int .i64 ((f A ||| 2 ^ B : Nat) : Int))).drew = W3 at *
        go_wp2_with fail
        go_roundw
        case rel => exact ⟨k + 1, by omega, by go_num, by rw [hq1]; exact T2, B2, HS2⟩
        case measure => simp [intOf]; omega
    · obtain rfl : k = E.length := by omega
      go_wp2_with fail
      go_ret
      exact ⟨_, _, rfl, Nat.le_succ _, TB.out.rkAt, HW.out⟩
theorem nexts_any (n : Nat) (v : Value) (E : List (Nat × Nat)) (w : World) (hn0 : 1 ≤ n) (hn : n ≤ 7) (hE : ∀ j, j < E.length → ea E j < n ∧ eb E j < n) (h : EdgesAt w v E) :
    Calls Try.prog 26 #[.agg #[.int .i64 n, v]] w fun e w' => ∃ r, e = .returned r ∧ RkAt w' r n (nxF E E.length) ∧ Below w.heap.size w w' :=
  (nexts_own n v E w hn0 hn hE h).mono fun _ _ ⟨_, _, h1, _, h2, h3⟩ => ⟨_, h1, h2, h3⟩
end Go.Proofs.Ytjnifcfcigcngaa
