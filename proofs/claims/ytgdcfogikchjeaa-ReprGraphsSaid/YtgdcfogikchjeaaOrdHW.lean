/- same.begin, same.eachOrder. -/
import Derived.Test.YtgdcfogikchjeaaOrdGQ
import Derived.Deep.OwnRows
import Derived.Test.YtgdcfogikchjeaaMkToW
import Derived.Test.YtgdcfogikchjeaaPlainAll
import Derived.Test.YtgdcfogikchjeaaRanksWW
namespace Go.Proofs.Ytgdcfogikchjeaa
open Go.RowKit

theorem three (w : World) (x y z : Obj) : (((w.alloc x).alloc y).alloc z).heap[w.heap.size]? = some x ∧ (((w.alloc x).alloc y).alloc z).heap[w.heap.size + 1]? = some y ∧ (((w.alloc x).alloc y).alloc z).heap[w.heap.size + 1 + 1]? = some z := by
  refine ⟨?_, ?_, ?_⟩
  · rw [Below.heap_alloc _ _ _ (by simp; omega), Below.heap_alloc _ _ _ (by simp)]
    exact World.alloc_heap_new w x
  · rw [Below.heap_alloc _ _ _ (by simp)]
    have := World.alloc_heap_new (w.alloc x) y
    rwa [World.size_alloc] at this
  · have := World.alloc_heap_new ((w.alloc x).alloc y) z
    rwa [World.size_alloc, World.size_alloc] at this
set_option maxHeartbeats 1000000 in
theorem begin_ok (n : Nat) (w : World) (hn : n ≤ 8) :
    Calls Try.prog 91 #[.int .i64 n] w fun e w' => ∃ gN gI, e = .returned (ordV gN gI n []) ∧ OrdAt w.heap.size w' gN gI n [] ∧ gN ≠ gI ∧ Below w.heap.size w w' := by
  obtain ⟨T, HT, hT2, hT⟩ : ∃ T : Nat, Hid (2 ^ n = T) ∧ T ≤ 256 ∧ wrap64 (2 ^ n) = (T : Int) := ⟨2 ^ n, Eq.refl (2 ^ n), (pow_wrap _ hn).2, (pow_wrap _ hn).1⟩
  have hT1 : 1 ≤ T := by rw [← HT.out]; exact Nat.one_le_two_pow
  have hpw : IntKind.i64.wrap (2 ^ n) = (T : Int) := by rw [show (2 : Int) ^ n = ((2 ^ n : Nat) : Int) by simp, HT.out]; exact wrap_i64_nat _ (by omega)
  have m0 := fun w => run_make_to 0 n (Nat.zero_le _) (by omega) w
  have m1 := fun w => run_make_to 1 T hT1 hT2 w
  rw [show ((0 : Nat) : Int) = 0 from rfl] at m0
  rw [show ((1 : Nat) : Int) = 1 from rfl] at m1
  go_enter Try.func91, Try.ntmps91
  go_wp2_with fail
  go_region_law fail
  · have h3 := three w (.cells #[.slice (some ⟨w.heap.size + 1, 0, none⟩) 0 n, .slice (some ⟨w.heap.size + 1 + 1, 0, none⟩) 1 T] 120) (.cells (madeCells #[.int .i64 0] n) 3) (.cells (madeCells #[.int .i64 0] T) 3)
    have hB : Hid (Below w.heap.size w (((w.alloc (.cells #[.slice (some ⟨w.heap.size + 1, 0, none⟩) 0 n, .slice (some ⟨w.heap.size + 1 + 1, 0, none⟩) 1 T] 120)).alloc (.cells (madeCells #[.int .i64 0] n) 3)).alloc (.cells (madeCells #[.int .i64 0] T) 3)).drew) := ((((Below.refl _ _).alloc (Nat.le_refl _) _).alloc (by simp) _).alloc (by simp; omega) _).drew
    revert h3 hB
    generalize (((w.alloc (.cells #[.slice (some ⟨w.heap.size + 1, 0, none⟩) 0 n, .slice (some ⟨w.heap.size + 1 + 1, 0, none⟩) 1 T] 120)).alloc (.cells (madeCells #[.int .i64 0] n) 3)).alloc (.cells (madeCells #[.int .i64 0] T) 3)) = W
    rintro ⟨b0, b1, b2⟩ hB
    have O1 : Hid (OrdAt w.heap.size W.drew (w.heap.size + 1) (w.heap.size + 1 + 1) n []) := ⟨own_made (w := W.drew) b1 (by omega) (by omega) [] (.inl rfl), by
      show Own _ _ (.slice _ 1 (2 ^ n)) [0]
      rw [HT.out]
      exact own_made (w := W.drew) b2 (by omega) hT2 [0] (.inr ⟨rfl, hT1⟩)⟩
    obtain ⟨c0, c1, -, -⟩ := two_cells (w := W.drew) b0
    clear m0 m1
    go_wp2_with fail
    refine bodyPost_ret (v := .agg #[.slice (some ⟨w.heap.size + 1, 0, none⟩) 0 n, .slice (some ⟨w.heap.size + 1 + 1, 0, none⟩) 1 T]) ?_ rfl ⟨w.heap.size + 1, w.heap.size + 1 + 1, by rw [← HT.out]; rfl, O1.out, by omega, hB.out⟩
    simp [results, Try.f91, go_sem, c0, c1]
  · have h3 := three w (.cells #[.slice (some ⟨w.heap.size + 1 + 1, 0, none⟩) 0 n, .slice (some ⟨w.heap.size + 1, 0, none⟩) 1 T] 120) (.cells (madeCells #[.int .i64 0] T) 3) (.cells (madeCells #[.int .i64 0] n) 3)
    have hB : Hid (Below w.heap.size w (((w.alloc (.cells #[.slice (some ⟨w.heap.size + 1 + 1, 0, none⟩) 0 n, .slice (some ⟨w.heap.size + 1, 0, none⟩) 1 T] 120)).alloc (.cells (madeCells #[.int .i64 0] T) 3)).alloc (.cells (madeCells #[.int .i64 0] n) 3)).drew) := ((((Below.refl _ _).alloc (Nat.le_refl _) _).alloc (by simp) _).alloc (by simp; omega) _).drew
    revert h3 hB
    generalize (((w.alloc (.cells #[.slice (some ⟨w.heap.size + 1 + 1, 0, none⟩) 0 n, .slice (some ⟨w.heap.size + 1, 0, none⟩) 1 T] 120)).alloc (.cells (madeCells #[.int .i64 0] T) 3)).alloc (.cells (madeCells #[.int .i64 0] n) 3)) = W
    rintro ⟨b0, b1, b2⟩ hB
    have O1 : Hid (OrdAt w.heap.size W.drew (w.heap.size + 1 + 1) (w.heap.size + 1) n []) := ⟨own_made (w := W.drew) b2 (by omega) (by omega) [] (.inl rfl), by
      show Own _ _ (.slice _ 1 (2 ^ n)) [0]
      rw [HT.out]
      exact own_made (w := W.drew) b1 (by omega) hT2 [0] (.inr ⟨rfl, hT1⟩)⟩
    obtain ⟨c0, c1, -, -⟩ := two_cells (w := W.drew) b0
    clear m0 m1
    go_wp2_with fail
    refine bodyPost_ret (v := .agg #[.slice (some ⟨w.heap.size + 1 + 1, 0, none⟩) 0 n, .slice (some ⟨w.heap.size + 1, 0, none⟩) 1 T]) ?_ rfl ⟨w.heap.size + 1 + 1, w.heap.size + 1, by rw [← HT.out]; rfl, O1.out, by omega, hB.out⟩
    simp [results, Try.f91, go_sem, c0, c1]
end Go.Proofs.Ytgdcfogikchjeaa

namespace Go.Proofs.Ytgdcfogikchjeaa
open Go.RowKit

set_option maxHeartbeats 1000000 in
theorem each_ok {σ : Type} (n ff gf : Nat) (cf cg : Array Value) (fit : σ → List Nat → Bool) (fnd : σ → List Nat → Bool × σ) (Inv : Nat → Nat → σ → World → Prop) (s0 : σ) (w : World) (hn : n ≤ 8) (ef : Enters ff) (eg : Enters gf)
    (hst : ∀ gN gI s W W', Inv gN gI s W → Save (fun k => k = gN ∨ k = gI) W W' → Inv gN gI s W')
    (hfit : ∀ gN gI s p W, Inv gN gI s W → Beg n p → 0 < p.length → OrdAt w.heap.size W gN gI n p → w.heap.size ≤ W.heap.size → Calls Try.prog ff (#[ordV gN gI n p] ++ cf) W fun e W' => e = .returned (.bool (fit s p)) ∧ Inv gN gI s W' ∧ Save (fun k => k < w.heap.size) W W')
    (hfnd : ∀ gN gI s p W, Inv gN gI s W → Beg n p → p.length = n → OrdAt w.heap.size W gN gI n p → w.heap.size ≤ W.heap.size → Calls Try.prog gf (#[ordV gN gI n p] ++ cg) W fun e W' => e = .returned (.bool (fnd s p).1) ∧ Inv gN gI (fnd s p).2 W' ∧ Save (fun k => k < w.heap.size) W W')
    (hI : ∀ gN gI W, w.heap.size ≤ gN → w.heap.size ≤ gI → Below w.heap.size w W → Inv gN gI s0 W) :
    Calls Try.prog 88 #[.int .i64 n, .func (.func ff) #[] cf, .func (.func gf) #[] cg] w fun e W' => e = .returned (.tuple #[]) ∧ (∃ gN gI, Inv gN gI (walkO fit fnd n n s0 []).2 W') ∧ w.heap.size ≤ W'.heap.size := by
  have B1 := hid (begin_ok n w hn)
  have G1 := hid (fun gN gI (hne : gN ≠ gI) w1 (h1 : Inv gN gI s0 w1) h2 h3 => goOn_ok n gN gI w.heap.size ff gf cf cg fit fnd (Inv gN gI) hn ef eg hne (hst gN gI) (hfit gN gI) (hfnd gN gI) n s0 [] w1 (by simp) (beg_nil n) h1 h2 h3)
  have HI := hid hI
  clear hst hfit hfnd hI ef eg
  go_enter Try.func88, Try.ntmps88
  go_wp2_with fail
  refine B1.out.mono ?_
  rintro e w1 ⟨gN, gI, rfl, ho, hne, hb⟩
  have G2 := hid (G1.out gN gI hne w1 (HI.out gN gI w1 ho.num.lt.1 ho.img.lt.1 hb) ho hb.size)
  have hs1 := hb.size
  clear B1 G1 ho hb
  generalize ordV gN gI n [] = ov at *
  go_wp2_with fail
  refine G2.out.mono ?_
  rintro e w2 ⟨rfl, h2, -, h3⟩
  have H2 := hid h2
  have hs2 := h3.size
  have hs3 : w.heap.size ≤ w2.heap.size := Nat.le_trans hs1 hs2
  clear h2 h3 G2
  go_wp2_with fail
  go_end0
  exact ⟨rfl, ⟨gN, gI, H2.out⟩, hs3⟩
theorem keep_iff {rA rB : Nat → Nat} {q : List Nat} : keepB rA rB q = true ↔ ∀ s, s < 2 ^ q.length → 2 ^ q.length / 2 ≤ s → rA s = rB (image q s) := by
  unfold keepB
  rw [List.all_eq_true]
  constructor
  · intro h s h1 h2
    have := h s (List.mem_range.2 h1)
    rw [Bool.or_eq_true, decide_eq_true_eq, beq_iff_eq] at this
    omega
  · intro h s hs
    rw [Bool.or_eq_true, decide_eq_true_eq, beq_iff_eq]
    by_cases c : s < 2 ^ q.length / 2
    · exact .inl c
    · exact .inr (h s (List.mem_range.1 hs) (by omega))
set_option maxHeartbeats 1000000 in
theorem keepsRanks_ok (n gN gI B : Nat) (p : List Nat) (vA vB : Value) (rA rB : Nat → Nat) (w : World) (hn : n ≤ 8) (hp : p.length ≤ n) (hb : Beg n p) (hO : OrdAt B w gN gI n p) (hA : RkAt w vA (2 ^ n) rA) (hB : RkAt w vB (2 ^ n) rB) :
    Calls Try.prog 90 #[.slice (some ⟨gI, 0, none⟩) (2 ^ p.length) (2 ^ n), vA, vB] w fun e w' => e = .returned (.bool (keepB rA rB p)) ∧ Below w.heap.size w w' := by
  obtain ⟨ba, oa, ca, rfl, hba, hca⟩ := hA
  obtain ⟨bb, ob, cb, rfl, hbb, hcb⟩ := hB
  have hgI := hO.img.lt.2
  have HC : Hid (∀ s, s < 2 ^ p.length → w.cell? ⟨gI, s, none⟩ = some (.int .i64 (image p s : Nat)) ∧ image p s < 2 ^ n ∧ s < 2 ^ n) := fun s hs => by
    have h1 := hO.img.at (i := s) (by rw [imgs_len _ p rfl]; exact hs)
    rw [imgs_at _ p rfl s hs] at h1
    exact ⟨h1, hb.image_lt s, Nat.lt_of_lt_of_le hs (Nat.pow_le_pow_right (by decide) hp)⟩
  have KI := hid (keep_iff (rA := rA) (rB := rB) (q := p))
  have hK8 : 2 ^ p.length ≤ 2 ^ n := Nat.pow_le_pow_right (by decide) hp
  have hT := (pow_wrap n hn).2
  have HCA := hid hca
  have HCB := hid hcb
  clear hO hb hca hcb
  generalize 2 ^ p.length = K at *
  generalize 2 ^ n = T at *
  go_enter Try.func90, Try.ntmps90
  go_wp2_with fail
  rw [show (K : Int) / 2 = ((K / 2 : Nat) : Int) by omega]
  go_loopw [7] (fun j wr => ∃ i : Nat, j = .int .i64 i ∧ K / 2 ≤ i ∧ i ≤ K ∧ Hid (∀ s, s < i → K / 2 ≤ s → rA s = rB (image p s)) ∧ Hid (Below w.heap.size w wr)) (fun j _ => K - (intOf j).toNat)
  case atStart => exact ⟨K / 2, rfl, Nat.le_refl _, by omega, fun s h1 h2 => by omega, Below.refl _ _⟩
  case round =>
    obtain ⟨i, rfl, h1, h2, HA, HW⟩ := hrel
    by_cases hlt : i < K
    · have hlt' : (i : Int) < (K : Int) := by omega
      obtain ⟨hc, hi1, hi2⟩ := HC.out i hlt
      have hmeas : K - (i + 1) < K - i := by omega
      have c1 := (HW.out.cell (p := ⟨gI, i, none⟩) hgI).trans hc
      have c2 := (HW.out.cell (p := ⟨ba, oa + i, none⟩) hba).trans (HCA.out i hi2)
      have c3 := (HW.out.cell (p := ⟨bb, ob + image p i, none⟩) hbb).trans (HCB.out _ hi1)
      have HWD : Hid (∀ q, Below w.heap.size w (wr.drewN q)) := fun q => HW.out.trans ⟨rfl, rfl, rfl, Nat.le_refl _, fun _ _ => rfl⟩
      have hi1' : (image p i : Int) < (T : Int) := by omega
      have hi2' : (i : Int) < (T : Int) := by omega
      have HA2 : Hid (rA i = rB (image p i) → ∀ s, s < i + 1 → K / 2 ≤ s → rA s = rB (image p s)) := fun e s hs h => by
        by_cases c : s < i
        · exact HA.out s c h
        · obtain rfl : s = i := by omega
          exact e
      have HN : Hid (rA i ≠ rB (image p i) → keepB rA rB p = false) := fun e => Bool.eq_false_iff.2 fun h => e (KI.out.1 h i hlt h1)
      clear HCA HCB HC hc KI
      generalize image p i = y at *
      generalize rA i = a at *
      generalize rB y = b at *
      by_cases hab : a = b
      · have hab' : ((a : Int) != (b : Int)) = false := by simp [hab]
        have HA3 := hid (HA2.out hab)
        clear hab HA2 HN
        go_wp2_with fail
        go_quiet (fail)
        go_wp2_with fail
        go_roundw
        case rel => exact ⟨i + 1, by go_num, by omega, hlt, HA3, HWD.out _⟩
        case measure => exact hmeas
      · have hab' : ((a : Int) != (b : Int)) = true := by rw [bne_iff_ne]; omega
        have HN2 := hid (HN.out hab)
        clear hab HA2 HN
        go_wp2_with fail
        go_quiet (fail)
        go_wp2_with fail
        go_ret
        exact ⟨ret_bool (by rw [HN2.out]), HWD.out _⟩
    · obtain rfl : i = K := by omega
      have hlt' : ¬ (i : Int) < (i : Int) := by omega
      have HT2 : Hid (keepB rA rB p = true) := KI.out.2 fun s hs h => HA.out s hs h
      clear HC KI
      go_wp2_with fail
      go_ret
      exact ⟨ret_bool (by rw [HT2.out]), HW.out⟩
end Go.Proofs.Ytgdcfogikchjeaa
