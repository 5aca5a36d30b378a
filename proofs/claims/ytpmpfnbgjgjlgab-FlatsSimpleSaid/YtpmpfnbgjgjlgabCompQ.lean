/- minors.Components. -/
import Derived.Test.YtpmpfnbgjgjlgabPartQ
import Derived.Test.YtpmpfnbgjgjlgabFuncAnyQ
namespace Go.Proofs.Ytpmpfnbgjgjlgab
open Go.RowKit

theorem two_sub (i j c : Nat) : subB (bt i ||| bt j) c = (c.testBit i && c.testBit j) := by
  rw [Bool.eq_iff_iff, subB_iff, Bool.and_eq_true]
  constructor
  · intro h
    exact ⟨h i (by unfold bt; rw [Nat.testBit_or, pow_bit, pow_bit]; simp), h j (by unfold bt; rw [Nat.testBit_or, pow_bit, pow_bit]; simp)⟩
  · rintro ⟨h1, h2⟩ k hk
    unfold bt at hk
    rw [Nat.testBit_or, pow_bit, pow_bit] at hk
    rcases Bool.or_eq_true_iff.1 hk with e | e
    · rw [decide_eq_true_eq] at e; rw [← e]; exact h1
    · rw [decide_eq_true_eq] at e; rw [← e]; exact h2
theorem CompQQ_ok (c x y bx bY : Nat) (w : World) (hc : c < 256) (hx : x < 256) (hy : y < 256) (h1 : w.cell? ⟨bx, 0, none⟩ = some (.int .i64 x)) (h2 : w.cell? ⟨bY, 0, none⟩ = some (.int .i64 y)) :
    Calls Try.prog 32 #[.int .i64 c, .pointer (some ⟨bx, 0, none⟩), .pointer (some ⟨bY, 0, none⟩)] w fun e w' => e = .returned (.bool (subB (x ||| y) c)) ∧ w' = w := by
  have hor : bits .or .i64 (x : Int) (y : Int) = ((x ||| y : Nat) : Int) := i64_or_nat _ _ (by omega) (by omega)
  have WI := hid (within_any (x ||| y) c w (or_lt hx hy) hc)
  generalize x ||| y = z at *
  go_enter Try.func32, Try.ntmps32
  go_wp2_with fail
  refine WI.out.mono ?_
  rintro e w' ⟨rfl, hw'⟩
  subst hw'
  go_wp2_with fail
  go_ret
  exact ⟨rfl, rfl⟩
theorem slotXY {w : World} {x y : Int} : ((w.alloc (.cells #[.int .i64 x] 3)).alloc (.cells #[.int .i64 y] 3)).cell? ⟨w.heap.size, 0, none⟩ = some (.int .i64 x) ∧ ((w.alloc (.cells #[.int .i64 x] 3)).alloc (.cells #[.int .i64 y] 3)).cell? ⟨w.heap.size + 1, 0, none⟩ = some (.int .i64 y) := by
  refine ⟨cellA _ (cellN w _ _).1, ?_⟩
  have := (cellN (w.alloc (.cells #[.int .i64 x] 3)) (.int .i64 y) 3).1
  rwa [World.size_alloc] at this
set_option maxHeartbeats 800000 in
theorem CompQ_ok (i j bC : Nat) (v : Value) (C : List Nat) (w : World) (hi : i < 8) (hj : j < 8) (hC : ∀ c ∈ C, c < 256) (hb : w.cell? ⟨bC, 0, none⟩ = some v) (h : Ints w v (N C)) :
    Calls Try.prog 30 #[.int .i64 (bt i : Nat), .int .i64 (bt j : Nat), .pointer (some ⟨bC, 0, none⟩)] w fun e w' => e = .returned (.bool (tg C i j)) ∧ Below w.heap.size w w' := by
  have hmf : ∀ (fn : Fn) (first cap : Array Value) (w : World), (Instr.makeFunc fn first cap).run Try.prog w = .ok (.func fn first cap) w := fun _ _ _ _ => rfl
  have HB0 : Hid (Below w.heap.size w ((w.alloc (.cells #[.int .i64 (bt i : Nat)] 3)).alloc (.cells #[.int .i64 (bt j : Nat)] 3))) := ((Below.refl _ _).alloc (Nat.le_refl _) _).alloc (by simp) _
  have XY := hid (slotXY (w := w) (x := (bt i : Nat)) (y := (bt j : Nat)))
  have CF := hid (ContainsFunc_any 32 #[.pointer (some ⟨w.heap.size, 0, none⟩), .pointer (some ⟨w.heap.size + 1, 0, none⟩)] v C (fun c => subB (bt i ||| bt j) c) ((w.alloc (.cells #[.int .i64 (bt i : Nat)] 3)).alloc (.cells #[.int .i64 (bt j : Nat)] 3)) (fun args w => enters_of Try.func32 (by kernel_rfl) rfl args w) (h.below HB0.out)
    (fun x hx w1 hb1 _ => (CompQQ_ok x (bt i) (bt j) w.heap.size (w.heap.size + 1) w1 (hC x hx) (bt_lt hi) (bt_lt hj) ((hb1.cell (p := ⟨w.heap.size, 0, none⟩) (by simp; omega)).trans XY.out.1) ((hb1.cell (p := ⟨w.heap.size + 1, 0, none⟩) (by simp)).trans XY.out.2)).mono fun e w' he => ⟨he.1, by rw [he.2]; exact Below.refl _ _⟩))
  have ET : Hid (C.any (fun c => subB (bt i ||| bt j) c) = tg C i j) := by
    show _ = _
    unfold tg
    congr 1
    funext c
    exact two_sub i j c
  rw [ET.out] at CF
  have hb' := (HB0.out.cell (p := ⟨bC, 0, none⟩) (World.block_lt_of_cell? w _ hb)).trans hb
  obtain ⟨a, cap, rfl, _, _⟩ := h.nats
  clear h
  go_enter Try.func30, Try.ntmps30
  go_wp2_with fail
  refine CF.out.mono ?_
  rintro e w2 ⟨rfl, hb2⟩
  have HB := hid (HB0.out.trans (hb2.mono HB0.out.size))
  clear hb2
  go_wp2_with fail
  go_ret
  exact ⟨rfl, HB.out⟩
/-- What Components tells: parts of the elements, in rising order. -/
def Comps (m : Nat) (l L' : List Nat) : Prop := ∃ L, Prts (tg (cirL m l)) (2 ^ m - 1) L ∧ L'.Perm L ∧ L'.Pairwise (· ≤ ·)
set_option maxHeartbeats 1600000 in
theorem Components_ok (m : Nat) (v : Value) (l : List Nat) (w : World) (hm : m ≤ 8) (hf : Fam m l) (hb : Bas l) (h : Ints w v (N l)) :
    Calls Try.prog 16 #[.agg #[.int .i64 m, v]] w fun e w' => ∃ r L', e = .returned (.tuple #[r, .int .i64 0]) ∧ Comps m l L' ∧ Own w.heap.size w' r L' ∧ Below w.heap.size w w' := by
  have HI := hid h
  obtain ⟨a, cap, rfl, _, _⟩ := h.nats
  clear h
  have hmf : ∀ (fn : Fn) (first cap : Array Value) (w : World), (Instr.makeFunc fn first cap).run Try.prog w = .ok (.func fn first cap) w := fun _ _ _ _ => rfl
  have HB0 := hid (below_boxR w #[.int .i64 m, .slice a l.length cap])
  have CI := hid (Circuits_ok m _ l _ hm hf hb (HI.out.below HB0.out))
  have HN := hid (World.alloc_heap_new w (.cells #[.int .i64 m, .slice a l.length cap] 24))
  have hsz : (w.alloc (.cells #[.int .i64 m, .slice a l.length cap] 24)).heap.size = w.heap.size + 1 := by simp
  go_enter Try.func16, Try.ntmps16
  go_wp2_with fail
  refine CI.out.mono ?_
  rintro e w2 ⟨r2, rfl, ho2, hb2⟩
  change Own _ w2 r2 (cirL m l) at ho2
  have HI2 := hid (ho2.ints (ran_len hm _))
  have HC8 : Hid (∀ c ∈ cirL m l, c < 256) := fun c hc => lt256 hm (mem_cir.1 hc).1
  have HX2 := hid ((hb2.block _ (by omega)).trans HN.out)
  have HB2 := hid (HB0.out.trans (hb2.mono HB0.out.size))
  have hs2 := hb2.size
  obtain ⟨a2, c2, hr2⟩ := ownsRow_form' ho2
  subst hr2
  have b2 := Boxed.new w2 22 (.slice a2 (cirL m l).length c2)
  have hB3 : Below w2.heap.size w2 (w2.alloc (.cells #[.slice a2 (cirL m l).length c2] 22)) := (Below.refl _ _).alloc (Nat.le_refl _) _
  have hs3 : (w2.alloc (.cells #[.slice a2 (cirL m l).length c2] 22)).heap.size = w2.heap.size + 1 := by simp
  obtain ⟨x0, x1, _, _⟩ := two_cells ((hB3.block _ (by omega)).trans HX2.out)
  have PA := hid (part_any m 30 #[.pointer (some ⟨w2.heap.size, 0, none⟩)] (tg (cirL m l)) (w2.alloc (.cells #[.slice a2 (cirL m l).length c2] 22)) hm (fun args w => enters_of Try.func30 (by kernel_rfl) rfl args w)
    (fun i j hi hj w3 hb3 _ => CompQ_ok i j w2.heap.size _ (cirL m l) w3 (by omega) (by omega) HC8.out ((hb3.cell (p := ⟨w2.heap.size, 0, none⟩) (by simp)).trans b2.cell) ((HI2.out.below hB3).below hb3)))
  have HB3 := hid (HB2.out.trans (hB3.mono HB2.out.size))
  clear ho2 hb2 b2 hB3
  go_wp2_with fail
  refine PA.out.mono ?_
  rintro e w4 ⟨r4, L, L', rfl, hP, hperm, hpair, ho4, hb4⟩
  have HCM : Hid (Comps m l L') := ⟨L, hP, hperm, hpair⟩
  have HO4 := hid (ho4.mono (by have := HB3.out.size; omega : w.heap.size ≤ _))
  have HB4 := hid (HB3.out.trans (hb4.mono HB3.out.size))
  clear hP hperm hpair ho4 hb4
  go_wp2_with fail
  go_ret2
  exact ⟨_, _, rfl, HCM.out, HO4.out, HB4.out⟩
theorem Components_bad (n : Int) (v : Value) (zs : List Int) (w : World) (h : Ints w v zs) (hc : chkR n zs ≠ 0) :
    Calls Try.prog 16 #[.agg #[.int .i64 n, v]] w fun e w' => e = .returned (.tuple #[.slice none 0 0, .int .i64 (chkR n zs)]) ∧ Below w.heap.size w w' := by
  have HI := hid h
  obtain ⟨a, cap, rfl, _, _⟩ := h
  have HB0 := hid (below_boxR w #[.int .i64 n, .slice a zs.length cap])
  have CI := hid (Circuits_bad n _ zs _ (HI.out.below HB0.out) hc)
  have hq : ((chkR n zs) != 0) = true := by rw [bne_iff_ne]; exact hc
  generalize chkR n zs = q at *
  go_enter Try.func16, Try.ntmps16
  go_wp2_with fail
  refine CI.out.mono ?_
  rintro e w2 ⟨rfl, hb2⟩
  have HB := hid ((HB0.out.trans (hb2.mono HB0.out.size)))
  clear hb2
  go_wp2_with fail
  go_ret2
  exact ⟨rfl, (HB.out.trans ((Below.refl _ _).alloc (Nat.le_refl _) _ |>.mono HB.out.size))⟩
end Go.Proofs.Ytpmpfnbgjgjlgab
