/- repr.isFresh of nothing, repr.isLinear where it is so. -/
import Derived.Test.YtgdcfogikchjeaaRgBW
import Derived.Test.YtgdcfogikchjeaaKLqW
import Derived.Test.YtgdcfogikchjeaaEqW
import Derived.Test.YtgdcfogikchjeaaSieveW
import Derived.Deep.QuietTactic
import Derived.BigQuiet
namespace Go.Proofs.Ytgdcfogikchjeaa
open Go.RowKit

theorem fresh_nil (w : World) : Calls Try.prog 45 #[.slice none 0 0] w fun e w' => e = .returned (.bool true) ∧ w' = w := by
  go_enter Try.func45, Try.ntmps45
  go_wp2_with fail
  refine wp_loop_rounds 1 ?_
  rw [rounds_succ]
  go_wp2_with fail
  go_ret
  exact ⟨rfl, rfl⟩
set_option maxRecDepth 20000 in
set_option maxHeartbeats 4000000 in
theorem isLinear_yes (p : Int) (c : Nat) (v : Value) (R : List (List Int)) (a : Option Addr) (cap : Nat) (l : List Nat) (w : World) (h : RowsI w v R) (hI : Ints w (.slice a l.length cap) (N l)) (hm : matR p c R = 0) (hl : (bigL c fun s => linB p R c s) = l) (hl2 : l.length ≤ 256) :
    Calls Try.prog 29 #[.agg #[.int .i64 c, .slice a l.length cap], .agg #[.int .i64 p, .int .i64 c, v]] w fun e w' => e = .returned (.bool true) ∧ Below w.heap.size w w' := by
  have b1 := below_boxR w #[.int .i64 c, .slice a l.length cap]
  have x1 := World.alloc_heap_new w (.cells #[.int .i64 c, .slice a l.length cap] 33)
  have s1 := World.size_alloc w (.cells #[.int .i64 c, .slice a l.length cap] 33)
  obtain ⟨va, vc, rfl⟩ : ∃ a cap, v = .slice a R.length cap := by obtain ⟨a, cap, e, _⟩ := h; exact ⟨a, cap, e⟩
  obtain ⟨W1, hW1⟩ : ∃ W1, w.alloc (.cells #[.int .i64 c, .slice a l.length cap] 33) = W1 := ⟨_, rfl⟩
  rw [hW1] at b1 x1 s1
  have b2 := (Below.refl _ W1).alloc (Nat.le_refl _) (.cells #[.int .i64 p, .int .i64 c, .slice va R.length vc] 27)
  have x2 := World.alloc_heap_new W1 (.cells #[.int .i64 p, .int .i64 c, .slice va R.length vc] 27)
  rw [s1] at x2
  obtain ⟨W2, hW2⟩ : ∃ W2, W1.alloc (.cells #[.int .i64 p, .int .i64 c, .slice va R.length vc] 27) = W2 := ⟨_, rfl⟩
  rw [hW2] at b2 x2
  have b12 := b1.trans (b2.mono b1.size)
  have LI := hid (Linear_any p c _ R W2 (h.below b12))
  rw [hm, Int.toNat_natCast, hl] at LI
  have xm : W2.heap[w.heap.size]? = _ := (b2.block _ (by omega)).trans x1
  have KX := hid (fun W (hW : Below W2.heap.size W2 W) => two_cells ((hW.block _ (Array.getElem?_eq_some_iff.1 xm).1).trans xm))
  have k2 : W2.cell? ⟨w.heap.size + 1, 0, none⟩ = some (.int .i64 p) ∧ W2.cell? ⟨w.heap.size + 1, 1, none⟩ = some (.int .i64 c) ∧ W2.cell? ⟨w.heap.size + 1, 2, none⟩ = some (.slice va R.length vc) := by
    refine ⟨?_, ?_, ?_⟩ <;> simp [World.cell?, x2]
  obtain ⟨k0, k1, k3⟩ := k2
  have HI2 := hid (hI.below b12)
  have HB := hid b12
  have hcc : ((c : Int) == (c : Int)) = true := by simp
  subst hW2
  subst hW1
  clear h hI b1 x1 b2 x2 b12 xm hm hl
  go_enter Try.func29, Try.ntmps29
  go_wp2_with fail
  refine LI.out.mono ?_
  rintro e w3 ⟨h9, -⟩
  obtain ⟨r, rfl, ho, hb3⟩ := h9 rfl
  obtain ⟨ra, rc, hr⟩ := ownsRow_form' ho
  subst hr
  have hk4 := (Below.refl _ w3).alloc (Nat.le_refl _) (.cells #[.int .i64 c, .slice ra l.length rc] 33)
  have hb4 := hb3.trans (hk4.mono hb3.size)
  obtain ⟨y0, y1, -, -⟩ := two_cells (World.alloc_heap_new w3 (.cells #[.int .i64 c, .slice ra l.length rc] 33))
  obtain ⟨z0, z1, -, -⟩ := KX.out _ hb4
  have EQ := hid (Equal_any _ _ (N l) (N l) _ ((ho.ints (Nat.le_trans hl2 (by decide))).below hk4) (HI2.out.below hb4))
  rw [decide_eq_true rfl] at EQ
  have HB4 := hid (HB.out.trans (hb4.mono HB.out.size))
  clear ho hb3 hk4 hb4 LI k0 k1 k3 h9
  go_wp2_with fail
  refine EQ.out.mono ?_
  rintro e w5 ⟨rfl, hb5⟩
  have HB5 := hid (HB4.out.trans (hb5.mono HB4.out.size))
  clear hb5
  go_wp2_with fail
  go_ret
  exact ⟨rfl, HB5.out⟩
end Go.Proofs.Ytgdcfogikchjeaa

namespace Go.Proofs.Ytgdcfogikchjeaa
open Go.RowKit

theorem bin_lo {l : List Nat} {m t k : Nat} (hup : l.Pairwise (· < ·)) (hm : m < l.length) (hk : k < m + 1) (h : l.getD m 0 < t) : l.getD k 0 < t := by
  rcases Nat.lt_or_ge k m with g | g
  · rw [List.pairwise_iff_getElem] at hup
    have h1 := hup k m (by omega) hm g
    simp only [List.getD, List.getElem?_eq_getElem hm, List.getElem?_eq_getElem (show k < l.length by omega), Option.getD_some] at h ⊢
    omega
  · obtain rfl : k = m := by omega
    exact h
theorem bin_hi {l : List Nat} {m t k : Nat} (hup : l.Pairwise (· < ·)) (hk : m ≤ k) (hk2 : k < l.length) (h : t ≤ l.getD m 0) : t ≤ l.getD k 0 := by
  rcases Nat.lt_or_ge m k with g | g
  · rw [List.pairwise_iff_getElem] at hup
    have h1 := hup m k (by omega) hk2 g
    simp only [List.getD, List.getElem?_eq_getElem hk2, List.getElem?_eq_getElem (show m < l.length by omega), Option.getD_some] at h ⊢
    omega
  · obtain rfl : k = m := by omega
    exact h
theorem bin_end {l : List Nat} {p t : Nat} (hp : p ≤ l.length) (h1 : ∀ k, k < p → l.getD k 0 < t) (h2 : ∀ k, p ≤ k → k < l.length → t ≤ l.getD k 0) (hup : l.Pairwise (· < ·)) :
    (l.filter (· < t)).length = p ∧ memB t l = (decide (p < l.length) && l.getD p 0 == t) := by
  have e : l.filter (· < t) = l.take p := by
    conv => lhs; rw [← List.take_append_drop p l]
    rw [List.filter_append]
    have a1 : (l.take p).filter (· < t) = l.take p := List.filter_eq_self.2 fun x hx => by
      obtain ⟨i, hi, rfl⟩ := List.mem_take_iff_getElem.1 hx
      have := h1 i (by omega)
      simp only [List.getD, List.getElem?_eq_getElem (show i < l.length by omega), Option.getD_some] at this
      simpa using this
    have a2 : (l.drop p).filter (· < t) = [] := List.filter_eq_nil_iff.2 fun x hx => by
      obtain ⟨i, hi, rfl⟩ := List.mem_drop_iff_getElem.1 hx
      have := h2 (p + i) (by omega) (by omega)
      simp only [List.getD, List.getElem?_eq_getElem (show p + i < l.length by omega), Option.getD_some] at this
      simp
      omega
    rw [a1, a2, List.append_nil]
  refine ⟨by rw [e, List.length_take]; omega, ?_⟩
  unfold memB
  rw [Bool.eq_iff_iff, decide_eq_true_eq, Bool.and_eq_true, decide_eq_true_eq, beq_iff_eq]
  constructor
  · intro hm
    obtain ⟨i, hi, he⟩ := List.mem_iff_getElem.1 hm
    have g1 : p ≤ i := by
      rcases Nat.lt_or_ge i p with g | g
      · have := h1 i g
        simp only [List.getD, List.getElem?_eq_getElem hi, Option.getD_some] at this
        omega
      · exact g
    have g2 := h2 p (Nat.le_refl _) (by omega)
    refine ⟨by omega, ?_⟩
    have g3 := bin_hi (t := l.getD p 0) hup g1 hi (Nat.le_refl _)
    simp only [List.getD, List.getElem?_eq_getElem hi, Option.getD_some] at g3 g2 ⊢
    omega
  · rintro ⟨hp2, he⟩
    simp only [List.getD, List.getElem?_eq_getElem hp2, Option.getD_some] at he
    rw [← he]
    exact List.getElem_mem _
end Go.Proofs.Ytgdcfogikchjeaa

namespace Go.Proofs.Ytgdcfogikchjeaa
open Go.RowKit

theorem drop_mem {zs : List Int} {t : Int} {k : Nat} (h : k < zs.length) : t ∈ zs.drop k ↔ t = zs.getD k 0 ∨ t ∈ zs.drop (k + 1) := by
  rw [drop_getD h, List.mem_cons]
set_option maxHeartbeats 800000 in
theorem IndexC_any (v : Value) (zs : List Int) (t : Int) (w : World) (h : Ints w v zs) :
    Calls Try.prog 77 #[v, .int .i64 t] w fun e w' => (∃ k : Int, e = .returned (.int .i64 k) ∧ (0 ≤ k ↔ t ∈ zs)) ∧ Below w.heap.size w w' := by
  obtain ⟨a, cap, rfl, hl, hc⟩ := h
  go_enter Try.func77, Try.ntmps77
  go_wp2_with fail
  go_loopw [8] (fun i wr => ∃ k : Nat, k ≤ zs.length ∧ i = .int .i64 k ∧ Below w.heap.size w wr ∧ Hid (t ∈ zs ↔ t ∈ zs.drop k)) (fun i _ => zs.length - (intOf i).toNat)
  case atStart => exact ⟨0, Nat.zero_le _, rfl, Below.refl _ _, Iff.rfl⟩
  case round =>
    obtain ⟨k, hk, rfl, hnx, R⟩ := hrel
    by_cases hlt : k < zs.length
    · obtain ⟨b, off, rfl, hb, hcell⟩ := hc (by omega)
      have hck : wr.cell? ⟨b, off + k, none⟩ = some (.int .i64 (zs.getD k 0)) := (hnx.cell (p := ⟨b, off + k, none⟩) hb).trans (hcell k hlt)
      have D := hid (drop_mem (t := t) hlt)
      have hki : (k : Int) < (zs.length : Int) := by omega
      clear hcell hc
      generalize zs.getD k 0 = x at *
      by_cases hxy : t = x
      · have hxy' : (t == x) = true := by rw [hxy]; simp
        have F : Hid (t ∈ zs) := R.out.2 (D.out.2 (.inl hxy))
        clear hxy
        go_wp2_with fail
        go_ret
        exact ⟨⟨_, rfl, by constructor <;> intro <;> first | exact F.out | omega⟩, hnx⟩
      · have hxy' : (t == x) = false := by rw [beq_eq_false_iff_ne]; exact hxy
        have HX := hid hxy
        go_wp2_with fail
        go_roundw
        case rel => exact ⟨k + 1, by omega, by go_num, hnx, by show _ ↔ _; rw [R.out, D.out]; simp [HX.out]⟩
        case measure => simp [intOf]; omega
    · have hz : zs.drop k = [] := List.drop_of_length_le (by omega)
      have F : Hid (¬ t ∈ zs) := by show ¬ _; rw [R.out, hz]; simp
      clear hz
      go_wp2_with fail
      go_ret
      exact ⟨⟨_, rfl, by constructor <;> intro h <;> first | omega | exact absurd h F.out⟩, hnx⟩
theorem ContainsC_any (v : Value) (zs : List Int) (t : Int) (w : World) (h : Ints w v zs) :
    Calls Try.prog 62 #[v, .int .i64 t] w fun e w' => e = .returned (.bool (decide (t ∈ zs))) ∧ Below w.heap.size w w' := by
  have HX := hid (IndexC_any v zs t w h)
  clear h
  go_enter Try.func62, Try.ntmps62
  go_wp2_with fail
  refine HX.out.mono ?_
  rintro e w1 ⟨⟨k, rfl, hk⟩, hb1⟩
  have HB := hid hb1
  have HK := hid hk
  clear hb1 hk
  go_wp2_with fail
  go_ret
  exact ⟨ret_bool (by rw [Bool.eq_iff_iff, decide_eq_true_eq, decide_eq_true_eq]; exact HK.out), HB.out⟩
end Go.Proofs.Ytgdcfogikchjeaa
