/- The document's minors: the ranks' functions of rotaref.Deleted, Contracted, Dual, Cut. -/
import Derived.Test.YtkebhhpfnalbfacRefMinQ
import Derived.Test.YtkebhhpfnalbfacIndQ
namespace Go.Proofs.Ytkebhhpfnalbfac
open Go.RowKit

theorem DeletedQ_ok (t bR bM bS n g : Nat) (v : Value) (r : Nat → Nat) (w : World) (hn : n ≤ 8) (hg : g < 256) (ht : t < 256) (hx : old (els (dif (2 ^ n - 1) g)) t < 2 ^ n)
    (hR : w.cell? ⟨bR, 0, none⟩ = some v) (hM : w.cell? ⟨bM, 0, none⟩ = some (.int .i64 n)) (hS : w.cell? ⟨bS, 0, none⟩ = some (.int .i64 g)) (hv : RkAt w v (2 ^ n) r) :
    Calls Try.prog 92 #[.int .i64 t, .pointer (some ⟨bR, 0, none⟩), .pointer (some ⟨bM, 0, none⟩), .pointer (some ⟨bS, 0, none⟩)] w fun e w' => e = .returned (.int .i64 (r (old (els (dif (2 ^ n - 1) g)) t) : Nat)) ∧ Below w.heap.size w w' := by
  obtain ⟨rb, roff, rcap, rfl, h1, h2⟩ := hv
  have hc := h2 _ hx
  have SP := hid (fun w' => Spread_any n g t w' hn hg ht)
  clear h2
  generalize old (els (dif (2 ^ n - 1) g)) t = o at *
  generalize 2 ^ n = T at *
  go_enter Try.func92, Try.ntmps92
  go_wp2_with fail
  go_quiet ((go_at_call 93; refine (SP.out _).mono ?_; rintro e w' ⟨rfl, rfl⟩; exact ⟨rfl, _, rfl⟩))
  go_wp2_with fail
  go_ret
  exact ⟨rfl, drewN_below _ _ _⟩
theorem ContractedQ_ok (t bR bM bS n g : Nat) (v : Value) (r : Nat → Nat) (w : World) (hn : n ≤ 8) (hg : g < 2 ^ n) (ht : t < 256) (hx : old (els (dif (2 ^ n - 1) g)) t ||| g < 2 ^ n) (hr8 : ∀ i, r i ≤ 8) (hge : r g ≤ r (old (els (dif (2 ^ n - 1) g)) t ||| g))
    (hR : w.cell? ⟨bR, 0, none⟩ = some v) (hM : w.cell? ⟨bM, 0, none⟩ = some (.int .i64 n)) (hS : w.cell? ⟨bS, 0, none⟩ = some (.int .i64 g)) (hv : RkAt w v (2 ^ n) r) :
    Calls Try.prog 94 #[.int .i64 t, .pointer (some ⟨bR, 0, none⟩), .pointer (some ⟨bM, 0, none⟩), .pointer (some ⟨bS, 0, none⟩)] w fun e w' => e = .returned (.int .i64 (minR r (dif (2 ^ n - 1) g) g t : Nat)) ∧ Below w.heap.size w w' := by
  obtain ⟨rb, roff, rcap, rfl, h1, h2⟩ := hv
  have hc := h2 _ hx
  have hc2 := h2 _ hg
  have g8 := lt256 hn hg
  have SP := hid (fun w' => Spread_any n g t w' hn g8 ht)
  have ho8 : old (els (dif (2 ^ n - 1) g)) t < 256 := old_lt (fun x h => els_8 h) t
  have hor : bits .or .i64 (old (els (dif (2 ^ n - 1) g)) t : Int) (g : Int) = ((old (els (dif (2 ^ n - 1) g)) t ||| g : Nat) : Int) := i64_or_nat _ g (by omega) (by omega)
  have q1 := hr8 g
  have q2 := hr8 (old (els (dif (2 ^ n - 1) g)) t ||| g)
  unfold minR
  clear h2 hr8
  generalize old (els (dif (2 ^ n - 1) g)) t = o at *
  generalize o ||| g = z at *
  generalize r z = x at *
  generalize r g = y at *
  generalize 2 ^ n = T at *
  go_enter Try.func94, Try.ntmps94
  go_wp2_with fail
  go_quiet ((go_at_call 93; refine (SP.out _).mono ?_; rintro e w' ⟨rfl, rfl⟩; exact ⟨rfl, _, rfl⟩))
  go_wp2_with fail
  go_ret
  exact ⟨ret_int (by omega), drewN_below _ _ _⟩
theorem DualQ_ok (s bR bM n : Nat) (v : Value) (r : Nat → Nat) (w : World) (hn : n ≤ 8) (hs : s < 2 ^ n) (hr8 : ∀ i, r i ≤ 8) (hge : r (2 ^ n - 1) ≤ pop s + r (2 ^ n - 1 - s))
    (hR : w.cell? ⟨bR, 0, none⟩ = some v) (hM : w.cell? ⟨bM, 0, none⟩ = some (.int .i64 n)) (hv : RkAt w v (2 ^ n) r) :
    Calls Try.prog 90 #[.int .i64 s, .pointer (some ⟨bR, 0, none⟩), .pointer (some ⟨bM, 0, none⟩)] w fun e w' => e = .returned (.int .i64 (dualR n r s : Nat)) ∧ Below w.heap.size w w' := by
  obtain ⟨rb, roff, rcap, rfl, h1, h2⟩ := hv
  have s8 := lt256 hn hs
  have f8 := lt256 hn (full_lt n)
  have hR' : ∀ x : Later w, x.now.cell? ⟨bR, 0, none⟩ = some (.slice (some ⟨rb, roff, none⟩) (2 ^ n) rcap) := fun x => (x.kept.cell (p := ⟨bR, 0, none⟩) (World.block_lt_of_cell? w _ hR)).trans hR
  have hM' : ∀ x : Later w, x.now.cell? ⟨bM, 0, none⟩ = some (.int .i64 n) := fun x => (x.kept.cell (p := ⟨bM, 0, none⟩) (World.block_lt_of_cell? w _ hM)).trans hM
  have hc1 : ∀ x : Later w, x.now.cell? ⟨rb, roff + (2 ^ n - 1), none⟩ = some (.int .i64 (r (2 ^ n - 1) : Nat)) := fun x => (x.kept.cell (p := ⟨rb, roff + (2 ^ n - 1), none⟩) h1).trans (h2 _ (full_lt n))
  have hc2 : ∀ x : Later w, x.now.cell? ⟨rb, roff + (2 ^ n - 1 - s), none⟩ = some (.int .i64 (r (2 ^ n - 1 - s) : Nat)) := fun x => (x.kept.cell (p := ⟨rb, roff + (2 ^ n - 1 - s), none⟩) h1).trans (h2 _ cpl_lt)
  have hand : bits .andNot .i64 ((2 ^ n - 1 : Nat) : Int) (s : Int) = ((2 ^ n - 1 - s : Nat) : Int) := by rw [← dif_cpl hs]; exact i64_andNot_nat _ s (by omega) (by omega)
  have HS := hid (fun w' => Size_any s w' s8)
  have AL := hid (fun w' => All_ref n w' hn)
  have q1 := hr8 (2 ^ n - 1)
  have q2 := hr8 (2 ^ n - 1 - s)
  have q3 := pop_le s s8
  have l1 := full_lt n
  have l2 := cpl_lt (n := n) (s := s)
  unfold dualR
  clear h2 hr8 hR hM
  generalize 2 ^ n - 1 - s = z at *
  generalize 2 ^ n - 1 = fm at *
  generalize 2 ^ n = T at *
  generalize r z = x at *
  generalize r fm = y at *
  generalize pop s = p at *
  go_enter Try.func90, Try.ntmps90
  go_wp2_with fail
  refine region_later (by kernel_rfl) (by kernel_rfl) ?_
  repeat (go_big_quiet_step ((first
    | (go_at_call 43; refine (HS.out _).mono ?_; rintro e w' ⟨rfl, hb9⟩; exact ⟨rfl, Later.on _ hb9⟩)
    | (go_at_call 54; refine (AL.out _).mono ?_; rintro e w' ⟨rfl, rfl⟩; exact ⟨rfl, Later.on _ (Below.refl _ _)⟩))))
  refine wpQuiet_nil ?_
  intro w6 hw'
  obtain ⟨⟨y6, hb6⟩, hw''⟩ := hw'
  dsimp only at hw''
  subst hw''
  have HB := hid hb6
  clear hb6
  go_wp2_with fail
  go_ret
  exact ⟨ret_int (by omega), HB.out⟩
theorem CutQ_ok (s bR bK k T : Nat) (v : Value) (r : Nat → Nat) (w : World) (hs : s < T)
    (hR : w.cell? ⟨bR, 0, none⟩ = some v) (hK : w.cell? ⟨bK, 0, none⟩ = some (.int .i64 k)) (hv : RkAt w v T r) :
    Calls Try.prog 95 #[.int .i64 s, .pointer (some ⟨bR, 0, none⟩), .pointer (some ⟨bK, 0, none⟩)] w fun e w' => e = .returned (.int .i64 (cutR r k s : Nat)) ∧ Below w.heap.size w w' := by
  obtain ⟨rb, roff, rcap, rfl, h1, h2⟩ := hv
  have hc := h2 _ hs
  unfold cutR
  clear h2
  generalize r s = x at *
  go_enter Try.func95, Try.ntmps95
  go_wp2_with fail
  go_quiet (fail)
  go_wp2_with fail
  all_goals go_ret
  all_goals exact ⟨ret_int (by omega), drewN_below _ _ _⟩
end Go.Proofs.Ytkebhhpfnalbfac
