/- The document's minors: rotaref.Spread, OfRank. -/
import Derived.Test.YtkeeihjcjkndbaaEqQ
import Derived.Test.YtkeeihjcjkndbaaThoseQ
import Derived.Test.YtkeeihjcjkndbaaQBelQ
import Derived.Test.YtkeeihjcjkndbaaPlainAll
import Derived.Deep.RegionHeld3
namespace Go.Proofs.Ytkeeihjcjkndbaa
open Go.RowKit

/-- A function value that tells r below T, wherever nothing below B has turned. -/
def TellsTo (B : Nat) (w : World) (g : Nat) (cs : Array Value) (T : Nat) (r : Nat → Nat) : Prop :=
  ∀ x, x < T → ∀ w1, Below B w w1 → B ≤ w1.heap.size → Calls Try.prog g (#[.int .i64 (x : Nat)] ++ cs) w1 fun e w2 => e = .returned (.int .i64 (r x : Nat)) ∧ Below w1.heap.size w1 w2
theorem All_ref (n : Nat) (w : World) (hn : n ≤ 8) : Calls Try.prog 39 #[.int .i64 n] w fun e w' => e = .returned (.int .i64 (2 ^ n - 1 : Nat)) ∧ w' = w := by
  have h := All_any n w hn
  have h1 := Nat.one_le_two_pow (n := n)
  rw [show (((2 ^ n : Nat) : Int) - 1) = ((2 ^ n - 1 : Nat) : Int) by omega] at h
  exact h

set_option maxHeartbeats 1600000 in
theorem OfRankQ_ok (s bF bN g n : Nat) (cs : Array Value) (r : Nat → Nat) (w0 w : World) (hn : n ≤ 8) (hs : s < 2 ^ n) (eg : Enters g) (hg : TellsTo w0.heap.size w0 g cs (2 ^ n) r) (hb : Below w0.heap.size w0 w)
    (hF : w.cell? ⟨bF, 0, none⟩ = some (.func (.func g) #[] cs)) (hN : w.cell? ⟨bN, 0, none⟩ = some (.int .i64 n)) :
    Calls Try.prog 57 #[.int .i64 s, .pointer (some ⟨bF, 0, none⟩), .pointer (some ⟨bN, 0, none⟩)] w fun e w' => e = .returned (.bool (r s == pop s && r s == r (2 ^ n - 1))) ∧ Below w.heap.size w w' := by
  have hs8 := lt256 hn hs
  have HS := hid (fun w' => Size_any s w' hs8)
  have hF' : ∀ x : Later w, x.now.cell? ⟨bF, 0, none⟩ = some (.func (.func g) #[] cs) := fun x => (x.kept.cell (p := ⟨bF, 0, none⟩) (World.block_lt_of_cell? w _ hF)).trans hF
  have hN' : ∀ x : Later w, x.now.cell? ⟨bN, 0, none⟩ = some (.int .i64 n) := fun x => (x.kept.cell (p := ⟨bN, 0, none⟩) (World.block_lt_of_cell? w _ hN)).trans hN
  have HG := hid (fun (y : Nat) (hy : y < 2 ^ n) (x : Later w) => hg y hy x.now (hb.trans (x.kept.mono hb.size)) (Nat.le_trans hb.size x.kept.size))
  have AL := hid (fun w' => All_ref n w' hn)
  have hfl := full_lt n
  clear hg hF hN
  unfold Enters at eg
  generalize 2 ^ n - 1 = fm at *
  generalize 2 ^ n = T at *
  have HG1 := hid (HG.out s hs)
  have HG2 := hid (HG.out fm hfl)
  generalize pop s = y at *
  generalize r fm = z at *
  by_cases hy : r s = y
  · have hy2 : (r s == y) = true := by simp [hy]
    rw [hy2]
    rw [hy] at HG1 ⊢
    have hy' : ((y : Int) == (y : Int)) = true := by simp
    go_enter Try.func57, Try.ntmps57
    go_wp2_with fail
    refine region_later (by kernel_rfl) (by kernel_rfl) ?_
    repeat (go_big_quiet_step ((first
      | (go_at_call 17; refine (HS.out _).mono ?_; rintro e w' ⟨rfl, hb9⟩; exact ⟨rfl, Later.on _ hb9⟩)
      | (go_at_call 39; refine (AL.out _).mono ?_; rintro e w' ⟨rfl, rfl⟩; exact ⟨rfl, Later.on _ (Below.refl _ _)⟩)
      | (refine (HG1.out _).mono ?_; rintro e w' ⟨rfl, hb9⟩; exact ⟨rfl, Later.on _ hb9⟩)
      | (refine (HG2.out _).mono ?_; rintro e w' ⟨rfl, hb9⟩; exact ⟨rfl, Later.on _ hb9⟩))))
    refine wpQuiet_nil ?_
    intro w6 hw'
    obtain ⟨⟨y6, hb6⟩, hw''⟩ := hw'
    dsimp only at hw''
    subst hw''
    have HB := hid hb6
    clear hb6
    go_wp2_with fail
    go_ret
    exact ⟨ret_bool (by rw [Bool.eq_iff_iff]; simp; omega), HB.out⟩
  · have hy2 : (r s == y) = false := by rw [beq_eq_false_iff_ne]; exact hy
    rw [hy2]
    have hy' : (((r s : Nat) : Int) == (y : Int)) = false := by rw [beq_eq_false_iff_ne]; omega
    generalize r s = q at *
    go_enter Try.func57, Try.ntmps57
    go_wp2_with fail
    refine region_later (by kernel_rfl) (by kernel_rfl) ?_
    repeat (go_big_quiet_step ((first
      | (go_at_call 17; refine (HS.out _).mono ?_; rintro e w' ⟨rfl, hb9⟩; exact ⟨rfl, Later.on _ hb9⟩)
      | (go_at_call 39; refine (AL.out _).mono ?_; rintro e w' ⟨rfl, rfl⟩; exact ⟨rfl, Later.on _ (Below.refl _ _)⟩)
      | (refine (HG1.out _).mono ?_; rintro e w' ⟨rfl, hb9⟩; exact ⟨rfl, Later.on _ hb9⟩)
      | (refine (HG2.out _).mono ?_; rintro e w' ⟨rfl, hb9⟩; exact ⟨rfl, Later.on _ hb9⟩))))
    refine wpQuiet_nil ?_
    intro w6 hw'
    obtain ⟨⟨y6, hb6⟩, hw''⟩ := hw'
    dsimp only at hw''
    subst hw''
    have HB := hid hb6
    clear hb6
    go_wp2_with fail
    go_ret
    exact ⟨ret_bool rfl, HB.out⟩

set_option maxHeartbeats 1600000 in
theorem OfRank_any (n g : Nat) (cs : Array Value) (r : Nat → Nat) (w : World) (hn : n ≤ 8) (eg : Enters g) (hg : TellsTo w.heap.size w g cs (2 ^ n) r) :
    Calls Try.prog 41 #[.int .i64 n, .func (.func g) #[] cs] w fun e w' => ∃ v, e = .returned (.agg #[.int .i64 n, v]) ∧ Own w.heap.size w' v (basR n r) ∧ Below w.heap.size w w' := by
  have HG := hid hg
  have EG := hid eg
  clear hg
  obtain ⟨acc, HACC⟩ : ∃ acc : List Nat, Hid (basR n r = acc) := ⟨_, rfl⟩
  rw [HACC.out]
  go_enter Try.func41, Try.ntmps41
  go_wp2_with fail
  have b0 := ((Boxed.new w 3 (.int .i64 n)).alloc (.cells #[.func (.func g) #[] cs] 39)).alloc (.cells #[.int .i64 0, .slice none 0 0] 26)
  have b1 := (Boxed.new (w.alloc (.cells #[.int .i64 n] 3)) 39 (.func (.func g) #[] cs)).alloc (.cells #[.int .i64 0, .slice none 0 0] 26)
  have b2 := World.alloc_heap_new ((w.alloc (.cells #[.int .i64 n] 3)).alloc (.cells #[.func (.func g) #[] cs] 39)) (.cells #[.int .i64 0, .slice none 0 0] 26)
  have hB0 : Below w.heap.size w (((w.alloc (.cells #[.int .i64 n] 3)).alloc (.cells #[.func (.func g) #[] cs] 39)).alloc (.cells #[.int .i64 0, .slice none 0 0] 26)) := (((Below.refl _ w).alloc (Nat.le_refl _) _).alloc (by simp) _).alloc (by simp; omega) _
  have hsz : (((w.alloc (.cells #[.int .i64 n] 3)).alloc (.cells #[.func (.func g) #[] cs] 39)).alloc (.cells #[.int .i64 0, .slice none 0 0] 26)).heap.size = w.heap.size + 3 := by simp
  rw [World.size_alloc] at b1
  rw [World.size_alloc, World.size_alloc] at b2
  have H0 := hid b0
  have H1 := hid b1
  have H2 := hid b2
  have HB0 := hid hB0
  clear b0 b1 b2 hB0
  revert H0 H1 H2 HB0 hsz
  generalize (((w.alloc (.cells #[.int .i64 n] 3)).alloc (.cells #[.func (.func g) #[] cs] 39)).alloc (.cells #[.int .i64 0, .slice none 0 0] 26)) = W0
  intro hsz H0 H1 H2 HB0
  have x0 := H0.out.cell
  have HBd : Hid (Below w.heap.size w W0.drew) := HB0.out.drew
  have hsd : W0.drew.heap.size = W0.heap.size := rfl
  have TH := hid (Those_any n 57 #[.pointer (some ⟨w.heap.size + 1, 0, none⟩), .pointer (some ⟨w.heap.size, 0, none⟩)] (fun s => r s == pop s && r s == r (2 ^ n - 1)) W0.drew hn (fun args w => enters_of Try.func57 (by kernel_rfl) rfl args w)
    (fun x hx w1 hb1 _ => OfRankQ_ok x (w.heap.size + 1) w.heap.size g n cs r w w1 hn hx EG.out HG.out (HBd.out.trans (hb1.mono HBd.out.size)) ((hb1.cell (p := ⟨w.heap.size + 1, 0, none⟩) (by show w.heap.size + 1 < W0.heap.size; omega)).trans H1.out.cell) ((hb1.cell (p := ⟨w.heap.size, 0, none⟩) (by show w.heap.size < W0.heap.size; omega)).trans H0.out.cell)))
  rw [show ((List.range (2 ^ n)).filter fun s => r s == pop s && r s == r (2 ^ n - 1)) = basR n r from rfl, HACC.out] at TH
  have ne1 : ¬ w.heap.size + 1 + 1 = w.heap.size := by omega
  have ne2 : ¬ w.heap.size = w.heap.size + 1 + 1 := by omega
  go_region_held3 (fun w' => w'.cell? ⟨w.heap.size, 0, none⟩ = some (.int .i64 n)) (go_keep)
   (first
    | (go_at_call 14; refine TH.out.mono ?_; rintro e w4 ⟨r4, rfl, hr4, hb4⟩; have q0 := (hb4.cell (p := ⟨w.heap.size, 0, none⟩) (by show w.heap.size < W0.heap.size; omega)).trans x0; obtain ⟨ra, rc, hr⟩ := ownsRow_form' hr4; subst hr; have hx1 := (hb4.block (w.heap.size + 1 + 1) (by omega)).trans (show W0.drew.heap[w.heap.size + 1 + 1]? = _ from H2.out); obtain ⟨y2, y3, g2, g3⟩ := two_cells hx1; have HC := hid (set_two (x := .int .i64 n) (y := .slice ra acc.length rc) hx1); have HB4 := hid (HBd.out.trans (hb4.mono HBd.out.size)); have HD := hid (below_two (b := w.heap.size + 1 + 1) (x := .int .i64 n) (y := .slice ra acc.length rc) HB4.out (by omega)); have HII := hid ((hr4.set2 (b := w.heap.size + 1 + 1) (x := .int .i64 n) (y := .slice ra acc.length rc) (by omega)).mono (by omega : w.heap.size ≤ _)); clear hb4 hr4 hx1))
  go_wp2_with fail
  obtain ⟨c0, c1⟩ := HC.out
  refine bodyPost_ret (v := .agg #[.int .i64 n, .slice ra _ rc]) ?_ rfl ⟨_, rfl, HII.out, HD.out⟩
  simp [results, Try.f41, go_sem, c0, c1]

end Go.Proofs.Ytkeeihjcjkndbaa
