/- (lattice).isModular; flats.Covers, Modular. -/
import Derived.Test.YtpmpfnbgjgjlgabFlIQ
namespace Go.Proofs.Ytpmpfnbgjgjlgab
open Go.RowKit

/-- do the ranks of f and of each of the list add up? -/
def modB (fs : List Nat) (r : Nat → Nat) (f : Nat) : Bool := fs.all fun g => r f + r g == r (f &&& g) + r (f ||| g)
set_option maxRecDepth 20000 in
set_option maxHeartbeats 2000000 in
theorem isModular_any (fv rv : Value) (fs : List Nat) (n f : Nat) (r : Nat → Nat) (w : World) (hn : n ≤ 8) (hfs : ∀ x ∈ fs, x < 2 ^ n) (hlen : fs.length ≤ 256) (hfT : f < 2 ^ n) (hr8 : ∀ i, r i ≤ 8) (h : Ints w fv (N fs)) (hr : RkAt w rv (2 ^ n) r) :
    Calls Try.prog 23 #[.agg #[fv, rv], .int .i64 f] w fun e w' => e = .returned (.bool (modB fs r f)) ∧ Below w.heap.size w w' := by
  obtain ⟨fa, fcap, rfl, -, hcc⟩ := h.nats
  have HR := hid hr
  obtain ⟨rb, ro, rc, rfl, hrb, -⟩ := hr
  obtain ⟨p, HP⟩ : ∃ p : Nat → Bool, Hid ((fun g => r f + r g == r (f &&& g) + r (f ||| g)) = p) := ⟨_, rfl⟩
  have PX : Hid (∀ g, p g = (r f + r g == r (f &&& g) + r (f ||| g))) := fun g => by rw [← HP.out]
  have HE : Hid (modB fs r f = fs.all p) := by show _ = _; rw [← HP.out]; rfl
  rw [HE.out]
  have HL : Hid (∀ k, k < fs.length → fs.getD k 0 < 2 ^ n) := fun k hk => hfs _ (by simp [List.getD, hk])
  have HAO : Hid (∀ g, g < 2 ^ n → f &&& g < 2 ^ n ∧ f ||| g < 2 ^ n) := fun g hg => ⟨Nat.lt_of_le_of_lt Nat.and_le_left hfT, Nat.or_lt_two_pow hfT hg⟩
  have hT := (pow_wrap n hn).2
  generalize 2 ^ n = T at *
  have hB0 : Below w.heap.size w (w.alloc (.cells #[.slice fa fs.length fcap, .slice (some ⟨rb, ro, none⟩) T rc] 48)) := (Below.refl _ _).alloc (Nat.le_refl _) _
  have hx := World.alloc_heap_new w (.cells #[.slice fa fs.length fcap, .slice (some ⟨rb, ro, none⟩) T rc] 48)
  have hsz : (w.alloc (.cells #[.slice fa fs.length fcap, .slice (some ⟨rb, ro, none⟩) T rc] 48)).heap.size = w.heap.size + 1 := World.size_alloc ..
  obtain ⟨W0, hW0⟩ : ∃ W0, w.alloc (.cells #[.slice fa fs.length fcap, .slice (some ⟨rb, ro, none⟩) T rc] 48) = W0 := ⟨_, rfl⟩
  rw [hW0] at hB0 hx hsz
  have hsw : w.heap.size < W0.heap.size := by omega
  have HB0 := hid hB0
  have HX := hid hx
  clear hsz
  obtain ⟨x0, x1, -, -⟩ := two_cells hx
  have HCC := hid hcc
  clear HP HE hB0 hx hcc h hfs
  go_enter Try.func23, Try.ntmps23
  go_wp2_with fail
  clear hW0
  go_loopw [6, 10] (fun _ i wr => ∃ k : Nat, k ≤ fs.length ∧ i = .int .i64 k ∧ Hid (fs.all p = (fs.drop k).all p) ∧ Hid (Below W0.heap.size W0 wr)) (fun _ i _ => fs.length - (intOf i).toNat)
  case atStart => exact ⟨0, Nat.zero_le _, rfl, rfl, Below.refl _ _⟩
  case round =>
    obtain ⟨k, hk, rfl, HA, HW⟩ := hrel
    by_cases hlt : k < fs.length
    · obtain ⟨b, off, rfl, hbb, hcell⟩ := HCC.out (by omega)
      have hbw := HB0.out.trans (HW.out.mono HB0.out.size)
      have z1 := (hbw.cell (p := ⟨b, off + k, none⟩) hbb).trans (hcell k hlt)
      have l1 := HL.out k hlt
      obtain ⟨l2, l3⟩ := HAO.out _ l1
      have z2 := HR.out.cellAt hbw l1
      have z3 := HR.out.cellAt hbw hfT
      have z4 := HR.out.cellAt hbw l2
      have z5 := HR.out.cellAt hbw l3
      have hxw := (HW.out.block w.heap.size (by omega)).trans HX.out
      obtain ⟨y0, y1, -, -⟩ := two_cells hxw
      have PK := hid (PX.out (fs.getD k 0))
      have AD := hid (all_drop (p := p) hlt)
      have b1 : bits .and .i64 (f : Int) (fs.getD k 0 : Int) = ((f &&& fs.getD k 0 : Nat) : Int) := i64_and_nat _ _ (by omega) (by omega)
      have b2 : bits .or .i64 (f : Int) (fs.getD k 0 : Int) = ((f ||| fs.getD k 0 : Nat) : Int) := i64_or_nat _ _ (by omega) (by omega)
      have r1 := hr8 (fs.getD k 0)
      have r2 := hr8 f
      have r3 := hr8 (f &&& fs.getD k 0)
      have r4 := hr8 (f ||| fs.getD k 0)
      have l1i : (fs.getD k 0 : Int) < (T : Int) := by omega
      have hfi : (f : Int) < (T : Int) := by omega
      have l2i : ((f &&& fs.getD k 0 : Nat) : Int) < (T : Int) := by omega
      have l3i : ((f ||| fs.getD k 0 : Nat) : Int) < (T : Int) := by omega
      clear hcell hbw hxw PX HAO
      generalize fs.getD k 0 = g at *
      generalize f &&& g = fg at *
      generalize f ||| g = gf at *
      generalize r g = rg at *
      generalize r f = rf at *
      generalize r fg = rfg at *
      generalize r gf = rgf at *
      have SKIP := hid (fun m => (HW.out.trans (drewN_below _ _ m)))
      by_cases hc : rf + rg = rfg + rgf
      · have hc' : ((rf : Int) + (rg : Int) != (rfg : Int) + (rgf : Int)) = false := by rw [show (rf : Int) + (rg : Int) = (rfg : Int) + (rgf : Int) by omega]; simp
        have HA2 : Hid (fs.all p = (fs.drop (k + 1)).all p) := by show _ = _; rw [HA.out, AD.out, PK.out, hc]; simp
        clear hc AD PK
        go_wp2_with fail
        go_quiet (fail)
        go_wp2_with fail
        go_roundw
        case rel => exact ⟨k + 1, by omega, by go_num, HA2.out, SKIP.out _⟩
        case measure => simp [intOf]; omega
      · have hc' : ((rf : Int) + (rg : Int) != (rfg : Int) + (rgf : Int)) = true := by rw [bne_iff_ne]; omega
        have hbe : (rf + rg == rfg + rgf) = false := by rw [beq_eq_false_iff_ne]; exact hc
        have HA2 : Hid (fs.all p = false) := by show _ = _; rw [HA.out, AD.out, PK.out, hbe]; rfl
        clear hc AD PK
        have F2 := hid (fun m => HB0.out.trans ((SKIP.out m).mono HB0.out.size))
        go_wp2_with fail
        go_quiet (fail)
        go_wp2_with fail
        go_ret
        exact ⟨ret_bool HA2.out.symm, F2.out _⟩
    · obtain rfl : k = fs.length := by omega
      have HA2 : Hid (fs.all p = true) := by show _ = _; rw [HA.out, List.drop_length]; rfl
      have F2 := hid (HB0.out.trans (HW.out.mono HB0.out.size))
      go_wp2_with fail
      go_ret
      exact ⟨ret_bool HA2.out.symm, F2.out⟩
theorem Modular_bad (n f : Int) (v : Value) (zs : List Int) (w : World) (h : Ints w v zs) (hc : chkR n zs ≠ 0) :
    Calls Try.prog 6 #[.agg #[.int .i64 n, v], .int .i64 f] w fun e w' => e = .returned (.tuple #[.bool false, .int .i64 (chkR n zs)]) ∧ Below w.heap.size w w' := by
  have HI := hid h
  obtain ⟨a, cap, rfl, _, _⟩ := h
  have HB0 := hid (below_box w #[.int .i64 n, .slice a zs.length cap])
  have HC := hid (latticeAt_bad n f _ zs _ (HI.out.below HB0.out) hc)
  generalize chkR n zs = q at *
  have hc' : (q == 0) = false := by rw [beq_eq_false_iff_ne]; exact hc
  go_enter Try.func6, Try.ntmps6
  go_wp2_with fail
  refine HC.out.mono ?_
  rintro e w2 ⟨rfl, hb2⟩
  have HB := hid ((HB0.out.trans (hb2.mono HB0.out.size)).alloc (HB0.out.trans (hb2.mono HB0.out.size)).size (.cells #[.slice none 0 0, .slice none 0 0] 48))
  clear hb2
  go_wp2_with fail
  go_ret2
  exact ⟨rfl, HB.out⟩
theorem Modular_arg (m : Nat) (f : Int) (v : Value) (l : List Nat) (w : World) (hm : m ≤ 8) (hf : Fam m l) (hb : Bas l) (h : Ints w v (N l)) (hx : memZ f (N (fltL m (rk l))) = false) :
    Calls Try.prog 6 #[.agg #[.int .i64 m, v], .int .i64 f] w fun e w' => e = .returned (.tuple #[.bool false, .int .i64 1]) ∧ Below w.heap.size w w' := by
  have HI := hid h
  obtain ⟨a, cap, hv, -, -⟩ := h.nats
  subst hv
  have HB0 := hid (below_box w #[.int .i64 m, .slice a l.length cap])
  have HC := hid (latticeAt_arg m f _ l _ hm hf hb (HI.out.below HB0.out) hx)
  clear hx
  go_enter Try.func6, Try.ntmps6
  go_wp2_with fail
  refine HC.out.mono ?_
  rintro e w2 ⟨rfl, hb2⟩
  have HB := hid ((HB0.out.trans (hb2.mono HB0.out.size)).alloc (HB0.out.trans (hb2.mono HB0.out.size)).size (.cells #[.slice none 0 0, .slice none 0 0] 48))
  clear hb2
  go_wp2_with fail
  go_ret2
  exact ⟨rfl, HB.out⟩
set_option maxRecDepth 20000 in
set_option maxHeartbeats 1000000 in
theorem Modular_ok (m f : Nat) (v : Value) (l : List Nat) (w : World) (hm : m ≤ 8) (hf : Fam m l) (hb : Bas l) (h : Ints w v (N l)) (hx : f ∈ fltL m (rk l)) :
    Calls Try.prog 6 #[.agg #[.int .i64 m, v], .int .i64 f] w fun e w' => e = .returned (.tuple #[.bool (modB (fltL m (rk l)) (rk l) f), .int .i64 0]) ∧ Below w.heap.size w w' := by
  have HI := hid h
  obtain ⟨a, cap, hv, -, -⟩ := h.nats
  subst hv
  have HB0 := hid (below_box w #[.int .i64 m, .slice a l.length cap])
  have HC := hid (latticeAt_ok m f _ l _ hm hf hb (HI.out.below HB0.out) (by rw [memZ_N]; unfold memB; exact decide_eq_true hx))
  have hlen : (fltL m (rk l)).length ≤ 256 := flt_len hm
  have CV := hid (fun fv rv w (h1 : Ints w fv (N (fltL m (rk l)))) (h2 : RkAt w rv (2 ^ m) (rk l)) => isModular_any fv rv (fltL m (rk l)) m f (rk l) w hm (fun x hx => (flt_mem.1 hx).1) hlen (flt_mem.1 hx).1 (rk_small hm hf) h1 h2)
  clear hf hb h hx
  generalize modB (fltL m (rk l)) (rk l) f = ans at *
  generalize 2 ^ m = T at *
  generalize fltL m (rk l) = fs at *
  generalize rk l = r at *
  go_enter Try.func6, Try.ntmps6
  go_wp2_with fail
  refine HC.out.mono ?_
  rintro e w2 ⟨fv, rv, rfl, ho2, hr2, hb2⟩
  have HB2 := hid (HB0.out.trans (hb2.mono HB0.out.size))
  have HI2 := hid (ho2.ints (by omega))
  have HR2 := hid hr2.rkAt
  obtain ⟨fa, fc, hfv⟩ := ownsRow_form' ho2
  subst hfv
  obtain ⟨rb, ro, rc, rfl, -, -, -⟩ := hr2
  have hb3 : Below w2.heap.size w2 (w2.alloc (.cells #[.slice fa fs.length fc, .slice (some ⟨rb, ro, none⟩) T rc] 48)) := (Below.refl _ _).alloc (Nat.le_refl _) _
  have hx2 := World.alloc_heap_new w2 (.cells #[.slice fa fs.length fc, .slice (some ⟨rb, ro, none⟩) T rc] 48)
  obtain ⟨W3, hW3⟩ : ∃ W3, w2.alloc (.cells #[.slice fa fs.length fc, .slice (some ⟨rb, ro, none⟩) T rc] 48) = W3 := ⟨_, rfl⟩
  rw [hW3] at hx2 hb3
  have HB3 := hid (HB2.out.trans (hb3.mono HB2.out.size))
  obtain ⟨z0, z1, -, -⟩ := two_cells hx2
  have CV3 := hid (CV.out _ _ W3 (HI2.out.below hb3) (HR2.out.below hb3))
  clear hb2 hb3 hx2 HC ho2 CV HI2 HR2
  go_wp2_with fail
  refine CV3.out.mono ?_
  rintro e w4 ⟨rfl, hb4⟩
  have HB4 := hid (HB3.out.trans (hb4.mono HB3.out.size))
  clear hb4
  go_wp2_with fail
  go_ret2
  exact ⟨rfl, HB4.out⟩
end Go.Proofs.Ytpmpfnbgjgjlgab
