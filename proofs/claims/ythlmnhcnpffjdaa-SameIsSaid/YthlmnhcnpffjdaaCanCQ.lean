/- same.Canon. -/
import Derived.Test.YthlmnhcnpffjdaaCanBQ
import Derived.Test.YthlmnhcnpffjdaaOrdNQ
import Derived.Test.YthlmnhcnpffjdaaWithoutQ
namespace Go.Proofs.Ythlmnhcnpffjdaa
open Go.RowKit

theorem run_make_bool (c : Nat) (hc : c ≤ 256) (w : World) : (Instr.makeSlice 70 (.int .i64 (c : Int)) (.int .i64 (c : Int))).run Try.prog w = .ok (.slice (some ⟨w.heap.size, 0, none⟩) c c) (w.alloc (.cells (madeCells #[.bool false] c) 4)) := by
  obtain ⟨i0, hi, hz0, hz1, hz2⟩ := info_parts Try.infoBool
  have h := run_make (P := Try.prog) w 70 4 i0 (.bool false) Try.underlying70 hi hz0 .i64 .i64 c c (by omega) (by omega) (by rw [hz2]; omega) (by omega)
  simp only [Int.toNat_natCast, hz1, Nat.mul_one] at h
  exact h
theorem BT.made {T : Nat} {W : World} {g : Nat} (h : W.heap[g]? = some (.cells (madeCells #[.bool false] T) 4 (0, 0))) : BT T W g (fun _ => false) := by
  refine ⟨_, h, fun s hs => ?_⟩
  unfold madeCells
  simp [hs, Nat.mod_one]
theorem mem_take {l : List Nat} {j s : Nat} (h : j < l.length) : memB s (l.take (j + 1)) = if s = l.getD j 0 then true else memB s (l.take j) := by
  unfold memB
  rw [take_snoc h]
  by_cases e : s = l.getD j 0
  · rw [if_pos e]; simp [e]
  · rw [if_neg e, Bool.eq_iff_iff, decide_eq_true_iff, decide_eq_true_iff, List.mem_append, List.mem_singleton]
    exact ⟨fun h => h.resolve_right e, .inl⟩
set_option maxRecDepth 20000 in
set_option maxHeartbeats 4000000 in
theorem Canon_ok (m : Nat) (v : Value) (l : List Nat) (w : World) (hm : m ≤ 8) (hf : Fam m l) (hb : Bas l) (h : Ints w v (N l)) :
    Calls Try.prog 16 #[.agg #[.int .i64 m, v]] w (GivesO w m (canL m l)) := by
  have B0 := boxM_below w m v
  have HB0 := hid B0
  have HSZ := hid (boxM_size w m v)
  have HBK : Hid (∀ w2, Below (boxM w m v).heap.size (boxM w m v) w2 → _) := fun w2 h => boxM_blocks h
  have CK := hid (check_any m v (N l) _ (h.below B0))
  rw [chk_mk hm hf hb] at CK
  have HLT : Hid (∀ b ∈ l, b < 2 ^ m) := hf.lt
  have hll := fam_len hm hf
  obtain ⟨T, HT, hT2, hT⟩ : ∃ T : Nat, Hid (2 ^ m = T) ∧ T ≤ 256 ∧ wrap64 (2 ^ m) = (T : Int) := ⟨2 ^ m, Eq.refl (2 ^ m), (pow_wrap _ hm).2, (pow_wrap _ hm).1⟩
  have hT1 : 1 ≤ T := by rw [← HT.out]; exact Nat.one_le_two_pow
  have mk := fun w => run_make_bool T hT2 w
  obtain ⟨a0, cap, hv, -, hcl⟩ := h.nats
  subst hv
  have HCL := hid hcl
  rw [HT.out] at HLT
  clear hf hb h hcl B0
  obtain ⟨acc, HACC⟩ : ∃ acc, Hid (canL m l = acc) := ⟨_, Eq.refl (canL m l)⟩
  rw [HACC.out]
  go_enter Try.func16, Try.ntmps16
  go_wp2_with fail
  refine CK.out.mono ?_
  rintro e w1 ⟨rfl, hb1⟩
  obtain ⟨y0, y1⟩ := HBK.out w1 hb1
  have B1 := hid (HB0.out.trans (hb1.mono HB0.out.size))
  have hs1 : w.heap.size + 2 ≤ w1.heap.size := by rw [← HSZ.out]; exact hb1.size
  have Y0 := hid y0
  have Y1 := hid y1
  obtain ⟨x0, x1⟩ := cells2 y0
  clear hb1 CK HB0 HSZ HBK y0 y1
  have bn : Below w1.heap.size w1 ((w1.alloc (.cells (madeCells #[.bool false] T) 4)).alloc (.cells #[.slice (some ⟨w1.heap.size, 0, none⟩) T T] 70)) := ((Below.refl _ _).alloc (Nat.le_refl _) _).alloc (by simp) _
  have hzn : ((w1.alloc (.cells (madeCells #[.bool false] T) 4)).alloc (.cells #[.slice (some ⟨w1.heap.size, 0, none⟩) T T] 70)).heap.size = w1.heap.size + 2 := by simp
  have XB : Hid (Boxed ((w1.alloc (.cells (madeCells #[.bool false] T) 4)).alloc (.cells #[.slice (some ⟨w1.heap.size, 0, none⟩) T T] 70)) (w1.heap.size + 1) 70 (.slice (some ⟨w1.heap.size, 0, none⟩) T T)) := by
    have := Boxed.new (w1.alloc (.cells (madeCells #[.bool false] T) 4)) 70 (.slice (some ⟨w1.heap.size, 0, none⟩) T T)
    rwa [World.size_alloc] at this
  have TB : Hid (BT T ((w1.alloc (.cells (madeCells #[.bool false] T) 4)).alloc (.cells #[.slice (some ⟨w1.heap.size, 0, none⟩) T T] 70)) w1.heap.size (fun _ => false)) := BT.made ((Below.heap_alloc _ _ _ (by simp)).trans (World.alloc_heap_new w1 _))
  have w0 := (bn.cell (p := ⟨w.heap.size, 0, none⟩) (by show w.heap.size < _; omega)).trans x0
  have w1' := (bn.cell (p := ⟨w.heap.size, 1, none⟩) (by show w.heap.size < _; omega)).trans x1
  have HBN := hid bn
  clear bn
  go_wp2_with fail
  revert hzn XB TB w0 w1' HBN
  generalize ((w1.alloc (.cells (madeCells #[.bool false] T) 4)).alloc (.cells #[.slice (some ⟨w1.heap.size, 0, none⟩) T T] 70)) = WA
  intro hzn XB TB w0 w1' HBN
  have hTs := hT
  rw [hT]
  clear hT w0 w1' x0 x1
  go_loopw [7, 22] (fun _ jx wr => ∃ j : Nat, j ≤ l.length ∧ jx = .int .i64 j ∧ Hid (BT T wr w1.heap.size (fun s => memB s (l.take j))) ∧ Hid (Boxed wr (w1.heap.size + 1) 70 (.slice (some ⟨w1.heap.size, 0, none⟩) T T)) ∧ Hid (Below w1.heap.size w1 wr) ∧ Hid (w1.heap.size + 2 ≤ wr.heap.size)) (fun _ jx _ => l.length - (intOf jx).toNat)
  case atStart => exact ⟨0, Nat.zero_le _, rfl, TB.out.congr (fun s _ => by simp [memB]), XB, HBN, by show _ ≤ _; omega⟩
  case round =>
    obtain ⟨j, hj, rfl, TBr, XBr, HBr, HZr⟩ := hrel
    clear XB TB HBN hzn
    have hzr := HZr.out
    by_cases hlt : j < l.length
    · have hlt' : (j : Int) < (l.length : Int) := by omega
      have hmeas : l.length - (j + 1) < l.length - j := by omega
      obtain ⟨lb, lo, rfl, hlb, hcell⟩ := HCL.out (by omega)
      have cL := (HBr.out.cell (p := ⟨lb, lo + j, none⟩) (by show lb < _; omega)).trans ((B1.out.cell (p := ⟨lb, lo + j, none⟩) hlb).trans (hcell j hlt))
      have hbT : l.getD j 0 < T := HLT.out _ (by simp [List.getD, hlt])
      have HMT : Hid (∀ s, s < T → memB s (l.take (j + 1)) = if s = l.getD j 0 then true else memB s (l.take j)) := fun s _ => mem_take hlt
      have cB := XBr.out.cell
      generalize l.getD j 0 = b at *
      have c3 := TBr.out.cell hbT
      have f3 := TBr.out.frozen (s := b)
      have hbT' : (b : Int) < (T : Int) := by omega
      have HN : Hid (BT T (wr.setCell ⟨w1.heap.size, b, none⟩ (.bool true)) w1.heap.size (fun s => memB s (l.take (j + 1)))) := BT.put TBr.out HMT.out
      have HX : Hid (Boxed (wr.setCell ⟨w1.heap.size, b, none⟩ (.bool true)) (w1.heap.size + 1) 70 (.slice (some ⟨w1.heap.size, 0, none⟩) T T)) := (Below.heap_setCell _ _ _ _ (by show w1.heap.size + 1 ≠ w1.heap.size; omega)).trans XBr.out
      have HBw : Hid (Below w1.heap.size w1 (wr.setCell ⟨w1.heap.size, b, none⟩ (.bool true))) := HBr.out.setCell (p := ⟨w1.heap.size, b, none⟩) (Nat.le_refl _) _
      have HZ2 : Hid (w1.heap.size + 2 ≤ (wr.setCell ⟨w1.heap.size, b, none⟩ (.bool true)).heap.size) := by
        show _ ≤ _
        rw [show (wr.setCell ⟨w1.heap.size, b, none⟩ (.bool true)).heap.size = wr.heap.size by simp [World.setCell]]
        exact hzr
      clear HMT HCL hcell TBr
      go_wp2_with fail
      go_roundw
      case rel => exact ⟨j + 1, hlt, by go_num, HN, HX, HBw, HZ2⟩
      case measure => exact hmeas
    · obtain rfl : j = l.length := by omega
      have hlt' : ¬ ((l.length : Nat) : Int) < ((l.length : Nat) : Int) := by omega
      rw [List.take_length] at TBr
      have cB := XBr.out.cell
      have CL := hid (CloneB_ok T w1.heap.size T _ wr TBr.out hT1 hT2)
      clear HCL HLT
      go_wp2_with fail
      refine CL.out.mono ?_
      rintro e w3 ⟨gL, cL, rfl, hgL, hTL, hb3⟩
      have hs3 := hb3.size
      have B3 := HBr.out.trans (hb3.mono (by omega))
      have bn : Below w3.heap.size w3 (w3.alloc (.cells #[.slice (some ⟨gL, 0, none⟩) T cL] 70)) := (Below.refl _ _).alloc (Nat.le_refl _) _
      have hzn : (w3.alloc (.cells #[.slice (some ⟨gL, 0, none⟩) T cL] 70)).heap.size = w3.heap.size + 1 := World.size_alloc ..
      have hgL3 := hTL.lt
      have CI : Hid (∀ gN gI W, w3.heap.size + 1 ≤ gN → w3.heap.size + 1 ≤ gI → Below (w3.heap.size + 1) (w3.alloc (.cells #[.slice (some ⟨gL, 0, none⟩) T cL] 70)) W → CanI w1 T (w1.heap.size + 1) w3.heap.size w1.heap.size gL T cL (fun s => memB s l) gN gI (fun s => memB s l) W) := fun gN gI W h1 h2 h3 => by
        refine ⟨B3.trans ((bn.mono (by omega)).trans (h3.mono (by omega))), by omega, by omega, by omega, ?_, ?_, ?_, ?_⟩
        · exact (h3.block _ (by omega)).trans ((bn.block _ (by omega)).trans ((hb3.block _ (by omega)).trans XBr.out))
        · exact (h3.block _ (by omega)).trans (Boxed.new w3 70 _)
        · exact TBr.out.same ((h3.block _ (by omega)).trans ((bn.block _ (by omega)).trans (hb3.block _ (by omega))))
        · exact hTL.same ((h3.block _ (by omega)).trans (bn.block _ (by omega)))
      have EO := hid (each_ok m 46 48 #[.pointer (some ⟨w1.heap.size + 1, 0, none⟩), .pointer (some ⟨w3.heap.size, 0, none⟩)] #[.pointer (some ⟨w1.heap.size + 1, 0, none⟩), .pointer (some ⟨w3.heap.size, 0, none⟩)] (canF l) (canG l) (fun gN gI L W => CanI w1 T (w1.heap.size + 1) w3.heap.size w1.heap.size gL T cL (fun s => memB s l) gN gI L W) (fun s => memB s l) (w3.alloc (.cells #[.slice (some ⟨gL, 0, none⟩) T cL] 70)) hm
        (fun args w => enters_of Try.func46 (by kernel_rfl) rfl args w) (fun args w => enters_of Try.func48 (by kernel_rfl) rfl args w)
        (fun gN gI s W W' h hs => h.save hs)
        (fun gN gI s p W hI hbg hp0 hO hs => by
          have hI' := hI
          rw [← HT.out] at hI'
          refine (canF1_ok m _ l p hm hO.num.cap hbg hI' hO).mono ?_
          rintro e W' ⟨rfl, hb⟩
          exact ⟨rfl, hI.save (Save.of_below hb), Save.of_below hb⟩)
        (fun gN gI s p W hI hbg hp0 hO hs => by
          have hI' := hI
          rw [← HT.out] at hI'
          refine (canF2_ok m _ l p hm hp0 hbg hI' hO).mono ?_
          rintro e W' ⟨rfl, h3, h4⟩
          rw [HT.out] at h3
          exact ⟨rfl, h3, h4.mono (fun k hk => by omega)⟩)
        (fun gN gI W h1 h2 h3 => by rw [hzn] at h1 h2 h3; exact CI.out gN gI W h1 h2 h3))
      obtain ⟨x0, x1⟩ := cells2 (((B3.trans (bn.mono (by omega))).block w.heap.size (by omega)).trans Y0.out)
      clear CI hTL TBr XBr hb3 CL
      go_wp2_with fail
      refine EO.out.mono ?_
      rintro e w5 ⟨rfl, ⟨gN, gI, hI5⟩, hs5⟩
      rw [show (walkO (canF l) (canG l) m m (fun s => memB s l) []).2 = canV m l from rfl] at hI5
      have hB5 := hI5.low
      have SV := hid (Sieve_any m 50 #[.pointer (some ⟨w3.heap.size, 0, none⟩)] (canV m l) w5.drew hm (fun args w => enters_of Try.func50 (by kernel_rfl) rfl args w) (by
        rw [HT.out]
        intro x hx wx hbx hsx
        refine (canF3_ok x hx hT2 ((hbx.block _ hI5.xL.lt).trans hI5.xL) ((hI5.tL.same (W' := w5.drew) rfl).below hbx)).mono ?_
        rintro e W' ⟨rfl, rfl⟩
        exact ⟨rfl, Below.refl _ _⟩))
      rw [show (List.range (2 ^ m)).filter (canV m l) = canL m l from rfl] at SV
      rw [HACC.out] at SV
      obtain ⟨x0, x1⟩ := cells2 ((hB5.block w.heap.size (by omega)).trans Y0.out)
      have HY := hid ((hB5.block (w.heap.size + 1) (by omega)).trans Y1.out)
      have HB2d : Hid (Below w.heap.size w w5.drew) := (B1.out.trans (hB5.mono (by omega))).drew
      have hsd : w5.drew.heap.size = w5.heap.size := rfl
      have hs5' : w.heap.size + 2 ≤ w5.heap.size := by have := hB5.size; omega
      clear EO hI5 HACC
      go_wp2_with fail
      go_region_held3 (fun w' => w'.cell? ⟨w.heap.size, 0, none⟩ = some (.int .i64 m)) (go_keep)
       (first
        | (go_at_call 49; refine SV.out.mono ?_; rintro e w4 ⟨r4, rfl, hr4, hb4⟩; have q0 := (show w4.cell? ⟨w.heap.size, 0, none⟩ = some (.int .i64 m) from (hb4.cell (p := ⟨w.heap.size, 0, none⟩) (by show w.heap.size < _; omega)).trans x0); obtain ⟨ra, rc, hr⟩ := ownsRow_form' hr4; subst hr; have hx1 := (hb4.block (w.heap.size + 1) (by omega)).trans (show w5.drew.heap[w.heap.size + 1]? = _ from HY.out); obtain ⟨y2, y3, g2, g3⟩ := two_cells hx1; have HC := hid (set_two (x := .int .i64 m) (y := .slice ra acc.length rc) hx1); have HB4 := hid (HB2d.out.trans (hb4.mono HB2d.out.size)); have HD := hid (below_two (b := w.heap.size + 1) (x := .int .i64 m) (y := .slice ra acc.length rc) HB4.out (by omega)); have HII := hid ((hr4.set2 (b := w.heap.size + 1) (x := .int .i64 m) (y := .slice ra acc.length rc) (by omega)).mono (by omega : w.heap.size ≤ _)); clear hb4 hr4 hx1))
      go_wp2_with fail
      obtain ⟨c0, c1⟩ := HC.out
      refine bodyPost_ret (v := .tuple #[.agg #[.int .i64 m, .slice ra _ rc], .int .i64 0]) ?_ rfl ⟨_, rfl, HII.out, HD.out⟩
      simp [results, Try.f16, go_sem, c0, c1]
set_option maxHeartbeats 800000 in
theorem Canon_bad (n : Int) (v : Value) (zs : List Int) (w : World) (h : Ints w v zs) (hc : chkR n zs ≠ 0) :
    Calls Try.prog 16 #[.agg #[.int .i64 n, v]] w (BadM w (chkR n zs)) := by
  have HI := hid h
  obtain ⟨a, cap, rfl, _, _⟩ := h
  have HB0 := hid (boxM_below w n (.slice a zs.length cap))
  have HC := hid (check_any n _ zs _ (HI.out.below HB0.out))
  have HX : Hid (∀ w2, Below (boxM w n (.slice a zs.length cap)).heap.size (boxM w n (.slice a zs.length cap)) w2 → _) := fun w2 h => boxM_blocks h
  generalize chkR n zs = q at *
  have hc' : (q != 0) = true := by simp [hc]
  go_enter Try.func16, Try.ntmps16
  go_wp2_with fail
  refine HC.out.mono ?_
  rintro e w4 ⟨rfl, hb4⟩
  obtain ⟨_, hx1⟩ := HX.out w4 hb4
  have HB4 := hid (HB0.out.trans (hb4.mono HB0.out.size))
  have HC := hid (set_two (x := .int .i64 0) (y := .slice none 0 0) hx1)
  have HD := hid (below_two (b := w.heap.size + 1) (x := .int .i64 0) (y := .slice none 0 0) HB4.out (by omega))
  obtain ⟨y2, y3, g2, g3⟩ := two_cells hx1
  clear hb4 hx1
  go_wp2_with fail
  obtain ⟨c0, c1⟩ := HC.out
  refine bodyPost_ret (v := .tuple #[.agg #[.int .i64 0, .slice none 0 0], .int .i64 q]) ?_ rfl ⟨rfl, HD.out⟩
  simp [results, Try.f16, go_sem, c0, c1]
set_option maxHeartbeats 800000 in
theorem Rename_bad (n : Int) (v u : Value) (zs : List Int) (w : World) (h : Ints w v zs) (hc : chkR n zs ≠ 0) :
    Calls Try.prog 19 #[.agg #[.int .i64 n, v], u] w (BadM w (chkR n zs)) := by
  have HI := hid h
  obtain ⟨a, cap, rfl, _, _⟩ := h
  have HB0 := hid (boxM_below w n (.slice a zs.length cap))
  have HC := hid (check_any n _ zs _ (HI.out.below HB0.out))
  have HX : Hid (∀ w2, Below (boxM w n (.slice a zs.length cap)).heap.size (boxM w n (.slice a zs.length cap)) w2 → _) := fun w2 h => boxM_blocks h
  generalize chkR n zs = q at *
  have hc' : (q != 0) = true := by simp [hc]
  go_enter Try.func19, Try.ntmps19
  go_wp2_with fail
  refine HC.out.mono ?_
  rintro e w4 ⟨rfl, hb4⟩
  obtain ⟨_, hx1⟩ := HX.out w4 hb4
  have HB4 := hid (HB0.out.trans (hb4.mono HB0.out.size))
  have HC := hid (set_two (x := .int .i64 0) (y := .slice none 0 0) hx1)
  have HD := hid (below_two (b := w.heap.size + 1) (x := .int .i64 0) (y := .slice none 0 0) HB4.out (by omega))
  obtain ⟨y2, y3, g2, g3⟩ := two_cells hx1
  clear hb4 hx1
  go_wp2_with fail
  obtain ⟨c0, c1⟩ := HC.out
  refine bodyPost_ret (v := .tuple #[.agg #[.int .i64 0, .slice none 0 0], .int .i64 q]) ?_ rfl ⟨rfl, HD.out⟩
  simp [results, Try.f19, go_sem, c0, c1]
set_option maxHeartbeats 800000 in
theorem Rename_arg (m : Nat) (v u : Value) (l : List Nat) (ps : List Int) (w : World) (hm : m ≤ 8) (hf : Fam m l) (hb : Bas l) (h : Ints w v (N l)) (hu : Ints w u ps) (hno : ¬ OrdZ m ps) :
    Calls Try.prog 19 #[.agg #[.int .i64 m, v], u] w (BadM w 1) := by
  have B0 := boxM_below w m v
  have HB0 := hid B0
  have HSZ := hid (boxM_size w m v)
  have HBK : Hid (∀ w2, Below (boxM w m v).heap.size (boxM w m v) w2 → _) := fun w2 h => boxM_blocks h
  have CK := hid (check_any m v (N l) _ (h.below B0))
  rw [chk_mk hm hf hb] at CK
  have IO := hid (fun w' (hb0 : Below w.heap.size w w') => IsOrder_full m u ps w' hm (hu.below hb0))
  have HNO := hid hno
  obtain ⟨a0, cap, hv, -, -⟩ := h.nats
  obtain ⟨a1, cap1, hu', -, -⟩ := hu
  subst hv
  subst hu'
  clear hf hb h B0 hno
  go_enter Try.func19, Try.ntmps19
  go_wp2_with fail
  refine CK.out.mono ?_
  rintro e w1 ⟨rfl, hb1⟩
  obtain ⟨y0, y1⟩ := HBK.out w1 hb1
  have B1 := hid (HB0.out.trans (hb1.mono HB0.out.size))
  have hs1 : w.heap.size + 2 ≤ w1.heap.size := by rw [← HSZ.out]; exact hb1.size
  have Y1 := hid y1
  obtain ⟨x0, x1⟩ := cells2 y0
  have IO1 := hid (IO.out w1 B1.out)
  clear hb1 CK HB0 HSZ HBK IO y0 y1
  go_wp2_with fail
  refine IO1.out.mono ?_
  rintro e w' ⟨⟨q, rfl, hq⟩, hw'⟩
  obtain rfl := hw'.symm
  obtain rfl : q = false := Bool.eq_false_iff.2 fun e => HNO.out (hq.1 e)
  have HC := hid (set_two (x := .int .i64 0) (y := .slice none 0 0) Y1.out)
  have HD := hid (below_two (b := w.heap.size + 1) (x := .int .i64 0) (y := .slice none 0 0) B1.out (by omega))
  obtain ⟨y2, y3, g2, g3⟩ := two_cells Y1.out
  clear IO1 hq HNO
  go_wp2_with fail
  obtain ⟨c0, c1⟩ := HC.out
  refine bodyPost_ret (v := .tuple #[.agg #[.int .i64 0, .slice none 0 0], .int .i64 1]) ?_ rfl ⟨rfl, HD.out⟩
  simp [results, Try.f19, go_sem, c0, c1]
end Go.Proofs.Ythlmnhcnpffjdaa
