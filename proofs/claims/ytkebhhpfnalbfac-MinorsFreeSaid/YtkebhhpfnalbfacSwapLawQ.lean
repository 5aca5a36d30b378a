/- The walk of the law MinorsSwap. -/
import Derived.Test.YtkebhhpfnalbfacDelConQ
import Derived.Test.YtkebhhpfnalbfacRefSetQ
import Derived.Test.YtkebhhpfnalbfacPlainAll
import Derived.Deep.RegionHeld3
import Derived.Deep.CutRange
namespace Go.Proofs.Ytkebhhpfnalbfac
open Go.RowKit

theorem two_del : pop (dif (2 ^ 4 - 1) 1) = 3 ∧ (minL 4 twoL 1 0).length = 3 := by decide +kernel
theorem box_back {w w1 : World} {B : Nat} {x y : Value} (hx : w.cell? ⟨B, 0, none⟩ = some x ∧ w.cell? ⟨B, 1, none⟩ = some y) (hb : Below w.heap.size w w1) (hB : B < w.heap.size) : w1.cell? ⟨B, 0, none⟩ = some x ∧ w1.cell? ⟨B, 1, none⟩ = some y :=
  ⟨(hb.cell (p := ⟨B, 0, none⟩) hB).trans hx.1, (hb.cell (p := ⟨B, 1, none⟩) hB).trans hx.2⟩

/-- A matroid lies in the variable bx; nothing that lay in W has turned. -/
def HoldsM (W : World) (n : Int) (l : List Nat) (bx : Nat) (ax : Option Addr) (cx : Nat) (W' : World) : Prop :=
  (W'.cell? ⟨bx, 0, none⟩ = some (.int .i64 n) ∧ W'.cell? ⟨bx, 1, none⟩ = some (.slice ax l.length cx)) ∧ Ints W' (.slice ax l.length cx) (N l) ∧ Below W.heap.size W W' ∧ bx < W'.heap.size
theorem keepA {W w7 : World} {n : Int} {l : List Nat} {ax : Option Addr} {cx : Nat} (ho : Own W.drew.heap.size w7 (.slice ax l.length cx) l) (hb : Below W.drew.heap.size W.drew w7) (hl : l.length ≤ 17592186044416) :
    HoldsM W n l w7.heap.size ax cx (w7.alloc (.cells #[.int .i64 n, .slice ax l.length cx] 24)) := by
  have hk := below_box w7 #[.int .i64 n, .slice ax l.length cx]
  have h0 : Below W.heap.size W w7 := (Below.refl W.heap.size W).drew.trans hb
  exact ⟨box_cells (Below.refl _ _), (ho.ints hl).below hk, h0.trans (hk.mono h0.size), by simp⟩
theorem zeroD {W w7 : World} (hb : Below (W.alloc (.cells #[.int .i64 0, .slice none 0 0] 24)).drew.heap.size (W.alloc (.cells #[.int .i64 0, .slice none 0 0] 24)).drew w7) :
    w7.heap[W.heap.size]? = some (.cells #[.int .i64 0, .slice none 0 0] 24 (0, 0)) := (hb.block _ (by show _ < (W.alloc _).heap.size; simp)).trans (World.alloc_heap_new W _)
theorem keepB {W w7 : World} {n : Int} {l : List Nat} {ax : Option Addr} {cx : Nat} (ho : Own (W.alloc (.cells #[.int .i64 0, .slice none 0 0] 24)).drew.heap.size w7 (.slice ax l.length cx) l)
    (hb : Below (W.alloc (.cells #[.int .i64 0, .slice none 0 0] 24)).drew.heap.size (W.alloc (.cells #[.int .i64 0, .slice none 0 0] 24)).drew w7) (hl : l.length ≤ 17592186044416) :
    HoldsM W n l W.heap.size ax cx ((w7.setCell ⟨W.heap.size, 0, none⟩ (.int .i64 n)).setCell ⟨W.heap.size, 1, none⟩ (.slice ax l.length cx)) := by
  have hz := zeroD hb
  have hs : (W.alloc (.cells #[.int .i64 0, .slice none 0 0] 24)).drew.heap.size = W.heap.size + 1 := World.size_alloc W _
  have h0 : Below W.heap.size W w7 := (((Below.refl W.heap.size W).alloc (Nat.le_refl _) _).drew).trans (hb.mono (by omega))
  have h1 : Below W.heap.size W ((w7.setCell ⟨W.heap.size, 0, none⟩ (.int .i64 n)).setCell ⟨W.heap.size, 1, none⟩ (.slice ax l.length cx)) := below_two h0 (Nat.le_refl _)
  refine ⟨set_two hz, (ho.set2 (by omega)).ints hl, h1, ?_⟩
  have h2 := hb.size
  rw [hs] at h2
  have h3 : ((w7.setCell ⟨W.heap.size, 0, none⟩ (.int .i64 n)).setCell ⟨W.heap.size, 1, none⟩ (.slice ax l.length cx)).heap.size = w7.heap.size := by simp [World.setCell]
  omega
theorem laterA {W w7 : World} (hb : Below W.drew.heap.size W.drew w7) : Below W.heap.size W w7 := (Below.refl W.heap.size W).drew.trans hb
theorem laterB {W w7 : World} (hb : Below (W.alloc (.cells #[.int .i64 0, .slice none 0 0] 24)).drew.heap.size (W.alloc (.cells #[.int .i64 0, .slice none 0 0] 24)).drew w7) : Below W.heap.size W w7 := by
  have hs : (W.alloc (.cells #[.int .i64 0, .slice none 0 0] 24)).drew.heap.size = W.heap.size + 1 := World.size_alloc W _
  exact (((Below.refl W.heap.size W).alloc (Nat.le_refl _) _).drew).trans (hb.mono (by omega))
theorem setB_nat {m : Nat} {d : Int} (h : setB m d = true) : ∃ k : Nat, d = k ∧ k < 2 ^ m := by
  unfold setB at h
  rw [decide_eq_true_eq] at h
  obtain ⟨_, _, h1, h2⟩ := h
  obtain ⟨k, rfl⟩ := Int.eq_ofNat_of_zero_le h1
  refine ⟨k, rfl, ?_⟩
  rw [Int.toNat_natCast] at h2
  have e : ((2 ^ m : Nat) : Int) = (2 : Int) ^ m := by simp
  omega
set_option maxRecDepth 20000 in
set_option maxHeartbeats 4000000 in
theorem swap_law (n : Int) (v : Value) (zs : List Int) (d c : Int) (w : World) (h : Ints w v zs) :
    Calls Try.prog 7 #[.agg #[.int .i64 n, v], .int .i64 d, .int .i64 c] w fun e w' => e = .returned (.bool true) ∧ Below w.heap.size w w' := by
  have HI := hid h
  obtain ⟨a, cap, rfl, _, _⟩ := h
  have T2 := hid (fun w v (h : Ints w v (N twoL)) => Delete_ok 4 1 v twoL w (by omega) two_fam two_bas h (by decide))
  rw [two_del.1] at T2
  go_enter Try.func7, Try.ntmps7
  go_wp2_with fail
  refine (two_any _).mono ?_
  rintro e w1 ⟨v2, rfl, hv2, hb1⟩
  have X1 := hid (box_cells hb1)
  have B1 := hid ((below_box w #[.int .i64 n, .slice a zs.length cap]).trans (hb1.mono (below_box w #[.int .i64 n, .slice a zs.length cap]).size))
  have S1 : w.heap.size + 1 ≤ w1.heap.size := by have := hb1.size; simpa using this
  have C2 := hid (T2.out _ _ hv2)
  obtain ⟨a2, cap2, rfl, _, _⟩ := hv2
  clear hb1
  go_wp2_with fail
  refine C2.out.mono ?_
  rintro e w2 ⟨r2, rfl, hr2, hb2⟩
  have X2 := hid (box_back X1.out hb2 (by omega))
  have B2 := hid (B1.out.trans (hb2.mono B1.out.size))
  have S2 : w.heap.size + 1 ≤ w2.heap.size := Nat.le_trans S1 hb2.size
  obtain ⟨fa, fcap, hr2'⟩ := ownsRow_form' hr2
  subst hr2'
  rw [two_del.2] at *
  have P2 := hid (box_cells (w := w2) (n := 3) (u := .slice fa 3 fcap) (Below.refl _ _))
  have hk2 := below_box w2 #[.int .i64 3, .slice fa 3 fcap]
  have S3 : w.heap.size + 1 ≤ (w2.alloc (.cells #[.int .i64 3, .slice fa 3 fcap] 24)).heap.size := by rw [World.size_alloc]; omega
  have X3 := hid (box_back X2.out hk2 (by omega))
  have B3 := hid (B2.out.trans (hk2.mono B2.out.size))
  have CK := hid (check_any n _ zs _ (HI.out.below B3.out))
  obtain ⟨p0, p1⟩ := P2.out
  obtain ⟨x0, x1⟩ := X3.out
  clear hb2 T2 C2 X1 X2 hk2
  by_cases hc : chkR n zs = 0
  · rw [hc] at CK
    obtain ⟨m, l, rfl, hm, rfl, hfam, hbas⟩ := chk_of hc
    clear hc
    have HM := hid (fun w' (hb : Below w.heap.size w w') => HI.out.below hb)
    rw [N_len] at *
    go_wp2_with fail
    refine CK.out.mono ?_
    clear p0 p1 P2
    clear CK
    rintro e w4 ⟨rfl, hb4⟩
    have X4 := hid (box_back X3.out hb4 (by omega))
    have B4 := hid (B3.out.trans (hb4.mono B3.out.size))
    have S4 : w.heap.size + 1 ≤ w4.heap.size := Nat.le_trans S3 hb4.size
    clear hb4 x0 x1 X3
    obtain ⟨x0, x1⟩ := X4.out
    have ID := hid (IsSet_any m d w4)
    have IC := hid (IsSet_any m c w4)
    rcases hd : setB m d with _ | _
    · rw [hd] at ID
      clear hd
      go_wp2_with fail
      refine ID.out.mono ?_
      rintro e w' ⟨rfl, rfl⟩
      go_wp2_with fail
      go_ret
      exact ⟨rfl, B4.out⟩
    · rw [hd] at ID
      rcases hc : setB m c with _ | _
      · rw [hc] at IC
        clear hd hc
        go_wp2_with fail
        refine ID.out.mono ?_
        rintro e w' ⟨rfl, rfl⟩
        go_wp2_with fail
        refine IC.out.mono ?_
        rintro e w' ⟨rfl, rfl⟩
        go_wp2_with fail
        go_ret
        exact ⟨rfl, B4.out⟩
      · rw [hc] at IC
        obtain ⟨dn, rfl, hdn⟩ := setB_nat hd
        obtain ⟨cn, rfl, hcn⟩ := setB_nat hc
        clear hd hc
        have d8 := lt256 hm hdn
        have c8 := lt256 hm hcn
        have hand : bits .and .i64 (dn : Int) (cn : Int) = ((dn &&& cn : Nat) : Int) := i64_and_nat dn cn (by omega) (by omega)
        by_cases hdc : dn &&& cn = 0
        · have hdc' : (((dn &&& cn : Nat) : Int) != 0) = false := by rw [hdc]; rfl
          have HDC := hid hdc
          clear hdc
          go_wp2_with fail
          refine ID.out.mono ?_
          rintro e w' ⟨rfl, rfl⟩
          go_wp2_with fail
          refine IC.out.mono ?_
          rintro e w' ⟨rfl, rfl⟩
          go_wp2_with fail
          have F1 := hid (min_fam m l dn 0)
          have F2 := hid (min_fam m l cn cn)
          have A1 := hid (min_bas hm hbas dn 0)
          have A2 := hid (min_bas hm hbas cn cn)
          have N1 := kept_le hm dn
          have N2 := kept_le hm cn
          have C1 : Hid (shf (els (dif (2 ^ m - 1) dn)) cn < 2 ^ pop (dif (2 ^ m - 1) dn)) := shf_lt cn
          have C2 : Hid (shf (els (dif (2 ^ m - 1) cn)) dn < 2 ^ pop (dif (2 ^ m - 1) cn)) := shf_lt dn
          have E := hid (swap_eq hm hbas hdn hcn HDC.out)
          dsimp only at E
          have SH1 := hid (fun w => Shifted_any m dn cn w hm d8 c8)
          have SH2 := hid (fun w => Shifted_any m cn dn w hm c8 d8)
          have D1 := hid (fun w' (hb : Below w.heap.size w w') => Delete_ok m dn _ l w' hm hfam hbas (HM.out _ hb) hdn)
          have D2 := hid (fun w' (hb : Below w.heap.size w w') => Contract_ok m cn _ l w' hm hfam hbas (HM.out _ hb) hcn)
          generalize shf (els (dif (2 ^ m - 1) dn)) cn = sc at *
          generalize shf (els (dif (2 ^ m - 1) cn)) dn = sd at *
          generalize pop (dif (2 ^ m - 1) dn) = n1 at *
          generalize pop (dif (2 ^ m - 1) cn) = n2 at *
          generalize minL m l dn 0 = l1 at *
          generalize minL m l cn cn = l2 at *
          have G1 := hid (Nat.le_trans (fam_len N1 F1.out) (by decide : 256 ≤ 17592186044416))
          have G2 := hid (Nat.le_trans (fam_len N2 F2.out) (by decide : 256 ≤ 17592186044416))
          refine (D1.out _ B4.out).mono ?_
          rintro e w5 ⟨r5, rfl, ho5, hb5'⟩
          obtain ⟨a5, cap5, hq5⟩ := ownsRow_form' ho5
          subst hq5
          have hp5 := ho5.ints G1.out
          have hk5 := below_box w5 #[.int .i64 (n1 : Nat), .slice a5 l1.length cap5]
          have hb5 := hb5'.trans (hk5.mono hb5'.size)
          have hz5 := World.size_alloc w5 (.cells #[.int .i64 (n1 : Nat), .slice a5 l1.length cap5] 24)
          have hy5 := hb5'.size
          have X5 := hid (box_back X4.out hb5 (by omega))
          have B5 := hid (B4.out.trans (hb5.mono B4.out.size))
          have P5 := hid (box_cells (w := w5) (n := (n1 : Nat)) (u := .slice a5 l1.length cap5) (Below.refl _ _))
          have M5 := hid (hp5.below hk5)
          clear hb5 hb5' hk5 x0 x1 X4 hp5 ho5
          obtain ⟨x0, x1⟩ := X5.out
          go_wp2_with fail
          refine (D2.out _ B5.out).mono ?_
          rintro e w6 ⟨r6, rfl, ho6, hb6'⟩
          obtain ⟨a6, cap6, hq6⟩ := ownsRow_form' ho6
          subst hq6
          have hp6 := ho6.ints G2.out
          have hk6 := below_box w6 #[.int .i64 (n2 : Nat), .slice a6 l2.length cap6]
          have hb6 := hb6'.trans (hk6.mono hb6'.size)
          have hz6 := World.size_alloc w6 (.cells #[.int .i64 (n2 : Nat), .slice a6 l2.length cap6] 24)
          have hy6 := hb6'.size
          have X6 := hid (box_back X5.out hb6 (by omega))
          have B6 := hid (B5.out.trans (hb6.mono B5.out.size))
          replace P5 := hid (box_back P5.out hb6 (by omega))
          replace M5 := hid (M5.out.below hb6)
          have P6 := hid (box_cells (w := w6) (n := (n2 : Nat)) (u := .slice a6 l2.length cap6) (Below.refl _ _))
          have M6 := hid (hp6.below hk6)
          clear hb6 hb6' hk6 x0 x1 X5 hp6 ho6
          obtain ⟨x0, x1⟩ := X6.out
          obtain ⟨y0, y1⟩ := P5.out
          go_wp2_with fail
          have D3 := hid (fun w' (hb : Below (w6.alloc (.cells #[.int .i64 (n2 : Nat), .slice a6 l2.length cap6] 24)).heap.size (w6.alloc (.cells #[.int .i64 (n2 : Nat), .slice a6 l2.length cap6] 24)) w') => Contract_ok n1 sc _ l1 w' N1 F1.out A1.out (M5.out.below hb) C1.out)
          have N3 := kept_le N1 sc
          have F3 := hid (min_fam n1 l1 sc sc)
          have G3 := hid (Nat.le_trans (fam_len N3 F3.out) (by decide : 256 ≤ 17592186044416))
          generalize pop (dif (2 ^ n1 - 1) sc) = n3 at *
          generalize minL n1 l1 sc sc = l3 at *
          go_cut [10, 13] from 74 to 83 (fun e x W => e = .int .i64 0 ∧ ∃ bx ax cx, x = .pointer (some ⟨bx, 0, none⟩) ∧ Hid (HoldsM (w6.alloc (.cells #[.int .i64 (n2 : Nat), .slice a6 l2.length cap6] 24)) n3 l3 bx ax cx W))
          case first =>
            have ne1 : ¬ w6.heap.size + 1 = w.heap.size := by omega
            have ne2 : ¬ w6.heap.size + 1 = w5.heap.size := by omega
            have ne3 : ¬ w.heap.size = w6.heap.size + 1 := by omega
            have ne4 : ¬ w5.heap.size = w6.heap.size + 1 := by omega
            go_region_held3 (fun w' => w'.cell? ⟨w.heap.size, 0, none⟩ = some (.int .i64 m) ∧ w'.cell? ⟨w5.heap.size, 0, none⟩ = some (.int .i64 n1) ∧ w'.cell? ⟨w5.heap.size, 1, none⟩ = some (.slice a5 l1.length cap5)) (go_keep)
             (first
              | (go_at_call 51; refine (SH1.out _).mono ?_; rintro e w7' ⟨rfl, rfl⟩)
              | (go_at_call 49; refine (D3.out _ (by first | exact (Below.refl _ _).drew | exact ((Below.refl _ _).alloc (Nat.le_refl _) _).drew)).mono ?_; rintro e w7 ⟨r7, rfl, ho7, hb7⟩; obtain ⟨a7, cap7, hq7⟩ := ownsRow_form' ho7; subst hq7; have HO7 := hid ho7; have HB7 := hid hb7; have hW7 : Below (w6.alloc (.cells #[.int .i64 (n2 : Nat), .slice a6 l2.length cap6] 24)).heap.size (w6.alloc (.cells #[.int .i64 (n2 : Nat), .slice a6 l2.length cap6] 24)) w7 := (by first | exact laterA hb7 | exact laterB hb7); obtain ⟨q0, q1⟩ := box_back X6.out hW7 (by omega); obtain ⟨q2, q3⟩ := box_back P5.out hW7 (by omega); clear hW7; (try (obtain ⟨c70, c71, f70, f71⟩ := two_cells (zeroD hb7); rw [World.size_alloc] at c70 c71 f70 f71)); clear ho7 hb7))
            all_goals go_wp2_with fail
            all_goals go_meet
            all_goals first | exact ⟨rfl, _, _, _, rfl, keepA HO7.out HB7.out G3.out⟩ | (have h9 := keepB (n := (n3 : Nat)) HO7.out HB7.out G3.out; rw [World.size_alloc] at h9; exact ⟨rfl, _, _, _, rfl, h9⟩)
          case rest =>
            obtain ⟨rfl, b7, a7, cap7, rfl, H7⟩ := hcut
            obtain ⟨P7', M7', hb7, hl7⟩ := H7.out
            have X7 := hid (box_back X6.out hb7 (by omega))
            have B7 := hid (B6.out.trans (hb7.mono B6.out.size))
            replace P6 := hid (box_back P6.out hb7 (by omega))
            replace M6 := hid (M6.out.below hb7)
            have hy7 := hb7.size
            have P7 := hid P7'
            have M7 := hid M7'
            clear H7 P7' M7' hb7 x0 x1 y0 y1 X6 P5 M5
            obtain ⟨x0, x1⟩ := X7.out
            obtain ⟨y0, y1⟩ := P6.out
            go_wp2_with fail
            have D4 := hid (fun w' (hb : Below wc.heap.size wc w') => Delete_ok n2 sd _ l2 w' N2 F2.out A2.out (M6.out.below hb) C2.out)
            have N4 := kept_le N2 sd
            have F4 := hid (min_fam n2 l2 sd 0)
            have G4 := hid (Nat.le_trans (fam_len N4 F4.out) (by decide : 256 ≤ 17592186044416))
            generalize pop (dif (2 ^ n2 - 1) sd) = n4 at *
            generalize minL n2 l2 sd 0 = l4 at *
            have ne1 : ¬ wc.heap.size = w.heap.size := by omega
            have ne2 : ¬ wc.heap.size = w6.heap.size := by omega
            have ne3 : ¬ w.heap.size = wc.heap.size := by omega
            have ne4 : ¬ w6.heap.size = wc.heap.size := by omega
            go_cut [12, 14] from 84 to 93 (fun e x W => e = .int .i64 0 ∧ ∃ bx ax cx, x = .pointer (some ⟨bx, 0, none⟩) ∧ Hid (HoldsM wc n4 l4 bx ax cx W))
            case first =>
              go_region_held3 (fun w' => w'.cell? ⟨w.heap.size, 0, none⟩ = some (.int .i64 m) ∧ w'.cell? ⟨w6.heap.size, 0, none⟩ = some (.int .i64 n2) ∧ w'.cell? ⟨w6.heap.size, 1, none⟩ = some (.slice a6 l2.length cap6)) (go_keep)
               (first
                | (go_at_call 51; refine (SH2.out _).mono ?_; rintro e w8' ⟨rfl, rfl⟩)
                | (go_at_call 48; refine (D4.out _ (by first | exact (Below.refl _ _).drew | exact ((Below.refl _ _).alloc (Nat.le_refl _) _).drew)).mono ?_; rintro e w8 ⟨r8, rfl, ho8, hb8⟩; obtain ⟨a8, cap8, hq8⟩ := ownsRow_form' ho8; subst hq8; have HO8 := hid ho8; have HB8 := hid hb8; have hW8 : Below wc.heap.size wc w8 := (by first | exact laterA hb8 | exact laterB hb8); obtain ⟨q0, q1⟩ := box_back X7.out hW8 (by omega); obtain ⟨q2, q3⟩ := box_back P6.out hW8 (by omega); clear hW8; (first | (have hz8 : w8.heap[wc.heap.size]? = some (.cells #[.int .i64 0, .slice none 0 0] 24 (0, 0)) := zeroD hb8; obtain ⟨c80, c81, f80, f81⟩ := two_cells hz8; clear hz8) | skip); clear ho8 hb8))
              all_goals go_wp2_with fail
              all_goals go_meet
              all_goals first | exact ⟨rfl, _, _, _, rfl, keepA HO8.out HB8.out G4.out⟩ | exact ⟨rfl, _, _, _, rfl, keepB HO8.out HB8.out G4.out⟩
            case rest =>
              rename_i wd
              obtain ⟨rfl, b8, a8, cap8, rfl, H8⟩ := hcut
              obtain ⟨P8, M8, hb8, hl8⟩ := H8.out
              have B8 := hid (B7.out.trans (hb8.mono B7.out.size))
              replace P7 := hid (box_back P7.out hb8 hl7)
              replace M7 := hid (M7.out.below hb8)
              have SM := hid (SameMatroid_any n3 n4 _ _ (N l3) (N l4) _ M7.out M8)
              rw [show (decide ((n3 : Int) = n4) && decide (N l3 = N l4)) = true by rw [E.out.1, E.out.2]; simp] at SM
              obtain ⟨y0', y1'⟩ := P7.out
              obtain ⟨z0, z1⟩ := P8
              clear H8 M8 hb8 x0 x1 y0 y1
              go_wp2_with fail
              refine SM.out.mono ?_
              rintro e w9 ⟨rfl, hb9⟩
              have B9 := hid (B8.out.trans (hb9.mono B8.out.size))
              clear hb9
              go_wp2_with fail
              go_ret
              exact ⟨rfl, B9.out⟩
        · have hdc' : (((dn &&& cn : Nat) : Int) != 0) = true := by rw [bne_iff_ne]; omega
          go_wp2_with fail
          refine ID.out.mono ?_
          rintro e w' ⟨rfl, rfl⟩
          go_wp2_with fail
          refine IC.out.mono ?_
          rintro e w' ⟨rfl, rfl⟩
          go_wp2_with fail
          go_ret
          exact ⟨rfl, B4.out⟩
  · have hc' : (chkR n zs == 0) = false := by rw [beq_eq_false_iff_ne]; exact hc
    generalize chkR n zs = q at *
    go_wp2_with fail
    refine CK.out.mono ?_
    rintro e w4 ⟨rfl, hb4⟩
    have B4 := hid (B3.out.trans (hb4.mono B3.out.size))
    clear hb4
    go_wp2_with fail
    go_ret
    exact ⟨rfl, B4.out⟩
end Go.Proofs.Ytkebhhpfnalbfac
