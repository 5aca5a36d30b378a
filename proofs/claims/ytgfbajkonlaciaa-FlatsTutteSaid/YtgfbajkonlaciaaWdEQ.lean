/- the digits and the text of a number of 128 bits. -/
import Derived.Test.YtgfbajkonlaciaaWdDQ
namespace Go.Proofs.Ytgfbajkonlaciaa
open Go.RowKit Go.Lib

theorem WAt.belowB {W W' : World} {b u B : Nat} (h : WAt W b u) (hb : Below B W W') (hB : b < B) : WAt W' b u := by
  obtain ⟨x, y, h1, h2, h3, h4⟩ := h
  exact ⟨x, y, h1, h2, h3, (hb.block b hB).trans h4⟩
def lenV : Value → Nat
  | .slice _ n _ => n
  | _ => 0
theorem dgs_len : ∀ (k u : Nat), u < 10 ^ (k + 1) → (dgs u).length ≤ k + 1
  | 0, u, h => by rw [dgs_low (by simpa using h)]; simp
  | k + 1, u, h => by
    by_cases hu : u < 10
    · rw [dgs_low hu]; simp
    · rw [dgs_high hu]
      have := dgs_len k (u / 10) (by rw [Nat.div_lt_iff_lt_mul (by omega), ← Nat.pow_succ]; exact h)
      simp; omega
theorem dgs_ne (u : Nat) : dgs u ≠ [] := by
  by_cases hu : u < 10
  · rw [dgs_low hu]; simp
  · rw [dgs_high hu]; simp
theorem dgs_lt : ∀ (u : Nat) (d : Nat), d ∈ dgs u → d < 10 := fun u => by
  induction u using Nat.strongRecOn with
  | _ u ih =>
    intro d hd
    by_cases hu : u < 10
    · rw [dgs_low hu] at hd; simp at hd; omega
    · rw [dgs_high hu] at hd
      rcases List.mem_cons.1 hd with rfl | hd
      · omega
      · exact ih (u / 10) (by omega) d hd
set_option maxRecDepth 20000 in
set_option maxHeartbeats 4000000 in
theorem digits_any (A : Nat) (w : World) (hA : A < 340282366920938463463374607431768211456) : Calls Try.prog 43 #[wv A] w fun e w' => e = .returned (.string ⟨(decT A).toArray⟩) ∧ Below w.heap.size w w' := by
  obtain ⟨i0, hi0, hz0, hz1, hz2⟩ := info_parts Try.infoByte
  obtain ⟨ah, al, h1, h2, HA, ea⟩ := wv_open A hA
  have HLEN := hid (dgs_len 38 A (by omega))
  rw [ea]
  have K0 := hid ((Below.refl _ w).alloc (Nat.le_refl _) (.cells #[.int .u64 (ah : Nat), .int .u64 (al : Nat)] 45))
  have K1 : Hid (WAt (w.alloc (.cells #[.int .u64 (ah : Nat), .int .u64 (al : Nat)] 45)) w.heap.size A) := ⟨ah, al, h1, h2, HA.out, World.alloc_heap_new w _⟩
  clear ea
  go_enter Try.func43, Try.ntmps43
  go_wp2_with fail
  go_loopw [3, 4, 5] (fun v m _ wr => ∃ (u : Nat) (acc : List Nat) (b : Bool), m = .bool b ∧ lenV v = acc.length ∧ Hid (WAt wr w.heap.size u) ∧ Hid (OwnU (w.heap.size + 1) wr v acc) ∧ Hid (if b = true then acc ++ (dgs u).map (48 + ·) = (dgs A).map (48 + ·) else acc = (dgs A).map (48 + ·)) ∧ Hid (Below w.heap.size w wr) ∧ w.heap.size + 1 ≤ wr.heap.size) (fun v _ _ _ => 100 - lenV v)
  case atStart => exact ⟨A, [], true, rfl, rfl, K1.out, OwnU.nil _ _, rfl, K0.out, by simp⟩
  case round =>
    clear K0 K1 HA h1 h2
    obtain ⟨u, acc, b, rfl, hlv, J1, HO, HR, HW, hsz⟩ := hrel
    cases b with
    | true =>
      have J0 := hid J1.out.lt
      obtain ⟨xh, xl, x1, x2, EX, wx, cx0, cx1, fx0, fx1⟩ := J1.out.read
      have T10 := hid (fun w => Of_any 10 w (by omega) (by omega))
      rw [show ((10 : Int) % 340282366920938463463374607431768211456).toNat = 10 from rfl] at T10
      have DV := hid (fun w => divided_any u 10 w J0.out (by omega) (by omega))
      obtain ⟨th, tl, t1, t2, ET, wt⟩ := wv_open 10 (by omega)
      rw [wt] at T10
      rw [wx, wt] at DV
      obtain ⟨qh, ql, q1, q2, EQ, wq⟩ := wv_open (u / 10) (by have := J0.out; omega)
      obtain ⟨rh, rl, r1, r2, ER, wr'⟩ := wv_open (u % 10) (by omega)
      rw [wq, wr'] at DV
      obtain ⟨g, hg⟩ : ∃ g, wr.heap.size = g := ⟨_, rfl⟩
      have hb0 := (Below.refl _ wr).alloc (Nat.le_refl _) (.cells #[.int .u64 0, .int .u64 0] 45)
      have G1 : WAt (wr.alloc (.cells #[.int .u64 0, .int .u64 0] 45)) wr.heap.size 0 := ⟨0, 0, by omega, by omega, rfl, World.alloc_heap_new wr _⟩
      have J2 := J1.out.below hb0
      have O2 := HO.out.below hb0
      have W2 := HW.out.alloc (by omega) (.cells #[.int .u64 0, .int .u64 0] 45)
      obtain ⟨V, hV⟩ : ∃ V, wr.alloc (.cells #[.int .u64 0, .int .u64 0] 45) = V := ⟨_, rfl⟩
      rw [hV] at G1 J2 O2 W2
      rw [hg] at G1
      have KK : Hid (∀ w2, Below V.heap.size V w2 → (w2.cell? ⟨w.heap.size, 0, none⟩ = some (.int .u64 (xh : Nat)) ∧ w2.cell? ⟨w.heap.size, 1, none⟩ = some (.int .u64 (xl : Nat))) ∧ (w2.frozen? ⟨w.heap.size, 0, none⟩ = false ∧ w2.frozen? ⟨w.heap.size, 1, none⟩ = false) ∧ (∃ a b, w2.cell? ⟨g, 0, none⟩ = some a ∧ w2.cell? ⟨g, 1, none⟩ = some b) ∧ (w2.frozen? ⟨g, 0, none⟩ = false ∧ w2.frozen? ⟨g, 1, none⟩ = false) ∧ Below V.heap.size V w2) := fun w2 h2 => by
        obtain ⟨ph, pl, p1, p2, EP, wp, cp0, cp1, fp0, fp1⟩ := (J2.below h2).read
        obtain ⟨rfl, rfl⟩ : ph = xh ∧ pl = xl := by have := EP.out; have := EX.out; omega
        obtain ⟨sh, sl, s1, s2, ES, ws, cs0, cs1, fs0, fs1⟩ := (G1.below h2).read
        exact ⟨⟨cp0, cp1⟩, ⟨fp0, fp1⟩, ⟨_, _, cs0, cs1⟩, ⟨fs0, fs1⟩, h2⟩
      obtain ⟨⟨k1, k2⟩, ⟨k3, k4⟩, ⟨ka, kb, k5, k6⟩, ⟨k7, k8⟩, -⟩ := KK.out V (Below.refl _ _)
      have PUT : Hid (∀ w2, Below V.heap.size V w2 → WAt ((((w2.setCell ⟨w.heap.size, 0, none⟩ (.int .u64 (qh : Nat))).setCell ⟨w.heap.size, 1, none⟩ (.int .u64 (ql : Nat))).setCell ⟨g, 0, none⟩ (.int .u64 (rh : Nat))).setCell ⟨g, 1, none⟩ (.int .u64 (rl : Nat))) w.heap.size (u / 10) ∧ WAt ((((w2.setCell ⟨w.heap.size, 0, none⟩ (.int .u64 (qh : Nat))).setCell ⟨w.heap.size, 1, none⟩ (.int .u64 (ql : Nat))).setCell ⟨g, 0, none⟩ (.int .u64 (rh : Nat))).setCell ⟨g, 1, none⟩ (.int .u64 (rl : Nat))) g (u % 10) ∧ OwnU (w.heap.size + 1) ((((w2.setCell ⟨w.heap.size, 0, none⟩ (.int .u64 (qh : Nat))).setCell ⟨w.heap.size, 1, none⟩ (.int .u64 (ql : Nat))).setCell ⟨g, 0, none⟩ (.int .u64 (rh : Nat))).setCell ⟨g, 1, none⟩ (.int .u64 (rl : Nat))) u3 acc ∧ Below w.heap.size w ((((w2.setCell ⟨w.heap.size, 0, none⟩ (.int .u64 (qh : Nat))).setCell ⟨w.heap.size, 1, none⟩ (.int .u64 (ql : Nat))).setCell ⟨g, 0, none⟩ (.int .u64 (rh : Nat))).setCell ⟨g, 1, none⟩ (.int .u64 (rl : Nat))) ∧ w.heap.size + 1 ≤ w2.heap.size) := fun w2 h2 => by
        refine ⟨((J2.below h2).put (v := u / 10) q1 q2 EQ.out).putO (c := g) _ _ (by omega), (((G1.below h2).putO (c := w.heap.size) _ _ (by omega))).put (v := u % 10) r1 r2 ER.out, ?_, ?_, ?_⟩
        · obtain ⟨h0, h1⟩ := O2.below h2
          rcases h1 with h1 | ⟨gg, cap, cur, hv, hgg, hh, hr⟩
          · exact ⟨h0, .inl h1⟩
          · refine ⟨h0, .inr ⟨gg, cap, cur, hv, hgg, ?_, hr⟩⟩
            have hgne : g ≠ gg := fun e => by
              have h9 : wr.heap[gg]? ≠ none := by
                obtain ⟨h0', h1'⟩ := HO.out
                rcases h1' with ⟨h1', -⟩ | ⟨g3, cap3, cur3, hv3, hg3, hh3, hr3⟩
                · rw [h1'] at hv; cases hv
                · rw [hv] at hv3
                  simp only [Value.slice.injEq, Option.some.injEq, Addr.mk.injEq, and_true] at hv3
                  obtain ⟨rfl, -, -⟩ := hv3
                  rw [hh3]; simp
              rw [← e, ← hg] at h9
              simp at h9
            rw [set_heap_other _ _ _ (by show g ≠ gg; exact hgne), set_heap_other _ _ _ (by show g ≠ gg; exact hgne), set_heap_other _ _ _ (by show w.heap.size ≠ gg; omega), set_heap_other _ _ _ (by show w.heap.size ≠ gg; omega)]
            exact hh
        · have hb9 := W2.trans (h2.mono W2.size)
          exact (((hb9.setCell (p := ⟨w.heap.size, 0, none⟩) (Nat.le_refl _) _).setCell (p := ⟨w.heap.size, 1, none⟩) (Nat.le_refl _) _).setCell (p := ⟨g, 0, none⟩) (by show w.heap.size ≤ g; omega) _).setCell (p := ⟨g, 1, none⟩) (by show w.heap.size ≤ g; omega) _
        · have := h2.size
          have := J2.size
          omega
      have hgn : ¬ w.heap.size = g := by omega
      have hgn' : ¬ g = w.heap.size := by omega
      have HG := hid hg
      have SZ := hid hsz
      have LV := hid hlv
      have J3 := hid J2
      have G3 := hid G1
      clear hb0 J2 O2 W2 G1 cx0 cx1 fx0 fx1 hsz hlv
      go_wp2_with fail
      clear hV hg
      go_cut [3] from 10 to 15 (fun v' W => v' = u3 ∧ Hid (WAt W w.heap.size (u / 10)) ∧ Hid (WAt W g (u % 10)) ∧ Hid (OwnU (w.heap.size + 1) W u3 acc) ∧ Hid (Below w.heap.size w W) ∧ w.heap.size + 1 ≤ W.heap.size)
      case first =>
        go_region_with (first
          | (go_at_call 38; (with_reducible refine (T10.out _).mono ?_); rintro e w5 ⟨rfl, h5⟩; obtain ⟨⟨n1, n2⟩, ⟨n3, n4⟩, ⟨na, nb, n5, n6⟩, ⟨n7, n8⟩, n9⟩ := KK.out w5 (((Below.refl _ _).drew).trans h5); clear h5)
          | (go_at_call 62; (with_reducible refine (DV.out _).mono ?_); rintro e w6 ⟨rfl, h6⟩; obtain ⟨⟨o1, o2⟩, ⟨o3, o4⟩, ⟨oa, ob, o5, o6⟩, ⟨o7, o8⟩, o9⟩ := KK.out w6 (n9.trans (h6.mono n9.size)); clear h6))
        all_goals go_wp2_with fail
        all_goals go_meet
        all_goals exact ⟨rfl, (PUT.out _ o9).1, (PUT.out _ o9).2.1, (PUT.out _ o9).2.2.1, (PUT.out _ o9).2.2.2.1, by simp only [World.size_setCell]; exact (PUT.out _ o9).2.2.2.2⟩
      case rest =>
        obtain ⟨rfl, HJ, HGc, HOc, HWc, hsc⟩ := hcut
        clear KK PUT J3 G3 J1 HO HW k1 k2 k3 k4 k5 k6 k7 k8 DV T10
        obtain ⟨dh, dl, d1, d2, ED, wd, cd0, cd1, fd0, fd1⟩ := HGc.out.read
        have hd10 : dl < 10 := by have := ED.out; omega
        obtain ⟨yh, yl, y1, y2, EY, wy, cy0, cy1, fy0, fy1⟩ := HJ.out.read
        have cv : IntKind.u8.wrap (dl : Int) = (dl : Int) := by rw [IntKind.wrap_u8]; omega
        obtain ⟨x, hx, hx2⟩ : ∃ x : Nat, (48 : Int) + (dl : Int) = (x : Int) ∧ Hid (x = 48 + dl) := ⟨48 + dl, by omega, rfl⟩
        have hx3 : IntKind.u8.wrap (x : Int) = (x : Int) := by have := hx2.out; rw [IntKind.wrap_u8]; omega
        have hlen : acc.length ≤ 39 := by
          have h9 := congrArg List.length (show acc ++ (dgs u).map (48 + ·) = (dgs A).map (48 + ·) from HR.out)
          have := HLEN.out
          simp at h9
          omega
        go_wp2_with (at_builtin; refine wpList_append_own _ rfl _ _ 79 rfl (w.heap.size + 1) 5 i0 (.int .u8 0) 1 1 Try.undBytes hi0 hz0 hz1 hz2 rfl (by decide) _ _ _ rfl (HOc.out.alloc _) ⟨wc.heap.size, 0, none⟩ 1 1 [.int .u8 (x : Nat)] rfl rfl ?c1 ?c2 ?c3 ?c4 ?c5 ?_)
        case c1 => exact cell_one_new _ _ _
        case c2 => intro u hu; simp at hu; subst hu; rfl
        case c3 => unfold maxLen; omega
        case c4 => omega
        case c5 => simp; omega
        intro v' w7 hown' hgrow _
        have R3 := hid (OwnU.snoc hown')
        have R4 := OwnU.grown HOc.out (Below.refl _ wc) hsc hgrow
        have R5 := hid (HJ.out.belowB R4 (by omega))
        have R6 := hid (HWc.out.trans (R4.mono (by omega)))
        have R7 := Nat.le_trans hsc R4.size
        have lv' : lenV v' = acc.length + 1 := by
          rcases Go.Joins.ownsRow_forms hown' with ⟨rfl, h0⟩ | ⟨g', cap', rfl⟩
          · omega
          · rfl
        have LV' := hid lv'
        obtain ⟨eh, el, e1, e2, EE, we, ce0, ce1, fe0, fe1⟩ := R5.out.read
        have HLA := hid hlen
        clear hown' hgrow R4 HJ HGc HOc HWc cd0 cd1 fd0 fd1 cy0 cy1 fy0 fy1 lv' cv hx hx3 hlen
        by_cases hz : u / 10 = 0
        · obtain ⟨rfl, rfl⟩ : eh = 0 ∧ el = 0 := by have := EE.out; omega
          have HR' : Hid (acc ++ [x] = (dgs A).map (48 + ·)) := by
            show _ = _
            have h9 : acc ++ (dgs u).map (48 + ·) = (dgs A).map (48 + ·) := HR.out
            rw [dgs_low (by omega)] at h9
            rw [← h9, hx2.out, show dl = u by have := ED.out; omega]; rfl
          clear HR
          go_wp2_with fail
          go_roundw
          case rel => exact ⟨u / 10, acc ++ [x], false, rfl, by rw [LV'.out]; simp, R5.out, R3.out, HR'.out, R6.out, R7⟩
          case measure => rw [LV'.out, LV.out]; have := HLA.out; omega
        · have HR' : Hid (acc ++ [x] ++ (dgs (u / 10)).map (48 + ·) = (dgs A).map (48 + ·)) := by
            show _ = _
            have h9 : acc ++ (dgs u).map (48 + ·) = (dgs A).map (48 + ·) := HR.out
            rw [dgs_high (by omega)] at h9
            rw [← h9, hx2.out, show dl = u % 10 by have := ED.out; omega, List.append_assoc]; rfl
          clear HR
          have hcase : (¬ (eh : Int) = 0) ∨ (eh = 0 ∧ ¬ (el : Int) = 0) := by have := EE.out; omega
          rcases hcase with he | ⟨rfl, he⟩
          · go_wp2_with fail
            go_roundw
            case rel => exact ⟨u / 10, acc ++ [x], true, rfl, by rw [LV'.out]; simp, R5.out, R3.out, HR'.out, R6.out, R7⟩
            case measure => rw [LV'.out, LV.out]; have := HLA.out; omega
          · go_wp2_with fail
            go_roundw
            case rel => exact ⟨u / 10, acc ++ [x], true, rfl, by rw [LV'.out]; simp, R5.out, R3.out, HR'.out, R6.out, R7⟩
            case measure => rw [LV'.out, LV.out]; have := HLA.out; omega
    | false =>
      have HR' : acc = (dgs A).map (48 + ·) := by have := HR.out; simpa using this
      have hne : acc ≠ [] := by rw [HR']; simpa using dgs_ne A
      obtain ⟨g, cap, rfl, hg, ht⟩ := HO.out.tbl hne
      have hl39 : acc.length ≤ 39 := by rw [HR']; simpa using HLEN.out
      have RV := hid (Reverse_any g acc.length cap _ wr (by omega) ht)
      have hl0 : 0 < acc.length := List.length_pos_iff.2 hne
      have HE := hid HR'
      clear HR HR' ht HO
      go_wp2_with fail
      refine RV.out.mono ?_
      rintro e w8 ⟨rfl, ht8, hb8⟩
      have CV := run_convert_bytes_arg (P := Try.prog) w8 79 5 Try.undBytes Try.undByte g 0 acc.length cap (acc.reverse.map fun x : Nat => (x : Int)) (by simp) (fun i hi => by
        rw [Nat.zero_add, ht8.cell i hi]
        congr 2
        have hi' : acc.length - 1 - i < acc.length := by omega
        simp [List.getD, hi, hi']) 9 Try.undStr
      have ST : Hid (strOfNums (acc.reverse.map fun x : Nat => (x : Int)) = ⟨(decT A).toArray⟩) := by
        show _ = _
        unfold strOfNums decT
        rw [HE.out]
        simp [Function.comp_def]
        intro a _
        rw [show (48 + (a : Int)).toNat = 48 + a by omega]
        simp
      rw [ST.out] at CV
      have HB := hid (HW.out.trans (hb8.mono (by omega)))
      clear ht8 hb8
      go_wp2_with fail
      go_ret
      exact ⟨rfl, HB.out⟩
end Go.Proofs.Ytgfbajkonlaciaa
