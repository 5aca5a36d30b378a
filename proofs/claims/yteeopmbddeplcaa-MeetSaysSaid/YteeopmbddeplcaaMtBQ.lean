/- meet.heaviestOfEachSize; meet.Common, meet.Heaviest, meet.Spanned. -/
import Derived.Test.YteeopmbddeplcaaMtAQ
import Derived.Test.YteeopmbddeplcaaGrBestQ
import Derived.Test.YteeopmbddeplcaaOwnPQ
namespace Go.Proofs.Yteeopmbddeplcaa
open Go.RowKit Go.Shelf

theorem hv_len9 {n : Nat} {r q : Nat → Nat} (hn : n ≤ 8) (hr : RkOn n r) (hq : RkOn n q) (W : Nat → Int) {k : Nat} (hk : k ≤ (comL n r q).length) : (hvF W ((comL n r q).take k)).length ≤ 9 ∧ ∀ j, j < (hvF W ((comL n r q).take k)).length → (hvF W ((comL n r q).take k)).getD j 0 < 256 := by
  have h := (hv_walk hn hr hq W k hk).1
  have at_ : ∀ j, j < (hvF W ((comL n r q).take k)).length → (hvF W ((comL n r q).take k)).getD j 0 < 256 ∧ pop ((hvF W ((comL n r q).take k)).getD j 0) = j := fun j hj => by
    obtain ⟨a1, a2, _⟩ := h.at_ j hj
    exact ⟨lt256 hn (mem_comL.1 (List.mem_of_mem_take a1)).1, a2⟩
  refine ⟨?_, fun j hj => (at_ j hj).1⟩
  rcases Nat.eq_zero_or_pos (hvF W ((comL n r q).take k)).length with e | e
  · omega
  · obtain ⟨h1, h2⟩ := at_ ((hvF W ((comL n r q).take k)).length - 1) (by omega)
    have := pop_le _ h1
    omega
set_option maxRecDepth 20000 in
set_option maxHeartbeats 2000000 in
theorem heavy_any (v vw : Value) (n : Nat) (r q : Nat → Nat) (ws : List Int) (w : World) (hn : n ≤ 8) (hr : RkOn n r) (hq : RkOn n q) (h : Ints w v (N (comL n r q))) (hw : Ints w vw ws) (hws : ws.length ≤ 8) (hwb : ∀ i, -1000 ≤ ws.getD i 0 ∧ ws.getD i 0 ≤ 1000) :
    Calls Try.prog 38 #[v, vw] w fun e w' => ∃ u, e = .returned u ∧ Own w.heap.size w' u (hvL n r q (fun s => weiTo (fun i => ws.getD i 0) s ws.length)) ∧ Below w.heap.size w w' := by
  obtain ⟨i0, hi, hz0, hz1, hz2⟩ := info_parts Try.infoInt
  have WG : Hid (∀ (s : Nat) (w' : World), s < 256 → Below w.heap.size w w' → Calls Try.prog 47 #[vw, .int .i64 s] w' fun e w2 => e = .returned (.int .i64 (weiTo (fun i => ws.getD i 0) s ws.length)) ∧ w2 = w') := fun s w' hs hb' => weigh_any vw ws s w' (hw.below hb') hs hws hwb
  have HI := hid h
  obtain ⟨a, cap, rfl, -, -⟩ := h.nats
  obtain ⟨a', cap', rfl, -, -⟩ := hw
  obtain ⟨W, HWW⟩ : ∃ W : Nat → Int, Hid ((fun s => weiTo (fun i => ws.getD i 0) s ws.length) = W) := ⟨_, rfl⟩
  have HW1 : ∀ s, weiTo (fun i => ws.getD i 0) s ws.length = W s := fun s => by rw [← HWW.out]
  simp only [HW1] at WG ⊢
  have HLT : Hid (∀ k, k < (comL n r q).length → (comL n r q).getD k 0 < 256) := fun k hk => by rw [getD_get hk]; exact lt256 hn ((comL_fam n r q).lt _ (List.getElem_mem hk))
  have HPL : Hid (∀ k, k < (comL n r q).length → pop ((comL n r q).getD k 0) ≤ (hvF W ((comL n r q).take k)).length) := fun k hk => (hv_walk hn hr hq W k (Nat.le_of_lt hk)).2 hk
  have HL9 : Hid (∀ k, k ≤ (comL n r q).length → _) := fun k hk => hv_len9 hn hr hq W hk
  have HST : Hid (∀ k, k < (comL n r q).length → hvF W ((comL n r q).take (k + 1)) = hvP W (hvF W ((comL n r q).take k)) ((comL n r q).getD k 0)) := fun k hk => by rw [take_next hk, hvF_snoc]
  have HEND : Hid (hvL n r q W = hvF W ((comL n r q).take (comL n r q).length)) := by show _ = _; rw [List.take_length]; rfl
  have hl256 : (comL n r q).length ≤ 256 := fam_len hn (comL_fam n r q)
  generalize comL n r q = l at *
  rw [HEND.out]
  clear HEND HW1 HWW hwb h
  go_enter Try.func38, Try.ntmps38
  go_wp2_with fail
  go_loopw [5, 11] (fun u i wr => ∃ k : Nat, k ≤ l.length ∧ i = .int .i64 k ∧ Own w.heap.size wr u (hvF W (l.take k)) ∧ Below w.heap.size w wr) (fun _ i _ => l.length - (intOf i).toNat)
  case atStart => exact ⟨0, Nat.zero_le _, rfl, Own.nil _ _, Below.refl _ _⟩
  case round =>
    obtain ⟨k, hk, rfl, hown, hnx⟩ := hrel
    have hsz := hnx.size
    by_cases hlt : k < l.length
    · have hki : (k : Int) < (l.length : Int) := by omega
      obtain ⟨b, off, rfl, hck⟩ : ∃ b off, a = some ⟨b, off, none⟩ ∧ wr.cell? ⟨b, off + k, none⟩ = some (.int .i64 (l.getD k 0 : Nat)) := by
        obtain ⟨a2, cap2, e, -, hc⟩ := (HI.out.below hnx).nats
        obtain ⟨rfl, rfl⟩ : a = a2 ∧ cap = cap2 := by simpa using e
        obtain ⟨b, off, e2, _, hcell⟩ := hc (by omega)
        exact ⟨b, off, e2, hcell k hlt⟩
      have hx8 := HLT.out k hlt
      have hpl := HPL.out k hlt
      obtain ⟨h9, hat⟩ := HL9.out k hk
      have ST := hid (HST.out k hlt)
      have HNX := hid hnx
      clear HLT HPL HL9 HST HI
      generalize l.getD k 0 = x at *
      generalize hvF W (l.take k) = f at *
      have S1 := hid (fun w => size_any x w hx8)
      have p8 := pop_le x hx8
      by_cases hpf : pop x = f.length
      · have HPF : Hid (hvP W f x = f ++ [x]) := by show _ = _; unfold hvP; rw [if_pos hpf]
        have R1 := hid hown
        have hpf' : ((pop x : Int) == (f.length : Int)) = true := by rw [hpf]; simp
        obtain ⟨ra, rc, rfl⟩ := ownsRow_form' hown
        clear hown WG hat hpf
        generalize pop x = px at *
        go_wp2_with fail
        refine (S1.out _).mono ?_
        rintro e w4 ⟨rfl, rfl⟩
        go_wp2_with (at_builtin; refine wpList_append_own _ rfl _ _ 22 rfl w.heap.size 3 i0 (.int .i64 0) 1 8 Try.underlying22 hi hz0 hz1 hz2 rfl (by decide) _ _ _ rfl (R1.out.alloc _) ⟨w4.heap.size, 0, none⟩ 1 1 [.int .i64 (x : Nat)] rfl rfl ?c1 ?c2 ?c3 ?c4 ?c5 ?_)
        case c1 => exact cell_one_new _ _ _
        case c2 => intro u hu; simp at hu; subst hu; rfl
        case c3 => unfold maxLen; omega
        case c4 => omega
        case c5 => simp; omega
        intro v' w5 hown' hgrow _
        have R3 := hid (Own.snoc hown')
        have R4 := hid (Own.grown R1.out HNX.out (by omega) hgrow)
        clear hown' hgrow
        go_wp2_with fail
        go_roundw
        case rel => exact ⟨k + 1, by omega, by go_num, by rw [ST.out, HPF.out]; exact R3.out, R4.out⟩
        case measure => simp [intOf]; omega
      · have hpf1 : pop x < f.length := by omega
        have hpf' : ((pop x : Int) == (f.length : Int)) = false := by rw [beq_eq_false_iff_ne]; omega
        obtain ⟨g, c, rfl⟩ : ∃ g c, _ = Value.slice (some ⟨g, 0, none⟩) f.length c := by
          rcases Go.Joins.ownsRow_forms hown with ⟨_, h0⟩ | ⟨g, c, e⟩
          · omega
          · exact ⟨g, c, e⟩
        have hcx := hown.at hpf1
        have hfx := hown.frozenAt (j := pop x)
        obtain ⟨hgB, hgl⟩ := hown.lt
        have HO := hid hown
        have hy8 := hat _ hpf1
        have hPP : Hid (hvP W f x = if W (f.getD (pop x) 0) < W x then f.set (pop x) x else f) := by show _ = _; unfold hvP; rw [if_neg hpf]
        have W1 : Hid (∀ n, _) := fun n => WG.out x (wr.drewN n) hx8 (below_drewM HNX.out n)
        have W2 : Hid (∀ n, _) := fun n => WG.out (f.getD (pop x) 0) (wr.drewN n) hy8 (below_drewM HNX.out n)
        clear WG hat hpf hown
        have PUT : Hid (∀ n, Own w.heap.size ((wr.drewN n).setCell ⟨g, pop x, none⟩ (.int .i64 (x : Nat))) (.slice (some ⟨g, 0, none⟩) f.length c) (f.set (pop x) x)) := fun n => (HO.out.below (drewN_below _ _ n)).put hpf1
        have PUB : Hid (∀ n, Below w.heap.size w ((wr.drewN n).setCell ⟨g, pop x, none⟩ (.int .i64 (x : Nat)))) := fun n => (below_drewM HNX.out n).setCell (p := ⟨g, pop x, none⟩) hgB _
        have CX : Hid (∀ n, (wr.drewN n).cell? ⟨g, pop x, none⟩ = some (.int .i64 (f.getD (pop x) 0 : Nat))) := fun n => by simpa using hcx
        have FX : Hid (∀ n, (wr.drewN n).frozen? ⟨g, pop x, none⟩ = false) := fun n => by simpa using hfx
        have hpi : (pop x : Int) < (f.length : Int) := by omega
        generalize f.getD (pop x) 0 = y at *
        obtain ⟨px, HPX⟩ : ∃ px, Hid (pop x = px) := ⟨_, rfl⟩
        rw [HPX.out] at *
        clear HPX
        by_cases hWW : W y < W x
        · have hPP2 := hid (hPP.out.trans (if_pos hWW))
          generalize W x = wx at *
          generalize W y = wy at *
          go_wp2_with fail
          refine (S1.out _).mono ?_
          rintro e w4 ⟨rfl, rfl⟩
          go_wp2_with fail
          go_quiet (first | (go_at_call 47; (with_reducible refine (W1.out _).mono ?_); rintro e w' ⟨rfl, rfl⟩; exact ⟨rfl, _, rfl⟩) | (go_at_call 47; (with_reducible refine (W2.out _).mono ?_); rintro e w' ⟨rfl, rfl⟩; exact ⟨rfl, _, rfl⟩))
          rename_i nq
          have hcx2 := CX.out nq
          have hfx2 := FX.out nq
          have P1 := hid (PUT.out nq)
          have P2 := hid (PUB.out nq)
          clear CX FX PUT PUB W1 W2 hcx hfx HNX HO
          generalize w4.drewN nq = w5 at *
          go_wp2_with fail
          go_roundw
          case rel => exact ⟨k + 1, by omega, by go_num, by rw [ST.out, hPP2.out]; exact P1.out, P2.out⟩
          case measure => simp [intOf]; omega
        · have hPP2 := hid (hPP.out.trans (if_neg hWW))
          generalize W x = wx at *
          generalize W y = wy at *
          go_wp2_with fail
          refine (S1.out _).mono ?_
          rintro e w4 ⟨rfl, rfl⟩
          go_wp2_with fail
          go_quiet (first | (go_at_call 47; (with_reducible refine (W1.out _).mono ?_); rintro e w' ⟨rfl, rfl⟩; exact ⟨rfl, _, rfl⟩) | (go_at_call 47; (with_reducible refine (W2.out _).mono ?_); rintro e w' ⟨rfl, rfl⟩; exact ⟨rfl, _, rfl⟩))
          rename_i nq
          have P1 := hid (HO.out.below (drewN_below _ _ nq))
          have P2 := hid (below_drewM HNX.out nq)
          clear CX FX PUT PUB W1 W2 hcx hfx HNX HO
          generalize w4.drewN nq = w5 at *
          go_wp2_with fail
          go_roundw
          case rel => exact ⟨k + 1, by omega, by go_num, by rw [ST.out, hPP2.out]; exact P1.out, P2.out⟩
          case measure => simp [intOf]; omega
    · obtain rfl : k = l.length := by omega
      have HO := hid hown
      have HB := hid hnx
      clear hown hnx HLT HPL HL9 HST
      go_wp2_with fail
      go_ret
      exact ⟨_, rfl, HO.out, HB.out⟩
set_option maxHeartbeats 1000000 in
theorem Common_none (n k : Int) (v u : Value) (zs ys : List Int) (w : World) (h : Ints w v zs) (h' : Ints w u ys) (hq : uniQ n zs k ys ≠ 0) :
    Calls Try.prog 16 #[.agg #[.int .i64 n, v], .agg #[.int .i64 k, u]] w fun e w' => e = .returned (.tuple #[.int .i64 0, .int .i64 0, .int .i64 (uniQ n zs k ys)]) ∧ Below w.heap.size w w' := by
  have HI := hid h
  have HI' := hid h'
  obtain ⟨a, cap, rfl, _, _⟩ := h
  obtain ⟨a', cap', rfl, _, _⟩ := h'
  have HB0 := hid (box2_below w n (.slice a zs.length cap) k (.slice a' ys.length cap'))
  have R1 := hid (alike_none n k _ _ zs ys _ (HI.out.below HB0.out) (HI'.out.below HB0.out) hq)
  generalize uniQ n zs k ys = q at *
  have hc' : (q == 0) = false := by rw [beq_eq_false_iff_ne]; exact hq
  go_enter Try.func16, Try.ntmps16
  go_wp2_with fail
  refine R1.out.mono ?_
  rintro e w1 ⟨rfl, hb1⟩
  have HB1 := hid (HB0.out.trans (hb1.mono HB0.out.size))
  clear hb1
  go_wp2_with fail
  refine bodyPost_ret (v := .tuple #[.int .i64 0, .int .i64 0, .int .i64 q]) ?_ rfl ⟨rfl, HB1.out⟩
  simp [results, Try.f16, go_sem]
set_option maxHeartbeats 1000000 in
theorem Common_ok (m : Nat) (v u : Value) (l l' : List Nat) (w : World) (hm : m ≤ 8) (hf : Fam m l) (hb : Bas l) (h : Ints w v (N l)) (hf' : Fam m l') (hb' : Bas l') (h' : Ints w u (N l')) :
    Calls Try.prog 16 #[.agg #[.int .i64 m, v], .agg #[.int .i64 m, u]] w fun e w' => e = .returned (.tuple #[.int .i64 (comS m (rk l) (rk l') : Nat), .int .i64 (barS m (rk l) (rk l') : Nat), .int .i64 0]) ∧ Below w.heap.size w w' := by
  have HI := hid h
  have HI' := hid h'
  obtain ⟨a, cap, hv, -, -⟩ := h.nats
  subst hv
  obtain ⟨a', cap', hv, -, -⟩ := h'.nats
  subst hv
  have HB0 := hid (box2_below w m (.slice a l.length cap) m (.slice a' l'.length cap'))
  have R1 := hid (alike_ok m _ _ l l' _ hm hf hb (HI.out.below HB0.out) hf' hb' (HI'.out.below HB0.out))
  have hr := hb.rkOn m
  have hq := hb'.rkOn m
  have I1 : Hid (∀ va vb w', RkAt w' va (2 ^ m) (rk l) → RkAt w' vb (2 ^ m) (rk l') → Calls Try.prog 35 #[va, vb] w' fun e w2 => ∃ v, e = .returned v ∧ Own w'.heap.size w2 v (comL m (rk l) (rk l')) ∧ Below w'.heap.size w' w2) := fun va vb w' ha hb' => indBoth_any va vb (2 ^ m) _ _ w' (pow_wrap m hm).2 ha hb'
  have hl256 : (comL m (rk l) (rk l')).length ≤ 256 := fam_len hm (comL_fam m _ _)
  have I2 : Hid (∀ v w', Ints w' v (N (comL m (rk l) (rk l'))) → _) := fun v w' hv => largest_any v (comL m (rk l) (rk l')) w' hv (comL_fam m _ _).up ((comL_fam m _ _).lt256 hm) hl256
  have I3 : Hid (∀ va vb w', RkAt w' va (2 ^ m) (rk l) → RkAt w' vb (2 ^ m) (rk l') → _) := fun va vb w' ha hb' => tightest_any va vb m (rk l) (rk l') w' hm (rk_small hm hf) (rk_small hm hf') ha hb'
  rw [lg_com hr hq] at I2
  rw [tg_bar hm hr hq] at I3
  generalize comL m (rk l) (rk l') = L at *
  generalize comS m (rk l) (rk l') = cs at *
  generalize barS m (rk l) (rk l') = bs at *
  generalize 2 ^ m = T at *
  go_enter Try.func16, Try.ntmps16
  go_wp2_with fail
  refine R1.out.mono ?_
  rintro e w1 ⟨r, r', rfl, hr, hr', hb1⟩
  have HB1 := hid (HB0.out.trans (hb1.mono HB0.out.size))
  have HR1 := hid hr
  have HR2 := hid hr'
  have I1' := hid (I1.out _ _ _ hr hr')
  obtain ⟨rb, roff, rcap, rfl, -, -⟩ := hr
  obtain ⟨rb', roff', rcap', rfl, -, -⟩ := hr'
  clear hb1 I1
  go_wp2_with fail
  refine I1'.out.mono ?_
  rintro e w2 ⟨v2, rfl, ho2, hb2⟩
  have HB2 := hid (HB1.out.trans (hb2.mono HB1.out.size))
  have I2' := hid (I2.out _ _ (ho2.ints (by omega)))
  have I3' := hid (I3.out _ _ _ (HR1.out.below hb2) (HR2.out.below hb2))
  obtain ⟨la, lc, rfl⟩ := ownsRow_form' ho2
  clear ho2 hb2 I2 I3
  go_wp2_with fail
  refine I2'.out.mono ?_
  rintro e w3 ⟨rfl, rfl⟩
  go_wp2_with fail
  refine I3'.out.mono ?_
  rintro e w4 ⟨rfl, hb4⟩
  have HB4 := hid (HB2.out.trans (hb4.mono HB2.out.size))
  clear hb4
  go_wp2_with fail
  refine bodyPost_ret (v := .tuple #[.int .i64 cs, .int .i64 bs, .int .i64 0]) ?_ rfl ⟨rfl, HB4.out⟩
  simp [results, Try.f16, go_sem]
/-- What Heaviest answers by way of error. -/
def hvQ (n : Int) (zs : List Int) (k : Int) (ys ws : List Int) : Int := if uniQ n zs k ys ≠ 0 then uniQ n zs k ys else cwR n ws
set_option maxHeartbeats 1000000 in
theorem Heaviest_none (n k : Int) (v u x : Value) (zs ys ws : List Int) (w : World) (h : Ints w v zs) (h' : Ints w u ys) (hx : Ints w x ws) (hq : hvQ n zs k ys ws ≠ 0) :
    Calls Try.prog 17 #[.agg #[.int .i64 n, v], .agg #[.int .i64 k, u], x] w fun e w' => e = .returned (.tuple #[.slice none 0 0, .int .i64 (hvQ n zs k ys ws)]) ∧ Below w.heap.size w w' := by
  have HI := hid h
  have HI' := hid h'
  have HX := hid hx
  obtain ⟨a, cap, rfl, _, _⟩ := h
  obtain ⟨a', cap', rfl, _, _⟩ := h'
  obtain ⟨xa, xcap, rfl, _, _⟩ := hx
  have HB0 := hid (box2_below w n (.slice a zs.length cap) k (.slice a' ys.length cap'))
  by_cases hu : uniQ n zs k ys = 0
  · have e : hvQ n zs k ys ws = cwR n ws := by unfold hvQ; rw [if_neg (fun h => h hu)]
    rw [e] at hq ⊢
    obtain ⟨m, l, l', rfl, rfl, hm, rfl, rfl, hf, hb, hf', hb'⟩ := uni_of hu
    rw [N_len] at *
    rw [N_len l'] at *
    have R1 := hid (alike_ok m _ _ l l' _ hm hf hb (HI.out.below HB0.out) hf' hb' (HI'.out.below HB0.out))
    have CW : Hid (∀ w', Below w.heap.size w w' → _) := fun w' hb2 => checkWeights_any m _ ws w' (HX.out.below hb2)
    generalize cwR m ws = q at *
    have hc' : (q == 0) = false := by rw [beq_eq_false_iff_ne]; exact hq
    clear hu e
    generalize 2 ^ m = T at *
    go_enter Try.func17, Try.ntmps17
    go_wp2_with fail
    refine R1.out.mono ?_
    rintro e w1 ⟨r, r', rfl, hr, hr', hb1⟩
    obtain ⟨b1, b2⟩ := box2_blocks hb1
    obtain ⟨x0, x1⟩ := cells2 b1
    have HB1 := hid (HB0.out.trans (hb1.mono HB0.out.size))
    have CW1 := hid (CW.out _ HB1.out)
    obtain ⟨rb, roff, rcap, rfl, -, -⟩ := hr
    obtain ⟨rb', roff', rcap', rfl, -, -⟩ := hr'
    clear hb1 b1 b2 CW
    go_wp2_with fail
    refine CW1.out.mono ?_
    rintro e w2 ⟨rfl, rfl⟩
    go_wp2_with fail
    go_ret2
    exact ⟨rfl, HB1.out⟩
  · have e : hvQ n zs k ys ws = uniQ n zs k ys := by unfold hvQ; rw [if_pos hu]
    rw [e] at hq ⊢
    have R1 := hid (alike_none n k _ _ zs ys _ (HI.out.below HB0.out) (HI'.out.below HB0.out) hq)
    clear hu e
    generalize uniQ n zs k ys = q at *
    have hc' : (q == 0) = false := by rw [beq_eq_false_iff_ne]; exact hq
    go_enter Try.func17, Try.ntmps17
    go_wp2_with fail
    refine R1.out.mono ?_
    rintro e w1 ⟨rfl, hb1⟩
    have HB1 := hid (HB0.out.trans (hb1.mono HB0.out.size))
    clear hb1
    go_wp2_with fail
    go_ret2
    exact ⟨rfl, HB1.out⟩
set_option maxHeartbeats 1000000 in
theorem Heaviest_ok (m : Nat) (v u x : Value) (l l' : List Nat) (ws : List Int) (w : World) (hm : m ≤ 8) (hf : Fam m l) (hb : Bas l) (h : Ints w v (N l)) (hf' : Fam m l') (hb' : Bas l') (h' : Ints w u (N l')) (hx : Ints w x ws) (hw : cwR m ws = 0) :
    Calls Try.prog 17 #[.agg #[.int .i64 m, v], .agg #[.int .i64 m, u], x] w fun e w' => ∃ y, e = .returned (.tuple #[y, .int .i64 0]) ∧ Own w.heap.size w' y (hvL m (rk l) (rk l') (fun s => weiTo (fun i => ws.getD i 0) s m)) ∧ Below w.heap.size w w' := by
  have HI := hid h
  have HI' := hid h'
  have HX := hid hx
  obtain ⟨a, cap, hv, -, -⟩ := h.nats
  subst hv
  obtain ⟨a', cap', hv, -, -⟩ := h'.nats
  subst hv
  obtain ⟨xa, xcap, rfl, _, _⟩ := hx
  have HB0 := hid (box2_below w m (.slice a l.length cap) m (.slice a' l'.length cap'))
  have R1 := hid (alike_ok m _ _ l l' _ hm hf hb (HI.out.below HB0.out) hf' hb' (HI'.out.below HB0.out))
  have CW : Hid (∀ w', Below w.heap.size w w' → _) := fun w' hb2 => checkWeights_any m _ ws w' (HX.out.below hb2)
  rw [hw] at CW
  obtain ⟨hwl, hwb⟩ := cw_of hw
  have hr := hb.rkOn m
  have hq := hb'.rkOn m
  have I1 : Hid (∀ va vb w', RkAt w' va (2 ^ m) (rk l) → RkAt w' vb (2 ^ m) (rk l') → Calls Try.prog 35 #[va, vb] w' fun e w2 => ∃ v, e = .returned v ∧ Own w'.heap.size w2 v (comL m (rk l) (rk l')) ∧ Below w'.heap.size w' w2) := fun va vb w' ha hb' => indBoth_any va vb (2 ^ m) _ _ w' (pow_wrap m hm).2 ha hb'
  have hl256 : (comL m (rk l) (rk l')).length ≤ 256 := fam_len hm (comL_fam m _ _)
  have I2 : Hid (∀ v w', Ints w' v (N (comL m (rk l) (rk l'))) → Below w.heap.size w w' → _) := fun v w' hv hb2 => heavy_any v _ m (rk l) (rk l') ws w' hm hr hq hv (HX.out.below hb2) (by rw [hwl]; exact hm) hwb
  have HWL := hid hwl
  have I2' : Hid (∀ v w', Ints w' v (N (comL m (rk l) (rk l'))) → Below w.heap.size w w' → Calls Try.prog 38 #[v, .slice xa ws.length xcap] w' fun e w2 => ∃ u, e = .returned u ∧ Own w'.heap.size w2 u (hvL m (rk l) (rk l') (fun s => weiTo (fun i => ws.getD i 0) s m)) ∧ Below w'.heap.size w' w2) := fun v w' hv hb2 => by
    have := I2.out v w' hv hb2
    have e : (fun s => weiTo (fun i => ws.getD i 0) s ws.length) = fun s => weiTo (fun i => ws.getD i 0) s m := by rw [HWL.out]
    rw [e] at this
    exact this
  clear I2 hw hwl hwb
  generalize comL m (rk l) (rk l') = L at *
  generalize hvL m (rk l) (rk l') (fun s => weiTo (fun i => ws.getD i 0) s m) = HL at *
  generalize 2 ^ m = T at *
  go_enter Try.func17, Try.ntmps17
  go_wp2_with fail
  refine R1.out.mono ?_
  rintro e w1 ⟨r, r', rfl, hr, hr', hb1⟩
  obtain ⟨b1, b2⟩ := box2_blocks hb1
  obtain ⟨x0, x1⟩ := cells2 b1
  have HB1 := hid (HB0.out.trans (hb1.mono HB0.out.size))
  have CW1 := hid (CW.out _ HB1.out)
  have J1 := hid (I1.out _ _ _ hr hr')
  obtain ⟨rb, roff, rcap, rfl, -, -⟩ := hr
  obtain ⟨rb', roff', rcap', rfl, -, -⟩ := hr'
  clear hb1 b1 b2 CW I1
  go_wp2_with fail
  refine CW1.out.mono ?_
  rintro e w2 ⟨rfl, rfl⟩
  go_wp2_with fail
  refine J1.out.mono ?_
  rintro e w3 ⟨v3, rfl, ho3, hb3⟩
  have HB3 := hid (HB1.out.trans (hb3.mono HB1.out.size))
  have J2 := hid (I2'.out _ _ (ho3.ints (by omega)) HB3.out)
  obtain ⟨la, lc, rfl⟩ := ownsRow_form' ho3
  clear ho3 hb3 I2'
  go_wp2_with fail
  refine J2.out.mono ?_
  rintro e w4 ⟨v4, rfl, ho4, hb4⟩
  have HO4 := hid (ho4.mono HB3.out.size)
  have HB4 := hid (HB3.out.trans (hb4.mono HB3.out.size))
  obtain ⟨ya, yc, rfl⟩ := ownsRow_form' ho4
  clear hb4 ho4
  go_wp2_with fail
  go_ret2
  exact ⟨_, rfl, HO4.out, HB4.out⟩
/-- What Spanned answers by way of error. -/
def spQ (n : Int) (zs : List Int) (k : Int) (ys : List Int) (s : Int) : Int := if uniQ n zs k ys ≠ 0 then uniQ n zs k ys else setR n s
set_option maxHeartbeats 1000000 in
theorem Spanned_none (n k s : Int) (v u : Value) (zs ys : List Int) (w : World) (h : Ints w v zs) (h' : Ints w u ys) (hq : spQ n zs k ys s ≠ 0) :
    Calls Try.prog 18 #[.agg #[.int .i64 n, v], .agg #[.int .i64 k, u], .int .i64 s] w fun e w' => e = .returned (.tuple #[.int .i64 0, .int .i64 (spQ n zs k ys s)]) ∧ Below w.heap.size w w' := by
  have HI := hid h
  have HI' := hid h'
  obtain ⟨a, cap, rfl, _, _⟩ := h
  obtain ⟨a', cap', rfl, _, _⟩ := h'
  have HB0 := hid (box2_below w n (.slice a zs.length cap) k (.slice a' ys.length cap'))
  by_cases hu : uniQ n zs k ys = 0
  · have e : spQ n zs k ys s = setR n s := by unfold spQ; rw [if_neg (fun h => h hu)]
    rw [e] at hq ⊢
    obtain ⟨m, l, l', rfl, rfl, hm, rfl, rfl, hf, hb, hf', hb'⟩ := uni_of hu
    rw [N_len] at *
    rw [N_len l'] at *
    have R1 := hid (alike_ok m _ _ l l' _ hm hf hb (HI.out.below HB0.out) hf' hb' (HI'.out.below HB0.out))
    have CW : Hid (∀ w', _) := fun w' => setsCheck_any m s w'
    generalize setR m s = q at *
    have hc' : (q == 0) = false := by rw [beq_eq_false_iff_ne]; exact hq
    clear hu e
    generalize 2 ^ m = T at *
    go_enter Try.func18, Try.ntmps18
    go_wp2_with fail
    refine R1.out.mono ?_
    rintro e w1 ⟨r, r', rfl, hr, hr', hb1⟩
    obtain ⟨b1, b2⟩ := box2_blocks hb1
    obtain ⟨x0, x1⟩ := cells2 b1
    have HB1 := hid (HB0.out.trans (hb1.mono HB0.out.size))
    obtain ⟨rb, roff, rcap, rfl, -, -⟩ := hr
    obtain ⟨rb', roff', rcap', rfl, -, -⟩ := hr'
    clear hb1 b1 b2
    go_wp2_with fail
    refine (CW.out _).mono ?_
    rintro e w2 ⟨rfl, rfl⟩
    go_wp2_with fail
    go_ret2
    exact ⟨rfl, HB1.out⟩
  · have e : spQ n zs k ys s = uniQ n zs k ys := by unfold spQ; rw [if_pos hu]
    rw [e] at hq ⊢
    have R1 := hid (alike_none n k _ _ zs ys _ (HI.out.below HB0.out) (HI'.out.below HB0.out) hq)
    clear hu e
    generalize uniQ n zs k ys = q at *
    have hc' : (q == 0) = false := by rw [beq_eq_false_iff_ne]; exact hq
    go_enter Try.func18, Try.ntmps18
    go_wp2_with fail
    refine R1.out.mono ?_
    rintro e w1 ⟨rfl, hb1⟩
    have HB1 := hid (HB0.out.trans (hb1.mono HB0.out.size))
    clear hb1
    go_wp2_with fail
    go_ret2
    exact ⟨rfl, HB1.out⟩
set_option maxHeartbeats 1000000 in
theorem Spanned_ok (m s : Nat) (v u : Value) (l l' : List Nat) (w : World) (hm : m ≤ 8) (hf : Fam m l) (hb : Bas l) (h : Ints w v (N l)) (hf' : Fam m l') (hb' : Bas l') (h' : Ints w u (N l')) (hs : s < 2 ^ m) :
    Calls Try.prog 18 #[.agg #[.int .i64 m, v], .agg #[.int .i64 m, u], .int .i64 s] w fun e w' => e = .returned (.tuple #[.int .i64 (spS (rk l) (rk l') m s : Nat), .int .i64 0]) ∧ Below w.heap.size w w' := by
  have HI := hid h
  have HI' := hid h'
  obtain ⟨a, cap, hv, -, -⟩ := h.nats
  subst hv
  obtain ⟨a', cap', hv, -, -⟩ := h'.nats
  subst hv
  have HB0 := hid (box2_below w m (.slice a l.length cap) m (.slice a' l'.length cap'))
  have R1 := hid (alike_ok m _ _ l l' _ hm hf hb (HI.out.below HB0.out) hf' hb' (HI'.out.below HB0.out))
  have CW : Hid (∀ w', _) := fun w' => setsCheck_any m s w'
  have HS0 : Hid (setR m s = 0) := by
    show _ = _
    unfold setR
    have e : ((2 ^ m : Nat) : Int) = (2 : Int) ^ m := by simp
    rw [if_pos]
    refine ⟨by omega, by omega, by omega, ?_⟩
    rw [Int.toNat_natCast, ← e]
    omega
  rw [HS0.out] at CW
  have I1 : Hid (∀ va vb w', RkAt w' va (2 ^ m) (rk l) → RkAt w' vb (2 ^ m) (rk l') → _) := fun va vb w' ha hb' => closedBoth_any va vb m s (rk l) (rk l') w' hm hs ha hb'
  generalize spS (rk l) (rk l') m s = cs at *
  generalize 2 ^ m = T at *
  clear HS0
  go_enter Try.func18, Try.ntmps18
  go_wp2_with fail
  refine R1.out.mono ?_
  rintro e w1 ⟨r, r', rfl, hr, hr', hb1⟩
  obtain ⟨b1, b2⟩ := box2_blocks hb1
  obtain ⟨x0, x1⟩ := cells2 b1
  have HB1 := hid (HB0.out.trans (hb1.mono HB0.out.size))
  have I1' := hid (I1.out _ _ _ hr hr')
  obtain ⟨rb, roff, rcap, rfl, -, -⟩ := hr
  obtain ⟨rb', roff', rcap', rfl, -, -⟩ := hr'
  clear hb1 I1 b1 b2
  go_wp2_with fail
  refine (CW.out _).mono ?_
  rintro e w2 ⟨rfl, rfl⟩
  go_wp2_with fail
  refine I1'.out.mono ?_
  rintro e w3 ⟨rfl, hb3⟩
  have HB3 := hid (HB1.out.trans (hb3.mono HB1.out.size))
  clear hb3
  go_wp2_with fail
  go_ret2
  exact ⟨rfl, HB3.out⟩
end Go.Proofs.Yteeopmbddeplcaa
