/- rotaref.FirstWays: next. -/
import Derived.Test.YtjnifcfcigcngaaRfFyQ
namespace Go.Proofs.Ytjnifcfcigcngaa
open Go.RowKit

theorem lk_zero {f : Nat → Nat} {n T L : Nat} (hn : n ≤ 8) (hL : L < 2 ^ n) : lkB f n T L 0 = true := by
  rw [lk_iff]
  have := ((lnkR_few (f := f) (T := T) hn hL).rkOn hL).zero
  rw [this]
  rfl
set_option maxRecDepth 20000 in
set_option maxHeartbeats 8000000 in
theorem nextW_ok (n T : Nat) (E : List (Nat × Nat)) (gv lv : Value) (lst : List Nat) (w00 : World) (bl bg bt : Nat) (hn : n ≤ 8) (hT : T < 2 ^ n) (hE : ∀ j, j < E.length → ea E j < n ∧ eb E j < n) (hl8 : lst.length ≤ 8) (hln : ∀ x ∈ lst, x < n) (hnd : lst.Nodup) :
    ∀ r, NOk n T E gv lv lst w00 bl bg bt r := by
  intro r
  induction r with
  | nil =>
    intro ws G W h1 h2 hG F hO
    have hk : ws.length = lst.length := by simpa using h1
    have hL : dif (2 ^ n - 1) G < 2 ^ n := dif_ltn (full_lt n)
    have HLK : Hid (lkB (nxF E E.length) n T (dif (2 ^ n - 1) G) (setO []) = true) := lk_zero hn hL
    rw [HLK.out]
    have HOL : Hid (∀ W', Below W.heap.size W W' → OutL (w00.heap.size + 2) w00.heap.size W' lst.length (ws ++ waysL (nxF E E.length) n T (dif (2 ^ n - 1) G) [])) := fun W' hW => by
      rw [show waysL (nxF E E.length) n T (dif (2 ^ n - 1) G) [] = [] from rfl, List.append_nil, ← hk]
      exact hO.below hW
    have B1 : Hid (Below W.heap.size W ((W.alloc (.cells #[.int .i64 (ws.length : Nat)] 3)).alloc (.cells #[.int .i64 G] 3))) := ((Below.refl _ _).alloc (Nat.le_refl _) _).alloc (by simp) _
    have xl := ewa ((B1.out.block _ (Array.getElem?_eq_some_iff.1 ((F.bel.block _ (Array.getElem?_eq_some_iff.1 F.hl).1).trans F.hl)).1).trans ((F.bel.block _ (Array.getElem?_eq_some_iff.1 F.hl).1).trans F.hl))
    obtain ⟨la, lc, hlv, -, -⟩ := F.hli.nats
    subst hlv
    rw [hk] at B1 xl ⊢
    clear h1 h2 hO F HLK
    go_enter Try.func18, Try.ntmps18
    go_wp2_with fail
    go_ret
    exact ⟨rfl, Save.of_below B1.out, (fun h => by cases h), fun _ => HOL.out _ B1.out⟩
  | cons v r ih =>
    intro ws G W h1 h2 hG F hO
    have hk : ws.length + 1 + r.length = lst.length := by simp only [List.length_cons] at h1; omega
    have hkl : ws.length < lst.length := by omega
    have hcons : lst.drop ws.length = lst.getD ws.length 0 :: lst.drop (ws.length + 1) := by
      rw [List.drop_eq_getElem_cons hkl, List.getD_eq_getElem?_getD, List.getElem?_eq_getElem hkl]
      rfl
    rw [h2] at hcons
    have hv : lst.getD ws.length 0 = v := (List.cons.inj hcons).1.symm
    have hr : lst.drop (ws.length + 1) = r := (List.cons.inj hcons).2.symm
    have hmv : v ∈ lst := by rw [← hv, List.getD_eq_getElem?_getD, List.getElem?_eq_getElem hkl]; exact List.getElem_mem _
    have hvn := hln v hmv
    have hrn : ∀ x ∈ r, x < n := fun x hx => hln x (List.mem_of_mem_drop (by rw [hr]; exact hx))
    have hB : setO r < 2 ^ n := setO_lt r hrn
    have hvr : (setO r).testBit v = false := by
      cases e : (setO r).testBit v
      · rfl
      · have h5 := (setO_bit v r).1 e
        have h6 : (lst.drop ws.length).Nodup := hnd.sublist (List.drop_sublist _ _)
        rw [h2] at h6
        exact absurd h5 (List.nodup_cons.1 h6).1
    have hL : dif (2 ^ n - 1) G < 2 ^ n := dif_ltn (full_lt n)
    have HEB : Hid (ebW (nxF E E.length) n T (setO r) (dif (2 ^ n - 1) G) v = lkB (nxF E E.length) n T (dif (2 ^ n - 1) G) (setO (v :: r))) := by
      show ebW _ _ _ _ _ _ = _
      unfold ebW
      rw [hvr, Bool.not_false, Bool.and_true]
      rfl
    have HWL : Hid (ws ++ waysL (nxF E E.length) n T (dif (2 ^ n - 1) G) (v :: r) = (ws ++ [wayF (nxF E E.length) n T (setO r) n (dif (2 ^ n - 1) G) v]) ++ waysL (nxF E E.length) n T (setW (dif (2 ^ n - 1) G) (wayF (nxF E E.length) n T (setO r) n (dif (2 ^ n - 1) G) v)) r) := by
      show _ = _
      rw [waysL, List.append_assoc]
      rfl
    have HNO : Hid (G.testBit v = true → lkB (nxF E E.length) n T (dif (2 ^ n - 1) G) (setO (v :: r)) = false) := fun h => by
      cases e : lkB (nxF E E.length) n T (dif (2 ^ n - 1) G) (setO (v :: r))
      · rfl
      · have h5 := lk_in hn hL (setO_lt (v :: r) (fun x hx => by
          rcases List.mem_cons.1 hx with h7 | h7
          · rw [h7]; exact hvn
          · exact hrn x h7)) e ((setO_bit v (v :: r)).2 (List.mem_cons_self ..))
        rw [dif_in, h] at h5
        cases h5.2
    have HYES : Hid (G.testBit v = false → (dif (2 ^ n - 1) G).testBit v = true) := fun h => dif_in.2 ⟨by rw [full_bit]; exact decide_eq_true hvn, h⟩
    obtain ⟨la, lc, hlv, -, hlc⟩ := F.hli.nats
    obtain ⟨lb, loff, hla, hlb, hlcell⟩ := hlc (by omega)
    obtain ⟨ga, gc, hgv, -, -⟩ := F.hge
    subst hlv
    subst hla
    subst hgv
    -- the two boxes of this call
    obtain ⟨W1, hW1⟩ : ∃ W1, W.alloc (.cells #[.int .i64 (ws.length : Nat)] 3) = W1 := ⟨_, rfl⟩
    have s1 : W1.heap.size = W.heap.size + 1 := by rw [← hW1, World.size_alloc]
    have b1 : Below W.heap.size W W1 := by rw [← hW1]; exact (Below.refl _ _).alloc (Nat.le_refl _) _
    have y1 : W1.heap[W.heap.size]? = some (.cells #[.int .i64 (ws.length : Nat)] 3 (0, 0)) := by rw [← hW1]; exact World.alloc_heap_new W _
    obtain ⟨W2, hW2⟩ : ∃ W2, W1.alloc (.cells #[.int .i64 G] 3) = W2 := ⟨_, rfl⟩
    have s2 : W2.heap.size = W.heap.size + 1 + 1 := by rw [← hW2, World.size_alloc, s1]
    have b2 : Below W1.heap.size W1 W2 := by rw [← hW2]; exact (Below.refl _ _).alloc (Nat.le_refl _) _
    have y2 : W2.heap[W.heap.size + 1]? = some (.cells #[.int .i64 G] 3 (0, 0)) := by rw [← hW2, ← s1]; exact World.alloc_heap_new W1 _
    have XK := hid ((b2.block _ (by omega)).trans y1)
    have XG := hid y2
    have B2 : Hid (Below W.heap.size W W2) := b1.trans (b2.mono b1.size)
    have F2 := hid (F.save (Save.of_below B2.out))
    have O2 := hid (hO.below B2.out)
    have hsz := F.siz
    have HS1 := hid s1
    have HS2 := hid s2
    have XL := hid ((F2.out.bel.block _ (Array.getElem?_eq_some_iff.1 F.hl).1).trans F.hl)
    have XGr := hid ((F2.out.bel.block _ (Array.getElem?_eq_some_iff.1 F.hg).1).trans F.hg)
    have XT := hid ((F2.out.bel.block _ (Array.getElem?_eq_some_iff.1 F.ht).1).trans F.ht)
    have z0 := ewa XK.out
    have z1 := ewa XG.out
    have z2 := ewa XL.out
    have z3 := ewa XT.out
    obtain ⟨z4, z5, -, -⟩ := two_cells XGr.out
    have z6 := (F2.out.bel.cell (p := ⟨lb, loff + ws.length, none⟩) hlb).trans (hlcell ws.length hkl)
    rw [hv] at z6
    have hki : ((ws.length : Nat) : Int) < (lst.length : Int) := by omega
    have hkne : (((ws.length : Nat) : Int) == (lst.length : Int)) = false := by rw [beq_eq_false_iff_ne]; omega
    have IN := hid (fun w => In_any G v w (lt256 hn hG) (by omega))
    -- what eachWay is told
    have DO : Hid (DoW (nxF E E.length) n T G (setO r) (w00.heap.size + 2) 21 #[.pointer (some ⟨w00.heap.size, 0, none⟩), .pointer (some ⟨W.heap.size, 0, none⟩), .pointer (some ⟨w00.heap.size + 1, 0, none⟩), .pointer (some ⟨W.heap.size + 1, 0, none⟩)] E (.slice ga E.length gc) (fun k => k = w00.heap.size) (fun Z => Save (fun k => k = w00.heap.size) W2 Z ∧ ∃ L, OutL (w00.heap.size + 2) w00.heap.size Z L ws)
        (fun way Z => OutL (w00.heap.size + 2) w00.heap.size Z lst.length ((ws ++ [way]) ++ waysL (nxF E E.length) n T (setW (dif (2 ^ n - 1) G) way) r))) :=
      ⟨fun k e => by omega, fun Z h => Nat.le_trans F2.out.siz h.1.size, fun Z h => F.hge.below ((F2.out.save h.1).bel), fun Z Z' h hb => ⟨h.1.trans (Save.of_below hb), by obtain ⟨L, h9⟩ := h.2; exact ⟨L, h9.below hb⟩⟩,
        fun args w => enters_of Try.func21 (by kernel_rfl) rfl args w,
        fun Z u way h hu h8 hw => by
          obtain ⟨hs, L, h9⟩ := h
          rw [show (#[u] ++ #[.pointer (some ⟨w00.heap.size, 0, none⟩), .pointer (some ⟨W.heap.size, 0, none⟩), .pointer (some ⟨w00.heap.size + 1, 0, none⟩), .pointer (some ⟨W.heap.size + 1, 0, none⟩)] : Array Value) = #[u, .pointer (some ⟨w00.heap.size, 0, none⟩), .pointer (some ⟨W.heap.size, 0, none⟩), .pointer (some ⟨w00.heap.size + 1, 0, none⟩), .pointer (some ⟨W.heap.size + 1, 0, none⟩)] by simp]
          exact (lookW_ok n T E _ _ lst w00 bl bg bt r hn ih ws G W.heap.size (W.heap.size + 1) Z u way hk hl8 hr hG (F2.out.save hs) ((hs.block _ (by omega) (by omega)).trans XK.out) ((hs.block _ (by omega) (by omega)).trans XG.out) hsz (by omega) L h9 hu h8 hw).mono fun e w' ⟨k1, k2, k3, k4⟩ => ⟨k1, k2, fun h => ⟨hs.trans k2, k3 h⟩, k4⟩⟩
    have EW : Hid ((dif (2 ^ n - 1) G).testBit v = true → ∀ (Z : World) (u : Value), Below W2.heap.size W2 Z → Own (w00.heap.size + 2) Z u [v] → Calls Try.prog 20 #[.agg #[.int .i64 n, .slice ga E.length gc], u, .int .i64 G, .int .i64 T, .func (.func 21) #[] #[.pointer (some ⟨w00.heap.size, 0, none⟩), .pointer (some ⟨W.heap.size, 0, none⟩), .pointer (some ⟨w00.heap.size + 1, 0, none⟩), .pointer (some ⟨W.heap.size + 1, 0, none⟩)]] Z fun e w' =>
        e = .returned (.bool (lkB (nxF E E.length) n T (dif (2 ^ n - 1) G) (setO (v :: r)))) ∧ Save (fun k => k = w00.heap.size) Z w' ∧ (lkB (nxF E E.length) n T (dif (2 ^ n - 1) G) (setO (v :: r)) = false → ∃ L, OutL (w00.heap.size + 2) w00.heap.size w' L ws) ∧ (lkB (nxF E E.length) n T (dif (2 ^ n - 1) G) (setO (v :: r)) = true → OutL (w00.heap.size + 2) w00.heap.size w' lst.length (ws ++ waysL (nxF E E.length) n T (dif (2 ^ n - 1) G) (v :: r)))) := fun hvL Z u hZ hu => by
      have hpop : pop (setW (dif (2 ^ n - 1) G) []) ≤ n := by
        have := pop_sub (full_sub hL)
        rw [pop_full n hn] at this
        exact this
      have h9 := eachWay_any n T G (setO r) (w00.heap.size + 2) 21 _ E _ _ _ _ hn hT hG hB hE DO.out n Z [] v u hpop hvL (by have := hpop; simp at this ⊢; omega) (fun x hx => by cases hx) hu ⟨Save.of_below hZ, ws.length, O2.out.below hZ⟩
      rw [show setW (dif (2 ^ n - 1) G) [] = dif (2 ^ n - 1) G from rfl, HEB.out] at h9
      rw [HWL.out]
      exact h9.mono fun e w' ⟨k1, k2, k3, k4⟩ => ⟨k1, k2, fun h => (k3 h).2, k4⟩
    clear ih DO HEB HWL hlcell hlc hcons h1 h2 hr hnd hln hE y1 y2 b1 b2 s1 s2 hO F
    generalize lkB (nxF E E.length) n T (dif (2 ^ n - 1) G) (setO (v :: r)) = lk at *
    generalize ws ++ waysL (nxF E E.length) n T (dif (2 ^ n - 1) G) (v :: r) = WR at *
    have z7 : W2.cell? ⟨W1.heap.size, 0, none⟩ = some (.int .i64 G) := by rw [HS1.out]; exact z1
    go_enter Try.func18, Try.ntmps18
    go_wp2_with fail
    try rw [HS1.out]
    clear hW1 hW2 z7
    rcases hg : G.testBit v with _ | _
    rotate_left
    · rw [hg] at IN
      have NO := hid (HNO.out hg)
      clear hg
      go_wp2_with fail
      go_quiet ((go_at_call 19; refine (IN.out _).mono ?_; rintro e w' ⟨rfl, rfl⟩; exact ⟨rfl, _, rfl⟩))
      go_wp2_with fail
      go_ret
      rw [NO.out]
      exact ⟨rfl, Save.of_below (B2.out.trans ((drewN_below _ _ _).mono B2.out.size)), fun _ => ⟨_, O2.out.below (drewN_below _ _ _)⟩, (fun h => by cases h)⟩
    · rw [hg] at IN
      have E2 := hid (EW.out (HYES.out hg))
      clear hg EW HYES HNO
      go_wp2_with fail
      go_quiet ((go_at_call 19; refine (IN.out _).mono ?_; rintro e w' ⟨rfl, rfl⟩; exact ⟨rfl, _, rfl⟩))
      go_wp2_with fail
      have KQ : Hid (Below W2.heap.size W2 (W2.drewN nq)) := drewN_below _ _ _
      have n0 := ewa ((KQ.out.block _ (Array.getElem?_eq_some_iff.1 XK.out).1).trans XK.out)
      have n1 := ewa ((KQ.out.block _ (Array.getElem?_eq_some_iff.1 XG.out).1).trans XG.out)
      have n2 := ewa ((KQ.out.block _ (Array.getElem?_eq_some_iff.1 XL.out).1).trans XL.out)
      have n3 := ewa ((KQ.out.block _ (Array.getElem?_eq_some_iff.1 XT.out).1).trans XT.out)
      obtain ⟨n4, n5, -, -⟩ := two_cells ((KQ.out.block _ (Array.getElem?_eq_some_iff.1 XGr.out).1).trans XGr.out)
      have hlb2 : lb < W2.heap.size := Nat.lt_of_lt_of_le hlb F2.out.bel.size
      have n6 := (KQ.out.cell (p := ⟨lb, loff + ws.length, none⟩) hlb2).trans z6
      clear z0 z1 z2 z3 z4 z5
      have ZL6 : Hid (W2.cell? ⟨lb, loff + ws.length, none⟩ = some (.int .i64 v)) := z6
      clear z6
      have hwq : (W2.drewN nq).heap.size = W2.heap.size := rfl
      generalize W2.drewN nq = wq at *
      have lXK := (Array.getElem?_eq_some_iff.1 XK.out).1
      have lXG := (Array.getElem?_eq_some_iff.1 XG.out).1
      have lXL := (Array.getElem?_eq_some_iff.1 XL.out).1
      have lXT := (Array.getElem?_eq_some_iff.1 XT.out).1
      have lXGr := (Array.getElem?_eq_some_iff.1 XGr.out).1
      have hbl : bl < w00.heap.size := (Array.getElem?_eq_some_iff.1 F2.out.hl).1
      have hbt : bt < w00.heap.size := (Array.getElem?_eq_some_iff.1 F2.out.ht).1
      have hbg : bg < w00.heap.size := (Array.getElem?_eq_some_iff.1 F2.out.hg).1
      have q1 : ¬ wq.heap.size = W.heap.size := by omega
      have q2 : ¬ wq.heap.size = W.heap.size + 1 := by omega
      have q3 : ¬ wq.heap.size = bl := by omega
      have q4 : ¬ wq.heap.size = bt := by omega
      have q5 : ¬ wq.heap.size = bg := by omega
      have q6 : ¬ wq.heap.size = lb := by omega
      have q1' : ¬ W.heap.size = wq.heap.size := by omega
      have q2' : ¬ W.heap.size + 1 = wq.heap.size := by omega
      have q3' : ¬ bl = wq.heap.size := by omega
      have q4' : ¬ bt = wq.heap.size := by omega
      have q5' : ¬ bg = wq.heap.size := by omega
      have q6' : ¬ lb = wq.heap.size := by omega
      have hsz2 : w00.heap.size + 2 ≤ wq.heap.size := by rw [hwq]; exact F2.out.siz
      have OWN : Hid (Own (w00.heap.size + 2) (wq.alloc (.cells #[.int .i64 v] 3)) (.slice (some ⟨wq.heap.size, 0, none⟩) 1 1) [v]) := World.ownsRow_lit wq #[.int .i64 v] 1 hsz2 (by unfold maxLen; omega) rfl
      have KA : Hid (Below W2.heap.size W2 (wq.alloc (.cells #[.int .i64 v] 3))) := KQ.out.alloc KQ.out.size _
      have OWD : Hid (Own (w00.heap.size + 2) (wq.alloc (.cells #[.int .i64 v] 3)).drew (.slice (some ⟨wq.heap.size, 0, none⟩) 1 1) [v]) := OWN.out.below (Below.refl _ _).drew
      have KAD : Hid (Below W2.heap.size W2 (wq.alloc (.cells #[.int .i64 v] 3)).drew) := KA.out.drew
      clear hwq
      go_region_held3 (fun Z => Z.cell? ⟨W.heap.size, 0, none⟩ = some (.int .i64 (ws.length : Nat)) ∧ Z.cell? ⟨W.heap.size + 1, 0, none⟩ = some (.int .i64 G) ∧ Z.cell? ⟨bl, 0, none⟩ = some (.slice (some ⟨lb, loff, none⟩) lst.length lc) ∧ Z.cell? ⟨bt, 0, none⟩ = some (.int .i64 T) ∧ Z.cell? ⟨bg, 0, none⟩ = some (.int .i64 n) ∧ Z.cell? ⟨bg, 1, none⟩ = some (.slice ga E.length gc) ∧ Z.cell? ⟨lb, loff + ws.length, none⟩ = some (.int .i64 v)) (go_keep)
        (first
          | (go_at_call 20; refine (E2.out _ _ KAD.out OWD.out).mono ?_; rintro e w6 ⟨rfl, s6, i6, r6⟩
             have S6 : Hid (Save (fun k => k = w00.heap.size) W2 w6) := (Save.of_below KAD.out).trans s6
             have I6 := hid i6
             have R6 := hid r6
             have p0 := ewa ((S6.out.block _ lXK (by omega)).trans XK.out)
             have p1 := ewa ((S6.out.block _ lXG (by omega)).trans XG.out)
             have p2 := ewa ((S6.out.block _ lXL (by omega)).trans XL.out)
             have p3 := ewa ((S6.out.block _ lXT (by omega)).trans XT.out)
             obtain ⟨p4, p5, -, -⟩ := two_cells ((S6.out.block _ lXGr (by omega)).trans XGr.out)
             have p7 := (World.cell?_of_block (w := W2) (a := ⟨lb, loff + ws.length, none⟩) (S6.out.block lb hlb2 (by omega))).trans ZL6.out
             clear s6 i6 r6))
      all_goals
        go_wp2_with fail
        go_ret
        exact ⟨rfl, (Save.of_below B2.out).trans S6.out, I6.out, R6.out⟩
end Go.Proofs.Ytjnifcfcigcngaa
