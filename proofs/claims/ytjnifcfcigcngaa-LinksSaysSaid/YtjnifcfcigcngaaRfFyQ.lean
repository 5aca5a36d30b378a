/- rotaref.FirstWays: its own two functions. -/
import Derived.Test.YtjnifcfcigcngaaRfFxQ
import Derived.Deep.RegionLaw
namespace Go.Proofs.Ytjnifcfcigcngaa
open Go.RowKit

set_option maxRecDepth 20000 in
set_option maxHeartbeats 1600000 in
theorem SetW_any (v : Value) (l : List Nat) (w : World) (hl : ∀ x ∈ l, x < 8) (h : Ints w v (N l)) :
    Calls Try.prog 22 #[v] w fun e w' => e = .returned (.int .i64 (setO l : Nat)) ∧ w' = w := by
  obtain ⟨a, cap, rfl, hlen, hc⟩ := h.nats
  clear h
  have HT : Hid (∀ k, k < l.length → setO (l.take (k + 1)) = setO (l.take k) ||| 2 ^ l.getD k 0) := fun k hk => bits_ext fun j => by
    rw [orb, setO_bit, setO_bit, Nat.testBit_two_pow, decide_eq_true_eq, List.take_add_one, List.mem_append, List.getD_eq_getElem?_getD, List.getElem?_eq_getElem hk]
    simp
    constructor
    · rintro (h | h)
      · exact Or.inl h
      · exact Or.inr h.symm
    · rintro (h | h)
      · exact Or.inl h
      · exact Or.inr h.symm
  have HL : Hid (∀ k, setO (l.take k) < 256) := fun k => setO_lt (n := 8) _ fun x hx => hl x (List.mem_of_mem_take hx)
  have HX : Hid (∀ k, k < l.length → l.getD k 0 < 8) := fun k hk => hl _ (by rw [List.getD_eq_getElem?_getD, List.getElem?_eq_getElem hk]; exact List.getElem_mem _)
  have HE : Hid (setO (l.take l.length) = setO l) := by show _ = _; rw [List.take_length]
  have HZ : Hid (setO (l.take 0) = 0) := rfl
  clear hl
  generalize hq : (fun k => setO (l.take k)) = q
  have HQ : Hid (∀ k, setO (l.take k) = q k) := fun k => by rw [← hq]
  simp only [Hid.out HQ] at HT HL HE HZ
  clear hq HQ
  generalize setO l = R at *
  go_enter Try.func22, Try.ntmps22
  go_wp2_with fail
  go_loop [3, 4] (fun u i => ∃ k : Nat, k ≤ l.length ∧ i = .int .i64 k ∧ u = .int .i64 (q k : Nat)) (fun _ i => l.length - (intOf i).toNat)
  case atStart => exact ⟨0, Nat.zero_le _, rfl, by rw [HZ.out]; rfl⟩
  case round =>
    obtain ⟨k, hk, rfl, rfl⟩ := hrel
    by_cases hlt : k < l.length
    · obtain ⟨b, off, rfl, hb, hcell⟩ := hc (by omega)
      have x1 := hcell k hlt
      have hki : (k : Int) < (l.length : Int) := by omega
      have hx := HX.out k hlt
      have T := hid (HT.out k hlt)
      have hq := HL.out k
      have hpw : wrap64 (2 ^ l.getD k 0) = ((2 ^ l.getD k 0 : Nat) : Int) := (pow_wrap _ (by omega)).1
      have hp2 : 2 ^ l.getD k 0 < 256 := Nat.pow_lt_pow_right (by decide) hx
      have han : bits .or .i64 (q k : Nat) ((2 ^ l.getD k 0 : Nat) : Int) = ((q k ||| (2 ^ l.getD k 0) : Nat) : Int) := i64_or_nat _ _ (by omega) (by omega)
      have hx64 : ((l.getD k 0 : Nat) : Int) < 64 := by omega
      clear hcell hc
      generalize hq1 : q (k + 1) = q1 at *
      have HQ1 := hid hq1
      clear hq1
      generalize q k ||| (2 ^ l.getD k 0) = y at *
      generalize hE2 : 2 ^ l.getD k 0 = E2 at *
      generalize l.getD k 0 = x at *
      go_wp2_with fail
      go_round
      case rel => exact ⟨k + 1, by omega, by go_num, by rw [HQ1.out, T.out]⟩
      case measure => simp [intOf]; omega
    · obtain rfl : k = l.length := by omega
      go_wp2_with fail
      go_ret
      exact ⟨by rw [← HE.out]; rfl, rfl⟩
theorem save_c (W : World) (b : Nat) (x : Value) : Save (fun k => k = b) W (W.setCell ⟨b, 0, none⟩ x) := Save.setCell (X := fun k => k = b) (Save.refl _ W) (p := ⟨b, 0, none⟩) (.inl rfl) x
/-- next, as a value. -/
def nexV (bl bg bt bo : Nat) : Value := .func (.func 18) #[] #[.pointer (some ⟨bl, 0, none⟩), .pointer (some ⟨bg, 0, none⟩), .pointer (some ⟨bt, 0, none⟩), .pointer (some ⟨bo, 0, none⟩), .pointer (some ⟨bo + 1, 0, none⟩)]
/-- What lies wherever the search stands. -/
structure FwS (n T : Nat) (E : List (Nat × Nat)) (gv lv : Value) (lst : List Nat) (w00 : World) (bl bg bt : Nat) (W : World) : Prop where
  bel : Below w00.heap.size w00 W
  nxt : W.heap[w00.heap.size + 1]? = some (.cells #[nexV bl bg bt w00.heap.size] 28 (0, 0))
  siz : w00.heap.size + 2 ≤ W.heap.size
  hl : w00.heap[bl]? = some (.cells #[lv] 43 (0, 0))
  hli : Ints w00 lv (N lst)
  hg : w00.heap[bg]? = some (.cells #[.int .i64 n, gv] 24 (0, 0))
  hge : EdgesAt w00 gv E
  ht : w00.heap[bt]? = some (.cells #[.int .i64 T] 3 (0, 0))
theorem FwS.save {n T : Nat} {E : List (Nat × Nat)} {gv lv : Value} {lst : List Nat} {w00 : World} {bl bg bt : Nat} {W W' : World} (h : FwS n T E gv lv lst w00 bl bg bt W) (hs : Save (fun k => k = w00.heap.size) W W') : FwS n T E gv lv lst w00 bl bg bt W' :=
  ⟨hs.below h.bel h.bel.size (fun k e => by omega), (hs.block _ (Array.getElem?_eq_some_iff.1 h.nxt).1 (by omega)).trans h.nxt, Nat.le_trans h.siz hs.size, h.hl, h.hli, h.hg, h.hge, h.ht⟩
/-- What next answers, the vertices r being left. -/
def NOk (n T : Nat) (E : List (Nat × Nat)) (gv lv : Value) (lst : List Nat) (w00 : World) (bl bg bt : Nat) (r : List Nat) : Prop :=
  ∀ (ws : List (List Nat)) (G : Nat) (W : World), ws.length + r.length = lst.length → lst.drop ws.length = r → G < 2 ^ n → FwS n T E gv lv lst w00 bl bg bt W → OutL (w00.heap.size + 2) w00.heap.size W ws.length ws →
    Calls Try.prog 18 #[.int .i64 (ws.length : Nat), .int .i64 G, .pointer (some ⟨bl, 0, none⟩), .pointer (some ⟨bg, 0, none⟩), .pointer (some ⟨bt, 0, none⟩), .pointer (some ⟨w00.heap.size, 0, none⟩), .pointer (some ⟨w00.heap.size + 1, 0, none⟩)] W fun e w' =>
      e = .returned (.bool (lkB (nxF E E.length) n T (dif (2 ^ n - 1) G) (setO r))) ∧ Save (fun k => k = w00.heap.size) W w' ∧ (lkB (nxF E E.length) n T (dif (2 ^ n - 1) G) (setO r) = false → ∃ L, OutL (w00.heap.size + 2) w00.heap.size w' L ws) ∧ (lkB (nxF E E.length) n T (dif (2 ^ n - 1) G) (setO r) = true → OutL (w00.heap.size + 2) w00.heap.size w' lst.length (ws ++ waysL (nxF E E.length) n T (dif (2 ^ n - 1) G) r))
set_option maxRecDepth 20000 in
set_option maxHeartbeats 8000000 in
theorem lookW_ok (n T : Nat) (E : List (Nat × Nat)) (gv lv : Value) (lst : List Nat) (w00 : World) (bl bg bt : Nat) (r : List Nat) (hn : n ≤ 8) (H : NOk n T E gv lv lst w00 bl bg bt r) (ws : List (List Nat)) (G bk bG : Nat) (W : World) (u : Value) (way : List Nat) (hk : ws.length + 1 + r.length = lst.length) (hl8 : lst.length ≤ 8) (hd : lst.drop (ws.length + 1) = r) (hG : G < 2 ^ n)
    (F : FwS n T E gv lv lst w00 bl bg bt W) (xk : W.heap[bk]? = some (.cells #[.int .i64 (ws.length : Nat)] 3 (0, 0))) (xG : W.heap[bG]? = some (.cells #[.int .i64 G] 3 (0, 0))) (hbk : w00.heap.size + 2 ≤ bk) (hbG : w00.heap.size + 2 ≤ bG) (L : Nat) (hO : OutL (w00.heap.size + 2) w00.heap.size W L ws)
    (hu : Own (w00.heap.size + 2) W u way) (hw8 : way.length ≤ 8) (hwn : ∀ x ∈ way, x < n) :
    Calls Try.prog 21 #[u, .pointer (some ⟨w00.heap.size, 0, none⟩), .pointer (some ⟨bk, 0, none⟩), .pointer (some ⟨w00.heap.size + 1, 0, none⟩), .pointer (some ⟨bG, 0, none⟩)] W fun e w' =>
      e = .returned (.bool (lkB (nxF E E.length) n T (setW (dif (2 ^ n - 1) G) way) (setO r))) ∧ Save (fun k => k = w00.heap.size) W w' ∧ (lkB (nxF E E.length) n T (setW (dif (2 ^ n - 1) G) way) (setO r) = false → ∃ L, OutL (w00.heap.size + 2) w00.heap.size w' L ws) ∧ (lkB (nxF E E.length) n T (setW (dif (2 ^ n - 1) G) way) (setO r) = true → OutL (w00.heap.size + 2) w00.heap.size w' lst.length ((ws ++ [way]) ++ waysL (nxF E E.length) n T (setW (dif (2 ^ n - 1) G) way) r)) := by
  obtain ⟨ao, co, us, hbo, hco, hus, hrow⟩ := hO
  have HOR := hid (left_or (n := n) (G := G) way)
  have hwl : setO way < 2 ^ n := setO_lt _ hwn
  have hG2 := Nat.or_lt_two_pow hG hwl
  have hG8 := lt256 hn hG
  have hwl8 := lt256 hn hwl
  have hor : bits .or .i64 (G : Int) ((setO way : Nat) : Int) = ((G ||| setO way : Nat) : Int) := i64_or_nat _ _ (by omega) (by omega)
  have hlw : (ws ++ [way]).length = ws.length + 1 := by simp
  have NX : Hid (∀ W, FwS n T E gv lv lst w00 bl bg bt W → OutL (w00.heap.size + 2) w00.heap.size W (ws ++ [way]).length (ws ++ [way]) → Calls Try.prog 18 #[.int .i64 ((ws.length + 1 : Nat) : Int), .int .i64 ((G ||| setO way : Nat) : Int), .pointer (some ⟨bl, 0, none⟩), .pointer (some ⟨bg, 0, none⟩), .pointer (some ⟨bt, 0, none⟩), .pointer (some ⟨w00.heap.size, 0, none⟩), .pointer (some ⟨w00.heap.size + 1, 0, none⟩)] W fun e w' =>
      e = .returned (.bool (lkB (nxF E E.length) n T (setW (dif (2 ^ n - 1) G) way) (setO r))) ∧ Save (fun k => k = w00.heap.size) W w' ∧ (lkB (nxF E E.length) n T (setW (dif (2 ^ n - 1) G) way) (setO r) = false → ∃ L, OutL (w00.heap.size + 2) w00.heap.size w' L (ws ++ [way])) ∧ (lkB (nxF E E.length) n T (setW (dif (2 ^ n - 1) G) way) (setO r) = true → OutL (w00.heap.size + 2) w00.heap.size w' lst.length ((ws ++ [way]) ++ waysL (nxF E E.length) n T (setW (dif (2 ^ n - 1) G) way) r))) := fun W hF hO => by
    have := H (ws ++ [way]) (G ||| setO way) W (by rw [hlw]; exact hk) (by rw [hlw]; exact hd) hG2 hF hO
    rw [HOR.out, hlw] at this
    exact this
  have SW := hid (fun v w h => SetW_any v way w (fun x hx => by have := hwn x hx; omega) h)
  have FS := hid F
  have k0 := ewa xk
  have g0 := ewa xG
  have o0 := ewa hbo
  have f0 : W.frozen? ⟨w00.heap.size, 0, none⟩ = false := by simp [World.frozen?, hbo]
  have hbkl := (Array.getElem?_eq_some_iff.1 xk).1
  have hbGl := (Array.getElem?_eq_some_iff.1 xG).1
  have hbol := (Array.getElem?_eq_some_iff.1 hbo).1
  have ULen := hid hus
  have kc : ((ws.length : Nat) : Int) ≤ (co : Int) := by omega
  have hws8 : ws.length ≤ 8 := by omega
  have XK := hid xk
  have XG := hid xG
  have XO := hid hbo
  have ROW := hid hrow
  have UO := hid hu
  have HOLD : Hid (∀ W', Below W.heap.size W W' → ∀ i v, us[i]? = some v → ∃ g, ao = some ⟨g, 0, none⟩ ∧ W'.cell? ⟨g, i, none⟩ = some v) := fun W' hW i v hi => by
    have hil : i < us.length := (List.getElem?_eq_some_iff.1 hi).1
    obtain ⟨g, u', e1, e2, e3, e4, e5, e6⟩ := ROW.out i (by omega)
    obtain rfl : u' = v := by rw [e4] at hi; exact Option.some.inj hi
    exact ⟨g, e1, (hW.cell (p := ⟨g, i, none⟩) e3).trans e5⟩
  have RW2 : Hid (∀ W', Below W.heap.size W W' → ∀ i, i < ws.length → ∃ u, us[i]? = some u ∧ Own (w00.heap.size + 2) W' u (ws.getD i [])) := fun W' hW i hi => by
    obtain ⟨g, u', e1, e2, e3, e4, e5, e6⟩ := ROW.out i hi
    exact ⟨u', e4, e6.below hW⟩
  have hne1 : ¬ w00.heap.size = bk := by omega
  have hne2 : ¬ bk = w00.heap.size := by omega
  clear HOR H F xk xG hrow hd hu
  go_enter Try.func21, Try.ntmps21
  go_upto_region 1 with fail
  go_cut [6] from 7 to 14 (fun _ Z => Hid (∃ w5, OutL (w00.heap.size + 2) w00.heap.size Z (ws ++ [way]).length (ws ++ [way]) ∧ Below W.heap.size W w5 ∧ Save (fun k => k = w00.heap.size) w5 Z))
  case first =>
   go_region_law
    (first
      | (refine step_copy rfl (.tmp 11) rfl rfl UO.out hw8 ?_; intro v3 w3 hv3 hg3
         have b3 := hid (ewk0 hg3)
         have k3 := ewa ((b3.out.block _ hbkl).trans XK.out)
         have o3 := ewa ((b3.out.block _ hbol).trans XO.out)
         have hb3s := b3.out.size
         have n1 : ¬ w3.heap.size = bk := (by omega)
         have n2 : ¬ bk = w3.heap.size := (by omega)
         have n3 : ¬ w3.heap.size = w00.heap.size := (by omega)
         have n4 : ¬ w00.heap.size = w3.heap.size := (by omega)
         obtain ⟨a3, c3, e3⟩ := ownsRow_form' hv3
         have V3 := hid (hv3.mono (show w00.heap.size + 2 ≤ _ from Nat.le_trans FS.out.siz (Nat.le_refl _)))
         subst e3
         have B4 := hid (b3.out.alloc b3.out.size (.cells #[.slice a3 way.length c3] 43))
         have k4 := ewa ((B4.out.block _ hbkl).trans XK.out)
         have o4 := ewa ((B4.out.block _ hbol).trans XO.out)
         have V4 := hid (V3.out.alloc (.cells #[.slice a3 way.length c3] 43))
         have C4 := hid (ewn w3 (.slice a3 way.length c3) 43)
         clear hv3 hg3)
      | (refine step_appW rfl (.tmp 10) (.tmp 13) rfl rfl rfl C4.out rfl ULen.out (HOLD.out _ B4.out) hws8 ?_; intro w5 c5 hb5 hcell5 hl5 hc5
         have b5 := hid (B4.out.trans (hb5.mono B4.out.size))
         have P5 := hid (OutL.put (by omega : w00.heap.size < w00.heap.size + 2) ((B4.out.block _ hbol).trans XO.out) hb5 ULen.out hc5 (RW2.out _ B4.out) V4.out (by rw [World.size_alloc]; omega) hl5 hcell5)
         have P6 := P5.out
         rw [World.size_alloc] at P6
         have P7 := hid P6
         have x5 := hid ((b5.out.block _ hbol).trans XO.out)
         have o5 := ewa x5.out
         have f5 : w5.frozen? ⟨w00.heap.size, 0, none⟩ = false := (by simp [World.frozen?, x5.out])
         have k5 := ewa ((b5.out.block _ hbkl).trans XK.out)
         clear hb5 hcell5 hl5 hc5 P6))
   all_goals go_wp2_with fail
   all_goals go_meet
   all_goals exact ⟨_, P7.out, b5.out, save_c _ _ _⟩
  case rest =>
  obtain ⟨w5, hOz, hb5, hs5⟩ := hcut.out
  have SV : Hid (Save (fun k => k = w00.heap.size) W wc) := (Save.of_below hb5).trans hs5
  have FZ := hid (FS.out.save SV.out)
  have OZ := hid hOz
  have YK := hid ((SV.out.block _ hbkl (by omega)).trans XK.out)
  have YG := hid ((SV.out.block _ hbGl (by omega)).trans XG.out)
  have hbkz : bk < wc.heap.size := Nat.lt_of_lt_of_le hbkl SV.out.size
  have hbGz : bG < wc.heap.size := Nat.lt_of_lt_of_le hbGl SV.out.size
  have UI : Hid (Ints wc.drew u (N way)) := ((UO.out.saveD SV.out (fun k e => by omega)).ints (by omega)).below (Below.refl _ _).drew
  have m0 := ewa FZ.out.nxt
  have m1 := ewa YK.out
  have m2 := ewa YG.out
  have hneG : ¬ bG = w00.heap.size := by omega
  unfold nexV at m0
  have hk1 : ((ws.length : Nat) : Int) + 1 = ((ws.length + 1 : Nat) : Int) := by omega
  have SWd := hid (SW.out u wc.drew UI.out)
  have NXd := hid (NX.out wc.drew (FZ.out.save (Save.of_below (Below.refl _ _).drew)) (OZ.out.below (Below.refl _ _).drew))
  clear hcut hOz hb5 hs5 k0 g0 o0 f0 NX SW
  generalize setO way = sw at *
  obtain ⟨k1, hk9⟩ : ∃ k1, ws.length + 1 = k1 := ⟨_, rfl⟩
  obtain ⟨kn, hkn⟩ : ∃ kn, ws.length = kn := ⟨_, rfl⟩
  rw [hk9] at hk1 NXd
  rw [hkn] at hk1 m1 hws8
  have KN := hid hkn
  have hk19 : k1 ≤ 9 := by omega
  have hwk : IntKind.i64.wrap (k1 : Int) = (k1 : Int) := IntWalk.i64_in _ (by omega)
  clear hk9
  go_wp2_with fail
  clear FS XK XG XO ROW UO HOLD RW2 ULen hus hco kc hbkl hbGl hbol hwl
  clear hkn
  generalize hlk : lkB (nxF E E.length) n T (setW (dif (2 ^ n - 1) G) way) (setO r) = lk at *
  have HLK := hid hlk
  clear hlk
  go_region_held3 (fun Z => Z.cell? ⟨w00.heap.size + 1, 0, none⟩ = some (.func (.func 18) #[] #[.pointer (some ⟨bl, 0, none⟩), .pointer (some ⟨bg, 0, none⟩), .pointer (some ⟨bt, 0, none⟩), .pointer (some ⟨w00.heap.size, 0, none⟩), .pointer (some ⟨w00.heap.size + 1, 0, none⟩)]) ∧ Z.cell? ⟨bk, 0, none⟩ = some (.int .i64 kn) ∧ Z.cell? ⟨bG, 0, none⟩ = some (.int .i64 G)) (go_keep)
    (first
      | (go_at_call 22; refine SWd.out.mono ?_; rintro e w' ⟨rfl, hw'⟩; obtain rfl := hw'.symm)
      | (go_at_call 18; refine NXd.out.mono ?_; rintro e w6 ⟨rfl, s6, i6, r6⟩
         have S6 := hid ((Save.of_below (Below.refl wc.heap.size wc).drew).trans s6)
         have I6 := hid i6
         have R6 := hid r6
         have z0 := ewa ((FZ.out.save S6.out).nxt)
         have z1 := ewa ((S6.out.block _ hbkz (by omega)).trans YK.out)
         have z2 := ewa ((S6.out.block _ hbGz (by omega)).trans YG.out)
         unfold nexV at z0
         rw [KN.out] at z1
         clear s6 i6 r6))
  all_goals
    go_wp2_with fail
    go_ret
    rw [HLK.out]
    exact ⟨rfl, SV.out.trans S6.out, fun h => by obtain ⟨L', h'⟩ := I6.out h; exact ⟨L', h'.less⟩, fun h => R6.out h⟩
end Go.Proofs.Ytjnifcfcigcngaa
