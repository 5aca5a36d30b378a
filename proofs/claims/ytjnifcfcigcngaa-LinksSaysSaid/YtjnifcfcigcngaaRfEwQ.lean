/- rotaref.eachWay, for whatever function looks at the ways. -/
import Derived.Test.YtjnifcfcigcngaaOrdBQ
import Derived.Test.YtjnifcfcigcngaaStkAQ
import Derived.Test.YtjnifcfcigcngaaKRingQ
import Derived.Test.YtjnifcfcigcngaaRefFamW
import Derived.Test.YtjnifcfcigcngaaRefQ
import Derived.Test.YtjnifcfcigcngaaPlainAll1
import Derived.Deep.RegionHeld3
import Derived.Deep.CutRange
namespace Go.Proofs.Ytjnifcfcigcngaa
open Go.RowKit

theorem Own.saveD {X : Nat → Prop} {D : Nat} {a b : World} {v : Value} {l : List Nat} (h : Own D a v l) (hs : Save X a b) (hX : ∀ k, X k → k < D) : Own D b v l := by
  obtain ⟨h0, h1⟩ := h
  refine ⟨h0, h1.imp_right ?_⟩
  rintro ⟨g, cap, cur, hv, hg, hheap, hr⟩
  exact ⟨g, cap, cur, hv, hg, (hs.block g (Array.getElem?_eq_some_iff.1 hheap).1 fun hx => by have := hX g hx; omega).trans hheap, hr⟩
theorem ew_box (w : World) (n : Int) (v : Value) : Below w.heap.size w (w.alloc (.cells #[.int .i64 n, v] 24)) := (Below.refl _ _).alloc (Nat.le_refl _) _
theorem ewk0 {W W' : World} (h : W.drew.grownBy W' none) : Below W.heap.size W W' := ((Below.refl _ W).drew).trans (grown_below h)
theorem ewk1 {W W' : World} {o : Obj} (h : (W.alloc o).drew.grownBy W' none) : Below W.heap.size W W' := (((Below.refl _ W).alloc (Nat.le_refl _) o).drew).trans ((grown_below h).mono (by show W.heap.size ≤ (W.alloc o).heap.size; simp))
theorem ewa {w : World} {b : Nat} {x : Value} {t : TypeId} (h : w.heap[b]? = some (.cells #[x] t (0, 0))) : w.cell? ⟨b, 0, none⟩ = some x := by simp [World.cell?, h]
theorem ewn (w : World) (x : Value) (t : TypeId) : (w.alloc (.cells #[x] t)).cell? ⟨w.heap.size, 0, none⟩ = some x := ewa (World.alloc_heap_new w (.cells #[x] t))
theorem ewc {W W' : World} {x : Value} {t : TypeId} (h : (W.alloc (.cells #[x] t)).drew.grownBy W' none) : W'.cell? ⟨W.heap.size, 0, none⟩ = some x := h.cell (show (W.alloc (.cells #[x] t)).drew.cell? ⟨W.heap.size, 0, none⟩ = some x from ewn W x t) (by simp)
theorem ews {W W' Wb : World} {v : Value} {l : List Nat} (hb : Below Wb.heap.size Wb W) (ho : Own Wb.heap.size W v l) (hg : W.grownBy W' v.ownBlock) : Below Wb.heap.size Wb W' := hb.grown hg hb.size (fun j hj => (World.ownsRow.lt ho j hj).1)
theorem nx_led (E : List (Nat × Nat)) (i v x : Nat) : (nxF E (i + 1) v).testBit x = ((nxF E i v).testBit x || (ea E i == v && eb E i == x)) := by
  rw [nxF]
  by_cases h : ea E i = v
  · rw [if_pos h, Nat.testBit_or, Nat.testBit_two_pow]
    by_cases g : eb E i = x <;> simp [h, g]
  · rw [if_neg h]
    simp [h]
/-- What the search asks of the function that looks at a way. -/
structure DoW (f : Nat → Nat) (n T G B D gd : Nat) (cs : Array Value) (E : List (Nat × Nat)) (gv : Value) (X : Nat → Prop) (Inv : World → Prop) (Res : List Nat → World → Prop) : Prop where
  small : ∀ k, X k → k < D
  size : ∀ W, Inv W → D ≤ W.heap.size
  edges : ∀ W, Inv W → EdgesAt W gv E
  stay : ∀ W W', Inv W → Below W.heap.size W W' → Inv W'
  enters : Enters gd
  look : ∀ (W : World) (u : Value) (way : List Nat), Inv W → Own D W u way → way.length ≤ 8 → (∀ x ∈ way, x < n) → Calls Try.prog gd (#[u] ++ cs) W fun e w' => e = .returned (.bool (lkB f n T (setW (dif (2 ^ n - 1) G) way) B)) ∧ Save X W w' ∧ (lkB f n T (setW (dif (2 ^ n - 1) G) way) B = false → Inv w') ∧ (lkB f n T (setW (dif (2 ^ n - 1) G) way) B = true → Res way w')
set_option maxRecDepth 20000 in
set_option maxHeartbeats 8000000 in
theorem eachWay_any (n T G B D gd : Nat) (cs : Array Value) (E : List (Nat × Nat)) (gv : Value) (X : Nat → Prop) (Inv : World → Prop) (Res : List Nat → World → Prop) (hn : n ≤ 8) (hT : T < 2 ^ n) (hG : G < 2 ^ n) (hB : B < 2 ^ n) (hE : ∀ j, j < E.length → ea E j < n ∧ eb E j < n)
    (H : DoW (nxF E E.length) n T G B D gd cs E gv X Inv Res) :
    ∀ (j : Nat) (W : World) (pre : List Nat) (v : Nat) (u : Value), pop (setW (dif (2 ^ n - 1) G) pre) ≤ j → (setW (dif (2 ^ n - 1) G) pre).testBit v = true → pre.length + pop (setW (dif (2 ^ n - 1) G) pre) ≤ 8 → (∀ x ∈ pre, x < n) → Own D W u (pre ++ [v]) → Inv W →
    Calls Try.prog 20 #[.agg #[.int .i64 n, gv], u, .int .i64 G, .int .i64 T, .func (.func gd) #[] cs] W fun e w' => e = .returned (.bool (ebW (nxF E E.length) n T B (setW (dif (2 ^ n - 1) G) pre) v)) ∧ Save X W w' ∧ (ebW (nxF E E.length) n T B (setW (dif (2 ^ n - 1) G) pre) v = false → Inv w') ∧ (ebW (nxF E E.length) n T B (setW (dif (2 ^ n - 1) G) pre) v = true → Res (pre ++ wayF (nxF E E.length) n T B j (setW (dif (2 ^ n - 1) G) pre) v) w') := by
  intro j
  induction j with
  | zero =>
    intro W pre v u h1 h2
    have := dif_less hn (setW_lt pre _ (dif_ltn (full_lt n))) h2
    omega
  | succ j ih =>
    intro W pre v u h1 h2 h3 h4 hu hW
    have hL0 := dif_ltn (b := G) (full_lt n)
    have hL : setW (dif (2 ^ n - 1) G) pre < 2 ^ n := setW_lt pre _ hL0
    have hvn := bit_n hL h2
    have hless := dif_less hn hL h2
    have hs1 : setW (dif (2 ^ n - 1) G) (pre ++ [v]) = dif (setW (dif (2 ^ n - 1) G) pre) (2 ^ v) := setW_snoc _ _ _
    have hmem : ∀ x ∈ pre ++ [v], x < n := fun x hx => by
      rcases List.mem_append.1 hx with hx | hx
      · exact h4 x hx
      · obtain rfl : x = v := by simpa using hx
        exact hvn
    have hlen8 : (pre ++ [v]).length ≤ 8 := by simp; omega
    have IH : Hid (∀ (W : World) (x : Nat) (u : Value), (dif (setW (dif (2 ^ n - 1) G) pre) (2 ^ v)).testBit x = true → Own D W u ((pre ++ [v]) ++ [x]) → Inv W → Calls Try.prog 20 #[.agg #[.int .i64 n, gv], u, .int .i64 G, .int .i64 T, .func (.func gd) #[] cs] W fun e w' => e = .returned (.bool (ebW (nxF E E.length) n T B (dif (setW (dif (2 ^ n - 1) G) pre) (2 ^ v)) x)) ∧ Save X W w' ∧ (ebW (nxF E E.length) n T B (dif (setW (dif (2 ^ n - 1) G) pre) (2 ^ v)) x = false → Inv w') ∧ (ebW (nxF E E.length) n T B (dif (setW (dif (2 ^ n - 1) G) pre) (2 ^ v)) x = true → Res ((pre ++ [v]) ++ wayF (nxF E E.length) n T B j (dif (setW (dif (2 ^ n - 1) G) pre) (2 ^ v)) x) w')) := fun W x u h hu hW => by
      have := ih W (pre ++ [v]) x u (by rw [hs1]; omega) (by rw [hs1]; exact h) (by rw [hs1]; simp; omega) hmem hu hW
      rw [hs1] at this
      exact this
    have DO : Hid (∀ (W : World), Inv W → Own D W u (pre ++ [v]) → Calls Try.prog gd (#[u] ++ cs) W fun e w' => e = .returned (.bool (lkB (nxF E E.length) n T (dif (setW (dif (2 ^ n - 1) G) pre) (2 ^ v)) B)) ∧ Save X W w' ∧ (lkB (nxF E E.length) n T (dif (setW (dif (2 ^ n - 1) G) pre) (2 ^ v)) B = false → Inv w') ∧ (lkB (nxF E E.length) n T (dif (setW (dif (2 ^ n - 1) G) pre) (2 ^ v)) B = true → Res (pre ++ [v]) w')) := fun W hW hu => by
      have := H.look W u (pre ++ [v]) hW hu hlen8 hmem
      rw [hs1] at this
      exact this
    clear ih
    -- what is told
    have T1 : Hid (T.testBit v = true → lkB (nxF E E.length) n T (dif (setW (dif (2 ^ n - 1) G) pre) (2 ^ v)) B = true → ebW (nxF E E.length) n T B (setW (dif (2 ^ n - 1) G) pre) v = true ∧ pre ++ wayF (nxF E E.length) n T B (j + 1) (setW (dif (2 ^ n - 1) G) pre) v = pre ++ [v]) := fun a b => ⟨eb_end hn hL hB h2 a b, by rw [WayH.end a]⟩
    have T2 : Hid (∀ x, x < n → (nxF E E.length v).testBit x = true → (T.testBit v = true → lkB (nxF E E.length) n T (dif (setW (dif (2 ^ n - 1) G) pre) (2 ^ v)) B = false) → (∀ y, y < x → (nxF E E.length v).testBit y = true → (dif (setW (dif (2 ^ n - 1) G) pre) (2 ^ v)).testBit y = true → ebW (nxF E E.length) n T B (dif (setW (dif (2 ^ n - 1) G) pre) (2 ^ v)) y = false) → ebW (nxF E E.length) n T B (dif (setW (dif (2 ^ n - 1) G) pre) (2 ^ v)) x = true → ebW (nxF E E.length) n T B (setW (dif (2 ^ n - 1) G) pre) v = true ∧ pre ++ wayF (nxF E E.length) n T B (j + 1) (setW (dif (2 ^ n - 1) G) pre) v = (pre ++ [v]) ++ wayF (nxF E E.length) n T B j (dif (setW (dif (2 ^ n - 1) G) pre) (2 ^ v)) x) := fun x hx hf hTv hno he => by
      refine ⟨eb_on hn hL hB h2 hx hf he, ?_⟩
      have hTf : T.testBit v = false := by
        cases e : T.testBit v
        · rfl
        · rw [eb_none hn hL hB hx (hTv e)] at he; cases he
      rw [eb_way hn hL hB hTf hx hf he hno, List.append_assoc]
      rfl
    have T3 : Hid ((T.testBit v = true → lkB (nxF E E.length) n T (dif (setW (dif (2 ^ n - 1) G) pre) (2 ^ v)) B = false) → (∀ y, y < n → (nxF E E.length v).testBit y = true → (dif (setW (dif (2 ^ n - 1) G) pre) (2 ^ v)).testBit y = true → ebW (nxF E E.length) n T B (dif (setW (dif (2 ^ n - 1) G) pre) (2 ^ v)) y = false) → ebW (nxF E E.length) n T B (setW (dif (2 ^ n - 1) G) pre) v = false) := fun a b => eb_no hn hL hB h2 a b
    have T4 : Hid (∀ x, x < n → ((dif (setW (dif (2 ^ n - 1) G) pre) (2 ^ v)).testBit x = true ↔ G.testBit x = false ∧ memB x (pre ++ [v]) = false)) := fun x hx => by
      rw [← hs1, setW_bit, dif_in, full_bit]
      unfold memB
      rw [decide_eq_false_iff_not]
      constructor
      · rintro ⟨⟨_, h⟩, k⟩; exact ⟨h, k⟩
      · rintro ⟨h, k⟩; exact ⟨⟨decide_eq_true hx, h⟩, k⟩
    obtain ⟨DL, hDL⟩ : ∃ DL, dif (setW (dif (2 ^ n - 1) G) pre) (2 ^ v) = DL := ⟨_, rfl⟩
    obtain ⟨R, hR⟩ : ∃ R, ebW (nxF E E.length) n T B (setW (dif (2 ^ n - 1) G) pre) v = R := ⟨_, rfl⟩
    obtain ⟨WQ, hWQ⟩ : ∃ WQ, pre ++ wayF (nxF E E.length) n T B (j + 1) (setW (dif (2 ^ n - 1) G) pre) v = WQ := ⟨_, rfl⟩
    rw [hDL] at IH DO T1 T2 T3 T4
    rw [hR] at T1 T2 T3
    rw [hWQ] at T1 T2
    rw [hR, hWQ]
    generalize lkB (nxF E E.length) n T DL B = lk at *
    generalize ebW (nxF E E.length) n T B DL = eb' at *
    generalize wayF (nxF E E.length) n T B j DL = wf at *
    have HH := hid H
    have HU := hid hu
    have HW := hid hW
    have hsD := H.size W hW
    have P8 : pre.length + 1 ≤ 8 := by simpa using hlen8
    have hvl : (pre ++ [v]).length = pre.length + 1 := by simp
    have hvat : (pre ++ [v]).getD pre.length 0 = v := by simp [List.getD]
    obtain ⟨pv, hpv⟩ : ∃ pv, pre ++ [v] = pv := ⟨_, rfl⟩
    obtain ⟨pn, hpn⟩ : ∃ pn, pre.length = pn := ⟨_, rfl⟩
    rw [hpv] at IH DO T1 T2 T4 HU hvl hvat hmem
    rw [hpn] at hvl hvat P8
    have hG8 := lt256 hn hG
    have hT8 := lt256 hn hT
    have IN := hid (fun s i w hs hi => In_any s i w hs hi)
    have IT := hid (fun w => In_any T v w hT8 (by omega))
    have IG := hid (fun x w hx => In_any G x w hG8 hx)
    have eg' := H.enters
    unfold Enters at eg'
    have HE2 := hid hE
    obtain ⟨ga, gcap, hgv, hglen, -⟩ := H.edges W hW
    subst hgv
    obtain ⟨ub, uc, hue⟩ : ∃ ub uc, u = .slice (some ⟨ub, 0, none⟩) (pn + 1) uc := by
      rcases Go.Joins.ownsRow_forms HU.out with ⟨_, h0⟩ | ⟨g, cap, e⟩
      · omega
      · exact ⟨g, cap, by rw [e, hvl]⟩
    subst hue
    have B1 := hid (ew_box W n (.slice ga E.length gcap))
    have N1 := hid (World.alloc_heap_new W (.cells #[.int .i64 n, .slice ga E.length gcap] 24))
    clear hW hu hDL hR hWQ hs1 h1 h2 h3 h4 hpv hpn hL hless hlen8 hL0 hE H
    obtain ⟨W1, hW1⟩ : ∃ W1, W.alloc (.cells #[.int .i64 n, .slice ga E.length gcap] 24) = W1 := ⟨_, rfl⟩
    rw [hW1] at B1 N1
    have U1 := hid (HU.out.below B1.out)
    have V1 := hid (HH.out.stay W W1 HW.out B1.out)
    have hbox : W.heap.size < W1.heap.size := (Array.getElem?_eq_some_iff.1 N1.out).1
    have c1 := U1.out.at (by rw [hvl]; omega : pn < pv.length)
    rw [hvat] at c1
    have hp1 : ((pn + 1 : Nat) : Int) - 1 = (pn : Int) := by omega
    have hp2 : (pn : Int) < ((pn + 1 : Nat) : Int) := by omega
    have IT1 := hid (fun W => IT.out W)
    go_enter Try.func20, Try.ntmps20
    go_upto_region 2 with fail
    try rw [hW1]
    clear hW1
    have D1 := hid (DO.out W1 V1.out U1.out)
    go_cut [28] from 21 to 28 (fun x Z => ∃ r : Bool, x = .bool r ∧ Hid (Save X W1 Z) ∧ Hid (r = false → Inv Z ∧ (T.testBit v = true → lk = false)) ∧ Hid (r = true → R = true ∧ Res WQ Z))
    case first =>
      rcases hb : T.testBit v with _ | _
      · rw [hb] at IT1
        have HBt := hid hb
        clear hb
        go_wp2_with fail
        refine (IT1.out _).mono ?_
        rintro e w2 ⟨rfl, rfl⟩
        go_wp2_with fail
        go_meet
        exact ⟨false, rfl, Save.refl _ _, fun _ => ⟨V1.out, fun h => by rw [HBt.out] at h; cases h⟩, fun h => by cases h⟩
      · rw [hb] at IT1
        have T1' := hid (T1.out hb)
        clear hb
        go_wp2_with fail
        refine (IT1.out _).mono ?_
        rintro e w2 ⟨rfl, rfl⟩
        go_wp2_with fail
        refine D1.out.mono ?_
        rintro e w3 ⟨rfl, s3, s4, s5⟩
        have S3 := hid s3
        have S4 := hid s4
        have S5 := hid s5
        clear s3 s4 s5
        rcases hk : lk with _ | _
        · go_wp2_with fail
          go_meet
          exact ⟨false, rfl, S3, fun _ => ⟨S4.out hk, fun _ => hk⟩, fun h => by cases h⟩
        · go_wp2_with fail
          go_meet
          exact ⟨true, rfl, S3, (fun h => by cases h), fun _ => ⟨(T1'.out hk).1, by rw [(T1'.out hk).2]; exact S5.out hk⟩⟩
    case rest =>
    obtain ⟨r, rfl, Z1, Z2, Z3⟩ := hcut
    have ZW : Hid (Save X W wc) := (Save.of_below B1.out).trans Z1.out
    rcases hr : r with _ | _
    rotate_left
    · obtain ⟨hR, hRes⟩ := Z3.out hr
      have HR := hid hRes
      subst hR
      go_wp2_with fail
      go_ret
      refine ⟨rfl, ZW.out, ?_⟩
      simpa using HR.out
    obtain ⟨hInv, hTl⟩ := Z2.out hr
    have V2 := hid hInv
    have TL := hid hTl
    clear hInv hTl
    have N2 : Hid (wc.heap[W.heap.size]? = some (.cells #[.int .i64 n, .slice ga E.length gcap] 24 (0, 0))) := (Z1.out.block _ hbox fun hx => by have := HH.out.small _ hx; omega).trans N1.out
    have U2 := hid (U1.out.saveD Z1.out HH.out.small)
    have S2 : Hid (W.heap.size < wc.heap.size) := Nat.lt_of_lt_of_le hbox Z1.out.size
    clear Z1 Z2 Z3 D1 V1 U1 N1 B1 T1 c1 IT1 IT DO hr hbox
    go_wp2_with fail
    have CR : Hid (∀ y, y < n → (dif (2 ^ n - 1) 0).testBit y = true) := fun y hy => by rw [dif_bit, full_bit]; simp [hy]
    go_loopw [12, 13, 14] (fun xx _ _ wr => ∃ x : Nat, x ≤ n ∧ xx = .int .i64 x ∧ Hid (Inv wr) ∧ Hid (Save X wc wr) ∧ Hid (∀ y, y < x → (nxF E E.length v).testBit y = true → DL.testBit y = true → eb' y = false)) (fun xx _ _ _ => n - (intOf xx).toNat)
    case atStart => exact ⟨0, Nat.zero_le _, rfl, V2.out, Save.refl _ _, fun y hy => absurd hy (Nat.not_lt_zero y)⟩
    case round =>
      obtain ⟨x, hx, rfl, HI, HS, NO⟩ := hrel
      have NR := hid ((HS.out.block _ S2.out fun h => by have := HH.out.small _ h; omega).trans N2.out)
      obtain ⟨q0, q1, -, -⟩ := two_cells NR.out
      by_cases hlt : x < n
      · have hxi : (x : Int) < (n : Int) := by omega
        obtain ⟨ga', gc', hge, -, hgc⟩ := HH.out.edges wr HI.out
        obtain ⟨rfl, rfl⟩ : ga = ga' ∧ gcap = gc' := by simpa using hge
        have LD : Hid (∀ i, (nxF E (i + 1) v).testBit x = ((nxF E i v).testBit x || (ea E i == v && eb E i == x))) := fun i => nx_led E i v x
        have L0 : Hid ((nxF E 0 v).testBit x = false) := by show (0 : Nat).testBit x = false; simp
        have hel : E.length ≤ 8 := hglen
        obtain ⟨qb, hqb⟩ : ∃ qb : Nat → Bool, ∀ i, (nxF E i v).testBit x = qb i := ⟨fun i => (nxF E i v).testBit x, fun _ => rfl⟩
        have T4x := hid (T4.out x hlt)
        have NOX : Hid (((qb E.length = true → DL.testBit x = true → eb' x = false)) → ∀ y, y < x + 1 → (nxF E E.length v).testBit y = true → DL.testBit y = true → eb' y = false) := fun h y hy => by
          rcases Nat.lt_or_ge y x with g | g
          · exact NO.out y g
          · rw [show y = x by omega, hqb]; exact h
        simp only [hqb] at LD L0
        clear hge
        go_wp2_with fail
        go_loop [13, 14] (fun l i => ∃ k : Nat, k ≤ E.length ∧ i = .int .i64 k ∧ l = .bool (qb k)) (fun _ i => E.length - (intOf i).toNat)
        case atStart => exact ⟨0, Nat.zero_le _, rfl, by rw [L0.out]⟩
        case round =>
          obtain ⟨k, hk, rfl, rfl⟩ := hrel
          by_cases hkl : k < E.length
          · have hki : (k : Int) < (E.length : Int) := by omega
            obtain ⟨b, off, rfl, hb, hcell⟩ := hgc (by omega)
            obtain ⟨cA, cB⟩ := hcell k hkl
            have L1 := hid (LD.out k)
            generalize hq1 : qb (k + 1) = q1 at *
            have HQ1 := hid hq1
            clear hq1 hcell
            generalize ea E k = A at *
            generalize eb E k = B' at *
            rcases hqk : qb k with _ | _
            · rw [hqk] at L1
              clear hqk
              by_cases hA : A = v
              · subst hA
                have hA1 : ((A : Int) == (A : Int)) = true := by simp
                by_cases hB' : B' = x
                · subst hB'
                  have L2 : Hid (qb (k + 1) = true) := by show _ = _; rw [HQ1.out, L1.out]; simp
                  go_wp2_with fail
                  go_round
                  case rel => exact ⟨k + 1, by omega, by go_num, by rw [L2.out]⟩
                  case measure => simp [intOf]; omega
                · have L2 : Hid (qb (k + 1) = false) := by show _ = _; rw [HQ1.out, L1.out]; simp [hB']
                  have hB1 : ((B' : Int) == (x : Int)) = false := by rw [beq_eq_false_iff_ne]; omega
                  go_wp2_with fail
                  go_round
                  case rel => exact ⟨k + 1, by omega, by go_num, by rw [L2.out]⟩
                  case measure => simp [intOf]; omega
              · have L2 : Hid (qb (k + 1) = false) := by show _ = _; rw [HQ1.out, L1.out]; simp [hA]
                have hA1 : ((A : Int) == (v : Int)) = false := by rw [beq_eq_false_iff_ne]; omega
                go_wp2_with fail
                go_round
                case rel => exact ⟨k + 1, by omega, by go_num, by rw [L2.out]⟩
                case measure => simp [intOf]; omega
            · rw [hqk] at L1
              have L2 : Hid (qb (k + 1) = true) := by show _ = _; rw [HQ1.out, L1.out]; rfl
              clear hqk
              go_wp2_with fail
              go_round
              case rel => exact ⟨k + 1, by omega, by go_num, by rw [L2.out]⟩
              case measure => simp [intOf]; omega
          · obtain rfl : k = E.length := by omega
            have UR := hid (U2.out.saveD HS.out HH.out.small)
            have IGx := hid (fun w => IG.out x w (by omega))
            have CTx := hid (fun w h => Contains_any (.slice (some ⟨ub, 0, none⟩) (pn + 1) uc) pv x w h)
            clear LD L0 hgc
            have CW := hid (CTx.out wr (by rw [← hvl] at *; exact UR.out.ints (by omega)))
            rcases hqe : qb E.length with _ | _
            · have NX := hid (NOX.out (fun h => by rw [hqe] at h; cases h))
              clear hqe
              go_wp2_with fail
              go_roundw
              case rel => exact ⟨x + 1, by omega, by go_num, HI.out, HS.out, NX.out⟩
              case measure => simp [intOf]; omega
            · have HQE := hid hqe
              clear hqe
              rcases hg : G.testBit x with _ | _
              rotate_left
              · rw [hg] at IGx
                have NX := hid (NOX.out (fun _ h => by rw [T4x.out, hg] at h; cases h.1))
                clear hg
                go_wp2_with fail
                refine (IGx.out _).mono ?_
                rintro e w2 ⟨rfl, rfl⟩
                go_wp2_with fail
                go_roundw
                case rel => exact ⟨x + 1, by omega, by go_num, HI.out, HS.out, NX.out⟩
                case measure => simp [intOf]; omega
              · rw [hg] at IGx
                rcases hm : memB x pv with _ | _
                rotate_left
                · rw [hm] at CW
                  have NX := hid (NOX.out (fun _ h => by rw [T4x.out, hm] at h; cases h.2))
                  clear hg hm
                  go_wp2_with fail
                  refine (IGx.out _).mono ?_
                  rintro e w2 ⟨rfl, rfl⟩
                  go_wp2_with fail
                  refine CW.out.mono ?_
                  rintro e w2 ⟨rfl, rfl⟩
                  go_wp2_with fail
                  go_roundw
                  case rel => exact ⟨x + 1, by omega, by go_num, HI.out, HS.out, NX.out⟩
                  case measure => simp [intOf]; omega
                · rw [hm] at CW
                  have DX := hid (T4x.out.2 ⟨hg, hm⟩)
                  clear hg hm
                  have pl8 : pv.length ≤ 8 := by omega
                  have hwD := HH.out.size wr HI.out
                  have hwl : W.heap.size < wr.heap.size := Nat.lt_of_lt_of_le S2.out HS.out.size
                  go_wp2_with fail
                  refine (IGx.out _).mono ?_
                  rintro e w2 ⟨rfl, hw2⟩
                  obtain rfl := hw2.symm
                  go_wp2_with fail
                  refine CW.out.mono ?_
                  rintro e w2 ⟨rfl, hw2⟩
                  obtain rfl := hw2.symm
                  go_upto_region 13 with fail
                  go_region_held3 (fun Z => Z.cell? ⟨W.heap.size, 0, none⟩ = some (.int .i64 n) ∧ Z.cell? ⟨W.heap.size, 1, none⟩ = some (.slice ga E.length gcap)) (go_keep)
                    (first
                      | (refine step_copy rfl (.tmp 77) rfl rfl (by first | exact UR.out | exact UR.out.alloc _) pl8 ?_; intro v3 w3 hv3 hg3
                         first
                          | (have b3 := hid (ewk0 hg3); have O4 := hid ((hv3.mono (Nat.le_refl _)).alloc (.cells #[.int .i64 x] 3) : Own wr.heap.size (w3.alloc (.cells #[.int .i64 x] 3)) v3 pv); have B4 := hid (b3.out.alloc b3.out.size (.cells #[.int .i64 x] 3)); have C4 := hid (ewn w3 (.int .i64 x) 3))
                          | (have b3 := hid (ewk1 hg3); have O4 : Hid (Own wr.heap.size w3 v3 pv) := (hv3.mono (by show wr.heap.size ≤ (wr.alloc _).heap.size; simp)); have B4 := b3; have C4 := hid (ewc hg3))
                         have hb3s := b3.out.size
                         have hne3 : ¬ W.heap.size = w3.heap.size := (by omega)
                         have hne4 : ¬ w3.heap.size = W.heap.size := (by omega)
                         obtain ⟨k0, k1, -, -⟩ := two_cells ((b3.out.block _ hwl).trans NR.out)
                         clear hv3 hg3)
                      | (refine step_snoc rfl (.tmp 78) (.tmp 80) rfl rfl rfl O4.out C4.out pl8 B4.out.size ?_; intro v5 w5 hv5 hg5
                         have b5 := hid (ews B4.out O4.out hg5)
                         have O5 := hid (hv5.mono hwD)
                         obtain ⟨k2, k3, -, -⟩ := two_cells ((b5.out.block _ hwl).trans NR.out)
                         clear hv5 hg5)
                      | (go_at_call 20; refine (IH.out w5 x v5 DX.out O5.out (HH.out.stay wr w5 HI.out b5.out)).mono ?_; rintro e w6 ⟨rfl, s6, i6, r6⟩
                         have S6 := hid ((Save.of_below b5.out).trans s6)
                         have I6 := hid i6
                         have R6 := hid r6
                         obtain ⟨k4, k5, -, -⟩ := two_cells ((S6.out.block _ hwl fun h => by have := HH.out.small _ h; omega).trans NR.out)
                         clear s6 i6 r6))
                  all_goals
                    rcases hq : eb' x with _ | _
                    · have NX := hid (NOX.out (fun _ _ => hq))
                      have I7 := hid (I6.out hq)
                      have S7 := hid (HS.out.trans S6.out)
                      clear hq
                      go_wp2_with fail
                      go_roundw
                      case rel => exact ⟨x + 1, by omega, by go_num, I7.out, S7.out, NX.out⟩
                      case measure => simp [intOf]; omega
                    · obtain ⟨hR, hWQ⟩ := T2.out x hlt (by rw [hqb]; exact HQE.out) TL.out NO.out hq
                      have R7 := hid (R6.out hq)
                      have S7 := hid (ZW.out.trans (HS.out.trans S6.out))
                      subst hR
                      clear hq
                      go_wp2_with fail
                      go_ret
                      refine ⟨rfl, S7.out, ?_⟩
                      first
                        | simpa using R7.out
                        | (rw [hWQ]; simpa using R7.out)
      · obtain rfl : x = n := by omega
        have T3' := hid (T3.out TL.out NO.out)
        have ZZ := hid (ZW.out.trans HS.out)
        go_wp2_with fail
        go_ret
        exact ⟨by rw [T3'.out]; rfl, ZZ.out, fun _ => HI.out, fun h => by rw [T3'.out] at h; cases h⟩
end Go.Proofs.Ytjnifcfcigcngaa
