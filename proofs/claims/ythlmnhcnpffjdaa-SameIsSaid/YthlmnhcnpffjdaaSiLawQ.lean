/- The law rotakeep.SameIs. -/
import Derived.Test.YthlmnhcnpffjdaaCanCQ
import Derived.Test.YthlmnhcnpffjdaaObtAQ
import Derived.Test.YthlmnhcnpffjdaaRefSetQ
import Derived.Deep.CutRange
import Derived.Deep.RegionHeld3
namespace Go.Proofs.Ythlmnhcnpffjdaa
open Go.RowKit

theorem two_group : (isoL 4 twoL twoL).length = 24 := by decide +kernel
/-- What stays while the law runs. -/
def Base1 (w W : World) (n : Int) (v : Value) : Prop := Below w.heap.size w W ∧ w.heap.size + 1 ≤ W.heap.size ∧ W.heap[w.heap.size]? = some (.cells #[.int .i64 n, v] 24 (0, 0))
theorem Base1.next {w W W' : World} {n : Int} {v : Value} (h : Base1 w W n v) (hb : Below W.heap.size W W') : Base1 w W' n v := by
  obtain ⟨h1, h2, h3⟩ := h
  exact ⟨h1.trans (hb.mono h1.size), Nat.le_trans h2 hb.size, (hb.block w.heap.size (by omega)).trans h3⟩
theorem Base1.cells {w W : World} {n : Int} {v : Value} (h : Base1 w W n v) : W.cell? ⟨w.heap.size, 0, none⟩ = some (.int .i64 n) ∧ W.cell? ⟨w.heap.size, 1, none⟩ = some v := cells2 h.2.2
theorem Base1.new (w : World) (n : Int) (v : Value) : Base1 w (w.alloc (.cells #[.int .i64 n, v] 24)) n v := ⟨(Below.refl _ _).alloc (Nat.le_refl _) _, by simp, World.alloc_heap_new w _⟩
/-- What a struct variable of the law's own holds. -/
def Var1 (B : Nat) (W : World) (b : Nat) (n : Int) (r : Value) (L : List Nat) : Prop := W.heap[b]? = some (.cells #[.int .i64 n, r] 24 (0, 0)) ∧ Own B W r L
theorem Var1.next {B : Nat} {W W' : World} {b : Nat} {n : Int} {r : Value} {L : List Nat} (h : Var1 B W b n r L) (hb : Below W.heap.size W W') : Var1 B W' b n r L := ⟨(hb.block b (Array.getElem?_eq_some_iff.1 h.1).1).trans h.1, h.2.below hb⟩
theorem Var1.new {B : Nat} {W : World} {n : Int} {r : Value} {L : List Nat} (h : Own B W r L) : Var1 B (W.alloc (.cells #[.int .i64 n, r] 24)) W.heap.size n r L := ⟨World.alloc_heap_new W _, h.below ((Below.refl _ _).alloc (Nat.le_refl _) _)⟩
theorem Var1.cells {B : Nat} {W : World} {b : Nat} {n : Int} {r : Value} {L : List Nat} (h : Var1 B W b n r L) : W.cell? ⟨b, 0, none⟩ = some (.int .i64 n) ∧ W.cell? ⟨b, 1, none⟩ = some r := cells2 h.1
theorem alloc_next (W : World) (o : Obj) : Below W.heap.size W (W.alloc o) := (Below.refl _ _).alloc (Nat.le_refl _) _
theorem fac_end (k m : Nat) (h : k = 2 ∨ k ≤ m + 1) (hlt : ¬ k ≤ m) : fac (k - 1) = fac m := by
  rcases h with rfl | h
  · obtain rfl | rfl : m = 0 ∨ m = 1 := by omega
    · rfl
    · rfl
  · congr 1; omega
theorem fac_step (k : Nat) (h2 : 2 ≤ k) (h8 : k ≤ 8) : ∃ f1, Hid (fac (k - 1) = f1) ∧ ∃ f2, Hid (fac k = f2) ∧ (f1 : Int) * (k : Int) = (f2 : Int) ∧ wrap64 (f2 : Int) = (f2 : Int) := by
  refine ⟨_, Eq.refl (fac (k - 1)), _, Eq.refl (fac k), ?_, ?_⟩
  · have hfk : fac (k - 1) * k = fac k := by
      obtain ⟨j, rfl⟩ : ∃ j, k = j + 1 := ⟨k - 1, by omega⟩
      rw [Nat.add_sub_cancel, fac, Nat.mul_comm]
    rw [← hfk]
    simp
  · rw [← IntWalk.i64_left]
    exact wrap_i64_nat _ (Nat.lt_of_le_of_lt (fac_le h8) (by decide))
set_option maxRecDepth 100000 in
set_option maxHeartbeats 4000000 in
theorem sis_good (m : Nat) (v u : Value) (l : List Nat) (ps : List Int) (w : World) (h : Ints w v (N l)) (hu : Ints w u ps) (hm : m ≤ 8) (hf : Fam m l) (hb : Bas l) :
    Calls Try.prog 4 #[.agg #[.int .i64 m, v], u] w fun e w' => e = .returned (.bool true) ∧ Below w.heap.size w w' := by
  have CK := hid (fun w' (hb0 : Below w.heap.size w w') => check_any m v (N l) w' (h.below hb0))
  rw [chk_mk hm hf hb] at CK
  have CN := hid (fun w' (hb0 : Below w.heap.size w w') => Canon_ok m v l w' hm hf hb (h.below hb0))
  have GR := hid (fun w' (hb0 : Below w.heap.size w w') => Group_ok m v l w' hm hf hb (h.below hb0))
  have OB := hid (fun w' (hb0 : Below w.heap.size w w') => Orbits_ok m v l w' hm hf hb (h.below hb0))
  obtain ⟨⟨pc, ⟨pc1, pc2⟩, pc3⟩, -⟩ := can_spec (n := m) (A := l) hf
  have cb : Bas (canL m l) := by rw [← pc3]; exact pc1.ren_bas hm pc2 hf hb
  have IS := hid (fun vc w' (hb0 : Below w.heap.size w w') (hc : Ints w' vc (N (canL m l))) => Isomorphic_ok m m v vc l (canL m l) w' hm hf hb (h.below hb0) hm (can_fam m l) cb hc)
  obtain ⟨q, hq⟩ : ∃ q, (isoK m l m (canL m l)).head? = some q := by
    unfold isoK
    rw [if_pos rfl]
    have : pc ∈ isoL m l (canL m l) := isoL_mem.2 ⟨⟨pc1, pc2⟩, pc3⟩
    cases e : isoL m l (canL m l) with
    | nil => rw [e] at this; cases this
    | cons a b => exact ⟨a, rfl⟩
  have hq2 : (Beg m q ∧ q.length = m) ∧ renL m q l = canL m l := by
    refine isoL_mem.1 ?_
    have := List.mem_of_mem_head? (show q ∈ (isoK m l m (canL m l)).head? from hq)
    unfold isoK at this
    rwa [if_pos rfl] at this
  have RN := hid (fun vq w' (hb0 : Below w.heap.size w w') (hc : Ints w' vq (N q)) => Rename_ok m v vq l q w' hm hf hb (h.below hb0) hc hq2.1.1 hq2.1.2)
  rw [hq2.2] at RN
  rw [hq] at IS
  have ha0 : ansE (some q) = 0 := rfl
  have hq8 : q.length ≤ 8 := by rw [hq2.1.2]; exact hm
  clear hq2
  obtain ⟨a0, c0, hv, -, -⟩ := h.nats
  obtain ⟨a1, c1, hu', -, -⟩ := id hu
  subst hv
  subst hu'
  have S0 := hid (Base1.new w m (.slice a0 l.length c0))
  generalize hW1 : w.alloc (.cells #[.int .i64 m, .slice a0 l.length c0] 24) = W1 at *
  clear pc1 pc2 pc3 hq
  go_enter Try.func4, Try.ntmps4
  go_wp2_with fail
  refine (two_any _).mono ?_
  rintro e w5 ⟨v5, rfl, hi5, hb5⟩
  have S5 := hid (S0.out.next hb5)
  have G0 := hid (Group_ok 4 v5 twoL w5 (by decide) two_fam two_bas hi5)
  rw [two_group] at G0
  obtain ⟨a5, c5, rfl, -, -⟩ := hi5
  clear hb5 S0 hW1
  go_wp2_with fail
  refine G0.out.mono ?_
  rintro e w6 ⟨rfl, hb6⟩
  have S6 := hid (S5.out.next hb6)
  clear hb6 S5 G0
  obtain ⟨z0, z1⟩ := S6.out.cells
  have C1 := hid (CK.out w6 S6.out.1)
  clear CK
  go_wp2_with fail
  refine C1.out.mono ?_
  rintro e w7 ⟨rfl, hb7⟩
  have S7 := hid (S6.out.next hb7)
  clear hb7 S6 C1 z0 z1
  obtain ⟨z0, z1⟩ := S7.out.cells
  have C1 := hid (CN.out w7 S7.out.1)
  clear CN
  go_wp2_with fail
  refine C1.out.mono ?_
  rintro e w8 ⟨r8, rfl, ho8, hb8⟩
  have S8 := hid (S7.out.next hb8)
  clear hb8 S7 C1 z0 z1
  obtain ⟨z0, z1⟩ := S8.out.cells
  obtain ⟨ra, rc, rfl⟩ := ownsRow_form' ho8
  have lC : (canL m l).length ≤ 256 := fam_len hm (can_fam m l)
  have lO : (orbL m l).length ≤ 256 := fam_len hm (orb_fam m l)
  have VC := hid (Var1.new (n := m) ho8)
  have S9 := hid (S8.out.next (alloc_next w8 (.cells #[.int .i64 m, .slice ra (canL m l).length rc] 24)))
  clear z0 z1 ho8
  obtain ⟨z0, z1⟩ := S9.out.cells
  have C1 := hid (GR.out _ S9.out.1)
  clear GR
  go_wp2_with fail
  refine C1.out.mono ?_
  rintro e w10 ⟨rfl, hb10⟩
  have S10 := hid (S9.out.next hb10)
  have VC10 := hid (VC.out.next hb10)
  clear hb10 S9 C1 z0 z1 VC S8
  obtain ⟨z0, z1⟩ := S10.out.cells
  have C1 := hid (OB.out _ S10.out.1)
  clear OB
  go_wp2_with fail
  refine C1.out.mono ?_
  rintro e w11 ⟨rO, rfl, ho11, hb11⟩
  have S11 := hid (S10.out.next hb11)
  have VC11 := hid (VC10.out.next hb11)
  have VO11 := hid ho11
  obtain ⟨oa, oc, rfl⟩ := ownsRow_form' ho11
  clear hb11 S10 C1 z0 z1 VC10 ho11
  obtain ⟨z0, z1⟩ := S11.out.cells
  obtain ⟨y0, y1⟩ := VC11.out.cells
  have C1 := hid (IS.out _ _ S11.out.1 (VC11.out.2.ints (by omega)))
  clear IS
  go_wp2_with fail
  refine C1.out.mono ?_
  rintro e w12 ⟨rQ, rfl, ho12, hb12⟩
  have S12 := hid (S11.out.next hb12)
  have VC12 := hid (VC11.out.next hb12)
  have VO12 := hid (VO11.out.below hb12)
  have VQ12 : Hid (Own w11.heap.size w12 rQ q) := ho12
  obtain ⟨qa, qc, rfl⟩ := ownsRow_form' VQ12.out
  have C1 := hid (RN.out _ _ S12.out.1 (VQ12.out.ints (by omega)))
  clear hb12 S11 z0 z1 y0 y1 VC11 ho12 VO11 RN VQ12
  obtain ⟨z0, z1⟩ := S12.out.cells
  obtain ⟨y0, y1⟩ := VC12.out.cells
  go_wp2_with fail
  refine C1.out.mono ?_
  rintro e w13 ⟨rD, rfl, ho13, hb13⟩
  have S13 := hid (S12.out.next hb13)
  have VC13 := hid (VC12.out.next hb13)
  have VO13 := hid (VO12.out.below hb13)
  have VD13 := hid (Var1.new (n := m) ho13)
  obtain ⟨da, dc, rfl⟩ := ownsRow_form' ho13
  have B14 := alloc_next w13 (.cells #[.int .i64 m, .slice da (canL m l).length dc] 24)
  have S14 := hid (S13.out.next B14)
  have VC14 := hid (VC13.out.next B14)
  have VO14 := hid (VO13.out.below B14)
  have C2 := hid (SameMatroid_any m m _ _ _ _ _ (VD13.out.2.ints (by omega)) (VC14.out.2.ints (by omega)))
  rw [decide_eq_true rfl, decide_eq_true rfl, Bool.and_true] at C2
  clear hb13 S12 z0 z1 y0 y1 VC12 ho13 VO12 C1 B14 S13 VC13 VO13
  obtain ⟨z0, z1⟩ := S14.out.cells
  obtain ⟨y0, y1⟩ := VC14.out.cells
  obtain ⟨d0, d1⟩ := VD13.out.cells
  go_wp2_with fail
  refine C2.out.mono ?_
  rintro e w15 ⟨rfl, hb15⟩
  have S15 := hid (S14.out.next hb15)
  have VC15 := hid (VC14.out.next hb15)
  have VO15 := hid (VO14.out.below hb15)
  clear hb15 S14 z0 z1 y0 y1 d0 d1 VC14 VO14 C2 VD13
  obtain ⟨z0, z1⟩ := S15.out.cells
  have hg0 := iso_pos (n := m) (A := l) hf
  have hgl := iso_len hm l l
  have HGD := hid (tmod_nat _ _ (iso_divides (n := m) (A := l) hf))
  have HOF : Hid (∀ i, i < (orbL m l).length → orT (orbL m l) i &&& (orbL m l).getD i 0 = 0 ∧ pop ((orbL m l).getD i 0) ≠ 0 ∧ Int.tmod ((isoL m l l).length : Int) (pop ((orbL m l).getD i 0) : Int) = 0 ∧ (orbL m l).getD i 0 < 2 ^ m ∧ orT (orbL m l) i < 2 ^ m ∧ orT (orbL m l) (i + 1) = orT (orbL m l) i ||| (orbL m l).getD i 0) := fun i hi => by
    have hmem : (orbL m l).getD i 0 ∈ orbL m l := by simp [List.getD, hi]
    exact ⟨orb_free hf hi, orb_pos hm hf hmem, tmod_nat _ _ (orb_divides hm hf hmem), (orb_fam m l).lt _ hmem, orT_lt (orb_fam m l).lt i, orT_succ hi⟩
  have HOA := hid (orb_all (n := m) (A := l) hf)
  have hfl := fac_le hm
  have HGR := hid (fun p (h1 : Beg m p) (h2 : p.length = m) => iso_ren (A := l) hf h1 h2)
  have HCR := hid (fun p (h1 : Beg m p) (h2 : p.length = m) => can_ren (A := l) hf h1 h2)
  have HF := hid hf
  have HBS := hid hb
  have HIV := hid h
  have HIU := hid hu
  clear hf hb h hu cb
  generalize (isoL m l l).length = g at *
  generalize canL m l = C at *
  generalize orbL m l = OL at *
  go_wp2_with fail
  go_loopw [17, 19] (fun ax kx wr => ∃ k : Nat, 2 ≤ k ∧ (k = 2 ∨ k ≤ m + 1) ∧ kx = .int .i64 k ∧ ax = .int .i64 (fac (k - 1) : Nat) ∧ wr = w15) (fun _ kx _ => m + 2 - (intOf kx).toNat)
  case atStart => exact ⟨2, Nat.le_refl _, .inl rfl, rfl, rfl, rfl⟩
  case round =>
    obtain ⟨k, hk2, hkm, rfl, rfl, rfl⟩ := hrel
    by_cases hlt : k ≤ m
    · have hlt' : (k : Int) ≤ (m : Int) := by omega
      have hmeas : m + 2 - (k + 1) < m + 2 - k := by omega
      have hk3 : 2 ≤ k + 1 := by omega
      have hk4 : k + 1 ≤ m + 1 := by omega
      obtain ⟨f1, Hf1, f2, Hf2, hm1, hm2⟩ := fac_step k hk2 (Nat.le_trans hlt hm)
      have HM2 := hid hm2
      clear hm2
      rw [Hf1.out]
      clear HGR HCR HOF HOA HGD hkm hk2
      go_wp2_with fail
      clear hm1
      go_roundw
      case rel => exact ⟨k + 1, hk3, .inr hk4, by go_num, by rw [Nat.add_sub_cancel, Hf2.out, HM2.out], trivial⟩
      case measure => exact hmeas
    · have hlt' : ¬ (k : Int) ≤ (m : Int) := by omega
      have hfm : fac (k - 1) = fac m := by
        exact fac_end k m hkm hlt
      rw [hfm]
      clear hfm hlt hkm hk2
      generalize fac m = F at *
      have SZ := hid (fun s w' (hs : s < 256) => Size_any s w' hs)
      have h2m := (pow_wrap m hm).2
      have hz0 : orT OL 0 = 0 := rfl
      go_wp2_with fail
      clear z0 z1
      go_loopw [18, 99] (fun sx jx wr => ∃ i : Nat, i ≤ OL.length ∧ jx = .int .i64 i ∧ sx = .int .i64 (orT OL i : Nat) ∧ Hid (Base1 w wr m (.slice a0 l.length c0)) ∧ Hid (Var1 w7.heap.size wr w8.heap.size m (.slice ra C.length rc) C) ∧ Hid (Own w10.heap.size wr (.slice oa OL.length oc) OL)) (fun _ jx _ => OL.length - (intOf jx).toNat)
      case atStart => exact ⟨0, Nat.zero_le _, rfl, by rw [hz0]; rfl, S15, VC15, VO15⟩
      case round =>
        obtain ⟨i, hi, rfl, rfl, S16, VC16, VO16⟩ := hrel
        clear S15 VC15 VO15 hz0
        by_cases hlt : i < OL.length
        · have hlt' : (i : Int) < (OL.length : Int) := by omega
          have hmeas : OL.length - (i + 1) < OL.length - i := by omega
          obtain ⟨o1, o2, o3, o4, o5, o6⟩ := HOF.out i hlt
          obtain ⟨ob, oo, rfl, hob, hoc⟩ : ∃ ob oo, oa = some ⟨ob, oo, none⟩ ∧ ob < wr.heap.size ∧ wr.cell? ⟨ob, oo + i, none⟩ = some (.int .i64 (OL.getD i 0 : Nat)) := by
            obtain ⟨a9, c9, e9, -, hc9⟩ := (VO16.out.ints (by omega)).nats
            obtain ⟨b9, o9, h91, h92, h93⟩ := hc9 (by omega)
            simp only [Value.slice.injEq] at e9
            exact ⟨b9, o9, by rw [e9.1]; exact h91, h92, h93 i hlt⟩
          have H6 := hid o6
          clear o6 HOF HOA HGD HGR HCR
          generalize OL.getD i 0 = s at *
          obtain ⟨e2, He2⟩ : ∃ e2, Hid (orT OL (i + 1) = e2) := ⟨_, Eq.refl (orT OL (i + 1))⟩
          rw [He2.out] at H6
          generalize orT OL i = e1 at *
          have hand : bits .and .i64 (e1 : Int) (s : Int) = 0 := by rw [i64_and_nat _ _ (by omega) (by omega), o1]; rfl
          have hor : bits .or .i64 (e1 : Int) (s : Int) = (e2 : Int) := by rw [i64_or_nat _ _ (by omega) (by omega), H6.out]
          have C2 := hid (SZ.out s wr (by omega))
          have ps0 : ¬ ((pop s : Nat) : Int) = 0 := by omega
          clear o1 o2 H6
          generalize pop s = t at *
          go_wp2_with fail
          refine C2.out.mono ?_
          rintro e w17 ⟨rfl, hb17⟩
          have S17 := hid (S16.out.next hb17)
          have VC17 := hid (VC16.out.next hb17)
          have VO17 := hid (VO16.out.below hb17)
          clear hb17 C2 S16 VC16 VO16
          go_wp2_with fail
          go_roundw
          case rel => exact ⟨i + 1, hlt, by go_num, by rw [He2.out], S17, VC17, VO17⟩
          case measure => exact hmeas
        · obtain rfl : i = OL.length := by omega
          have hlt' : ¬ ((OL.length : Nat) : Int) < ((OL.length : Nat) : Int) := by omega
          have hT1 : 1 ≤ 2 ^ m := Nat.one_le_two_pow
          rw [HOA.out, show ((2 ^ m - 1 : Nat) : Int) = ((2 ^ m : Nat) : Int) - 1 by omega]
          have AL := hid (fun w' => All_any m w' hm)
          have hmod := HGD.out
          have hg9 : ¬ ((g : Nat) : Int) = 0 := by omega
          clear HOF HOA HGD SZ VO16
          obtain ⟨z0, z1⟩ := S16.out.cells
          by_cases hz : OrdZ m ps
          · obtain ⟨p, rfl, hp, hpl⟩ := hz
            have kf := ren_fam m p l
            have kb := hp.ren_bas hm hpl HF.out HBS.out
            have RN := hid (Rename_ok m _ _ l p wr hm HF.out HBS.out (HIV.out.below S16.out.1) (HIU.out.below S16.out.1) hp hpl)
            have CN := hid (fun vk w' (hk : Ints w' vk (N (renL m p l))) => Canon_ok m vk _ w' hm kf kb hk)
            rw [HCR.out p hp hpl] at CN
            have GR := hid (fun vk w' (hk : Ints w' vk (N (renL m p l))) => Group_ok m vk _ w' hm kf kb hk)
            rw [HGR.out p hp hpl] at GR
            have IS := hid (fun vk w' (hb0 : Below w.heap.size w w') (hk : Ints w' vk (N (renL m p l))) => Isomorphic_ok m m vk _ (renL m p l) l w' hm kf kb hk hm HF.out HBS.out (HIV.out.below hb0))
            have hE : ansE (isoK m (renL m p l) m l).head? = 0 := by
              obtain ⟨g3, g4, _⟩ := inv_beg hp hpl
              have hmem : invL m p ∈ isoL m (renL m p l) l := isoL_mem.2 ⟨⟨g3, g4⟩, ren_inv HF.out hp hpl⟩
              unfold isoK ansE
              rw [if_pos rfl]
              cases e : isoL m (renL m p l) l with
              | nil => rw [e] at hmem; cases hmem
              | cons a b => rfl
            have lK := fam_len hm kf
            rw [hE] at IS
            rw [N_len] at *
            clear HF HBS HGR HCR HIU HIV hp hpl kf kb hE
            generalize renL m p l = K at *
            generalize (isoK m K m l).head?.getD [] = IH at *
            generalize 2 ^ m = T at *
            go_wp2_with fail
            refine (AL.out _).mono ?_
            rintro e w' ⟨rfl, hw'⟩
            obtain rfl := hw'.symm
            clear AL
            go_wp2_with fail
            refine RN.out.mono ?_
            rintro e w17 ⟨rK, rfl, ho17, hb17⟩
            have S17 := hid (S16.out.next hb17)
            have VC17 := hid (VC16.out.next hb17)
            have VK17 := hid (Var1.new (n := m) ho17)
            obtain ⟨ka, kc, rfl⟩ := ownsRow_form' ho17
            have B18 := alloc_next w17 (.cells #[.int .i64 m, .slice ka K.length kc] 24)
            have S18 := hid (S17.out.next B18)
            have VC18 := hid (VC17.out.next B18)
            have C2 := hid (CN.out _ _ (VK17.out.2.ints (by omega)))
            obtain ⟨y0, y1⟩ := VK17.out.cells
            clear RN CN ho17 hb17 S16 VC16 B18 S17 VC17 z0 z1
            obtain ⟨z0, z1⟩ := S18.out.cells
            go_wp2_with fail
            refine C2.out.mono ?_
            rintro e w19 ⟨rX, rfl, ho19, hb19⟩
            have S19 := hid (S18.out.next hb19)
            have VC19 := hid (VC18.out.next hb19)
            have VK19 := hid (VK17.out.next hb19)
            have VX20 := hid (Var1.new (n := m) ho19)
            obtain ⟨xa, xc, rfl⟩ := ownsRow_form' ho19
            have B20 := alloc_next w19 (.cells #[.int .i64 m, .slice xa C.length xc] 24)
            have S20 := hid (S19.out.next B20)
            have VC20 := hid (VC19.out.next B20)
            have VK20 := hid (VK19.out.next B20)
            have C3 := hid (GR.out _ _ (VK20.out.2.ints (by omega)))
            clear C2 GR ho19 hb19 S18 VC18 VK17 S19 VC19 VK19 y0 y1 z0 z1 B20
            obtain ⟨y0, y1⟩ := VK20.out.cells
            obtain ⟨z0, z1⟩ := S20.out.cells
            go_wp2_with fail
            refine C3.out.mono ?_
            rintro e w21 ⟨rfl, hb21⟩
            have S21 := hid (S20.out.next hb21)
            have VC21 := hid (VC20.out.next hb21)
            have VK21 := hid (VK20.out.next hb21)
            have VX21 := hid (VX20.out.next hb21)
            have C4 := hid (IS.out _ _ S21.out.1 (VK21.out.2.ints (by omega)))
            clear C3 IS hb21 S20 VC20 VK20 VX20 y0 y1 z0 z1
            obtain ⟨y0, y1⟩ := VK21.out.cells
            obtain ⟨z0, z1⟩ := S21.out.cells
            go_wp2_with fail
            refine C4.out.mono ?_
            rintro e w22 ⟨rI, rfl, ho22, hb22⟩
            obtain ⟨ia, ic, rfl⟩ := ownsRow_form' ho22
            have S22 := hid (S21.out.next hb22)
            have VC22 := hid (VC21.out.next hb22)
            have VX22 := hid (VX21.out.next hb22)
            have C5 := hid (SameMatroid_any m m _ _ _ _ _ (VX22.out.2.ints (by omega)) (VC22.out.2.ints (by omega)))
            rw [decide_eq_true rfl, decide_eq_true rfl, Bool.and_true] at C5
            clear C4 hb22 ho22 S21 VC21 VK21 VX21 y0 y1 z0 z1
            obtain ⟨y0, y1⟩ := VC22.out.cells
            obtain ⟨x0, x1⟩ := VX22.out.cells
            go_wp2_with fail
            refine C5.out.mono ?_
            rintro e w23 ⟨rfl, hb23⟩
            have S23 := hid (S22.out.next hb23)
            clear C5 hb23 S22 y0 y1 x0 x1
            go_wp2_with fail
            go_ret
            exact ⟨ret_bool (by simp), S23.out.1⟩
          · have RN := hid (Rename_arg m _ _ l ps wr hm HF.out HBS.out (HIV.out.below S16.out.1) (HIU.out.below S16.out.1) hz)
            clear HF HBS HGR HCR HIU HIV hz
            generalize 2 ^ m = T at *
            go_wp2_with fail
            refine (AL.out _).mono ?_
            rintro e w' ⟨rfl, hw'⟩
            obtain rfl := hw'.symm
            clear AL
            go_wp2_with fail
            refine RN.out.mono ?_
            rintro e w17 ⟨rfl, hb17⟩
            have S17 := hid (S16.out.next hb17)
            have S18 := hid (S17.out.next (alloc_next w17 (.cells #[.int .i64 0, .slice none 0 0] 24)))
            obtain ⟨y0, y1⟩ := cells2 (World.alloc_heap_new w17 (.cells #[.int .i64 0, .slice none 0 0] 24))
            clear RN hb17 S16 z0 z1 S17
            go_wp2_with fail
            go_ret
            exact ⟨rfl, S18.out.1⟩
set_option maxRecDepth 100000 in
set_option maxHeartbeats 2000000 in
theorem sis_bad (n : Int) (v u : Value) (zs ps : List Int) (w : World) (h : Ints w v zs) (hu : Ints w u ps) (hc : chkR n zs ≠ 0) :
    Calls Try.prog 4 #[.agg #[.int .i64 n, v], u] w fun e w' => e = .returned (.bool true) ∧ Below w.heap.size w w' := by
  have CK := hid (fun w' (hb0 : Below w.heap.size w w') => check_any n v zs w' (h.below hb0))
  obtain ⟨a0, c0, hv, -, -⟩ := h
  obtain ⟨a1, c1, hu', -, -⟩ := hu
  subst hv
  subst hu'
  have S0 := hid (Base1.new w n (.slice a0 zs.length c0))
  generalize hW1 : w.alloc (.cells #[.int .i64 n, .slice a0 zs.length c0] 24) = W1 at *
  generalize chkR n zs = qc at *
  have hc' : (qc != 0) = true := by simp [hc]
  go_enter Try.func4, Try.ntmps4
  go_wp2_with fail
  refine (two_any _).mono ?_
  rintro e w5 ⟨v5, rfl, hi5, hb5⟩
  have S5 := hid (S0.out.next hb5)
  have G0 := hid (Group_ok 4 v5 twoL w5 (by decide) two_fam two_bas hi5)
  rw [two_group] at G0
  obtain ⟨a5, c5, rfl, -, -⟩ := hi5
  clear hb5 S0 hW1
  go_wp2_with fail
  refine G0.out.mono ?_
  rintro e w6 ⟨rfl, hb6⟩
  have S6 := hid (S5.out.next hb6)
  clear hb6 S5 G0
  obtain ⟨z0, z1⟩ := S6.out.cells
  have C1 := hid (CK.out w6 S6.out.1)
  clear CK
  go_wp2_with fail
  refine C1.out.mono ?_
  rintro e w7 ⟨rfl, hb7⟩
  have S7 := hid (S6.out.next hb7)
  clear hb7 S6 C1 z0 z1
  go_wp2_with fail
  go_ret
  exact ⟨rfl, S7.out.1⟩
theorem sis_law (n : Int) (v : Value) (zs : List Int) (u : Value) (ps : List Int) (w : World) (h : Ints w v zs) (hu : Ints w u ps) :
    Calls Try.prog 4 #[.agg #[.int .i64 n, v], u] w fun e w' => e = .returned (.bool true) ∧ Below w.heap.size w w' := by
  by_cases hc : chkR n zs = 0
  · obtain ⟨m, l, rfl, hm, rfl, hf, hb⟩ := chk_of hc
    exact sis_good m v u l ps w h hu hm hf hb
  · exact sis_bad n v u zs ps w h hu hc
end Go.Proofs.Ythlmnhcnpffjdaa
