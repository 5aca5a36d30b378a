/- same.eachBetween, for whatever function is handed to it. -/
import Derived.Test.YtgdcfogikchjeaaOrdHW
import Derived.Test.YtgdcfogikchjeaaPlainAll
import Derived.Test.YtgdcfogikchjeaaRkOW
namespace Go.Proofs.Ytgdcfogikchjeaa
open Go.RowKit

theorem Save.of_lower {B : Nat} {a b : World} (h : Below B a b) : Save (fun k => B ≤ k) a b := ⟨h.os, h.tape, h.output, h.size, fun i _ hx => h.block i (by omega)⟩
/-- eachBetween's own function: are ranks kept? -/
theorem keepF_ok (n gN gI B bA bB : Nat) (p : List Nat) (vA vB : Value) (rA rB : Nat → Nat) (w : World) (hn : n ≤ 8) (hp : p.length ≤ n) (hb : Beg n p) (hO : OrdAt B w gN gI n p) (hA : RkAt w vA (2 ^ n) rA) (hB : RkAt w vB (2 ^ n) rB) (hbA : Boxed w bA 31 vA) (hbB : Boxed w bB 31 vB) :
    Calls Try.prog 89 #[ordV gN gI n p, .pointer (some ⟨bA, 0, none⟩), .pointer (some ⟨bB, 0, none⟩)] w fun e w' => e = .returned (.bool (keepB rA rB p)) ∧ Below w.heap.size w w' := by
  have B1 : Below w.heap.size w (w.alloc (.cells #[.slice (some ⟨gN, 0, none⟩) p.length n, .slice (some ⟨gI, 0, none⟩) (2 ^ p.length) (2 ^ n)] 120)) := (Below.refl _ _).alloc (Nat.le_refl _) _
  have hs0 := Save.of_below (X := fun _ => False) B1
  have K1 := hid (keepsRanks_ok n gN gI B p vA vB rA rB _ hn hp hb (hO.save hs0 id id) (hA.below B1) (hB.below B1))
  have cA := (B1.cell (p := ⟨bA, 0, none⟩) hbA.lt).trans hbA.cell
  have cB := (B1.cell (p := ⟨bB, 0, none⟩) hbB.lt).trans hbB.cell
  obtain ⟨ba, oa, ca, rfl, -, -⟩ := hA
  obtain ⟨bb, ob, cb, rfl, -, -⟩ := hB
  have HB1 := hid B1
  clear hO hs0 hbA hbB hb B1
  unfold ordV
  generalize 2 ^ p.length = K at *
  generalize 2 ^ n = T at *
  go_enter Try.func89, Try.ntmps89
  go_wp2_with fail
  refine K1.out.mono ?_
  rintro e w2 ⟨rfl, hb2⟩
  have HB2 := hid (HB1.out.trans (hb2.mono HB1.out.size))
  clear hb2 K1
  go_wp2_with fail
  go_ret
  exact ⟨rfl, HB2.out⟩
set_option maxRecDepth 20000 in
set_option maxHeartbeats 2000000 in
theorem between_ok {σ : Type} (m k gf : Nat) (cg : Array Value) (v u : Value) (l l' : List Nat) (fnd : σ → List Nat → Bool × σ) (Inv : Nat → Nat → σ → World → Prop) (s0 : σ) (w : World) (hm : m ≤ 8) (hf : Fam m l) (hb : Bas l) (h : Ints w v (N l)) (hk : k ≤ 8) (hf' : Fam k l') (hb' : Bas l') (h' : Ints w u (N l')) (eg : Enters gf)
    (hst : ∀ gN gI s W W', Inv gN gI s W → Save (fun k => k = gN ∨ k = gI) W W' → Inv gN gI s W')
    (hfnd : ∀ B gN gI s p W, w.heap.size ≤ B → Inv gN gI s W → Beg m p → p.length = m → OrdAt B W gN gI m p → B ≤ W.heap.size → Calls Try.prog gf (#[ordV gN gI m p] ++ cg) W fun e W' => e = .returned (.bool (fnd s p).1) ∧ Inv gN gI (fnd s p).2 W' ∧ Save (fun k => k < w.heap.size) W W')
    (hI : ∀ gN gI W, w.heap.size ≤ gN → w.heap.size ≤ gI → Below w.heap.size w W → Inv gN gI s0 W) :
    Calls Try.prog 84 #[.agg #[.int .i64 m, v], .agg #[.int .i64 k, u], .func (.func gf) #[] cg] w fun e W' => e = .returned (.int .i64 0) ∧ (∃ gN gI, Inv gN gI (loopL fnd (isoK m l k l') s0).2 W') ∧ w.heap.size ≤ W'.heap.size := by
  have B0 := box2_below w m v k u
  have R1 := hid (both_own m k v u l l' _ hm hf hb (h.below B0) hk hf' hb' (h'.below B0))
  have HSZ := hid (box2_size w m v k u)
  have HBL : Hid (∀ w2, Below (box2 w m v k u).heap.size (box2 w m v k u) w2 → _) := fun w2 h => box2_blocks h
  have HI := hid hI
  have EO : Hid (∀ W2 b1 b2 r r', m = k → l.length = l'.length → Below w.heap.size w W2 → RkOw w.heap.size W2 r (2 ^ m) (rk l) → RkOw w.heap.size W2 r' (2 ^ k) (rk l') → Boxed W2 b1 31 r → Boxed W2 b2 31 r' → w.heap.size ≤ b1 → w.heap.size ≤ b2 →
      Calls Try.prog 88 #[.int .i64 m, .func (.func 89) #[] #[.pointer (some ⟨b1, 0, none⟩), .pointer (some ⟨b2, 0, none⟩)], .func (.func gf) #[] cg] W2 fun e W' => e = .returned (.tuple #[]) ∧ (∃ gN gI, Inv gN gI (loopL fnd (isoK m l k l') s0).2 W') ∧ W2.heap.size ≤ W'.heap.size) := by
    intro W2 b1 b2 r r' hmk hll hw2 hr hr' hb1 hb2 h1 h2
    subst hmk
    have hs2 := hw2.size
    have E := each_ok m 89 gf #[.pointer (some ⟨b1, 0, none⟩), .pointer (some ⟨b2, 0, none⟩)] cg (fun _ => keepB (rk l) (rk l')) fnd (fun gN gI s W => Inv gN gI s W ∧ Save (fun k => k < w.heap.size) W2 W ∧ W2.heap.size ≤ gN ∧ W2.heap.size ≤ gI) s0 W2 hm (fun args w => enters_of Try.func89 (by kernel_rfl) rfl args w) eg
      (fun gN gI s a b h h3 => ⟨hst gN gI s a b h.1 h3, h.2.1.andThen h3 (fun i hi hy => by omega), h.2.2⟩)
      (fun gN gI s p W hI hbg hp0 hO hs => by
        have hle : p.length ≤ m := hO.num.cap
        refine (keepF_ok m gN gI W2.heap.size b1 b2 p r r' (rk l) (rk l') W hm hle hbg hO (hr.save hI.2.1 (fun _ h => h)).rkAt (hr'.save hI.2.1 (fun _ h => h)).rkAt ((hI.2.1.block b1 hb1.lt (by omega)).trans hb1) ((hI.2.1.block b2 hb2.lt (by omega)).trans hb2)).mono ?_
        rintro e W' ⟨rfl, hb⟩
        exact ⟨rfl, ⟨hst gN gI s W W' hI.1 (Save.of_below hb), hI.2.1.trans (Save.of_below hb), hI.2.2⟩, Save.of_below hb⟩)
      (fun gN gI s p W hI hbg hp0 hO hs => by
        refine (hfnd W2.heap.size gN gI s p W hs2 hI.1 hbg hp0 hO hs).mono ?_
        rintro e W' ⟨rfl, h3, h4⟩
        exact ⟨rfl, ⟨h3, hI.2.1.trans h4, hI.2.2⟩, h4.mono (fun _ h => by omega)⟩)
      (fun gN gI W h1 h2 h3 => ⟨hI gN gI W (by omega) (by omega) (hw2.trans (h3.mono hs2)), Save.of_below h3, h1, h2⟩)
    refine E.mono ?_
    rintro e W' ⟨rfl, ⟨gN, gI, h3⟩, h4⟩
    refine ⟨rfl, ⟨gN, gI, ?_⟩, h4⟩
    rw [walkO_eq, iso_walk hm hf hb hf' hb' (by rw [(hb.rkOn m).zero, (hb'.rkOn m).zero])] at h3
    unfold isoK
    rw [if_pos rfl]
    exact h3.1
  have HN : Hid (l.length ≠ l'.length → isoK m l k l' = []) := fun h => isoK_len hf h
  have HK : Hid (m ≠ k → isoK m l k l' = []) := fun h => if_neg h
  obtain ⟨a0, cap, hv, -, -⟩ := h.nats
  obtain ⟨a1, cap1, hu, -, -⟩ := h'.nats
  subst hv
  subst hu
  clear hst hfnd hI eg hf hb hf' hb' h h' B0
  generalize isoK m l k l' = IL at *
  generalize 2 ^ m = T at *
  generalize 2 ^ k = T' at *
  go_enter Try.func84, Try.ntmps84
  go_wp2_with fail
  refine R1.out.mono ?_
  rintro e w1 ⟨r, r', rfl, hr, hr', hb1⟩
  obtain ⟨y0, y1⟩ := HBL.out w1 hb1
  have hs1 := hb1.size
  rw [HSZ.out] at hs1
  have bw : Below w.heap.size w w1 := (box2_below w m (.slice a0 l.length cap) k (.slice a1 l'.length cap1)).trans (hb1.mono (by rw [HSZ.out]; omega))
  have hr2 := hr.mono (B' := w.heap.size) (by rw [HSZ.out]; omega)
  have hr2' := hr'.mono (B' := w.heap.size) (by rw [HSZ.out]; omega)
  have bn : Below w1.heap.size w1 ((w1.alloc (.cells #[r] 31)).alloc (.cells #[r'] 31)) := ((Below.refl _ _).alloc (Nat.le_refl _) _).alloc (by simp) _
  have x1 : Boxed ((w1.alloc (.cells #[r] 31)).alloc (.cells #[r'] 31)) w1.heap.size 31 r := (Below.heap_alloc _ _ _ (by simp)).trans (Boxed.new w1 31 r)
  have x2 : Boxed ((w1.alloc (.cells #[r] 31)).alloc (.cells #[r'] 31)) (w1.heap.size + 1) 31 r' := by
    have := Boxed.new (w1.alloc (.cells #[r] 31)) 31 r'
    rwa [World.size_alloc] at this
  have hI2 : ∃ gN gI, Inv gN gI s0 ((w1.alloc (.cells #[r] 31)).alloc (.cells #[r'] 31)) := ⟨w.heap.size, w.heap.size, HI.out _ _ _ (Nat.le_refl _) (Nat.le_refl _) (bw.trans (bn.mono bw.size))⟩
  have hsn := bn.size
  have EO2 := hid (fun e1 e2 => EO.out _ w1.heap.size (w1.heap.size + 1) r r' e1 e2 (bw.trans (bn.mono bw.size)) (hr2.below bn) (hr2'.below bn) x1 x2 (by omega) (by omega))
  obtain ⟨c0, c1⟩ := cells2 ((bn.block w.heap.size (by omega)).trans y0)
  obtain ⟨c2, c3⟩ := cells2 ((bn.block (w.heap.size + 1) (by omega)).trans y1)
  have HI2 := hid hI2
  have hsw : w.heap.size ≤ ((w1.alloc (.cells #[r] 31)).alloc (.cells #[r'] 31)).heap.size := Nat.le_trans bw.size bn.size
  obtain ⟨rb, ro, rc, rfl, -⟩ := hr
  obtain ⟨rb', ro', rc', rfl, -⟩ := hr'
  have HSW := hid hsw
  clear EO R1 HBL hb1 y0 y1 bn x1 x2 bw hI2 hr2 hr2' HSZ HI hsw hsn
  by_cases hmk : m = k
  · have hmk' : ((m : Int) != (k : Int)) = false := by simp [hmk]
    by_cases hll : l.length = l'.length
    · have hll' : ((l.length : Int) != (l'.length : Int)) = false := by simp [hll]
      have E3 := hid (EO2.out hmk hll)
      clear hmk hll EO2 HN HK HI2
      go_wp2_with fail
      refine E3.out.mono ?_
      rintro e w3 ⟨rfl, h3, h4⟩
      have H3 := hid h3
      have H4 := hid (Nat.le_trans HSW.out h4)
      clear h3 h4 E3
      go_wp2_with fail
      go_ret
      exact ⟨rfl, H3.out, H4.out⟩
    · have hll' : ((l.length : Int) != (l'.length : Int)) = true := by rw [bne_iff_ne]; omega
      have e0 := hid (HN.out hll)
      clear hmk hll EO2 HN HK
      go_wp2_with fail
      go_ret
      exact ⟨rfl, by rw [e0.out]; exact HI2.out, HSW.out⟩
  · have hmk' : ((m : Int) != (k : Int)) = true := by rw [bne_iff_ne]; omega
    have e0 := hid (HK.out hmk)
    clear hmk EO2 HN HK
    go_wp2_with fail
    go_ret
    exact ⟨rfl, by rw [e0.out]; exact HI2.out, HSW.out⟩
end Go.Proofs.Ytgdcfogikchjeaa
