/- The calls of package axioms that make a matroid, at what a matroid tells. -/
import Derived.Test.YthbldeloocmakaaEqQ
import Derived.Test.YthbldeloocmakaaBinQ
import Derived.Test.YthbldeloocmakaaCplQ
import Derived.Test.YthbldeloocmakaaSpareQ
import Derived.Test.YthbldeloocmakaaLeastW
import Derived.Test.YthbldeloocmakaaAxQ
namespace Go.Proofs.Ythbldeloocmakaa
open Go.RowKit

theorem RkAt.nats {w : World} {v : Value} {T : Nat} {r : Nat → Nat} (h : RkAt w v T r) (hT : T ≤ 256) : Ints w v (N ((List.range T).map r)) := by
  obtain ⟨b, off, cap, rfl, hb, hc⟩ := h
  refine ⟨_, cap, by rw [N_len]; simp, by rw [N_len]; simp; omega, fun _ => ⟨b, off, rfl, hb, fun i hi => ?_⟩⟩
  rw [N_len] at hi
  simp at hi
  rw [hc i hi, N_getD]
  simp [List.getD, hi]
theorem Ints.rkAt {w : World} {v : Value} {T : Nat} {r : Nat → Nat} (h : Ints w v (N ((List.range T).map r))) (hT : 0 < T) : RkAt w v T r := by
  obtain ⟨a, cap, hv, _, hc⟩ := h.nats
  simp only [List.length_map, List.length_range] at hv hc
  obtain ⟨b, off, rfl, hb, hcell⟩ := hc hT
  refine ⟨b, off, cap, hv, hb, fun i hi => ?_⟩
  rw [hcell i hi]
  simp [List.getD, hi]
/-- The function tells this list of every matroid with these bases. -/
def Tells (g m : Nat) (l : List Nat) (zs : List Int) : Prop := ∀ (r : Value) (w : World), Ints w r (N l) → Calls Try.prog g #[.agg #[.int .i64 m, r]] w fun e w' => ∃ r', e = .returned (.tuple #[r', .int .i64 0]) ∧ Ints w' r' zs ∧ Below w.heap.size w w'
theorem tells_ind {m : Nat} {l : List Nat} (hm : m ≤ 8) (hf : Fam m l) (hb : Bas l) : Tells 18 m l (N (indL m l)) := fun r w h =>
  (Independents_ok m r l w hm hf hb h).mono fun _ _ ⟨r', h1, h2, h3⟩ => ⟨r', h1, h2.ints (ran_len hm _), h3⟩
theorem tells_cir {m : Nat} {l : List Nat} (hm : m ≤ 8) (hf : Fam m l) (hb : Bas l) : Tells 19 m l (N (cirL m l)) := fun r w h =>
  (Circuits_ok m r l w hm hf hb h).mono fun _ _ ⟨r', h1, h2, h3⟩ => ⟨r', h1, h2.ints (ran_len hm _), h3⟩
theorem tells_flat {m : Nat} {l : List Nat} (hm : m ≤ 8) (hf : Fam m l) (hb : Bas l) : Tells 21 m l (N (flatL m l)) := fun r w h =>
  (Flats_ok m r l w hm hf hb h).mono fun _ _ ⟨r', h1, h2, h3⟩ => ⟨r', h1, h2.ints (ran_len hm _), h3⟩
theorem tells_hyp {m : Nat} {l : List Nat} (hm : m ≤ 8) (hf : Fam m l) (hb : Bas l) : Tells 22 m l (N ((List.range (2 ^ m)).filter (hypB (rk l) m))) := fun r w h =>
  (Hyperplanes_ok m r l w hm hf hb h).mono fun _ _ ⟨r', h1, h2, h3⟩ => ⟨r', h1, h2.ints (ran_len hm _), h3⟩
theorem tells_rk {m : Nat} {l : List Nat} (hm : m ≤ 8) (hf : Fam m l) (hb : Bas l) : Tells 20 m l (N ((List.range (2 ^ m)).map (rk l))) := fun r w h =>
  (Ranks_ok m r l w hm hf hb h).mono fun _ _ ⟨r', h1, h2, h3⟩ => ⟨r', h1, h2.nats (pow_wrap m hm).2, h3⟩
theorem made_ok {g m : Nat} {l : List Nat} {zs : List Int} (ht : Tells g m l zs) (eg : Enters g) {v u : Value} {w : World} (hv : Ints w v (N l)) (hu : Ints w u zs) :
    Calls Try.prog 73 #[.agg #[.int .i64 m, v], .func (.func g) #[] #[], u] w fun e w' => e = .returned (.tuple #[.agg #[.int .i64 m, v], .int .i64 0]) ∧ Below w.heap.size w w' := by
  have := madeOf_ok g m v u (N l) zs zs w hv hu eg (fun w1 hb1 => ht v w1 (hv.below hb1))
  rw [if_pos (by simp)] at this
  exact this
theorem box1 {w w2 : World} (hb2 : Below (w.alloc (.cells #[.int .i64 0, .slice none 0 0] 24)).heap.size (w.alloc (.cells #[.int .i64 0, .slice none 0 0] 24)) w2) : w2.heap[w.heap.size]? = some (.cells #[.int .i64 0, .slice none 0 0] 24 (0, 0)) ∧ w.heap.size < w2.heap.size :=
  ⟨(hb2.block _ (by simp)).trans (World.alloc_heap_new w _), by have := hb2.size; simp at this; omega⟩

set_option maxHeartbeats 1600000 in
theorem OfInd_ok (m : Nat) (u : Value) (l : List Nat) (w : World) (hm : m ≤ 8) (hf : Fam m l) (hb : Bas l) (h : Ints w u (N (indL m l))) :
    Calls Try.prog 28 #[.int .i64 m, u] w (GivesM w m l) := by
  have HU := hid h
  have HIF := hid (Fam.range m (fun s => rk l s == pop s))
  have HM := hid (fun w1 (hb1 : Below w.heap.size w w1) => Most_good m u (indL m l) w1 (HIF.out.lt256 hm) (HU.out.below hb1) (fam_mk hm HIF.out))
  rw [most_ind hm hf hb] at HM
  obtain ⟨a, cap, hv, _, _⟩ := h.nats
  subst hv
  have HB0 := hid (below_box w #[.int .i64 0, .slice none 0 0])
  have HC := hid (HM.out _ HB0.out)
  have TL := hid (tells_ind hm hf hb)
  have EG : Hid (Enters 18) := fun args w => enters_of Try.func18 (by kernel_rfl) rfl args w
  go_enter Try.func28, Try.ntmps28
  go_wp2_with fail
  refine HC.out.mono ?_
  rintro e w2 ⟨r, rfl, ho, hb2⟩
  have HX := hid (box1 hb2)
  have HB := hid (HB0.out.trans (hb2.mono HB0.out.size))
  have HR := hid (ho.ints (Nat.le_trans (fam_len hm hf) (by decide)))
  have HO := hid ho
  obtain ⟨a3, cap3, hr, _, _⟩ := HR.out.nats
  subst hr
  clear hb2 ho
  go_wp2_with fail
  refine (made_ok TL.out EG.out (HR.out.below ?b1) (HU.out.below ?b2)).mono ?_
  case b1 => exact Below.refl _ _
  case b2 => exact HB.out
  rintro e w4 ⟨rfl, hb4⟩
  have H4 := hid ((hb4.block _ HX.out.2).trans HX.out.1)
  have HB4 := hid (HB.out.trans (hb4.mono HB.out.size))
  have HS := hid (set_two (x := .int .i64 m) (y := .slice a3 l.length cap3) H4.out)
  have HD := hid (below_two (b := w.heap.size) (x := .int .i64 m) (y := .slice a3 l.length cap3) HB4.out (Nat.le_refl _))
  have HRR := hid (((HO.out.below hb4).set2 (b := w.heap.size) (x := .int .i64 m) (y := .slice a3 l.length cap3) (by simp)).ints (Nat.le_trans (fam_len hm hf) (by decide)))
  obtain ⟨y2, y3, g2, g3⟩ := two_cells H4.out
  clear hb4
  go_wp2_with fail
  obtain ⟨c0, c1⟩ := HS.out
  refine bodyPost_ret (v := .tuple #[.agg #[.int .i64 m, .slice a3 l.length cap3], .int .i64 0]) ?_ rfl ⟨_, rfl, ?_, HD.out⟩
  · simp [results, Try.f28, go_sem, c0, c1]
  · exact HRR.out

theorem leastOut_ok (m : Nat) (u : Value) (H : List Nat) (w : World) (hm : m ≤ 8) (hF : Fam m H) (h : Ints w u (N H)) :
    Calls Try.prog 77 #[.int .i64 m, u] w fun e w' => ∃ r, e = .returned r ∧ Own w.heap.size w' r (blk m (cmp m H)) ∧ Below w.heap.size w w' := by
  have HC := hid (Cpl_any m u H w hm hF (fam_len hm hF) h)
  have HF := hid (cmp_fam hF)
  have HL : Hid ((cmp m H).length ≤ 17592186044416) := Nat.le_trans (fam_len hm (cmp_fam hF)) (by decide)
  obtain ⟨a, cap, hv, _, _⟩ := h.nats
  subst hv
  clear h
  go_enter Try.func77, Try.ntmps77
  go_wp2_with fail
  refine HC.out.mono ?_
  rintro e w2 ⟨r, rfl, ho, hb2⟩
  have HI := hid (ho.ints HL.out)
  have HB := hid hb2
  obtain ⟨a2, cap2, hr, _, _⟩ := HI.out.nats
  subst hr
  have HK := hid (Blocker_fam m _ (cmp m H) w2 hm HF.out HI.out)
  clear ho hb2
  go_wp2_with fail
  refine HK.out.mono ?_
  rintro e w3 ⟨r2, rfl, ho2, hb3⟩
  have HO := hid (ho2.mono HB.out.size : Own w.heap.size w3 r2 (blk m (cmp m H)))
  have HB3 := hid (HB.out.trans (hb3.mono HB.out.size))
  clear ho2 hb3
  go_wp2_with fail
  go_ret
  exact ⟨_, rfl, HO.out, HB3.out⟩

set_option maxHeartbeats 1600000 in
theorem OfHyp_ok (m : Nat) (u : Value) (l : List Nat) (w : World) (hm : m ≤ 8) (hf : Fam m l) (hb : Bas l) (h : Ints w u (N ((List.range (2 ^ m)).filter (hypB (rk l) m)))) :
    Calls Try.prog 31 #[.int .i64 m, u] w (GivesM w m l) := by
  have HU := hid h
  obtain ⟨a, cap, hv, _, _⟩ := h.nats
  subst hv
  have HB0 := hid (below_box w #[.int .i64 0, .slice none 0 0])
  have TL := hid (tells_hyp hm hf hb)
  have EG : Hid (Enters 22) := fun args w => enters_of Try.func22 (by kernel_rfl) rfl args w
  have HF := hid (Fam.range m (hypB (rk l) m))
  have HA := hid (family_any m _ (N ((List.range (2 ^ m)).filter (hypB (rk l) m))) _ (HU.out.below HB0.out))
  rw [fam_mk hm HF.out] at HA
  have HC := hid (leastOut_ok m _ _ _ hm HF.out (HU.out.below HB0.out))
  rw [of_hyp hm hf hb] at HC
  go_enter Try.func31, Try.ntmps31
  go_wp2_with fail
  refine HA.out.mono ?_
  rintro e w1 ⟨rfl, rfl⟩
  go_wp2_with fail
  refine HC.out.mono ?_
  rintro e w2 ⟨r, rfl, ho, hb2⟩
  have HX := hid (box1 hb2)
  have HB := hid (HB0.out.trans (hb2.mono HB0.out.size))
  have HR := hid (ho.ints (Nat.le_trans (fam_len hm hf) (by decide)))
  have HO := hid ho
  obtain ⟨a3, cap3, hr, _, _⟩ := HR.out.nats
  subst hr
  clear hb2 ho
  go_wp2_with fail
  refine (made_ok TL.out EG.out (HR.out.below ?b1) (HU.out.below ?b2)).mono ?_
  case b1 => exact Below.refl _ _
  case b2 => exact HB.out
  rintro e w4 ⟨rfl, hb4⟩
  have H4 := hid ((hb4.block _ HX.out.2).trans HX.out.1)
  have HB4 := hid (HB.out.trans (hb4.mono HB.out.size))
  have HS := hid (set_two (x := .int .i64 m) (y := .slice a3 l.length cap3) H4.out)
  have HD := hid (below_two (b := w.heap.size) (x := .int .i64 m) (y := .slice a3 l.length cap3) HB4.out (Nat.le_refl _))
  have HRR := hid (((HO.out.below hb4).set2 (b := w.heap.size) (x := .int .i64 m) (y := .slice a3 l.length cap3) (by simp)).ints (Nat.le_trans (fam_len hm hf) (by decide)))
  obtain ⟨y2, y3, g2, g3⟩ := two_cells H4.out
  clear hb4
  go_wp2_with fail
  obtain ⟨c0, c1⟩ := HS.out
  refine bodyPost_ret (v := .tuple #[.agg #[.int .i64 m, .slice a3 l.length cap3], .int .i64 0]) ?_ rfl ⟨_, rfl, ?_, HD.out⟩
  · simp [results, Try.f31, go_sem, c0, c1]
  · exact HRR.out

set_option maxHeartbeats 1600000 in
theorem OfCir_ok (m : Nat) (u : Value) (l : List Nat) (w : World) (hm : m ≤ 8) (hf : Fam m l) (hb : Bas l) (h : Ints w u (N (cirL m l))) :
    Calls Try.prog 29 #[.int .i64 m, u] w (GivesM w m l) := by
  have HU := hid h
  obtain ⟨a, cap, hv, _, _⟩ := h.nats
  subst hv
  have HB0 := hid (below_box w #[.int .i64 0, .slice none 0 0])
  have TL := hid (tells_cir hm hf hb)
  have EG : Hid (Enters 19) := fun args w => enters_of Try.func19 (by kernel_rfl) rfl args w
  have HF := hid (Fam.range m (cirB (rk l)))
  have HC := hid (Blocker_fam m _ (cirL m l) _ hm HF.out (HU.out.below HB0.out))
  have HBK := hid (of_cir hm hf hb)
  have HBF : Hid (Fam m (blk m (cirL m l))) := Fam.range m _
  go_enter Try.func29, Try.ntmps29
  go_wp2_with fail
  refine HC.out.mono ?_
  rintro e w1 ⟨r1, rfl, ho1, hb1⟩
  have HR1 := hid (ho1.ints (Nat.le_trans (fam_len hm HBF.out) (by decide)))
  have HB1 := hid hb1
  obtain ⟨a1, cap1, hr1, _, _⟩ := HR1.out.nats
  subst hr1
  have HD1 := hid (Cpl_any m _ _ w1 hm HBF.out (fam_len hm HBF.out) HR1.out)
  rw [HBK.out] at HD1
  clear ho1 hb1
  go_wp2_with fail
  refine HD1.out.mono ?_
  rintro e w2 ⟨r, rfl, ho', hb2'⟩
  have hb2 := HB1.out.trans (hb2'.mono HB1.out.size)
  have ho := ho'.mono HB1.out.size
  clear hb2' ho'
  have HX := hid (box1 hb2)
  have HB := hid (HB0.out.trans (hb2.mono HB0.out.size))
  have HR := hid (ho.ints (Nat.le_trans (fam_len hm hf) (by decide)))
  have HO := hid ho
  obtain ⟨a3, cap3, hr, _, _⟩ := HR.out.nats
  subst hr
  clear hb2 ho
  go_wp2_with fail
  refine (made_ok TL.out EG.out (HR.out.below ?b1) (HU.out.below ?b2)).mono ?_
  case b1 => exact Below.refl _ _
  case b2 => exact HB.out
  rintro e w4 ⟨rfl, hb4⟩
  have H4 := hid ((hb4.block _ HX.out.2).trans HX.out.1)
  have HB4 := hid (HB.out.trans (hb4.mono HB.out.size))
  have HS := hid (set_two (x := .int .i64 m) (y := .slice a3 l.length cap3) H4.out)
  have HD := hid (below_two (b := w.heap.size) (x := .int .i64 m) (y := .slice a3 l.length cap3) HB4.out (Nat.le_refl _))
  have HRR := hid (((HO.out.below hb4).set2 (b := w.heap.size) (x := .int .i64 m) (y := .slice a3 l.length cap3) (by simp)).ints (Nat.le_trans (fam_len hm hf) (by decide)))
  obtain ⟨y2, y3, g2, g3⟩ := two_cells H4.out
  clear hb4
  go_wp2_with fail
  obtain ⟨c0, c1⟩ := HS.out
  refine bodyPost_ret (v := .tuple #[.agg #[.int .i64 m, .slice a3 l.length cap3], .int .i64 0]) ?_ rfl ⟨_, rfl, ?_, HD.out⟩
  · simp [results, Try.f29, go_sem, c0, c1]
  · exact HRR.out

theorem Ints.take {w : World} {a : Option Addr} {L cap k : Nat} {l : List Nat} (h : Ints w (.slice a L cap) (N l)) (hk : k ≤ l.length) : Ints w (.slice a k cap) (N (l.take k)) := by
  obtain ⟨a', cap', hv, hl, hc⟩ := h.nats
  obtain ⟨⟨rfl, _⟩, rfl⟩ : (a = a' ∧ L = l.length) ∧ cap = cap' := by simpa [and_assoc] using hv
  have hlen : (l.take k).length = k := by simp; omega
  refine ⟨a, cap, by rw [N_len, hlen], by rw [N_len, hlen]; omega, fun hn => ?_⟩
  rw [N_len, hlen] at hn
  obtain ⟨b, off, h1, h2, h3⟩ := hc (by omega)
  refine ⟨b, off, h1, h2, fun i hi => ?_⟩
  rw [N_len, hlen] at hi
  rw [h3 i (by omega), N_getD]
  simp [List.getD, hi]
theorem less_fam {m : Nat} {l : List Nat} : Fam m (lessL m l) := by
  refine ⟨List.Pairwise.sublist List.filter_sublist List.pairwise_lt_range, fun s hs => ?_⟩
  unfold lessL at hs
  rw [List.mem_filter, List.mem_range] at hs
  omega
theorem less_take {m : Nat} {l : List Nat} (hm : m ≤ 8) : (flatL m l).filter (· < 2 ^ m - 1) = lessL m l ∧ (flatL m l).take (lessL m l).length = lessL m l ∧ (lessL m l).length ≤ (flatL m l).length := by
  rw [flat_split hm]
  refine ⟨?_, by simp, by simp⟩
  rw [List.filter_append]
  have e : (lessL m l).filter (· < 2 ^ m - 1) = lessL m l := List.filter_eq_self.2 fun s hs => by
    unfold lessL at hs
    rw [List.mem_filter, List.mem_range] at hs
    simpa using hs.1
  rw [e]
  simp

set_option maxHeartbeats 1600000 in
theorem OfFlat_ok (m : Nat) (u : Value) (l : List Nat) (w : World) (hm : m ≤ 8) (hf : Fam m l) (hb : Bas l) (h : Ints w u (N (flatL m l))) (hcap : ∀ a L cap, u = .slice a L cap → L ≤ cap) :
    Calls Try.prog 30 #[.int .i64 m, u] w (GivesM w m l) := by
  have HU := hid h
  obtain ⟨a, cap, hv, _, _⟩ := h.nats
  subst hv
  have hcp := hcap _ _ _ rfl
  clear hcap
  have HB0 := hid (below_box w #[.int .i64 0, .slice none 0 0])
  have TL := hid (tells_flat hm hf hb)
  have EG : Hid (Enters 21) := fun args w => enters_of Try.func21 (by kernel_rfl) rfl args w
  have HF : Hid (Fam m (flatL m l)) := Fam.range m _
  have HA := hid (family_any m _ (N (flatL m l)) _ (HU.out.below HB0.out))
  rw [fam_mk hm HF.out] at HA
  obtain ⟨T, HT, hT2, hT, hT0⟩ : ∃ T : Nat, Hid (T = 2 ^ m) ∧ T ≤ 256 ∧ wrap64 (2 ^ m) = (T : Int) ∧ 1 ≤ T := ⟨2 ^ m, rfl, (pow_wrap _ hm).2, (pow_wrap _ hm).1, Nat.one_le_two_pow⟩
  obtain ⟨t, Ht⟩ : ∃ t : Nat, Hid (T - 1 = t) := ⟨_, rfl⟩
  have hti : (T : Int) - 1 = (t : Int) := by have := Ht.out; omega
  have HBN := hid (Bin_any _ (flatL m l) t _ (fam_len hm HF.out) HF.out.up (HU.out.below HB0.out))
  have HTK := hid (less_take (l := l) hm)
  rw [← Ht.out, HT.out, HTK.out.1] at HBN
  rw [← HT.out, Ht.out] at HBN
  have HTK2 := hid HTK.out.2.2
  have HC := hid (fun w1 (hb1 : Below w.heap.size w w1) => leastOut_ok m _ _ w1 hm (less_fam (l := l)) (by have := (HU.out.below hb1).take HTK.out.2.2; rw [HTK.out.2.1] at this; exact this))
  rw [of_flat hm hf hb] at HC
  clear HTK
  generalize (lessL m l).length = k at *
  have hk1 := HTK2.out
  generalize memB t (flatL m l) = mb at *
  generalize flatL m l = fl at *
  go_enter Try.func30, Try.ntmps30
  go_wp2_with fail
  refine HA.out.mono ?_
  rintro e w1 ⟨rfl, rfl⟩
  go_wp2_with fail
  refine HBN.out.mono ?_
  rintro e w1 ⟨rfl, hb1⟩
  have HB1 := hid hb1
  have HC1 := hid (HC.out w1 (HB0.out.trans (hb1.mono HB0.out.size)))
  clear hb1
  go_wp2_with fail
  refine HC1.out.mono ?_
  rintro e w2 ⟨r, rfl, ho', hb2'⟩
  have hb2 := HB1.out.trans (hb2'.mono HB1.out.size)
  have ho := ho'.mono HB1.out.size
  clear hb2' ho'
  have HX := hid (box1 hb2)
  have HB := hid (HB0.out.trans (hb2.mono HB0.out.size))
  have HR := hid (ho.ints (Nat.le_trans (fam_len hm hf) (by decide)))
  have HO := hid ho
  obtain ⟨a3, cap3, hr, _, _⟩ := HR.out.nats
  subst hr
  clear hb2 ho
  go_wp2_with fail
  refine (made_ok TL.out EG.out (HR.out.below ?b1) (HU.out.below ?b2)).mono ?_
  case b1 => exact Below.refl _ _
  case b2 => exact HB.out
  rintro e w4 ⟨rfl, hb4⟩
  have H4 := hid ((hb4.block _ HX.out.2).trans HX.out.1)
  have HB4 := hid (HB.out.trans (hb4.mono HB.out.size))
  have HS := hid (set_two (x := .int .i64 m) (y := .slice a3 l.length cap3) H4.out)
  have HD := hid (below_two (b := w.heap.size) (x := .int .i64 m) (y := .slice a3 l.length cap3) HB4.out (Nat.le_refl _))
  have HRR := hid (((HO.out.below hb4).set2 (b := w.heap.size) (x := .int .i64 m) (y := .slice a3 l.length cap3) (by simp)).ints (Nat.le_trans (fam_len hm hf) (by decide)))
  obtain ⟨y2, y3, g2, g3⟩ := two_cells H4.out
  clear hb4
  go_wp2_with fail
  obtain ⟨c0, c1⟩ := HS.out
  refine bodyPost_ret (v := .tuple #[.agg #[.int .i64 m, .slice a3 l.length cap3], .int .i64 0]) ?_ rfl ⟨_, rfl, ?_, HD.out⟩
  · simp [results, Try.f30, go_sem, c0, c1]
  · exact HRR.out

theorem Own.cap {B : Nat} {w : World} {v : Value} {l : List Nat} (h : Own B w v l) : ∀ a L cap, v = .slice a L cap → L ≤ cap := by
  intro a L cap e
  obtain ⟨_, h1⟩ := h
  rcases h1 with ⟨h2, h3⟩ | ⟨g, c, cur, h2, _, _, h4, _⟩
  · rw [h2] at e
    simp at e
    omega
  · rw [h2] at e
    simp at e
    omega
/-- What OfRanks asks. -/
def rankK (r : Nat → Nat) (T s : Nat) : Bool := r s == pop s && r s == r (T - 1)
theorem OfRanksQ_ok (s bx T : Nat) (v : Value) (r : Nat → Nat) (w : World) (hT : T ≤ 256) (hs : s < T) (hbx : w.cell? ⟨bx, 0, none⟩ = some v) (h : RkAt w v T r) :
    Calls Try.prog 82 #[.int .i64 s, .pointer (some ⟨bx, 0, none⟩)] w fun e w' => e = .returned (.bool (rankK r T s)) ∧ Below w.heap.size w w' := by
  obtain ⟨b, off, cap, rfl, h1, h2⟩ := h
  have hc := h2 s hs
  have hc2 := h2 (T - 1) (by omega)
  have HS := hid (fun w' => size_any s w' (by omega))
  obtain ⟨t, Ht⟩ : ∃ t : Nat, Hid (T - 1 = t) := ⟨_, rfl⟩
  have hti : (T : Int) - 1 = (t : Int) := by have := Ht.out; omega
  have htT : t < T := by have := Ht.out; omega
  unfold rankK
  rw [Ht.out] at hc2 ⊢
  clear h2 Ht
  generalize r s = x at *
  generalize r t = y at *
  generalize pop s = p at *
  by_cases hq : x = p
  · subst hq
    go_enter Try.func82, Try.ntmps82
    go_wp2_with fail
    go_quiet ((go_at_call 83; refine (HS.out _).mono ?_; rintro e w' ⟨rfl, rfl⟩; exact ⟨rfl, _, rfl⟩))
    go_wp2_with fail
    go_ret
    exact ⟨ret_bool (by rw [Bool.eq_iff_iff]; simp; omega), drewN_below _ _ _⟩
  · have hq' : ((x : Int) == (p : Int)) = false := by rw [beq_eq_false_iff_ne]; omega
    have hq2 : (x == p) = false := by rw [beq_eq_false_iff_ne]; exact hq
    rw [hq2]
    go_enter Try.func82, Try.ntmps82
    go_wp2_with fail
    go_quiet ((go_at_call 83; refine (HS.out _).mono ?_; rintro e w' ⟨rfl, rfl⟩; exact ⟨rfl, _, rfl⟩))
    go_wp2_with fail
    go_ret
    exact ⟨ret_bool rfl, drewN_below _ _ _⟩

set_option maxHeartbeats 1600000 in
theorem OfRk_ok (m : Nat) (u : Value) (l : List Nat) (w : World) (hm : m ≤ 8) (hf : Fam m l) (hb : Bas l) (h : RkAt w u (2 ^ m) (rk l)) :
    Calls Try.prog 37 #[.int .i64 m, u] w (GivesM w m l) := by
  have HU := hid h
  have HUI := hid (h.nats (pow_wrap m hm).2)
  obtain ⟨rb, roff, rcap, rfl, _, _⟩ := h
  have TL := hid (tells_rk hm hf hb)
  have EG : Hid (Enters 20) := fun args w => enters_of Try.func20 (by kernel_rfl) rfl args w
  have HK := hid (setsCheck_any m 0)
  have HK0 : Hid (setR m 0 = 0) := by
    show _ = _
    unfold setR
    rw [if_pos ⟨by omega, by omega, by omega, by rw [Int.toNat_natCast]; exact Int.pow_pos (by decide)⟩]
  rw [HK0.out] at HK
  obtain ⟨T, HT, hT2, hT⟩ : ∃ T : Nat, Hid (T = 2 ^ m) ∧ T ≤ 256 ∧ wrap64 (2 ^ m) = (T : Int) := ⟨2 ^ m, rfl, (pow_wrap _ hm).2, (pow_wrap _ hm).1⟩
  rw [← HT.out] at HU HUI TL ⊢
  have c0 := (cellN w (.slice (some ⟨rb, roff, none⟩) T rcap) 22).1
  have c1 := cellA (.cells #[.int .i64 0, .slice none 0 0] 24) c0
  have HB0 : Hid (Below w.heap.size w ((w.alloc (.cells #[.slice (some ⟨rb, roff, none⟩) T rcap] 22)).alloc (.cells #[.int .i64 0, .slice none 0 0] 24))) := ((Below.refl _ _).alloc (Nat.le_refl _) _).alloc (by simp) _
  clear c0
  go_enter Try.func37, Try.ntmps37
  go_wp2_with fail
  go_quiet ((go_at_call 67; refine (HK.out _).mono ?_; rintro e w' ⟨rfl, rfl⟩; exact ⟨rfl, _, rfl⟩))
  go_wp2_with fail
  have b0 : Hid (((w.alloc (.cells #[.slice (some ⟨rb, roff, none⟩) T rcap] 22)).alloc (.cells #[.int .i64 0, .slice none 0 0] 24)).heap[w.heap.size + 1]? = some (.cells #[.int .i64 0, .slice none 0 0] 24 (0, 0))) := by
    have := World.alloc_heap_new (w.alloc (.cells #[.slice (some ⟨rb, roff, none⟩) T rcap] 22)) (.cells #[.int .i64 0, .slice none 0 0] 24)
    rwa [World.size_alloc] at this
  have hz : ((w.alloc (.cells #[.slice (some ⟨rb, roff, none⟩) T rcap] 22)).alloc (.cells #[.int .i64 0, .slice none 0 0] 24)).heap.size = w.heap.size + 2 := by simp
  have HBQ := hid (HB0.out.trans (drewN_below w.heap.size _ nq))
  have bq : Hid ((((w.alloc (.cells #[.slice (some ⟨rb, roff, none⟩) T rcap] 22)).alloc (.cells #[.int .i64 0, .slice none 0 0] 24)).drewN nq).heap[w.heap.size + 1]? = some (.cells #[.int .i64 0, .slice none 0 0] 24 (0, 0))) := b0.out
  have hzq : (((w.alloc (.cells #[.slice (some ⟨rb, roff, none⟩) T rcap] 22)).alloc (.cells #[.int .i64 0, .slice none 0 0] 24)).drewN nq).heap.size = w.heap.size + 2 := hz
  have cq : (((w.alloc (.cells #[.slice (some ⟨rb, roff, none⟩) T rcap] 22)).alloc (.cells #[.int .i64 0, .slice none 0 0] 24)).drewN nq).cell? ⟨w.heap.size, 0, none⟩ = some (.slice (some ⟨rb, roff, none⟩) T rcap) := by rw [World.cell?_drewN]; exact c1
  clear b0 hz c1 HB0
  revert HBQ bq hzq cq
  generalize (((w.alloc (.cells #[.slice (some ⟨rb, roff, none⟩) T rcap] 22)).alloc (.cells #[.int .i64 0, .slice none 0 0] 24)).drewN nq) = W0
  intro HBQ bq hzq cq
  have HSV := hid (Sieve_at m T 82 HT.out #[.pointer (some ⟨w.heap.size, 0, none⟩)] (rankK (rk l) T) W0 hm (fun args w => enters_of Try.func82 (by kernel_rfl) rfl args w)
    (fun x hx w1 hb1 _ => OfRanksQ_ok x w.heap.size T _ (rk l) w1 hT2 hx ((hb1.cell (p := ⟨w.heap.size, 0, none⟩) (by show w.heap.size < _; omega)).trans cq) ((HU.out.below HBQ.out).below hb1)))
  have HLS : Hid ((List.range T).filter (rankK (rk l) T) = l) := by
    show _ = _
    unfold rankK
    rw [HT.out]
    exact rank_list hm hf hb
  rw [HLS.out] at HSV
  refine HSV.out.mono ?_
  rintro e w2 ⟨r, rfl, ho, hb2⟩
  have HX1 := hid ((hb2.block _ (by omega)).trans bq.out)
  have cq2 := (hb2.cell (p := ⟨w.heap.size, 0, none⟩) (by show w.heap.size < _; omega)).trans cq
  have hs2 : w.heap.size + 1 < w2.heap.size := by have := hb2.size; omega
  have HB := hid (HBQ.out.trans (hb2.mono HBQ.out.size))
  have HR := hid (ho.ints (Nat.le_trans (fam_len hm hf) (by decide)))
  have HO := hid ho
  obtain ⟨a3, cap3, hr, _, _⟩ := HR.out.nats
  subst hr
  clear hb2 ho cq
  go_wp2_with fail
  refine (made_ok TL.out EG.out (HR.out.below ?b1) (HUI.out.below ?b2)).mono ?_
  case b1 => exact Below.refl _ _
  case b2 => exact HB.out
  rintro e w4 ⟨rfl, hb4⟩
  have H4 := hid ((hb4.block _ hs2).trans HX1.out)
  have HB4 := hid (HB.out.trans (hb4.mono HB.out.size))
  have HS := hid (set_two (x := .int .i64 m) (y := .slice a3 l.length cap3) H4.out)
  have HD := hid (below_two (b := w.heap.size + 1) (x := .int .i64 m) (y := .slice a3 l.length cap3) HB4.out (by omega))
  have HRR := hid (((HO.out.below hb4).set2 (b := w.heap.size + 1) (x := .int .i64 m) (y := .slice a3 l.length cap3) (by omega)).ints (Nat.le_trans (fam_len hm hf) (by decide)))
  obtain ⟨y2, y3, g2, g3⟩ := two_cells H4.out
  clear hb4
  go_wp2_with fail
  obtain ⟨c0, c1⟩ := HS.out
  refine bodyPost_ret (v := .tuple #[.agg #[.int .i64 m, .slice a3 l.length cap3], .int .i64 0]) ?_ rfl ⟨_, rfl, ?_, HD.out⟩
  · simp [results, Try.f37, go_sem, c0, c1]
  · exact HRR.out
end Go.Proofs.Ythbldeloocmakaa
