/- same.contraction. -/
import Derived.Test.YthlmnhcnpffjdaaOrdXQ
import Derived.Test.YthlmnhcnpffjdaaPlainAll
import Derived.Test.YthlmnhcnpffjdaaDelConQ
import Derived.Test.YthlmnhcnpffjdaaBlockQ
import Derived.Test.YthlmnhcnpffjdaaOldNQ
import Derived.Test.YthlmnhcnpffjdaaWholeQ
namespace Go.Proofs.Ythlmnhcnpffjdaa
open Go.RowKit

theorem find_drop {P : Nat → Bool} {L : List Nat} {i : Nat} (h : i < L.length) : (L.drop i).find? P = if P (L.getD i 0) = true then some (L.getD i 0) else (L.drop (i + 1)).find? P := by
  rw [List.drop_eq_getElem_cons h, List.find?_cons]
  rw [show L.getD i 0 = L[i] by simp [List.getD, h]]
  cases P L[i] <;> rfl
set_option maxRecDepth 20000 in
set_option maxHeartbeats 2000000 in
theorem contraction_ok (m k d : Nat) (v u : Value) (l l' : List Nat) (w : World) (hm : m ≤ 8) (hf : Fam m l) (hb : Bas l) (h : Ints w v (N l)) (hk : k ≤ 8) (hf' : Fam k l') (hb' : Bas l') (h' : Ints w u (N l')) (hd : d < 2 ^ m) :
    Calls Try.prog 33 #[.agg #[.int .i64 m, v], .agg #[.int .i64 k, u], .int .i64 d] w fun e w' => e = .returned (.tuple #[.int .i64 ((conO m l k l' d).getD 0 : Nat), .bool (conO m l k l' d).isSome]) ∧ Below w.heap.size w w' := by
  have B0 := box2_below w m v k u
  have HS0 := hid (box2_size w m v k u)
  have HW := hid (fun w' => wholeSet_any m w' hm)
  have hfl := full_lt m
  have hT8 := (pow_wrap m hm).2
  have hand : bits .andNot .i64 ((2 ^ m - 1 : Nat) : Int) (d : Int) = ((dif (2 ^ m - 1) d : Nat) : Int) := i64_andNot_nat _ d (by omega) (by omega)
  have hkl := kept_lt hm d
  have hK8 := kept_le hm d
  have SZ := hid (fun w' => size_any (dif (2 ^ m - 1) d) w' hkl)
  have DE := hid (fun w' (hb' : Below w.heap.size w w') => Delete_ok m d v l w' hm hf hb (h.below hb') hd)
  have ON := hid (fun c w' (hc : c < 256) => oldN_any c (dif (2 ^ m - 1) d) w' hc hkl)
  have CO := hid (fun c v' w' (hi : Ints w' v' (N (minL m l d 0))) (hc : c < 2 ^ pop (dif (2 ^ m - 1) d)) => Contract_ok (pop (dif (2 ^ m - 1) d)) c v' (minL m l d 0) w' hK8 (min_fam m l d 0) (min_bas hm hb d 0) hi hc)
  have IS := hid (fun c v' w' (hi : Ints w' v' (N (minL (pop (dif (2 ^ m - 1) d)) (minL m l d 0) c c))) (hu : Ints w' u (N l')) => Isomorphic_ok (pop (dif (2 ^ pop (dif (2 ^ m - 1) d) - 1) c)) k v' u (minL (pop (dif (2 ^ m - 1) d)) (minL m l d 0) c c) l' w' (kept_le hK8 c) (min_fam _ _ _ _) (min_bas hK8 (min_bas hm hb d 0) c c) hi hk hf' hb' hu)
  have HU := hid (fun w' (hb : Below w.heap.size w w') => h'.below hb)
  have HL2 : Hid (∀ c, (minL (pop (dif (2 ^ m - 1) d)) (minL m l d 0) c c).length ≤ 256) := fun c => fam_len (kept_le hK8 c) (min_fam _ _ _ _)
  have HL1 : Hid ((minL m l d 0).length ≤ 256) := fam_len hK8 (min_fam _ _ _ _)
  have HB0 := hid B0
  have HX : Hid (∀ w2, Below (box2 w m v k u).heap.size (box2 w m v k u) w2 → _) := fun w2 h => box2_blocks h
  have HC : Hid (conO m l k l' d = if pop (dif (2 ^ m - 1) d) < k then none else ((conL (pop (dif (2 ^ m - 1) d)) k).find? (conP (pop (dif (2 ^ m - 1) d)) (minL m l d 0) k l')).map (old (els (dif (2 ^ m - 1) d)))) := rfl
  obtain ⟨a0, cap, hv, -, -⟩ := h.nats
  obtain ⟨a1, cap1, hu, -, -⟩ := h'.nats
  subst hv
  subst hu
  clear hf hb hf' hb' h h' B0
  generalize conO m l k l' d = CR at *
  generalize minL m l d 0 = L1 at *
  generalize hKP : dif (2 ^ m - 1) d = KP at *
  generalize 2 ^ m - 1 = F at *
  have HCH := hid (fun w' (h : k ≤ pop KP) => Choose_good (pop KP) (pop KP - k) w' hK8 (by omega))
  generalize pop KP = K at *
  have hF1 := HX.out _ (Below.refl _ _)
  obtain ⟨y0, y1⟩ := hF1
  obtain ⟨x0, x1⟩ := cells2 y0
  obtain ⟨x2, x3⟩ := cells2 y1
  clear y0 y1 hKP
  have hw2 : (w.alloc (.cells #[.int .i64 m, .slice a0 l.length cap] 24)).alloc (.cells #[.int .i64 k, .slice a1 l'.length cap1] 24) = box2 w m (.slice a0 l.length cap) k (.slice a1 l'.length cap1) := rfl
  generalize hW2 : box2 w m (.slice a0 l.length cap) k (.slice a1 l'.length cap1) = W2 at *
  go_enter Try.func33, Try.ntmps33
  go_wp2_with fail
  refine (HW.out _).mono ?_
  rintro e w' ⟨rfl, hw'⟩
  obtain rfl := hw'.symm
  go_wp2_with fail
  have HD : Hid (∀ q, Below w.heap.size w (W2.drewN q)) := fun q => HB0.out.trans ⟨rfl, rfl, rfl, Nat.le_refl _, fun _ _ => rfl⟩
  by_cases hKk : K < k
  · have e1 : Hid (CR = none) := by show _ = _; rw [HC.out, if_pos hKk]
    have hneg : (K : Int) - (k : Int) < 0 := by omega
    clear HC DE ON CO IS HU HL2 HL1 HX HCH hKk HW
    go_quiet ((go_at_call 66; refine (SZ.out _).mono ?_; rintro e w' ⟨rfl, rfl⟩; exact ⟨rfl, _, rfl⟩))
    go_wp2_with fail
    go_ret2
    exact ⟨by rw [e1.out]; rfl, HD.out _⟩
  · have HC2 : Hid (CR = ((conL K k).find? (conP K L1 k l')).map (old (els KP))) := by show _ = _; rw [HC.out, if_neg hKk]
    have HCH2 := hid (fun w' => HCH.out w' (by omega))
    obtain ⟨D, hD⟩ : ∃ D : Nat, K - k = D := ⟨_, rfl⟩
    have hsub : (K : Int) - (k : Int) = (D : Int) := by omega
    have hnn : ¬ (D : Int) < 0 := by omega
    rw [hD] at HCH2
    have HLL : Hid ((conL K k).length ≤ 256 ∧ ∀ c ∈ conL K k, c < 2 ^ K) := ⟨fil_len hK8 _, fun c hc => List.mem_range.1 (List.mem_filter.1 hc).1⟩
    have HLE : Hid (conL K k = (List.range (2 ^ K)).filter fun s => pop s == D) := by show _ = _; unfold conL; rw [hD]
    rw [← HLE.out] at HCH2
    have h2K := (pow_wrap K hK8).2
    clear HC HCH hKk hD HLE HW
    generalize conL K k = LC at *
    obtain ⟨T, HT⟩ : ∃ T, Hid (2 ^ K = T) := ⟨2 ^ K, Eq.refl (2 ^ K)⟩
    rw [HT.out] at h2K HLL
    have CO2 := hid (fun c v' w' hi (hc : c < T) => CO.out c v' w' hi (by rw [HT.out]; exact hc))
    clear CO
    go_quiet ((go_at_call 66; refine (SZ.out _).mono ?_; rintro e w' ⟨rfl, rfl⟩; exact ⟨rfl, _, rfl⟩))
    clear SZ
    have x0' : (W2.drewN nq).cell? ⟨w.heap.size, 0, none⟩ = some (.int .i64 m) := x0
    have x1' : (W2.drewN nq).cell? ⟨w.heap.size, 1, none⟩ = some (.slice a0 l.length cap) := x1
    have x2' : (W2.drewN nq).cell? ⟨w.heap.size + 1, 0, none⟩ = some (.int .i64 k) := x2
    have x3' : (W2.drewN nq).cell? ⟨w.heap.size + 1, 1, none⟩ = some (.slice a1 l'.length cap1) := x3
    have D1 := hid (DE.out _ (HD.out nq))
    have HB3 := hid (HD.out nq)
    have hs3 : w.heap.size + 2 ≤ (W2.drewN nq).heap.size := by show _ ≤ W2.heap.size; rw [HS0.out]; exact Nat.le_refl _
    clear HD DE x0 x1 x2 x3 HB0 HS0 HX hw2 hW2
    generalize W2.drewN nq = W3 at *
    go_wp2_with fail
    refine D1.out.mono ?_
    rintro e w4 ⟨r4, rfl, ho4, hb4⟩
    have b5 : Below w4.heap.size w4 (w4.alloc (.cells #[.int .i64 K, r4] 24)) := (Below.refl _ _).alloc (Nat.le_refl _) _
    have hb35 := hb4.trans (b5.mono hb4.size)
    have z5 := World.size_alloc w4 (.cells #[.int .i64 K, r4] 24)
    have y5 := World.alloc_heap_new w4 (.cells #[.int .i64 K, r4] 24)
    have B5 := hid (HB3.out.trans (hb35.mono HB3.out.size))
    have I5 := hid ((ho4.below b5).ints (by have := HL1.out; omega))
    have u0 := (hb35.cell (p := ⟨w.heap.size, 0, none⟩) (by show w.heap.size < _; omega)).trans x0'
    have u2 := (hb35.cell (p := ⟨w.heap.size + 1, 0, none⟩) (by show w.heap.size + 1 < _; omega)).trans x2'
    have u3 := (hb35.cell (p := ⟨w.heap.size + 1, 1, none⟩) (by show w.heap.size + 1 < _; omega)).trans x3'
    have hs5 : w.heap.size + 2 ≤ w4.heap.size := Nat.le_trans hs3 hb4.size
    have CH5 := hid (HCH2.out (w4.alloc (.cells #[.int .i64 K, r4] 24)))
    have Y5 := hid y5
    obtain ⟨q0, q1⟩ := cells2 y5
    obtain ⟨ra, rc, hr4⟩ := ownsRow_form' ho4
    subst hr4
    clear D1 ho4 hb4 b5 hb35 y5 x0' x1' x2' x3' HB3 HCH2 hs3
    go_wp2_with fail
    refine CH5.out.mono ?_
    rintro e w6 ⟨r6, rfl, ho6, hb6⟩
    have hs6 := hb6.size
    have B6 := hid (B5.out.trans (hb6.mono B5.out.size))
    have I6 := hid (I5.out.below hb6)
    have Y6 := hid ((hb6.block w4.heap.size (by omega)).trans Y5.out)
    have v2 := hid ((hb6.cell (p := ⟨w.heap.size + 1, 0, none⟩) (by show w.heap.size + 1 < _; omega)).trans u2)
    have v3 := hid ((hb6.cell (p := ⟨w.heap.size + 1, 1, none⟩) (by show w.heap.size + 1 < _; omega)).trans u3)
    obtain ⟨rb, rd, hr6⟩ := ownsRow_form' ho6
    subst hr6
    obtain ⟨ab, cb, hab, hlc, hcc⟩ := (ho6.ints (by have := HLL.out.1; omega)).nats
    obtain ⟨rfl, rfl⟩ : rb = ab ∧ rd = cb := by simpa using hab
    have HCC := hid hcc
    have hlen := HLL.out.1
    clear CH5 ho6 hb6 B5 I5 Y5 u0 u2 u3 q0 q1 hab hcc
    rw [z5] at hs6
    go_wp2_with fail
    go_loopw [15, 47] (fun _ j wr => ∃ i : Nat, i ≤ LC.length ∧ j = .int .i64 i ∧ Hid (Below w6.heap.size w6 wr) ∧ Hid ((LC.drop i).find? (conP K L1 k l') = LC.find? (conP K L1 k l'))) (fun _ j _ => LC.length - (intOf j).toNat)
    case atStart => exact ⟨0, Nat.zero_le _, rfl, Below.refl _ _, rfl⟩
    case round =>
      obtain ⟨i, hi, rfl, HWr, HFr⟩ := hrel
      by_cases hlt : i < LC.length
      · have hlt' : (i : Int) < (LC.length : Int) := by omega
        have hmeas : LC.length - (i + 1) < LC.length - i := by omega
        obtain ⟨ib, io, rfl, hib, hcell⟩ := HCC.out (by omega)
        have cY := (HWr.out.cell (p := ⟨ib, io + i, none⟩) hib).trans (hcell i hlt)
        have hcT : LC.getD i 0 < T := HLL.out.2 _ (by rw [show LC.getD i 0 = LC[i] by simp [List.getD, hlt]]; exact List.getElem_mem _)
        rw [find_drop hlt] at HFr
        obtain ⟨q0, q1⟩ := cells2 ((HWr.out.block w4.heap.size (by omega)).trans Y6.out)
        have t2 := hid ((HWr.out.cell (p := ⟨w.heap.size + 1, 0, none⟩) (by show w.heap.size + 1 < _; omega)).trans v2.out)
        have t3 := hid ((HWr.out.cell (p := ⟨w.heap.size + 1, 1, none⟩) (by show w.heap.size + 1 < _; omega)).trans v3.out)
        have C1 := hid (CO2.out (LC.getD i 0) _ wr (I6.out.below HWr.out) hcT)
        have hsr := HWr.out.size
        have BWr := hid (B6.out.trans (HWr.out.mono B6.out.size))
        clear hcell CO2
        generalize LC.getD i 0 = c at *
        have HPC : Hid (conP K L1 k l' c = (isoK (pop (dif (2 ^ K - 1) c)) (minL K L1 c c) k l').head?.isSome) := rfl
        have I1 := hid (fun v' w' hi hu => IS.out c v' w' hi hu)
        have hl2 := HL2.out c
        have O1 := hid (fun w' => ON.out c w' (by omega))
        clear IS HL2 ON
        generalize pop (dif (2 ^ K - 1) c) = KM at *
        generalize minL K L1 c c = LM at *
        generalize hII : (isoK KM LM k l').head? = HO at *
        clear hII
        go_wp2_with fail
        refine C1.out.mono ?_
        rintro e w7 ⟨r7, rfl, ho7, hb7⟩
        have b8 : Below w7.heap.size w7 (w7.alloc (.cells #[.int .i64 KM, r7] 24)) := (Below.refl _ _).alloc (Nat.le_refl _) _
        have hb78 := hb7.trans (b8.mono hb7.size)
        have y8 := World.alloc_heap_new w7 (.cells #[.int .i64 KM, r7] 24)
        have s2 := (hb78.cell (p := ⟨w.heap.size + 1, 0, none⟩) (by show w.heap.size + 1 < _; omega)).trans t2.out
        have s3 := (hb78.cell (p := ⟨w.heap.size + 1, 1, none⟩) (by show w.heap.size + 1 < _; omega)).trans t3.out
        have s2' := (hb7.cell (p := ⟨w.heap.size + 1, 0, none⟩) (by show w.heap.size + 1 < _; omega)).trans t2.out
        have s3' := (hb7.cell (p := ⟨w.heap.size + 1, 1, none⟩) (by show w.heap.size + 1 < _; omega)).trans t3.out
        have hne7 : w.heap.size + 1 < w7.heap.size := by have := hb7.size; omega
        have BW8 := hid (BWr.out.trans (hb78.mono BWr.out.size))
        have W68 := hid (HWr.out.trans (hb78.mono HWr.out.size))
        have I2 := hid (I1.out r7 _ ((ho7.below b8).ints (by omega)) (HU.out _ BW8.out))
        obtain ⟨p0, p1⟩ := cells2 y8
        obtain ⟨rg, rh, hr7⟩ := ownsRow_form' ho7
        subst hr7
        clear C1 ho7 hb7 b8 hb78 y8 q0 q1 I1
        go_wp2_with fail
        refine I2.out.mono ?_
        rintro e w9 ⟨r9, rfl, ho9, hb9⟩
        have BW9 := hid (BW8.out.trans (hb9.mono BW8.out.size))
        have W69 := hid (W68.out.trans (hb9.mono W68.out.size))
        obtain ⟨rk9, rm9, hr9⟩ := ownsRow_form' ho9
        subst hr9
        clear I2 ho9 hb9 p0 p1 s2 s3 s2' s3'
        rcases HO with _ | q
        · have HF2 : Hid ((LC.drop (i + 1)).find? (conP K L1 k l') = LC.find? (conP K L1 k l')) := by
            show _ = _
            rw [← HFr.out, HPC.out]
            rfl
          have ha : ansE none = 5 := rfl
          clear HFr HPC O1
          go_wp2_with fail
          go_roundw
          case rel => exact ⟨i + 1, hlt, by go_num, W69, HF2⟩
          case measure => exact hmeas
        · have HF2 : Hid (CR = some (old (els KP) c)) := by
            show _ = _
            rw [HC2.out, ← HFr.out, HPC.out]
            rfl
          have ha : ansE (some q) = 0 := rfl
          have O2 := hid (O1.out w9)
          clear HFr HPC O1
          go_wp2_with fail
          refine O2.out.mono ?_
          rintro e w10 ⟨rfl, hb10⟩
          have BW10 := hid (BW9.out.trans (hb10.mono BW9.out.size))
          clear hb10 O2
          go_wp2_with fail
          go_ret2
          exact ⟨by rw [HF2.out]; rfl, BW10.out⟩
      · obtain rfl : i = LC.length := by omega
        have hlt' : ¬ ((LC.length : Nat) : Int) < ((LC.length : Nat) : Int) := by omega
        have e1 : Hid (CR = none) := by
          show _ = _
          rw [HC2.out, ← HFr.out, List.drop_of_length_le (Nat.le_refl _)]
          rfl
        have BW9 := hid (B6.out.trans (HWr.out.mono B6.out.size))
        clear HFr CO2 IS ON HL2
        go_wp2_with fail
        go_ret2
        exact ⟨by rw [e1.out]; rfl, BW9.out⟩
end Go.Proofs.Ythlmnhcnpffjdaa

namespace Go.Proofs.Ythlmnhcnpffjdaa
open Go.RowKit

theorem find_rest {α : Type} {f : Nat → Option α} {T i : Nat} (h : i < T) : ((List.range T).drop i).findSome? f = (f i).or (((List.range T).drop (i + 1)).findSome? f) := by
  rw [range_drop h, List.findSome?_cons]
  cases f i <;> rfl
set_option maxRecDepth 20000 in
set_option maxHeartbeats 2000000 in
theorem Minor_ok (m k : Nat) (v u : Value) (l l' : List Nat) (w : World) (hm : m ≤ 8) (hf : Fam m l) (hb : Bas l) (h : Ints w v (N l)) (hk : k ≤ 8) (hf' : Fam k l') (hb' : Bas l') (h' : Ints w u (N l')) :
    Calls Try.prog 8 #[.agg #[.int .i64 m, v], .agg #[.int .i64 k, u]] w fun e w' => e = .returned (.tuple #[.int .i64 (((minO m l k l').getD (0, 0)).1 : Nat), .int .i64 (((minO m l k l').getD (0, 0)).2 : Nat), .int .i64 (minE (minO m l k l'))]) ∧ Below w.heap.size w w' := by
  have B0 := box2_below w m v k u
  have HS0 := hid (box2_size w m v k u)
  have C1 := hid (fun w' (hb' : Below w.heap.size w w') => check_any m v (N l) w' (h.below hb'))
  have C2 := hid (fun w' (hb' : Below w.heap.size w w') => check_any k u (N l') w' (h'.below hb'))
  rw [chk_mk hm hf hb] at C1
  rw [chk_mk hk hf' hb'] at C2
  have CN := hid (fun d w' (hd : d < 2 ^ m) (hb0 : Below w.heap.size w w') => contraction_ok m k d v u l l' w' hm hf hb (h.below hb0) hk hf' hb' (h'.below hb0) hd)
  have HB0 := hid B0
  have HX : Hid (∀ w2, Below (box2 w m v k u).heap.size (box2 w m v k u) w2 → _) := fun w2 h => box2_blocks h
  obtain ⟨T, HT, hT2, hT⟩ : ∃ T : Nat, Hid (2 ^ m = T) ∧ T ≤ 256 ∧ wrap64 (2 ^ m) = (T : Int) := ⟨2 ^ m, Eq.refl (2 ^ m), (pow_wrap _ hm).2, (pow_wrap _ hm).1⟩
  have HM : Hid (minO m l k l' = ((List.range T).drop 0).findSome? fun d => (conO m l k l' d).map fun c => (d, c)) := by show _ = _; rw [← HT.out, List.drop_zero]; rfl
  have hpw : IntKind.i64.wrap (2 ^ m) = (T : Int) := by rw [show (2 : Int) ^ m = ((2 ^ m : Nat) : Int) by simp, HT.out]; exact wrap_i64_nat _ (by omega)
  obtain ⟨a0, cap, hv, -, -⟩ := h.nats
  obtain ⟨a1, cap1, hu, -, -⟩ := h'.nats
  subst hv
  subst hu
  clear hf hb hf' hb' h h' B0
  generalize minO m l k l' = MO at *
  rw [HT.out] at CN
  obtain ⟨y0, y1⟩ := HX.out _ (Below.refl _ _)
  obtain ⟨x0, x1⟩ := cells2 y0
  obtain ⟨x2, x3⟩ := cells2 y1
  have hw2 : (w.alloc (.cells #[.int .i64 m, .slice a0 l.length cap] 24)).alloc (.cells #[.int .i64 k, .slice a1 l'.length cap1] 24) = box2 w m (.slice a0 l.length cap) k (.slice a1 l'.length cap1) := rfl
  generalize hW2 : box2 w m (.slice a0 l.length cap) k (.slice a1 l'.length cap1) = W2 at *
  go_enter Try.func8, Try.ntmps8
  go_wp2_with fail
  have b3 : Below W2.heap.size W2 (W2.alloc (.cells #[.int .i64 m, .slice a0 l.length cap, .int .i64 k, .slice a1 l'.length cap1] 24)) := (Below.refl _ _).alloc (Nat.le_refl _) _
  have y3 := World.alloc_heap_new W2 (.cells #[.int .i64 m, .slice a0 l.length cap, .int .i64 k, .slice a1 l'.length cap1] 24)
  have z3 := World.size_alloc W2 (.cells #[.int .i64 m, .slice a0 l.length cap, .int .i64 k, .slice a1 l'.length cap1] 24)
  revert b3 y3 z3
  generalize W2.alloc (.cells #[.int .i64 m, .slice a0 l.length cap, .int .i64 k, .slice a1 l'.length cap1] 24) = W3
  intro b3 y3 z3
  have B3 := hid (HB0.out.trans (b3.mono HB0.out.size))
  have hs3 : W3.heap.size = w.heap.size + 3 := by rw [z3, HS0.out]
  have Y0 := hid ((b3.block w.heap.size (by rw [HS0.out]; omega)).trans y0)
  have Y1 := hid ((b3.block (w.heap.size + 1) (by rw [HS0.out]; omega)).trans y1)
  have Y3 : Hid (W3.heap[w.heap.size + 2]? = some (.cells #[.int .i64 m, .slice a0 l.length cap, .int .i64 k, .slice a1 l'.length cap1] 24 (0, 0))) := by
    have := y3
    rwa [HS0.out] at this
  rw [HS0.out]
  clear b3 y3 z3 y0 y1 x0 x1 x2 x3 hw2 HB0 HX HS0 hW2
  go_loopw [8, 9, 17] (fun _ _ j wr => ∃ i : Nat, i ≤ 2 ∧ j = .int .i64 i ∧ Hid (Below W3.heap.size W3 wr)) (fun _ _ j _ => 2 - (intOf j).toNat)
  case atStart => exact ⟨0, by decide, rfl, Below.refl _ _⟩
  case round =>
    obtain ⟨i, hi, rfl, HWr⟩ := hrel
    have BWr := hid (B3.out.trans (HWr.out.mono B3.out.size))
    have hbk := (HWr.out.block (w.heap.size + 2) (by omega)).trans Y3.out
    have g0 : wr.cell? ⟨w.heap.size + 2, 0, none⟩ = some (.int .i64 m) := by simp [World.cell?, hbk]
    have g1 : wr.cell? ⟨w.heap.size + 2, 1, none⟩ = some (.slice a0 l.length cap) := by simp [World.cell?, hbk]
    have g2 : wr.cell? ⟨w.heap.size + 2, 2, none⟩ = some (.int .i64 k) := by simp [World.cell?, hbk]
    have g3 : wr.cell? ⟨w.heap.size + 2, 3, none⟩ = some (.slice a1 l'.length cap1) := by simp [World.cell?, hbk]
    clear hbk
    rcases show i = 0 ∨ i = 1 ∨ i = 2 by omega with rfl | rfl | rfl
    · have z0 := g0
      have z1 := g1
      have bx : Below wr.heap.size wr (wr.alloc (.cells #[.int .i64 m, .slice a0 l.length cap] 24)) := (Below.refl _ _).alloc (Nat.le_refl _) _
      have K1 := hid (C1.out _ (BWr.out.trans (bx.mono BWr.out.size)))
      have HWx := hid (HWr.out.trans (bx.mono HWr.out.size))
      clear bx CN g0 g1 g2 g3
      go_wp2_with fail
      refine K1.out.mono ?_
      rintro e w4 ⟨rfl, hb4⟩
      have HW4 := hid (HWx.out.trans (hb4.mono HWx.out.size))
      clear hb4 K1
      go_wp2_with fail
      go_roundw
      case rel => exact ⟨0 + 1, by decide, by rfl, HW4⟩
      case measure => simp [intOf]
    · have z0 := g2
      have z1 := g3
      have bx : Below wr.heap.size wr (wr.alloc (.cells #[.int .i64 k, .slice a1 l'.length cap1] 24)) := (Below.refl _ _).alloc (Nat.le_refl _) _
      have K1 := hid (C2.out _ (BWr.out.trans (bx.mono BWr.out.size)))
      have HWx := hid (HWr.out.trans (bx.mono HWr.out.size))
      clear bx CN g0 g1 g2 g3
      go_wp2_with fail
      refine K1.out.mono ?_
      rintro e w4 ⟨rfl, hb4⟩
      have HW4 := hid (HWx.out.trans (hb4.mono HWx.out.size))
      clear hb4 K1
      go_wp2_with fail
      go_roundw
      case rel => exact ⟨1 + 1, by decide, by rfl, HW4⟩
      case measure => simp [intOf]
    · obtain ⟨x0, x1⟩ := cells2 ((HWr.out.block w.heap.size (by omega)).trans Y0.out)
      obtain ⟨x2, x3⟩ := cells2 ((HWr.out.block (w.heap.size + 1) (by omega)).trans Y1.out)
      have hsr := HWr.out.size
      have X0 := hid ((HWr.out.block w.heap.size (by omega)).trans Y0.out)
      have X1 := hid ((HWr.out.block (w.heap.size + 1) (by omega)).trans Y1.out)
      clear g0 g1 g2 g3 C1 C2 HWr Y0 Y1 Y3 B3
      rw [show ((2 : Nat) : Int) = 2 from rfl]
      go_wp2_with fail
      go_loopw [10, 30] (fun _ j wx => ∃ i : Nat, i ≤ T ∧ j = .int .i64 i ∧ Hid (Below wr.heap.size wr wx) ∧ Hid (((List.range T).drop i).findSome? (fun d => (conO m l k l' d).map fun c => (d, c)) = MO)) (fun _ j _ => T - (intOf j).toNat)
      case atStart => exact ⟨0, Nat.zero_le _, rfl, Below.refl _ _, HM.out.symm⟩
      case round =>
        rename_i wr0 _
        obtain ⟨i, hi, rfl, HWx, HFx⟩ := hrel
        have BWx := hid (BWr.out.trans (HWx.out.mono BWr.out.size))
        by_cases hlt : i < T
        · have hlt' : (i : Int) < (T : Int) := by omega
          have hmeas : T - (i + 1) < T - i := by omega
          obtain ⟨c0, c1⟩ := cells2 ((HWx.out.block w.heap.size (by omega)).trans X0.out)
          obtain ⟨c2, c3⟩ := cells2 ((HWx.out.block (w.heap.size + 1) (by omega)).trans X1.out)
          have K1 := hid (CN.out i wr hlt BWx.out)
          rw [find_rest hlt] at HFx
          clear CN x0 x1 x2 x3 HM
          generalize conO m l k l' i = CO at *
          go_wp2_with fail
          refine K1.out.mono ?_
          rintro e w4 ⟨rfl, hb4⟩
          have HW4 := hid (HWx.out.trans (hb4.mono HWx.out.size))
          have BW4 := hid (BWx.out.trans (hb4.mono BWx.out.size))
          clear hb4 K1 c0 c1 c2 c3
          rcases CO with _ | c
          · have HF2 : Hid (((List.range T).drop (i + 1)).findSome? (fun d => (conO m l k l' d).map fun c => (d, c)) = MO) := HFx.out
            clear HFx
            go_wp2_with fail
            go_roundw
            case rel => exact ⟨i + 1, hlt, by go_num, HW4, HF2⟩
            case measure => exact hmeas
          · have HF2 : Hid (MO = some (i, c)) := HFx.out.symm
            clear HFx
            go_wp2_with fail
            go_ret3
            exact ⟨by rw [HF2.out]; rfl, BW4.out⟩
        · obtain rfl : i = T := by omega
          have hlt' : ¬ (i : Int) < (i : Int) := by omega
          have HF2 : Hid (MO = none) := by
            show _ = _
            rw [← HFx.out, List.drop_of_length_le (by simp)]
            rfl
          clear HFx CN HM x0 x1 x2 x3
          go_wp2_with fail
          go_ret3
          exact ⟨by rw [HF2.out]; rfl, BWx.out⟩
end Go.Proofs.Ythlmnhcnpffjdaa

namespace Go.Proofs.Ythlmnhcnpffjdaa
open Go.RowKit

set_option maxRecDepth 20000 in
set_option maxHeartbeats 2000000 in
theorem Minor_bad (n k : Int) (v u : Value) (zs ys : List Int) (w : World) (h : Ints w v zs) (h' : Ints w u ys) (hc : chk2 n zs k ys ≠ 0) :
    Calls Try.prog 8 #[.agg #[.int .i64 n, v], .agg #[.int .i64 k, u]] w fun e w' => e = .returned (.tuple #[.int .i64 0, .int .i64 0, .int .i64 (chk2 n zs k ys)]) ∧ Below w.heap.size w w' := by
  have B0 := box2_below w n v k u
  have HS0 := hid (box2_size w n v k u)
  have C1 := hid (fun w' (hb' : Below w.heap.size w w') => check_any n v zs w' (h.below hb'))
  have C2 := hid (fun w' (hb' : Below w.heap.size w w') => check_any k u ys w' (h'.below hb'))
  have HQ : Hid (chk2 n zs k ys = if chkR n zs = 0 then chkR k ys else chkR n zs) := rfl
  have HB0 := hid B0
  have HC := hid hc
  obtain ⟨a0, cap, rfl, -, -⟩ := h
  obtain ⟨a1, cap1, rfl, -, -⟩ := h'
  generalize chkR n zs = qE at *
  generalize chkR k ys = qK at *
  generalize chk2 n zs k ys = q at *
  obtain ⟨y0, y1⟩ := box2_blocks (Below.refl _ (box2 w n (.slice a0 zs.length cap) k (.slice a1 ys.length cap1)))
  obtain ⟨x0, x1⟩ := cells2 y0
  obtain ⟨x2, x3⟩ := cells2 y1
  have hw2 : (w.alloc (.cells #[.int .i64 n, .slice a0 zs.length cap] 24)).alloc (.cells #[.int .i64 k, .slice a1 ys.length cap1] 24) = box2 w n (.slice a0 zs.length cap) k (.slice a1 ys.length cap1) := rfl
  generalize hW2 : box2 w n (.slice a0 zs.length cap) k (.slice a1 ys.length cap1) = W2 at *
  clear B0 hc
  go_enter Try.func8, Try.ntmps8
  go_wp2_with fail
  have b3 : Below W2.heap.size W2 (W2.alloc (.cells #[.int .i64 n, .slice a0 zs.length cap, .int .i64 k, .slice a1 ys.length cap1] 24)) := (Below.refl _ _).alloc (Nat.le_refl _) _
  have y3 := World.alloc_heap_new W2 (.cells #[.int .i64 n, .slice a0 zs.length cap, .int .i64 k, .slice a1 ys.length cap1] 24)
  have z3 := World.size_alloc W2 (.cells #[.int .i64 n, .slice a0 zs.length cap, .int .i64 k, .slice a1 ys.length cap1] 24)
  revert b3 y3 z3
  generalize W2.alloc (.cells #[.int .i64 n, .slice a0 zs.length cap, .int .i64 k, .slice a1 ys.length cap1] 24) = W3
  intro b3 y3 z3
  have B3 := hid (HB0.out.trans (b3.mono HB0.out.size))
  have hs3 : W3.heap.size = w.heap.size + 3 := by rw [z3, HS0.out]
  have Y3 : Hid (W3.heap[w.heap.size + 2]? = some (.cells #[.int .i64 n, .slice a0 zs.length cap, .int .i64 k, .slice a1 ys.length cap1] 24 (0, 0))) := by
    have := y3
    rwa [HS0.out] at this
  rw [HS0.out]
  clear b3 y3 z3 y0 y1 x0 x1 x2 x3 hw2 HB0 HS0 hW2
  go_loopw [8, 9, 17] (fun _ _ j wr => ∃ i : Nat, i ≤ 1 ∧ j = .int .i64 i ∧ Hid (i = 1 → qE = 0) ∧ Hid (Below W3.heap.size W3 wr)) (fun _ _ j _ => 2 - (intOf j).toNat)
  case atStart => exact ⟨0, by decide, rfl, (fun e => absurd e (by decide)), Below.refl _ _⟩
  case round =>
    obtain ⟨i, hi, rfl, HIE, HWr⟩ := hrel
    have BWr := hid (B3.out.trans (HWr.out.mono B3.out.size))
    have hbk := (HWr.out.block (w.heap.size + 2) (by omega)).trans Y3.out
    have g0 : wr.cell? ⟨w.heap.size + 2, 0, none⟩ = some (.int .i64 n) := by simp [World.cell?, hbk]
    have g1 : wr.cell? ⟨w.heap.size + 2, 1, none⟩ = some (.slice a0 zs.length cap) := by simp [World.cell?, hbk]
    have g2 : wr.cell? ⟨w.heap.size + 2, 2, none⟩ = some (.int .i64 k) := by simp [World.cell?, hbk]
    have g3 : wr.cell? ⟨w.heap.size + 2, 3, none⟩ = some (.slice a1 ys.length cap1) := by simp [World.cell?, hbk]
    clear hbk
    rcases show i = 0 ∨ i = 1 by omega with rfl | rfl
    · have bx : Below wr.heap.size wr (wr.alloc (.cells #[.int .i64 n, .slice a0 zs.length cap] 24)) := (Below.refl _ _).alloc (Nat.le_refl _) _
      have BWx := hid (BWr.out.trans (bx.mono BWr.out.size))
      have K1 := hid (C1.out _ BWx.out)
      have HWx := hid (HWr.out.trans (bx.mono HWr.out.size))
      clear bx
      go_wp2_with fail
      refine K1.out.mono ?_
      rintro e w4 ⟨rfl, hb4⟩
      have HW4 := hid (HWx.out.trans (hb4.mono HWx.out.size))
      have BW4 := hid (BWx.out.trans (hb4.mono BWx.out.size))
      clear hb4 K1
      by_cases hq : qE = 0
      · have hq' : (qE != 0) = false := by simp [hq]
        have HE := hid hq
        clear hq
        go_wp2_with fail
        go_roundw
        case rel => exact ⟨1, by decide, by rfl, fun _ => HE.out, HW4⟩
        case measure => simp [intOf]
      · have hq' : (qE != 0) = true := by simp [hq]
        have e1 : Hid (q = qE) := by show _ = _; rw [HQ.out, if_neg hq]
        clear hq
        go_wp2_with fail
        go_ret3
        exact ⟨by rw [e1.out]; rfl, BW4.out⟩
    · have bx : Below wr.heap.size wr (wr.alloc (.cells #[.int .i64 k, .slice a1 ys.length cap1] 24)) := (Below.refl _ _).alloc (Nat.le_refl _) _
      have BWx := hid (BWr.out.trans (bx.mono BWr.out.size))
      have K1 := hid (C2.out _ BWx.out)
      have e1 : Hid (q = qK) := by show _ = _; rw [HQ.out, if_pos (HIE.out rfl)]
      have hq' : (qK != 0) = true := by rw [bne_iff_ne]; exact fun e => HC.out (by rw [e1.out, e])
      clear bx
      go_wp2_with fail
      refine K1.out.mono ?_
      rintro e w4 ⟨rfl, hb4⟩
      have BW4 := hid (BWx.out.trans (hb4.mono BWx.out.size))
      clear hb4 K1
      go_wp2_with fail
      go_ret3
      exact ⟨by rw [e1.out]; rfl, BW4.out⟩
end Go.Proofs.Ythlmnhcnpffjdaa
