/- same.contraction. -/
import Derived.Test.YtgdcfogikchjeaaOrdLW
import Derived.Test.YtgdcfogikchjeaaPlainAll
import Derived.Test.YtgdcfogikchjeaaDelConQ
import Derived.Test.YtgdcfogikchjeaaTakeW
import Derived.Test.YtgdcfogikchjeaaQBelW
namespace Go.Proofs.Ytgdcfogikchjeaa
open Go.RowKit

theorem find_drop {P : Nat → Bool} {L : List Nat} {i : Nat} (h : i < L.length) : (L.drop i).find? P = if P (L.getD i 0) = true then some (L.getD i 0) else (L.drop (i + 1)).find? P := by
  rw [List.drop_eq_getElem_cons h, List.find?_cons]
  rw [show L.getD i 0 = L[i] by simp [List.getD, h]]
  cases P L[i] <;> rfl
set_option maxRecDepth 20000 in
set_option maxHeartbeats 2000000 in
theorem contraction_ok (m k d : Nat) (v u : Value) (l l' : List Nat) (w : World) (hm : m ≤ 8) (hf : Fam m l) (hb : Bas l) (h : Ints w v (N l)) (hk : k ≤ 8) (hf' : Fam k l') (hb' : Bas l') (h' : Ints w u (N l')) (hd : d < 2 ^ m) :
    Calls Try.prog 52 #[.agg #[.int .i64 m, v], .agg #[.int .i64 k, u], .int .i64 d] w fun e w' => e = .returned (.tuple #[.int .i64 ((conO m l k l' d).getD 0 : Nat), .bool (conO m l k l' d).isSome]) ∧ Below w.heap.size w w' := by
  have B0 := box2_below w m v k u
  have HS0 := hid (box2_size w m v k u)
  have HW := hid (fun w' => wholeSet_any m w' hm)
  have hfl := full_lt m
  have hT8 := (pow_wrap m hm).2
  have hand : bits .andNot .i64 ((2 ^ m - 1 : Nat) : Int) (d : Int) = ((dif (2 ^ m - 1) d : Nat) : Int) := i64_andNot_nat _ d (by omega) (by omega)
  have hkl := kept_lt hm d
  have hK8 := kept_le hm d
  have SZ := hid (fun w' => size_any (dif (2 ^ m - 1) d) w' hkl)
  have DE := hid (fun w' (hb' : Below w.heap.size w w') => Delete_ok m d v l w' hm hf hb (h.below hb') hd)
  have ON := hid (fun c w' (hc : c < 256) => oldN_any c (dif (2 ^ m - 1) d) w' hc hkl)
  have CO := hid (fun c v' w' (hi : Ints w' v' (N (minL m l d 0))) (hc : c < 2 ^ pop (dif (2 ^ m - 1) d)) => Contract_ok (pop (dif (2 ^ m - 1) d)) c v' (minL m l d 0) w' hK8 (min_fam m l d 0) (min_bas hm hb d 0) hi hc)
  have IS := hid (fun c v' w' (hi : Ints w' v' (N (minL (pop (dif (2 ^ m - 1) d)) (minL m l d 0) c c))) (hu : Ints w' u (N l')) => Isomorphic_ok (pop (dif (2 ^ pop (dif (2 ^ m - 1) d) - 1) c)) k v' u (minL (pop (dif (2 ^ m - 1) d)) (minL m l d 0) c c) l' w' (kept_le hK8 c) (min_fam _ _ _ _) (min_bas hK8 (min_bas hm hb d 0) c c) hi hk hf' hb' hu)
  have HU := hid (fun w' (hb : Below w.heap.size w w') => h'.below hb)
  have HL2 : Hid (∀ c, (minL (pop (dif (2 ^ m - 1) d)) (minL m l d 0) c c).length ≤ 256) := fun c => fam_len (kept_le hK8 c) (min_fam _ _ _ _)
  have HL1 : Hid ((minL m l d 0).length ≤ 256) := fam_len hK8 (min_fam _ _ _ _)
  have HB0 := hid B0
  have HX : Hid (∀ w2, Below (box2 w m v k u).heap.size (box2 w m v k u) w2 → _) := fun w2 h => box2_blocks h
  have HC : Hid (conO m l k l' d = if pop (dif (2 ^ m - 1) d) < k then none else ((conL (pop (dif (2 ^ m - 1) d)) k).find? (conP (pop (dif (2 ^ m - 1) d)) (minL m l d 0) k l')).map (old (els (dif (2 ^ m - 1) d)))) := rfl
  obtain ⟨a0, cap, hv, -, -⟩ := h.nats
  obtain ⟨a1, cap1, hu, -, -⟩ := h'.nats
  subst hv
  subst hu
  clear hf hb hf' hb' h h' B0
  generalize conO m l k l' d = CR at *
  generalize minL m l d 0 = L1 at *
  generalize hKP : dif (2 ^ m - 1) d = KP at *
  generalize 2 ^ m - 1 = F at *
  have HCH := hid (fun w' (h : k ≤ pop KP) => Choose_good (pop KP) (pop KP - k) w' hK8 (by omega))
  generalize pop KP = K at *
  have hF1 := HX.out _ (Below.refl _ _)
  obtain ⟨y0, y1⟩ := hF1
  obtain ⟨x0, x1⟩ := cells2 y0
  obtain ⟨x2, x3⟩ := cells2 y1
  clear y0 y1 hKP
  have hw2 : (w.alloc (.cells #[.int .i64 m, .slice a0 l.length cap] 33)).alloc (.cells #[.int .i64 k, .slice a1 l'.length cap1] 33) = box2 w m (.slice a0 l.length cap) k (.slice a1 l'.length cap1) := rfl
  generalize hW2 : box2 w m (.slice a0 l.length cap) k (.slice a1 l'.length cap1) = W2 at *
  go_enter Try.func52, Try.ntmps52
  go_wp2_with fail
  refine (HW.out _).mono ?_
  rintro e w' ⟨rfl, hw'⟩
  obtain rfl := hw'.symm
  go_wp2_with fail
  have HD : Hid (∀ q, Below w.heap.size w (W2.drewN q)) := fun q => HB0.out.trans ⟨rfl, rfl, rfl, Nat.le_refl _, fun _ _ => rfl⟩
  by_cases hKk : K < k
  · have e1 : Hid (CR = none) := by show _ = _; rw [HC.out, if_pos hKk]
    have hneg : (K : Int) - (k : Int) < 0 := by omega
    clear HC DE ON CO IS HU HL2 HL1 HX HCH hKk HW
    go_quiet ((go_at_call 10; refine (SZ.out _).mono ?_; rintro e w' ⟨rfl, rfl⟩; exact ⟨rfl, _, rfl⟩))
    go_wp2_with fail
    go_ret2
    exact ⟨by rw [e1.out]; rfl, HD.out _⟩
  · have HC2 : Hid (CR = ((conL K k).find? (conP K L1 k l')).map (old (els KP))) := by show _ = _; rw [HC.out, if_neg hKk]
    have HCH2 := hid (fun w' => HCH.out w' (by omega))
    obtain ⟨D, hD⟩ : ∃ D : Nat, K - k = D := ⟨_, rfl⟩
    have hsub : (K : Int) - (k : Int) = (D : Int) := by omega
    have hnn : ¬ (D : Int) < 0 := by omega
    rw [hD] at HCH2
    have HLL : Hid ((conL K k).length ≤ 256 ∧ ∀ c ∈ conL K k, c < 2 ^ K) := ⟨fil_len hK8 _, fun c hc => List.mem_range.1 (List.mem_filter.1 hc).1⟩
    have HLE : Hid (conL K k = (List.range (2 ^ K)).filter fun s => pop s == D) := by show _ = _; unfold conL; rw [hD]
    rw [← HLE.out] at HCH2
    have h2K := (pow_wrap K hK8).2
    clear HC HCH hKk hD HLE HW
    generalize conL K k = LC at *
    obtain ⟨T, HT⟩ : ∃ T, Hid (2 ^ K = T) := ⟨2 ^ K, Eq.refl (2 ^ K)⟩
    rw [HT.out] at h2K HLL
    have CO2 := hid (fun c v' w' hi (hc : c < T) => CO.out c v' w' hi (by rw [HT.out]; exact hc))
    clear CO
    go_quiet ((go_at_call 10; refine (SZ.out _).mono ?_; rintro e w' ⟨rfl, rfl⟩; exact ⟨rfl, _, rfl⟩))
    clear SZ
    have x0' : (W2.drewN nq).cell? ⟨w.heap.size, 0, none⟩ = some (.int .i64 m) := x0
    have x1' : (W2.drewN nq).cell? ⟨w.heap.size, 1, none⟩ = some (.slice a0 l.length cap) := x1
    have x2' : (W2.drewN nq).cell? ⟨w.heap.size + 1, 0, none⟩ = some (.int .i64 k) := x2
    have x3' : (W2.drewN nq).cell? ⟨w.heap.size + 1, 1, none⟩ = some (.slice a1 l'.length cap1) := x3
    have D1 := hid (DE.out _ (HD.out nq))
    have HB3 := hid (HD.out nq)
    have hs3 : w.heap.size + 2 ≤ (W2.drewN nq).heap.size := by show _ ≤ W2.heap.size; rw [HS0.out]; exact Nat.le_refl _
    clear HD DE x0 x1 x2 x3 HB0 HS0 HX hw2 hW2
    generalize W2.drewN nq = W3 at *
    go_wp2_with fail
    refine D1.out.mono ?_
    rintro e w4 ⟨r4, rfl, ho4, hb4⟩
    have b5 : Below w4.heap.size w4 (w4.alloc (.cells #[.int .i64 K, r4] 33)) := (Below.refl _ _).alloc (Nat.le_refl _) _
    have hb35 := hb4.trans (b5.mono hb4.size)
    have z5 := World.size_alloc w4 (.cells #[.int .i64 K, r4] 33)
    have y5 := World.alloc_heap_new w4 (.cells #[.int .i64 K, r4] 33)
    have B5 := hid (HB3.out.trans (hb35.mono HB3.out.size))
    have I5 := hid ((ho4.below b5).ints (by have := HL1.out; omega))
    have u0 := (hb35.cell (p := ⟨w.heap.size, 0, none⟩) (by show w.heap.size < _; omega)).trans x0'
    have u2 := (hb35.cell (p := ⟨w.heap.size + 1, 0, none⟩) (by show w.heap.size + 1 < _; omega)).trans x2'
    have u3 := (hb35.cell (p := ⟨w.heap.size + 1, 1, none⟩) (by show w.heap.size + 1 < _; omega)).trans x3'
    have hs5 : w.heap.size + 2 ≤ w4.heap.size := Nat.le_trans hs3 hb4.size
    have CH5 := hid (HCH2.out (w4.alloc (.cells #[.int .i64 K, r4] 33)))
    have Y5 := hid y5
    obtain ⟨q0, q1⟩ := cells2 y5
    obtain ⟨ra, rc, hr4⟩ := ownsRow_form' ho4
    subst hr4
    clear D1 ho4 hb4 b5 hb35 y5 x0' x1' x2' x3' HB3 HCH2 hs3
    go_wp2_with fail
    refine CH5.out.mono ?_
    rintro e w6 ⟨r6, rfl, ho6, hb6⟩
    have hs6 := hb6.size
    have B6 := hid (B5.out.trans (hb6.mono B5.out.size))
    have I6 := hid (I5.out.below hb6)
    have Y6 := hid ((hb6.block w4.heap.size (by omega)).trans Y5.out)
    have v2 := hid ((hb6.cell (p := ⟨w.heap.size + 1, 0, none⟩) (by show w.heap.size + 1 < _; omega)).trans u2)
    have v3 := hid ((hb6.cell (p := ⟨w.heap.size + 1, 1, none⟩) (by show w.heap.size + 1 < _; omega)).trans u3)
    obtain ⟨rb, rd, hr6⟩ := ownsRow_form' ho6
    subst hr6
    obtain ⟨ab, cb, hab, hlc, hcc⟩ := (ho6.ints (by have := HLL.out.1; omega)).nats
    obtain ⟨rfl, rfl⟩ : rb = ab ∧ rd = cb := by simpa using hab
    have HCC := hid hcc
    have hlen := HLL.out.1
    clear CH5 ho6 hb6 B5 I5 Y5 u0 u2 u3 q0 q1 hab hcc
    rw [z5] at hs6
    go_wp2_with fail
    go_loopw [15, 47] (fun _ j wr => ∃ i : Nat, i ≤ LC.length ∧ j = .int .i64 i ∧ Hid (Below w6.heap.size w6 wr) ∧ Hid ((LC.drop i).find? (conP K L1 k l') = LC.find? (conP K L1 k l'))) (fun _ j _ => LC.length - (intOf j).toNat)
    case atStart => exact ⟨0, Nat.zero_le _, rfl, Below.refl _ _, rfl⟩
    case round =>
      obtain ⟨i, hi, rfl, HWr, HFr⟩ := hrel
      by_cases hlt : i < LC.length
      · have hlt' : (i : Int) < (LC.length : Int) := by omega
        have hmeas : LC.length - (i + 1) < LC.length - i := by omega
        obtain ⟨ib, io, rfl, hib, hcell⟩ := HCC.out (by omega)
        have cY := (HWr.out.cell (p := ⟨ib, io + i, none⟩) hib).trans (hcell i hlt)
        have hcT : LC.getD i 0 < T := HLL.out.2 _ (by rw [show LC.getD i 0 = LC[i] by simp [List.getD, hlt]]; exact List.getElem_mem _)
        rw [find_drop hlt] at HFr
        obtain ⟨q0, q1⟩ := cells2 ((HWr.out.block w4.heap.size (by omega)).trans Y6.out)
        have t2 := hid ((HWr.out.cell (p := ⟨w.heap.size + 1, 0, none⟩) (by show w.heap.size + 1 < _; omega)).trans v2.out)
        have t3 := hid ((HWr.out.cell (p := ⟨w.heap.size + 1, 1, none⟩) (by show w.heap.size + 1 < _; omega)).trans v3.out)
        have C1 := hid (CO2.out (LC.getD i 0) _ wr (I6.out.below HWr.out) hcT)
        have hsr := HWr.out.size
        have BWr := hid (B6.out.trans (HWr.out.mono B6.out.size))
        clear hcell CO2
        generalize LC.getD i 0 = c at *
        have HPC : Hid (conP K L1 k l' c = (isoK (pop (dif (2 ^ K - 1) c)) (minL K L1 c c) k l').head?.isSome) := rfl
        have I1 := hid (fun v' w' hi hu => IS.out c v' w' hi hu)
        have hl2 := HL2.out c
        have O1 := hid (fun w' => ON.out c w' (by omega))
        clear IS HL2 ON
        generalize pop (dif (2 ^ K - 1) c) = KM at *
        generalize minL K L1 c c = LM at *
        generalize hII : (isoK KM LM k l').head? = HO at *
        clear hII
        go_wp2_with fail
        refine C1.out.mono ?_
        rintro e w7 ⟨r7, rfl, ho7, hb7⟩
        have b8 : Below w7.heap.size w7 (w7.alloc (.cells #[.int .i64 KM, r7] 33)) := (Below.refl _ _).alloc (Nat.le_refl _) _
        have hb78 := hb7.trans (b8.mono hb7.size)
        have y8 := World.alloc_heap_new w7 (.cells #[.int .i64 KM, r7] 33)
        have s2 := (hb78.cell (p := ⟨w.heap.size + 1, 0, none⟩) (by show w.heap.size + 1 < _; omega)).trans t2.out
        have s3 := (hb78.cell (p := ⟨w.heap.size + 1, 1, none⟩) (by show w.heap.size + 1 < _; omega)).trans t3.out
        have s2' := (hb7.cell (p := ⟨w.heap.size + 1, 0, none⟩) (by show w.heap.size + 1 < _; omega)).trans t2.out
        have s3' := (hb7.cell (p := ⟨w.heap.size + 1, 1, none⟩) (by show w.heap.size + 1 < _; omega)).trans t3.out
        have hne7 : w.heap.size + 1 < w7.heap.size := by have := hb7.size; omega
        have BW8 := hid (BWr.out.trans (hb78.mono BWr.out.size))
        have W68 := hid (HWr.out.trans (hb78.mono HWr.out.size))
        have I2 := hid (I1.out r7 _ ((ho7.below b8).ints (by omega)) (HU.out _ BW8.out))
        obtain ⟨p0, p1⟩ := cells2 y8
        obtain ⟨rg, rh, hr7⟩ := ownsRow_form' ho7
        subst hr7
        clear C1 ho7 hb7 b8 hb78 y8 q0 q1 I1
        go_wp2_with fail
        refine I2.out.mono ?_
        rintro e w9 ⟨r9, rfl, ho9, hb9⟩
        have BW9 := hid (BW8.out.trans (hb9.mono BW8.out.size))
        have W69 := hid (W68.out.trans (hb9.mono W68.out.size))
        obtain ⟨rk9, rm9, hr9⟩ := ownsRow_form' ho9
        subst hr9
        clear I2 ho9 hb9 p0 p1 s2 s3 s2' s3'
        rcases HO with _ | q
        · have HF2 : Hid ((LC.drop (i + 1)).find? (conP K L1 k l') = LC.find? (conP K L1 k l')) := by
            show _ = _
            rw [← HFr.out, HPC.out]
            rfl
          have ha : ansE none = 5 := rfl
          clear HFr HPC O1
          go_wp2_with fail
          go_roundw
          case rel => exact ⟨i + 1, hlt, by go_num, W69, HF2⟩
          case measure => exact hmeas
        · have HF2 : Hid (CR = some (old (els KP) c)) := by
            show _ = _
            rw [HC2.out, ← HFr.out, HPC.out]
            rfl
          have ha : ansE (some q) = 0 := rfl
          have O2 := hid (O1.out w9)
          clear HFr HPC O1
          go_wp2_with fail
          refine O2.out.mono ?_
          rintro e w10 ⟨rfl, hb10⟩
          have BW10 := hid (BW9.out.trans (hb10.mono BW9.out.size))
          clear hb10 O2
          go_wp2_with fail
          go_ret2
          exact ⟨by rw [HF2.out]; rfl, BW10.out⟩
      · obtain rfl : i = LC.length := by omega
        have hlt' : ¬ ((LC.length : Nat) : Int) < ((LC.length : Nat) : Int) := by omega
        have e1 : Hid (CR = none) := by
          show _ = _
          rw [HC2.out, ← HFr.out, List.drop_of_length_le (Nat.le_refl _)]
          rfl
        have BW9 := hid (B6.out.trans (HWr.out.mono B6.out.size))
        clear HFr CO2 IS ON HL2
        go_wp2_with fail
        go_ret2
        exact ⟨by rw [e1.out]; rfl, BW9.out⟩
end Go.Proofs.Ytgdcfogikchjeaa
