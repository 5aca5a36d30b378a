/- rotaref.IsReduced, rotaref.Nought. -/
import Derived.Test.YtboiciflkihlgaaFdSQ
import Derived.Test.YtboiciflkihlgaaFdRQ
import Derived.Test.YtboiciflkihlgaaFdOQ
namespace Go.Proofs.Ytboiciflkihlgaa
open Go.RowKit

theorem RowsI.reads {w : World} {v : Value} {Q : List (List Int)} {c : Nat} (h : RowsI w v Q) (hl : ∀ k, k < Q.length → (Q.getD k []).length = c) : ∃ a cap, v = .slice a Q.length cap ∧ ∀ k, k < Q.length → ∃ b off, a = some ⟨b, off, none⟩ ∧ ∃ ra rc, ∀ wr, Below w.heap.size w wr → wr.cell? ⟨b, off + k, none⟩ = some (.slice ra c rc) ∧ Ints wr (.slice ra c rc) ((List.range c).map (rowF Q k)) ∧ ∀ m, m < c → ∃ rb ro, ra = some ⟨rb, ro, none⟩ ∧ wr.cell? ⟨rb, ro + m, none⟩ = some (.int .i64 (rowF Q k m)) := by
  obtain ⟨a, cap, rfl, -, hcc⟩ := h
  refine ⟨a, cap, rfl, fun k hk => ?_⟩
  obtain ⟨b, off, h1, h2, h3⟩ := hcc (by omega)
  obtain ⟨u, h4, h5⟩ := h3 k hk
  have hl2 := hl k hk
  have e : (List.range c).map (rowF Q k) = Q.getD k [] := by
    refine List.ext_getElem (by rw [List.length_map, List.length_range, hl2]) fun r g1 g2 => ?_
    rw [List.getElem_map, List.getElem_range]
    show (Q.getD k []).getD r 0 = _
    generalize Q.getD k [] = l at *
    simp [List.getD, g2]
  have h5' := h5
  obtain ⟨ra, rc, rfl, -, -⟩ := h5
  rw [hl2] at h4 h5'
  refine ⟨b, off, h1, ra, rc, fun wr hbw => ⟨?_, by rw [e]; exact h5'.below hbw, fun m hmc => ?_⟩⟩
  · rw [hbw.cell (p := ⟨b, off + k, none⟩) h2, h4]
  · obtain ⟨ra2, rc2, e1, -, e3⟩ := h5'.below hbw
    have e1' := e1
    cases e1'
    obtain ⟨rb, ro, e4, -, e6⟩ := e3 (by omega)
    exact ⟨rb, ro, e4, e6 m (by omega)⟩
theorem MatOK.lens {p : Int} {c : Nat} {Q : List (List Int)} (hm : MatOK p c Q) : ∀ k, k < Q.length → (Q.getD k []).length = c := fun k hk => by have := hm.len k hk; omega
/-- Where the row ahead begins. -/
def lastI (b : Nat → Nat) : Nat → Int
  | 0 => -1
  | i + 1 => b i
set_option maxRecDepth 20000 in
set_option maxHeartbeats 4000000 in
theorem IsReduced_ok (p : Int) (c : Nat) (v : Value) (Q : List (List Int)) (w : World) (b : Nat → Nat) (h : RowsI w v Q) (hm : MatOK p c Q) (hq : Rref p c Q.length (rowF Q) b) :
    Calls Try.prog 14 #[.agg #[.int .i64 p, .int .i64 c, v]] w fun e w' => e = .returned (.bool true) ∧ Below w.heap.size w w' := by
  have B0 := hid (below_boxMx w #[.int .i64 p, .int .i64 c, v])
  have X0 := hid (World.alloc_heap_new w (.cells #[.int .i64 p, .int .i64 c, v] 24))
  have IM := hid (IsMatrix_any p c v Q _ (h.below B0.out))
  rw [okM_ok hm] at IM
  have hlen6 := hm.rl
  have hc8 := hm.c8'
  obtain ⟨a, cap, rfl, hc⟩ := h.reads hm.lens
  have HC := hid hc
  have HQ := hid hq
  clear hc hq h hm
  obtain ⟨F, HF⟩ : ∃ F, Hid (rowF Q = F) := ⟨_, rfl⟩
  rw [HF.out] at HC HQ
  obtain ⟨N, HN⟩ : ∃ N, Hid (Q.length = N) := ⟨_, rfl⟩
  rw [HN.out] at HC HQ B0 X0 IM hlen6 ⊢
  obtain ⟨x0, x1, x2⟩ := three_cells X0.out
  clear HF HN
  go_enter Try.func14, Try.ntmps14
  go_wp2_with fail
  refine IM.out.mono ?_
  rintro e w1 ⟨rfl, hb1⟩
  have B1 := hid (B0.out.trans (hb1.mono B0.out.size))
  have X1 := hid (box_keep X0.out hb1)
  clear IM hb1 x0 x1 x2 X0 B0
  go_wp2_with fail
  go_loopw [3, 4, 5] (fun la i _ wr => ∃ t : Nat, t ≤ N ∧ i = .int .i64 t ∧ la = .int .i64 (lastI b t) ∧ wr = w1) (fun _ i _ _ => N - (intOf i).toNat)
  case atStart => exact ⟨0, Nat.zero_le _, rfl, rfl, rfl⟩
  case round =>
    obtain ⟨t, ht, rfl, rfl, rfl⟩ := hrel
    obtain ⟨x0, x1, x2⟩ := three_cells X1.out
    by_cases hlt : t < N
    · have hti : (t : Int) < (N : Int) := by omega
      obtain ⟨rb, ro, rfl, ra, rc, hu⟩ := HC.out t hlt
      obtain ⟨c0, hI, hu2⟩ := hu _ B1.out
      have LD := hid (lead_any _ _ _ hI)
      have hbl := HQ.out.lt t hlt
      have LO : Hid (∀ r, LeadAt ((List.range c).map (F t)) r → r = b t) := fun r hr => lead_of hbl (by rw [HQ.out.one t hlt]; decide) (HQ.out.fst t hlt) hr
      obtain ⟨rb2, ro2, rfl, c1⟩ := hu2 (b t) hbl
      rw [HQ.out.one t hlt] at c1
      have hbi : (b t : Int) < (c : Int) := by omega
      have hla : ¬ (b t : Int) ≤ lastI b t := by
        cases t with
        | zero => show ¬ _ ≤ (-1 : Int); omega
        | succ s =>
          have := HQ.out.mono s (s + 1) (by omega) hlt
          show ¬ _ ≤ ((b s : Nat) : Int); omega
      have hlb : lastI b t < (b t : Int) := by omega
      have hdl : decide ((b t : Int) ≤ lastI b t) = false := by simpa using hla
      clear hI hu hu2
      go_wp2_with fail
      refine LD.out.mono ?_
      rintro e w2 ⟨r, rfl, hr, h2⟩
      obtain rfl := h2.symm
      obtain rfl := LO.out r hr
      clear hr LO LD h2
      go_wp2_with fail
      clear c0 c1 hla hdl hlb
      obtain ⟨W1, hW1⟩ : ∃ W1, W1 = wr := ⟨_, rfl⟩
      subst hW1
      go_loopw [6] (fun i wr => ∃ k : Nat, k ≤ N ∧ i = .int .i64 k ∧ wr = W1) (fun i _ => N - (intOf i).toNat)
      case atStart => exact ⟨0, Nat.zero_le _, rfl, rfl⟩
      case round =>
        obtain ⟨k, hk, rfl, rfl⟩ := hrel
        by_cases hkN : k < N
        · have hki : (k : Int) < (N : Int) := by omega
          by_cases hkt : k = t
          · subst hkt
            have hkk : ((k : Int) != (k : Int)) = false := by simp
            go_wp2_with fail
            exact ⟨⟨k + 1, by omega, by go_num, by first | trivial | rfl⟩, by simp [intOf]; omega⟩
          · have hkk : ((k : Int) != (t : Int)) = true := by simp; omega
            have hkk2 : ¬ (k : Int) = (t : Int) := by omega
            obtain ⟨rb', ro', e1, ra', rc', hu'⟩ := HC.out k hkN
            obtain ⟨rfl, rfl⟩ : rb = rb' ∧ ro = ro' := by simpa using e1
            obtain ⟨c0, -, hu2⟩ := hu' _ B1.out
            obtain ⟨rb3, ro3, rfl, c1⟩ := hu2 (b t) hbl
            rw [HQ.out.oth t hlt k hkN hkt] at c1
            clear hu' hu2 e1
            go_wp2_with fail
            exact ⟨⟨k + 1, by omega, by go_num, by first | trivial | rfl⟩, by simp [intOf]; omega⟩
        · obtain rfl : k = N := by omega
          have hnk : ¬ (k : Int) < (k : Int) := by omega
          go_wp2_with fail
          exact ⟨⟨t + 1, by omega, by go_num, by first | trivial | rfl, by first | trivial | rfl⟩, by simp [intOf]; omega⟩
    · obtain rfl : t = N := by omega
      have hne : ¬ (t : Int) < (t : Int) := by omega
      go_wp2_with fail
      go_ret
      exact ⟨rfl, B1.out⟩
theorem sm_le {n : Nat} {f : Nat → Int} {m : Int} (h : ∀ i, i < n → 0 ≤ f i ∧ f i ≤ m) : ∀ j, j ≤ n → 0 ≤ sm j f ∧ sm j f ≤ j * m
  | 0, _ => ⟨Int.le_refl 0, by show (0 : Int) ≤ 0 * m; rw [Int.zero_mul]; exact Int.le_refl 0⟩
  | j + 1, hj => by
    have ih := sm_le h j (by omega)
    have h1 := h j (by omega)
    have e : ((j + 1 : Nat) : Int) * m = j * m + m := by rw [Int.natCast_add, Int.add_mul]; simp
    show 0 ≤ sm j f + f j ∧ sm j f + f j ≤ _
    rw [e]
    omega
set_option maxRecDepth 20000 in
set_option maxHeartbeats 4000000 in
theorem Nought_ok (p : Int) (c : Nat) (v v2 : Value) (Q Q2 : List (List Int)) (w : World) (h : RowsI w v Q) (h2 : RowsI w v2 Q2) (hm : MatOK p c Q) (hm2 : MatOK p c Q2) (hz : ∀ i k, i < Q.length → k < Q2.length → Em p (sm c fun r => rowF Q i r * rowF Q2 k r) 0) :
    Calls Try.prog 15 #[.agg #[.int .i64 p, .int .i64 c, v], .agg #[.int .i64 p, .int .i64 c, v2]] w fun e w' => e = .returned (.bool true) ∧ Below w.heap.size w w' := by
  have hp2 := isP_pos hm.pr
  have hp0 : (p == 0) = false := by rw [beq_eq_false_iff_ne]; omega
  have b1 := below_boxMx w #[.int .i64 p, .int .i64 c, v]
  have B0 : Hid (Below w.heap.size w ((w.alloc (.cells #[.int .i64 p, .int .i64 c, v] 24)).alloc (.cells #[.int .i64 p, .int .i64 c, v2] 24))) := b1.alloc (by simp) _
  have X0 : Hid (((w.alloc (.cells #[.int .i64 p, .int .i64 c, v] 24)).alloc (.cells #[.int .i64 p, .int .i64 c, v2] 24)).heap[w.heap.size]? = some (.cells #[.int .i64 p, .int .i64 c, v] 24 (0, 0))) := by
    show _ = _
    rw [Below.heap_alloc _ _ _ (by simp)]
    exact World.alloc_heap_new w _
  have Y0 : Hid (((w.alloc (.cells #[.int .i64 p, .int .i64 c, v] 24)).alloc (.cells #[.int .i64 p, .int .i64 c, v2] 24)).heap[w.heap.size + 1]? = some (.cells #[.int .i64 p, .int .i64 c, v2] 24 (0, 0))) := by
    have := World.alloc_heap_new (w.alloc (.cells #[.int .i64 p, .int .i64 c, v] 24)) (.cells #[.int .i64 p, .int .i64 c, v2] 24)
    rwa [World.size_alloc] at this
  have hl1 := hm.rl
  have hl2 := hm2.rl
  have hc8 := hm.c8'
  have HR1 : Hid (∀ i r, i < Q.length → r < c → 0 ≤ rowF Q i r ∧ rowF Q i r < p) := fun i r hi hr => hm.rowc i hi r hr
  have HR2 : Hid (∀ i r, i < Q2.length → r < c → 0 ≤ rowF Q2 i r ∧ rowF Q2 i r < p) := fun i r hi hr => hm2.rowc i hi r hr
  have HZ := hid hz
  obtain ⟨a, cap, rfl, hc⟩ := h.reads hm.lens
  obtain ⟨a2, cap2, rfl, hc2⟩ := h2.reads hm2.lens
  have HC := hid hc
  have HC2 := hid hc2
  clear hc hc2 h h2 hm hm2 hz b1
  obtain ⟨F, HF⟩ : ∃ F, Hid (rowF Q = F) := ⟨_, rfl⟩
  obtain ⟨G, HG⟩ : ∃ G, Hid (rowF Q2 = G) := ⟨_, rfl⟩
  rw [HF.out] at HC HR1 HZ
  rw [HG.out] at HC2 HR2 HZ
  obtain ⟨N, HN⟩ : ∃ N, Hid (Q.length = N) := ⟨_, rfl⟩
  obtain ⟨M, HM⟩ : ∃ M, Hid (Q2.length = M) := ⟨_, rfl⟩
  rw [HN.out] at HC HR1 HZ B0 X0 Y0 hl1 ⊢
  rw [HM.out] at HC2 HR2 HZ B0 X0 Y0 hl2 ⊢
  clear HF HG HN HM
  go_enter Try.func15, Try.ntmps15
  go_wp2_with fail
  generalize (w.alloc (.cells #[.int .i64 p, .int .i64 c, .slice a N cap] 24)).alloc (.cells #[.int .i64 p, .int .i64 c, .slice a2 M cap2] 24) = W0 at B0 X0 Y0 ⊢
  go_loopw [5] (fun i wr => ∃ t : Nat, t ≤ N ∧ i = .int .i64 t ∧ Hid (Below W0.heap.size W0 wr)) (fun i _ => N - (intOf i).toNat)
  case atStart => exact ⟨0, Nat.zero_le _, rfl, Below.refl _ _⟩
  case round =>
    obtain ⟨t, ht, rfl, HB⟩ := hrel
    obtain ⟨x0, x1, x2⟩ := three_cells (box_keep X0.out HB.out)
    by_cases hlt : t < N
    · have hti : (t : Int) < (N : Int) := by omega
      go_wp2_with fail
      clear x0 x1 x2
      go_loopw [6] (fun i wr => ∃ k : Nat, k ≤ M ∧ i = .int .i64 k ∧ Hid (Below W0.heap.size W0 wr)) (fun i _ => M - (intOf i).toNat)
      case atStart => exact ⟨0, Nat.zero_le _, rfl, HB.out⟩
      case round =>
        obtain ⟨k, hk, rfl, HB2⟩ := hrel
        obtain ⟨y0, y1, y2⟩ := three_cells (box_keep Y0.out HB2.out)
        by_cases hkM : k < M
        · have hki : (k : Int) < (M : Int) := by omega
          go_wp2_with fail
          clear y0 y1 y2
          have HBD : Hid (∀ r, r < c → 0 ≤ F t r * G k r ∧ F t r * G k r ≤ 49) := fun r hr => by
            have r1 := HR1.out t r hlt hr
            have r2 := HR2.out k r hkM hr
            refine ⟨Int.mul_nonneg r1.1 r2.1, ?_⟩
            have := Int.mul_le_mul (show F t r ≤ 7 by omega) (show G k r ≤ 7 by omega) (by omega) (by omega)
            omega
          go_loopw [7, 8] (fun s i wr => ∃ j : Nat, j ≤ c ∧ i = .int .i64 j ∧ s = .int .i64 (sm j fun r => F t r * G k r) ∧ Hid (Below W0.heap.size W0 wr)) (fun _ i _ => c - (intOf i).toNat)
          case atStart => exact ⟨0, Nat.zero_le _, rfl, rfl, HB2.out⟩
          case round =>
            obtain ⟨j, hj, rfl, rfl, HB3⟩ := hrel
            obtain ⟨x0, x1, x2⟩ := three_cells (box_keep X0.out HB3.out)
            have hsm := sm_le HBD.out j hj
            by_cases hjc : j < c
            · have hji : (j : Int) < (c : Int) := by omega
              obtain ⟨y0, y1, y2⟩ := three_cells (box_keep Y0.out HB3.out)
              have BW := B0.out.trans (HB3.out.mono B0.out.size)
              obtain ⟨rb, ro, rfl, ra, rc, hu⟩ := HC.out t hlt
              obtain ⟨c0, -, hu2⟩ := hu _ BW
              obtain ⟨rb2, ro2, rfl, c1⟩ := hu2 j hjc
              obtain ⟨sb, so, rfl, sa, sc, hv⟩ := HC2.out k hkM
              obtain ⟨d0, -, hv2⟩ := hv _ BW
              obtain ⟨sb2, so2, rfl, d1⟩ := hv2 j hjc
              have hbd := HBD.out j hjc
              have E : Hid ((sm (j + 1) fun r => F t r * G k r) = (sm j fun r => F t r * G k r) + F t j * G k j) := rfl
              obtain ⟨s, hs⟩ : ∃ s, (sm j fun r => F t r * G k r) = s := ⟨_, rfl⟩
              rw [hs] at hsm E ⊢
              obtain ⟨xf, hxf⟩ : ∃ xf, F t j = xf := ⟨_, rfl⟩
              obtain ⟨xg, hxg⟩ : ∃ xg, G k j = xg := ⟨_, rfl⟩
              rw [hxf] at c1 hbd E
              rw [hxg] at d1 hbd E
              obtain ⟨m1, hm1⟩ : ∃ m1, xf * xg = m1 := ⟨_, rfl⟩
              rw [hm1] at hbd E
              obtain ⟨m3, hm3⟩ : ∃ m3, s + m1 = m3 := ⟨_, rfl⟩
              rw [hm3] at E
              have hw1 : IntKind.i64.wrap m1 = m1 := IntWalk.i64_in _ (by omega)
              have hw3 : IntKind.i64.wrap m3 = m3 := IntWalk.i64_in _ (by omega)
              clear hu hu2 hv hv2 hs hxf hxg BW
              go_wp2_with fail
              go_quiet (fail)
              go_wp2_with fail
              go_roundw
              case rel => exact ⟨j + 1, by omega, by go_num, by rw [E.out], below_drewN HB3.out _⟩
              case measure => simp [intOf]; omega
            · obtain rfl : j = c := by omega
              have hnj : ¬ (j : Int) < (j : Int) := by omega
              have hz0 := Em.zero.1 (HZ.out t k hlt hkM)
              obtain ⟨s, hs⟩ : ∃ s, (sm j fun r => F t r * G k r) = s := ⟨_, rfl⟩
              rw [hs] at hsm hz0 ⊢
              have hq : Int.tmod s p = 0 := by rw [Int.tmod_eq_emod_of_nonneg hsm.1]; exact hz0
              have hw0 : IntKind.i64.wrap 0 = 0 := IntWalk.i64_in _ (by omega)
              clear hs hz0
              go_wp2_with fail
              exact ⟨⟨k + 1, by omega, by go_num, HB3.out⟩, by simp [intOf]; omega⟩
        · obtain rfl : k = M := by omega
          have hnk : ¬ (k : Int) < (k : Int) := by omega
          go_wp2_with fail
          exact ⟨⟨t + 1, by omega, by go_num, HB2.out⟩, by simp [intOf]; omega⟩
    · obtain rfl : t = N := by omega
      have hne : ¬ (t : Int) < (t : Int) := by omega
      have HBW := hid (B0.out.trans (HB.out.mono B0.out.size))
      go_wp2_with fail
      go_ret
      exact ⟨rfl, HBW.out⟩
end Go.Proofs.Ytboiciflkihlgaa
