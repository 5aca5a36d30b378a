/- rotaref.Minor. -/
import Derived.Test.YthlmnhcnpffjdaaDorXQ
import Derived.Test.YthlmnhcnpffjdaaPlainAll
import Derived.Test.YthlmnhcnpffjdaaRefMin3Q
import Derived.Test.YthlmnhcnpffjdaaRefShfQ
import Derived.Test.YthlmnhcnpffjdaaQBelQ
import Derived.Test.YthlmnhcnpffjdaaMnWQ
import Derived.Deep.CutRange
import Derived.Deep.RegionHeld3
namespace Go.Proofs.Ythlmnhcnpffjdaa
open Go.RowKit

/-- What stays. -/
def Two2 (w W : World) (n : Int) (v : Value) (k : Int) (u : Value) : Prop := Below w.heap.size w W ∧ w.heap.size + 2 ≤ W.heap.size ∧ W.heap[w.heap.size]? = some (.cells #[.int .i64 n, v] 24 (0, 0)) ∧ W.heap[w.heap.size + 1]? = some (.cells #[.int .i64 k, u] 24 (0, 0))
theorem Two2.next {w W W' : World} {n : Int} {v : Value} {k : Int} {u : Value} (h : Two2 w W n v k u) (hb : Below W.heap.size W W') : Two2 w W' n v k u := by
  obtain ⟨h1, h2, h3, h4⟩ := h
  exact ⟨h1.trans (hb.mono h1.size), Nat.le_trans h2 hb.size, (hb.block w.heap.size (by omega)).trans h3, (hb.block (w.heap.size + 1) (by omega)).trans h4⟩
theorem Two2.cells {w W : World} {n : Int} {v : Value} {k : Int} {u : Value} (h : Two2 w W n v k u) : W.cell? ⟨w.heap.size, 0, none⟩ = some (.int .i64 n) ∧ W.cell? ⟨w.heap.size, 1, none⟩ = some v ∧ W.cell? ⟨w.heap.size + 1, 0, none⟩ = some (.int .i64 k) ∧ W.cell? ⟨w.heap.size + 1, 1, none⟩ = some u := by
  obtain ⟨_, _, h3, h4⟩ := h
  exact ⟨(cells2 h3).1, (cells2 h3).2, (cells2 h4).1, (cells2 h4).2⟩
theorem Two2.new (w : World) (n : Int) (v : Value) (k : Int) (u : Value) : Two2 w (box2 w n v k u) n v k u := by
  obtain ⟨y0, y1⟩ := box2_blocks (Below.refl _ (box2 w n v k u))
  exact ⟨box2_below w n v k u, by rw [box2_size]; exact Nat.le_refl _, y0, y1⟩
/-- A structure of two lies there, its list read. -/
def OneM (B : Nat) (W : World) (g : Nat) (K : Nat) (r : Value) (L : List Nat) : Prop := W.heap[g]? = some (.cells #[.int .i64 K, r] 24 (0, 0)) ∧ Own B W r L
theorem OneM.next {B : Nat} {W W' : World} {g K : Nat} {r : Value} {L : List Nat} (h : OneM B W g K r L) (hb : Below W.heap.size W W') : OneM B W' g K r L := ⟨(hb.block g (Array.getElem?_eq_some_iff.1 h.1).1).trans h.1, h.2.below hb⟩
theorem minO_doc {m k : Nat} {l l' : List Nat} (hm : m ≤ 8) : minO m l k l' = ((List.range (2 ^ m)).drop 0).findSome? fun d => (docO m l k l' d).map fun c => (d, c) := by
  unfold minO
  rw [List.drop_zero]
  exact findS_congr fun d _ => by rw [doc_con hm]
theorem keptP {m d : Nat} (hm : m ≤ 8) (hd : d < 2 ^ m) : pop d + pop (dif (2 ^ m - 1) d) = m := by
  rw [dif_cpl hd, pop_cpl hd, pop_fullE m hm]
theorem find_range {P : Nat → Bool} {T i : Nat} (h : i < T) : ((List.range T).drop i).find? P = if P i = true then some i else ((List.range T).drop (i + 1)).find? P := by
  rw [range_drop h, List.find?_cons]
  cases P i <;> rfl
set_option maxRecDepth 20000 in
set_option maxHeartbeats 8000000 in
theorem MinorR_ok (m k : Nat) (v u : Value) (l l' : List Nat) (w : World) (hm : m ≤ 8) (hf : Fam m l) (hb : Bas l) (h : Ints w v (N l)) (hk : k ≤ 8) (hf' : Fam k l') (hb' : Bas l') (h' : Ints w u (N l')) :
    Calls Try.prog 10 #[.agg #[.int .i64 m, v], .agg #[.int .i64 k, u]] w fun e w' => e = .returned (.tuple #[.int .i64 (((minO m l k l').getD (0, 0)).1 : Nat), .int .i64 (((minO m l k l').getD (0, 0)).2 : Nat), .bool (minO m l k l').isSome]) ∧ Below w.heap.size w w' := by
  have S0 := hid (Two2.new w m v k u)
  have AL := hid (fun w' => All_any m w' hm)
  obtain ⟨T, HT, hT2, hT1⟩ : ∃ T : Nat, Hid (2 ^ m = T) ∧ T ≤ 256 ∧ 1 ≤ T := ⟨2 ^ m, Eq.refl (2 ^ m), (pow_wrap _ hm).2, Nat.one_le_two_pow⟩
  have DE := hid (fun d w' (hd : d < 2 ^ m) (hb0 : Below w.heap.size w w') => Deleted_ref m d v l w' hm hf hb (h.below hb0) hd)
  have SZ := hid (fun s w' (hs : s < 256) => Size_any s w' hs)
  have SH := hid (fun d c w' (hd : d < 256) (hc : c < 256) => Shifted_any m d c w' hm hd hc)
  have CT := hid (fun d s r w' (hs : s < 2 ^ pop (dif (2 ^ m - 1) d)) hi => Contracted_ref (pop (dif (2 ^ m - 1) d)) s r (minL m l d 0) w' (kept_le hm d) (min_fam m l d 0) (min_bas hm hb d 0) hi hs)
  have IS := hid (fun d s r w' hi (hb0 : Below w.heap.size w w') => IsoR_ok (pop (dif (2 ^ pop (dif (2 ^ m - 1) d) - 1) s)) k r u (minL (pop (dif (2 ^ m - 1) d)) (minL m l d 0) s s) l' w' (kept_le (kept_le hm d) s) (min_fam _ _ s s) (min_bas (kept_le hm d) (min_bas hm hb d 0) s s) hi hk hf' hb' (h'.below hb0))
  have ISM := hid (fun d s => iso_same (n := pop (dif (2 ^ pop (dif (2 ^ m - 1) d) - 1) s)) (k := k) (A := minL (pop (dif (2 ^ m - 1) d)) (minL m l d 0) s s) (B := l') (kept_le (kept_le hm d) s) (min_fam _ _ s s) (min_bas (kept_le hm d) (min_bas hm hb d 0) s s) hf' hb')
  have MF := hid (fun d s => (⟨fam_len (kept_le (kept_le hm d) s) (min_fam (pop (dif (2 ^ m - 1) d)) (minL m l d 0) s s), (min_bas (kept_le hm d) (min_bas hm hb d 0) s s).ne, fun x hx => lt256 (kept_le (kept_le hm d) s) ((min_fam (pop (dif (2 ^ m - 1) d)) (minL m l d 0) s s).lt x hx)⟩ : (minL (pop (dif (2 ^ m - 1) d)) (minL m l d 0) s s).length ≤ 256 ∧ minL (pop (dif (2 ^ m - 1) d)) (minL m l d 0) s s ≠ [] ∧ ∀ x ∈ minL (pop (dif (2 ^ m - 1) d)) (minL m l d 0) s s, x < 256))
  have ML := hid (fun d => fam_len (kept_le hm d) (min_fam m l d 0))
  have LF : Hid (l'.length ≤ 256 ∧ l' ≠ [] ∧ ∀ x ∈ l', x < 256) := ⟨fam_len hk hf', hb'.ne, fun x hx => lt256 hk (hf'.lt x hx)⟩
  have IU := hid (fun w' (hb0 : Below w.heap.size w w') => h'.below hb0)
  have HM := hid (minO_doc (m := m) (k := k) (l := l) (l' := l') hm)
  have KP := hid (fun d (hd : d < 2 ^ m) => keptP hm hd)
  obtain ⟨a0, c0, hv, -, -⟩ := h.nats
  subst hv
  obtain ⟨a1, c1, hv, -, -⟩ := h'.nats
  subst hv
  rw [HT.out] at HM AL
  generalize minO m l k l' = MO at *
  have hw2 : (w.alloc (.cells #[.int .i64 m, .slice a0 l.length c0] 24)).alloc (.cells #[.int .i64 k, .slice a1 l'.length c1] 24) = box2 w m (.slice a0 l.length c0) k (.slice a1 l'.length c1) := rfl
  generalize box2 w m (.slice a0 l.length c0) k (.slice a1 l'.length c1) = W2 at *
  clear hf hb hf' hb' h h'
  go_enter Try.func10, Try.ntmps10
  go_wp2_with fail
  clear hw2
  go_loopw [4, 5, 6, 7, 8, 9, 10, 11, 12] (fun x4 x5 x6 jx _ _ _ _ _ wr => ∃ d : Nat, d ≤ T ∧ x4 = .int .i64 0 ∧ x5 = .int .i64 0 ∧ x6 = .bool false ∧ jx = .int .i64 d ∧ Hid (Two2 w wr m (.slice a0 l.length c0) k (.slice a1 l'.length c1)) ∧ Hid (((List.range T).drop d).findSome? (fun d => (docO m l k l' d).map fun c => (d, c)) = MO)) (fun _ _ _ jx _ _ _ _ _ _ => T - (intOf jx).toNat)
  case atStart => exact ⟨0, Nat.zero_le _, rfl, rfl, rfl, rfl, S0, HM.out.symm⟩
  case round =>
    obtain ⟨d, hd, rfl, rfl, rfl, rfl, Sr, HFr⟩ := hrel
    clear S0 HM
    obtain ⟨x0, x1, x2, x3⟩ := Sr.out.cells
    have B0r := hid Sr.out.1
    by_cases hlt : d < T
    · have hle : (d : Int) ≤ (T : Int) - 1 := by omega
      have hmeas : T - (d + 1) < T - d := by omega
      have hd8 : d < 256 := by omega
      rw [find_rest hlt] at HFr
      have hKP := KP.out d (by rw [HT.out]; exact hlt)
      have SD := hid (fun w' => SZ.out d w' hd8)
      have D1 := hid (fun w' => DE.out d w' (by rw [HT.out]; exact hlt))
      have HDO : Hid (docO m l k l' d = if pop (dif (2 ^ m - 1) d) < k then none else (List.range (2 ^ m)).find? (docP m l k l' d)) := rfl
      have HDP : Hid (∀ c, docP m l k l' d c = ((c &&& d == 0) && ((pop c == pop (dif (2 ^ m - 1) d) - k) && (isoK (pop (dif (2 ^ pop (dif (2 ^ m - 1) d) - 1) (shf (els (dif (2 ^ m - 1) d)) c))) (minL (pop (dif (2 ^ m - 1) d)) (minL m l d 0) (shf (els (dif (2 ^ m - 1) d)) c) (shf (els (dif (2 ^ m - 1) d)) c)) k l').head?.isSome))) := fun c => rfl
      have CTd := hid (CT.out d)
      have ISd := hid (IS.out d)
      have ISMd := hid (ISM.out d)
      have MFd := hid (MF.out d)
      have mld := ML.out d
      have SHd := hid (fun c w' hc => SH.out d c w' hd8 hc)
      have SLT : Hid (∀ c, shf (els (dif (2 ^ m - 1) d)) c < 2 ^ pop (dif (2 ^ m - 1) d)) := fun c => shf_lt c
      have SPP : Hid (∀ c, c < 2 ^ m → c &&& d = 0 → pop (shf (els (dif (2 ^ m - 1) d)) c) = pop c) := fun c h1 h2 => by
        have e := old_shf (kept_lt hm d) c
        rw [← els_pop (kept_lt hm d) (shf_lt c), e]
        congr 1
        refine Nat.eq_of_testBit_eq fun i => ?_
        rw [Nat.testBit_and]
        cases ec : c.testBit i
        · rw [Bool.and_false]
        · rw [subB_iff.1 ((and_nought h1).1 h2) i ec, Bool.true_and]
      have KP2 : Hid (∀ s, s < 2 ^ pop (dif (2 ^ m - 1) d) → pop s + pop (dif (2 ^ pop (dif (2 ^ m - 1) d) - 1) s) = pop (dif (2 ^ m - 1) d)) := fun s hs => keptP (kept_le hm d) hs
      have hK8 := kept_le hm d
      clear DE CT IS ISM MF ML SH KP
      generalize docP m l k l' d = P at *
      generalize docO m l k l' d = DO at *
      generalize dif (2 ^ m - 1) d = D at *
      generalize minL m l d 0 = L at *
      rw [HT.out] at HDO SPP
      have HKP := hid hKP
      have hsub : (m : Int) - (pop d : Int) = (pop D : Int) := by omega
      clear hKP
      go_wp2_with fail
      refine (AL.out _).mono ?_
      rintro e w3 ⟨rfl, hw3⟩
      obtain rfl := hw3.symm
      have y0 : ∀ y : Later wr, y.now.cell? ⟨w.heap.size, 0, none⟩ = some (.int .i64 m) := fun y => (y.kept.cell (p := ⟨w.heap.size, 0, none⟩) (World.block_lt_of_cell? _ _ x0)).trans x0
      have y2 : ∀ y : Later wr, y.now.cell? ⟨w.heap.size + 1, 0, none⟩ = some (.int .i64 k) := fun y => (y.kept.cell (p := ⟨w.heap.size + 1, 0, none⟩) (World.block_lt_of_cell? _ _ x2)).trans x2
      by_cases hKk : pop D < k
      · rw [HDO.out, if_pos hKk] at HFr
        have HF2 : Hid (((List.range T).drop (d + 1)).findSome? (fun d => (docO m l k l' d).map fun c => (d, c)) = MO) := HFr.out
        have hK2 : (pop D : Int) < (k : Int) := by omega
        clear HFr HDO D1 CTd ISd ISMd MFd mld SHd SLT SPP HDP HKP hKk hlt KP2
        generalize pop D = K at *
        generalize pop d = pd at *
        go_wp2_with fail
        refine region_later (by kernel_rfl) (by kernel_rfl) ?_
        repeat (go_big_quiet_step (((go_at_call 21; with_reducible refine (SD.out _).mono ?_; rintro e w' ⟨rfl, hb9⟩; exact ⟨rfl, Later.on _ hb9⟩))))
        refine wpQuiet_nil ?_
        intro y6 hw'
        obtain ⟨⟨yy6, hb6⟩, hw''⟩ := hw'
        dsimp only at hw''
        subst hw''
        have Sn := hid (Sr.out.next hb6)
        clear hb6 y0 y2
        go_wp2_with fail
        go_roundw
        case rel => exact ⟨d + 1, by omega, rfl, rfl, rfl, by go_num, Sn, HF2⟩
        case measure => exact hmeas
      · rw [HDO.out, if_neg hKk] at HFr
        have hK2 : ¬ (pop D : Int) < (k : Int) := by omega
        obtain ⟨CO, HCO⟩ : ∃ CO, Hid ((List.range T).find? P = CO) := ⟨_, Eq.refl ((List.range T).find? P)⟩
        rw [HCO.out] at HFr
        have HC0 : Hid (((List.range T).drop 0).find? P = CO) := by show _ = _; rw [List.drop_zero]; exact HCO.out
        have D2 := hid (fun w' (hb : Below wr.heap.size wr w') => D1.out w' (B0r.out.trans (hb.mono B0r.out.size)))
        clear HDO HCO D1
        go_wp2_with fail
        refine region_later (by kernel_rfl) (by kernel_rfl) ?_
        repeat (go_big_quiet_step (((go_at_call 21; with_reducible refine (SD.out _).mono ?_; rintro e w' ⟨rfl, hb9⟩; exact ⟨rfl, Later.on _ hb9⟩))))
        refine wpQuiet_nil ?_
        intro y6 hw'
        obtain ⟨⟨yy6, hb6⟩, hw''⟩ := hw'
        dsimp only at hw''
        subst hw''
        have Sn := hid (Sr.out.next hb6)
        have D3 := hid (D2.out y6 hb6)
        obtain ⟨z0, z1, z2, z3⟩ := Sn.out.cells
        clear hb6 y0 y2 D2 x0 x1 x2 x3 Sr B0r
        go_wp2_with fail
        refine D3.out.mono ?_
        rintro e w5 ⟨rD, rfl, hoD, hb5⟩
        have S5 := hid (Sn.out.next hb5)
        have OX : OneM y6.heap.size (w5.alloc (.cells #[.int .i64 (pop D : Nat), rD] 24)) w5.heap.size (pop D) rD L := ⟨World.alloc_heap_new w5 _, hoD.below ((Below.refl _ _).alloc (Nat.le_refl _) _)⟩
        have SX := hid (S5.out.next ((Below.refl w5.heap.size w5).alloc (Nat.le_refl _) (.cells #[.int .i64 (pop D : Nat), rD] 24)))
        have OXh := hid OX
        obtain ⟨da, dc, hrD⟩ := ownsRow_form' hoD
        subst hrD
        clear hb5 hoD D3 S5 Sn z0 z1 z2 z3 OX
        go_wp2_with fail
        revert SX OXh
        generalize w5.alloc (.cells #[.int .i64 (pop D : Nat), .slice da L.length dc] 24) = WX
        generalize w5.heap.size = gX
        generalize y6.heap.size = B6
        intro SX OXh
        go_loopw [4, 5, 6, 9, 10, 11, 12] (fun x4 x5 x6 jx _ _ _ wx => ∃ c : Nat, c ≤ T ∧ x4 = .int .i64 0 ∧ x5 = .int .i64 0 ∧ x6 = .bool false ∧ jx = .int .i64 c ∧ Hid (Below WX.heap.size WX wx) ∧ Hid (((List.range T).drop c).find? P = CO)) (fun _ _ _ jx _ _ _ _ => T - (intOf jx).toNat)
        case atStart => exact ⟨0, Nat.zero_le _, rfl, rfl, rfl, rfl, Below.refl _ _, HC0⟩
        case round =>
          rename_i wr0 _
          obtain ⟨c, hc, rfl, rfl, rfl, rfl, HBx, HPr⟩ := hrel
          clear HC0
          have Sx := hid (SX.out.next HBx.out)
          have Ox := hid (OXh.out.next HBx.out)
          obtain ⟨z0, z1, z2, z3⟩ := Sx.out.cells
          by_cases hclt : c < T
          · have hcle : (c : Int) ≤ (T : Int) - 1 := by omega
            have hmeas2 : T - (c + 1) < T - c := by omega
            have hc8 : c < 256 := by omega
            rw [find_range hclt] at HPr
            have SC := hid (fun w' => SZ.out c w' hc8)
            have hPc := HDP.out c
            have v0 : ∀ y : Later wr, y.now.cell? ⟨w.heap.size, 0, none⟩ = some (.int .i64 m) := fun y => (y.kept.cell (p := ⟨w.heap.size, 0, none⟩) (World.block_lt_of_cell? _ _ z0)).trans z0
            have v2 : ∀ y : Later wr, y.now.cell? ⟨w.heap.size + 1, 0, none⟩ = some (.int .i64 k) := fun y => (y.kept.cell (p := ⟨w.heap.size + 1, 0, none⟩) (World.block_lt_of_cell? _ _ z2)).trans z2
            have hand : bits .and .i64 (c : Int) (d : Int) = ((c &&& d : Nat) : Int) := i64_and_nat _ _ (by omega) (by omega)
            have hpc8 := pop_le c hc8
            have HPC := hid hPc
            have HCL := hid hclt
            have hKk' : k ≤ pop D := by omega
            clear hPc
            by_cases a1 : c &&& d = 0
            · have a1' : (((c &&& d : Nat) : Int) != 0) = false := by rw [a1]; rfl
              by_cases a2 : pop c = pop D - k
              · have a2' : ((pop D : Int) - (pop c : Int) != (k : Int)) = false := by rw [bne_eq_false_iff_eq]; omega
                have a2w : wrap64 ((pop D : Int) - (pop c : Int)) = (pop D : Int) - (pop c : Int) := by
                  rw [show (pop D : Int) - (pop c : Int) = (k : Int) by omega, ← IntWalk.i64_left]
                  exact wrap_i64_nat _ (by omega)
                have hs1 := SLT.out c
                have hs2 := SPP.out c hclt a1
                have hJ : pop (dif (2 ^ pop D - 1) (shf (els D) c)) = k := by have := KP2.out _ hs1; omega
                have SH1 := hid (fun w' => SHd.out c w' hc8)
                have CT1 := hid (fun r w' hi => CTd.out (shf (els D) c) r w' hs1 hi)
                have IS1 := hid (ISd.out (shf (els D) c))
                have ISM1 := hid (ISMd.out (shf (els D) c))
                obtain ⟨mf1, mf2, mf3⟩ := MFd.out (shf (els D) c)
                have HPX : Hid (P c = (isoK (pop (dif (2 ^ pop D - 1) (shf (els D) c))) (minL (pop D) L (shf (els D) c) (shf (els D) c)) k l').head?.isSome) := by
                  show _ = _
                  rw [HPC.out, a1, a2]
                  simp
                clear HPC SHd CTd ISd ISMd MFd HDP SLT SPP KP2 hKk' hKk hs1 hs2
                rw [hJ] at CT1 IS1 ISM1 HPX
                generalize minL (pop D) L (shf (els D) c) (shf (els D) c) = LM at *
                generalize shf (els D) c = sc at *
                clear hJ a1 a2
                generalize c &&& d = cd at *
                generalize pop D = K at *
                generalize pop d = pd at *
                generalize pop c = pc at *
                go_wp2_with fail
                refine (AL.out _).mono ?_
                rintro e w3 ⟨rfl, hw3⟩
                obtain rfl := hw3.symm
                go_wp2_with fail
                refine region_later (by kernel_rfl) (by kernel_rfl) ?_
                repeat (go_big_quiet_step ((first | (go_at_call 21; with_reducible refine (SD.out _).mono ?_; rintro e w' ⟨rfl, hb9⟩; exact ⟨rfl, Later.on _ hb9⟩) | (go_at_call 21; with_reducible refine (SC.out _).mono ?_; rintro e w' ⟨rfl, hb9⟩; exact ⟨rfl, Later.on _ hb9⟩))))
                refine wpQuiet_nil ?_
                intro y7 hw'
                obtain ⟨⟨yy6, hb6⟩, hw''⟩ := hw'
                dsimp only at hw''
                subst hw''
                have B7 := hid hb6
                have HB7 := hid (HBx.out.trans (hb6.mono HBx.out.size))
                have S7 := hid (Sx.out.next hb6)
                have O7 := hid (Ox.out.next hb6)
                obtain ⟨p0, p1, p2, p3⟩ := S7.out.cells
                obtain ⟨p4, p5⟩ := cells2 O7.out.1
                have hlw : w.heap.size < y7.heap.size := by have := S7.out.2.1; omega
                have hlX : gX < y7.heap.size := (Array.getElem?_eq_some_iff.1 O7.out.1).1
                clear hb6 v0 v2 z0 z1 z2 z3 HBx Sx Ox
                go_upto_region 10 with fail
                go_cut [10] from 31 to 90 (fun b W => ∃ bM r, b = .pointer (some ⟨bM, 0, none⟩) ∧ Hid (OneM y7.heap.size W bM k r LM) ∧ Hid (Below y7.heap.size y7 W))
                case first =>
                  have CX := hid (fun w' (hb0 : Below y7.heap.size y7 w') => CT1.out _ w' ((O7.out.2.below hb0).ints (by omega)))
                  have hA : Hid (Below y7.heap.size y7 y7.drew) := (Below.refl _ _).drew
                  have hB : Hid (Below y7.heap.size y7 (y7.alloc (.cells #[.int .i64 0, .slice none 0 0] 24)).drew) := ((Below.refl _ _).alloc (Nat.le_refl _) _).drew
                  have zB : Hid (y7.heap.size < (y7.alloc (.cells #[.int .i64 0, .slice none 0 0] 24)).drew.heap.size ∧ (y7.alloc (.cells #[.int .i64 0, .slice none 0 0] 24)).drew.heap[y7.heap.size]? = some (.cells #[.int .i64 0, .slice none 0 0] 24 (0, 0))) := ⟨by show _ < (y7.alloc (.cells #[.int .i64 0, .slice none 0 0] 24)).heap.size; simp, World.alloc_heap_new y7 _⟩
                  have q1 : ¬ w.heap.size = y7.heap.size := by omega
                  have q2 : ¬ y7.heap.size = w.heap.size := by omega
                  have q3 : ¬ gX = y7.heap.size := by omega
                  have q4 : ¬ y7.heap.size = gX := by omega
                  clear ISM1 IS1 HPX HPr HFr SC SD SZ AL IU p1 p2 p3
                  go_region_held3 (fun w' => w'.cell? ⟨gX, 0, none⟩ = some (.int .i64 K) ∧ w'.cell? ⟨gX, 1, none⟩ = some (.slice da L.length dc) ∧ w'.cell? ⟨w.heap.size, 0, none⟩ = some (.int .i64 m)) (go_keep)
                   (first
                    | (go_at_call 25; refine (SH1.out _).mono ?_; rintro e w' ⟨rfl, hw'⟩; obtain rfl := hw'.symm)
                    | (go_at_call 37; refine (CX.out _ hA.out).mono ?_; rintro e w11 ⟨r11, rfl, ho11, hb11⟩; have H11 := hid (hA.out.trans (hb11.mono hA.out.size)); have O11 := hid (ho11.mono hA.out.size); have t0 := (H11.out.cell (p := ⟨gX, 0, none⟩) hlX).trans p4; have t1 := (H11.out.cell (p := ⟨gX, 1, none⟩) hlX).trans p5; have t2 := (H11.out.cell (p := ⟨w.heap.size, 0, none⟩) hlw).trans p0; have n11 := hid (World.alloc_heap_new w11 (.cells #[.int .i64 k, r11] 24)); obtain ⟨rb, rd, hr11⟩ := ownsRow_form' ho11; subst hr11; clear ho11 hb11)
                    | (go_at_call 37; refine (CX.out _ hB.out).mono ?_; rintro e w11 ⟨r11, rfl, ho11, hb11⟩; have H11 := hid (hB.out.trans (hb11.mono hB.out.size)); have O11 := hid (ho11.mono hB.out.size); have OB := hid ho11; have t0 := (H11.out.cell (p := ⟨gX, 0, none⟩) hlX).trans p4; have t1 := (H11.out.cell (p := ⟨gX, 1, none⟩) hlX).trans p5; have t2 := (H11.out.cell (p := ⟨w.heap.size, 0, none⟩) hlw).trans p0; have n12 : w11.heap[y7.heap.size]? = some (.cells #[.int .i64 0, .slice none 0 0] 24 (0, 0)) := (hb11.block y7.heap.size zB.out.1).trans zB.out.2; have N12 := hid n12; obtain ⟨s0, s1, s2, s3⟩ := two_cells n12; obtain ⟨rb, rd, hr11⟩ := ownsRow_form' ho11; subst hr11; clear ho11 hb11 n12))
                  all_goals first
                    | (go_wp2_with fail; go_meet; exact ⟨w11.heap.size, _, rfl, ⟨n11.out, O11.out.below ((Below.refl _ _).alloc (Nat.le_refl _) _)⟩, H11.out.alloc H11.out.size _⟩)
                    | (go_wp2_with fail; go_meet; exact ⟨y7.heap.size, _, rfl, ⟨set_one (set_nil N12.out), (OB.out.set2 (by show y7.heap.size < (y7.alloc (.cells #[.int .i64 0, .slice none 0 0] 24)).heap.size; simp)).mono hB.out.size⟩, below_two H11.out (Nat.le_refl _)⟩)
                case rest =>
                  obtain ⟨bM, rM, rfl, OM, HB8⟩ := hcut
                  have S8 := hid (S7.out.next HB8.out)
                  have HB9 := hid (HB7.out.trans (HB8.out.mono HB7.out.size))
                  obtain ⟨q0, q1, q2, q3⟩ := S8.out.cells
                  obtain ⟨q4, q5⟩ := cells2 OM.out.1
                  have hpos : 0 < LM.length := List.length_pos_iff.2 mf2
                  obtain ⟨lf1, lf2, lf3⟩ := LF.out
                  have hpos' : 0 < l'.length := List.length_pos_iff.2 lf2
                  obtain ⟨g, gc, hrM⟩ := Go.Joins.ownsRow_form OM.out.2 hpos
                  subst hrM
                  have q6 : wc.cell? ⟨g, 0, none⟩ = _ := OM.out.2.at (i := 0) hpos
                  have q9 := hid ((IU.out wc S8.out.1))
                  obtain ⟨a2, c2, e2, -, hcc⟩ := q9.out.nats
                  obtain ⟨rfl, rfl⟩ : a1 = a2 ∧ c1 = c2 := by simpa using e2
                  obtain ⟨lb, lo, rfl, hlb, hcell⟩ := hcc (by omega)
                  have q7 : wc.cell? ⟨lb, lo, none⟩ = _ := hcell 0 hpos'
                  have SA := hid (fun w' => SZ.out (LM.getD 0 0) w' (mf3 _ (by cases LM with | nil => cases hpos | cons x xs => simp [List.getD])))
                  have SB := hid (fun w' => SZ.out (l'.getD 0 0) w' (lf3 _ (by cases l' with | nil => cases hpos' | cons x xs => simp [List.getD])))
                  have hl1 : (0 : Int) < (LM.length : Int) := by omega
                  have hl2 : (0 : Int) < (l'.length : Int) := by omega
                  have v1 : ∀ y : Later wc, y.now.cell? ⟨bM, 1, none⟩ = some (.slice (some ⟨g, 0, none⟩) LM.length gc) := fun y => (y.kept.cell (p := ⟨bM, 1, none⟩) (World.block_lt_of_cell? _ _ q5)).trans q5
                  have v2 : ∀ y : Later wc, y.now.cell? ⟨w.heap.size + 1, 1, none⟩ = some (.slice (some ⟨lb, lo, none⟩) l'.length c1) := fun y => (y.kept.cell (p := ⟨w.heap.size + 1, 1, none⟩) (World.block_lt_of_cell? _ _ q3)).trans q3
                  have v3 : ∀ y : Later wc, y.now.cell? ⟨g, 0, none⟩ = some (.int .i64 (LM.getD 0 0 : Nat)) := fun y => (y.kept.cell (p := ⟨g, 0, none⟩) (World.block_lt_of_cell? _ _ q6)).trans q6
                  have v4 : ∀ y : Later wc, y.now.cell? ⟨lb, lo, none⟩ = some (.int .i64 (l'.getD 0 0 : Nat)) := fun y => (y.kept.cell (p := ⟨lb, lo, none⟩) (World.block_lt_of_cell? _ _ q7)).trans q7
                  have OMI := hid (fun W (hb : Below wc.heap.size wc W) => (OM.out.2.below hb).ints (by omega))
                  have OMN := hid (fun W (hb : Below wc.heap.size wc W) => (OM.out.next hb).1)
                  have ISN : Hid ((isoK k LM k l').head?.isSome = true → LM.length = l'.length ∧ pop (LM.getD 0 0) = pop (l'.getD 0 0)) := ISM1.out
                  clear q0 q1 q2 q3 q4 q5 q6 q7 p0 p1 p2 p3 p4 p5 hcc hcell e2 S7 O7 HB7 HB8 OM mf2 mf3 lf2 lf3 B7 ISM1
                  generalize LM.getD 0 0 = b1 at *
                  generalize l'.getD 0 0 = b2 at *
                  generalize pop b1 = n1 at *
                  generalize pop b2 = n2 at *
                  by_cases hL : LM.length = l'.length
                  · have hL' : ((LM.length : Int) != (l'.length : Int)) = false := by rw [hL]; simp
                    by_cases hN : n1 = n2
                    · have hN' : ((n1 : Int) != (n2 : Int)) = false := by rw [hN]; simp
                      clear ISN hL hN
                      go_wp2_with fail
                      refine region_later (by kernel_rfl) (by kernel_rfl) ?_
                      repeat (go_big_quiet_step ((first | (go_at_call 21; with_reducible refine (SA.out _).mono ?_; rintro e w' ⟨rfl, hb9⟩; exact ⟨rfl, Later.on _ hb9⟩) | (go_at_call 21; with_reducible refine (SB.out _).mono ?_; rintro e w' ⟨rfl, hb9⟩; exact ⟨rfl, Later.on _ hb9⟩))))
                      refine wpQuiet_nil ?_
                      intro y9 hw'
                      obtain ⟨⟨yy6, hb6⟩, hw''⟩ := hw'
                      dsimp only at hw''
                      subst hw''
                      have HB10 := hid (HB9.out.trans (hb6.mono HB9.out.size))
                      have S10 := hid (S8.out.next hb6)
                      have I10 := hid (IS1.out _ y9 (OMI.out y9 hb6) S10.out.1)
                      obtain ⟨q0, q1, q2, q3⟩ := S10.out.cells
                      obtain ⟨q4, q5⟩ := cells2 (OMN.out y9 hb6)
                      clear hb6 v1 v2 v3 v4 HB9 S8 IS1 CT1 SH1
                      generalize (isoK k LM k l').head? = ans at *
                      go_wp2_with fail
                      refine I10.out.mono ?_
                      rintro e w12 ⟨r12, rfl, ho12, hb12⟩
                      have HB12 := hid (HB10.out.trans (hb12.mono HB10.out.size))
                      have S12 := hid (S10.out.next hb12)
                      obtain ⟨ra, rc, hr12⟩ := ownsRow_form' ho12
                      subst hr12
                      clear ho12 hb12 I10 HB10 S10 q0 q1 q2 q3 q4 q5
                      rw [HPX.out] at HPr
                      rcases hq : ans.isSome with _ | _
                      · rw [hq] at HPr
                        have HP2 : Hid (((List.range T).drop (c + 1)).find? P = CO) := HPr.out
                        clear HPr HFr
                        go_wp2_with fail
                        go_roundw
                        case rel => exact ⟨c + 1, by omega, rfl, rfl, rfl, by go_num, HB12, HP2⟩
                        case measure => exact hmeas2
                      · rw [hq] at HPr
                        have HP2 : Hid (CO = some c) := HPr.out.symm
                        rw [HP2.out] at HFr
                        have HF2 : Hid (MO = some (d, c)) := HFr.out.symm
                        clear HPr HFr
                        go_wp2_with fail
                        go_ret3
                        exact ⟨by rw [HF2.out]; rfl, S12.out.1⟩
                    · have hN' : ((n1 : Int) != (n2 : Int)) = true := by rw [bne_iff_ne]; omega
                      have HP2 : Hid (((List.range T).drop (c + 1)).find? P = CO) := by
                        show _ = _
                        rw [← HPr.out, HPX.out, if_neg (fun e => hN (ISN.out e).2)]
                      clear HPr HPX ISN IS1 CT1 SH1 HFr hN hL
                      go_wp2_with fail
                      refine region_later (by kernel_rfl) (by kernel_rfl) ?_
                      repeat (go_big_quiet_step ((first | (go_at_call 21; with_reducible refine (SA.out _).mono ?_; rintro e w' ⟨rfl, hb9⟩; exact ⟨rfl, Later.on _ hb9⟩) | (go_at_call 21; with_reducible refine (SB.out _).mono ?_; rintro e w' ⟨rfl, hb9⟩; exact ⟨rfl, Later.on _ hb9⟩))))
                      refine wpQuiet_nil ?_
                      intro y9 hw'
                      obtain ⟨⟨yy6, hb6⟩, hw''⟩ := hw'
                      dsimp only at hw''
                      subst hw''
                      have HB10 := hid (HB9.out.trans (hb6.mono HB9.out.size))
                      clear hb6 v1 v2 v3 v4
                      go_wp2_with fail
                      go_roundw
                      case rel => exact ⟨c + 1, by omega, rfl, rfl, rfl, by go_num, HB10, HP2⟩
                      case measure => exact hmeas2
                  · have hL' : ((LM.length : Int) != (l'.length : Int)) = true := by rw [bne_iff_ne]; omega
                    have HP2 : Hid (((List.range T).drop (c + 1)).find? P = CO) := by
                      show _ = _
                      rw [← HPr.out, HPX.out, if_neg (fun e => hL (ISN.out e).1)]
                    clear HPr HPX ISN IS1 CT1 SH1 HFr hL
                    go_wp2_with fail
                    refine region_later (by kernel_rfl) (by kernel_rfl) ?_
                    repeat (go_big_quiet_step ((first | (go_at_call 21; with_reducible refine (SA.out _).mono ?_; rintro e w' ⟨rfl, hb9⟩; exact ⟨rfl, Later.on _ hb9⟩) | (go_at_call 21; with_reducible refine (SB.out _).mono ?_; rintro e w' ⟨rfl, hb9⟩; exact ⟨rfl, Later.on _ hb9⟩))))
                    refine wpQuiet_nil ?_
                    intro y9 hw'
                    obtain ⟨⟨yy6, hb6⟩, hw''⟩ := hw'
                    dsimp only at hw''
                    subst hw''
                    have HB10 := hid (HB9.out.trans (hb6.mono HB9.out.size))
                    clear hb6 v1 v2 v3 v4
                    go_wp2_with fail
                    go_roundw
                    case rel => exact ⟨c + 1, by omega, rfl, rfl, rfl, by go_num, HB10, HP2⟩
                    case measure => exact hmeas2
              · have a2' : ((pop D : Int) - (pop c : Int) != (k : Int)) = true := by rw [bne_iff_ne]; omega
                have HP2 : Hid (((List.range T).drop (c + 1)).find? P = CO) := by
                  show _ = _
                  rw [← HPr.out, HPC.out, if_neg (by simp [a2])]
                clear HPr HPC a1 a2 hclt HCL SHd CTd ISd ISMd MFd HDP SLT SPP KP2 hKk' hKk
                generalize c &&& d = cd at *
                generalize pop D = K at *
                generalize pop d = pd at *
                generalize pop c = pc at *
                go_wp2_with fail
                refine (AL.out _).mono ?_
                rintro e w3 ⟨rfl, hw3⟩
                obtain rfl := hw3.symm
                go_wp2_with fail
                refine region_later (by kernel_rfl) (by kernel_rfl) ?_
                repeat (go_big_quiet_step ((first | (go_at_call 21; with_reducible refine (SD.out _).mono ?_; rintro e w' ⟨rfl, hb9⟩; exact ⟨rfl, Later.on _ hb9⟩) | (go_at_call 21; with_reducible refine (SC.out _).mono ?_; rintro e w' ⟨rfl, hb9⟩; exact ⟨rfl, Later.on _ hb9⟩))))
                refine wpQuiet_nil ?_
                intro y7 hw'
                obtain ⟨⟨yy6, hb6⟩, hw''⟩ := hw'
                dsimp only at hw''
                subst hw''
                have HB7 := hid (HBx.out.trans (hb6.mono HBx.out.size))
                clear hb6 v0 v2
                go_wp2_with fail
                go_roundw
                case rel => exact ⟨c + 1, by omega, rfl, rfl, rfl, by go_num, HB7, HP2⟩
                case measure => exact hmeas2
            · have a1' : (((c &&& d : Nat) : Int) != 0) = true := by rw [bne_iff_ne]; omega
              have HP2 : Hid (((List.range T).drop (c + 1)).find? P = CO) := by
                show _ = _
                rw [← HPr.out, HPC.out, if_neg (by simp [a1])]
              clear HPr HPC a1 hclt HCL SHd CTd ISd ISMd MFd HDP SLT SPP KP2 hKk' hKk
              generalize c &&& d = cd at *
              generalize pop D = K at *
              generalize pop d = pd at *
              go_wp2_with fail
              refine (AL.out _).mono ?_
              rintro e w3 ⟨rfl, hw3⟩
              obtain rfl := hw3.symm
              go_wp2_with fail
              refine region_later (by kernel_rfl) (by kernel_rfl) ?_
              repeat (go_big_quiet_step ((first | (go_at_call 21; with_reducible refine (SD.out _).mono ?_; rintro e w' ⟨rfl, hb9⟩; exact ⟨rfl, Later.on _ hb9⟩) | (go_at_call 21; with_reducible refine (SC.out _).mono ?_; rintro e w' ⟨rfl, hb9⟩; exact ⟨rfl, Later.on _ hb9⟩))))
              refine wpQuiet_nil ?_
              intro y7 hw'
              obtain ⟨⟨yy6, hb6⟩, hw''⟩ := hw'
              dsimp only at hw''
              subst hw''
              have HB7 := hid (HBx.out.trans (hb6.mono HBx.out.size))
              clear hb6 v0 v2
              go_wp2_with fail
              go_roundw
              case rel => exact ⟨c + 1, by omega, rfl, rfl, rfl, by go_num, HB7, HP2⟩
              case measure => exact hmeas2
          · obtain rfl : c = T := by omega
            have hcle : ¬ (c : Int) ≤ (c : Int) - 1 := by omega
            have HP2 : Hid (CO = none) := by
              show _ = _
              rw [← HPr.out, List.drop_of_length_le (by simp)]
              rfl
            rw [HP2.out] at HFr
            have HF2 : Hid (((List.range c).drop (d + 1)).findSome? (fun d => (docO m l k l' d).map fun c => (d, c)) = MO) := HFr.out
            clear HFr HPr HP2 SHd CTd ISd ISMd MFd HDP SLT SPP KP2
            go_wp2_with fail
            refine (AL.out _).mono ?_
            rintro e w3 ⟨rfl, hw3⟩
            obtain rfl := hw3.symm
            go_wp2_with fail
            go_roundw
            case rel => exact ⟨d + 1, by omega, rfl, rfl, rfl, by go_num, Sx, HF2⟩
            case measure => exact hmeas
    · obtain rfl : d = T := by omega
      have hle : ¬ (d : Int) ≤ (d : Int) - 1 := by omega
      have HF2 : Hid (MO = none) := by
        show _ = _
        rw [← HFr.out, List.drop_of_length_le (by simp)]
        rfl
      clear HFr
      go_wp2_with fail
      refine (AL.out _).mono ?_
      rintro e w3 ⟨rfl, hw3⟩
      obtain rfl := hw3.symm
      go_wp2_with fail
      go_ret3
      exact ⟨by rw [HF2.out]; rfl, B0r.out⟩
end Go.Proofs.Ythlmnhcnpffjdaa
