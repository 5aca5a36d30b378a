/- rotaref.OfFlats. -/
import Derived.Test.YthbldeloocmakaaRefOfRQ
import Derived.Test.YthbldeloocmakaaPlainAll
import Derived.Deep.RegionHeld3
namespace Go.Proofs.Ythbldeloocmakaa
open Go.RowKit

theorem flats_no0 {m : Nat} {l : List Nat} (hf : Fam m l) (h : memB (2 ^ m - 1) l = false) : ¬ FlatAx m l := fun hx => by
  have := (flats_iff hf).2 hx
  unfold flatsB at this
  rw [h] at this
  cases this
theorem flats_no1 {m : Nat} {l : List Nat} (hf : Fam m l) {i j : Nat} (hi : i < l.length) (hj : j < l.length) (h : memB (l.getD i 0 &&& l.getD j 0) l = false) : ¬ FlatAx m l := fun hx => by
  have := (flats_iff hf).2 hx
  unfold flatsB at this
  simp only [Bool.and_eq_true, List.all_eq_true] at this
  rw [(this.2 _ (getD_mem hi)).1 _ (getD_mem hj)] at h
  cases h
theorem flats_no2 {m : Nat} {l : List Nat} (hf : Fam m l) {i : Nat} (hi : i < l.length) (h : walkB (2 ^ m - 1) (l.getD i 0) (l.getD i 0) (nextL l (l.getD i 0)) = false) : ¬ FlatAx m l := fun hx => by
  have := (flats_iff hf).2 hx
  unfold flatsB at this
  simp only [Bool.and_eq_true, List.all_eq_true] at this
  rw [(this.2 _ (getD_mem hi)).2] at h
  cases h
theorem flats_yes {m : Nat} {l : List Nat} (hf : Fam m l) (h0 : memB (2 ^ m - 1) l = true) (h : ∀ i, i < l.length → (∀ j, j < l.length → memB (l.getD i 0 &&& l.getD j 0) l = true) ∧ walkB (2 ^ m - 1) (l.getD i 0) (l.getD i 0) (nextL l (l.getD i 0)) = true) : FlatAx m l := by
  refine (flats_iff hf).1 ?_
  unfold flatsB
  simp only [Bool.and_eq_true, List.all_eq_true]
  refine ⟨h0, fun F hF => ?_⟩
  obtain ⟨i, hi, rfl⟩ := mem_getD hF
  refine ⟨fun G hG => ?_, (h i hi).2⟩
  obtain ⟨j, hj, rfl⟩ := mem_getD hG
  exact (h i hi).1 j hj
theorem walk_drop {T F sn k : Nat} {L : List Nat} (hk : k < L.length) : walkB T F sn (L.drop k) = (L.getD k 0 &&& sn == F && walkB T F (sn ||| L.getD k 0) (L.drop (k + 1))) := by
  rw [List.drop_eq_getElem_cons hk]
  simp [walkB, List.getD, hk]
theorem hull_succ {s a : Nat} {l : List Nat} {k : Nat} (hk : k < l.length) : hull s a (l.take (k + 1)) = if subB s (l.getD k 0) = true then hull s a (l.take k) &&& l.getD k 0 else hull s a (l.take k) := by
  unfold hull
  rw [List.take_add_one, List.foldl_append, List.getElem?_eq_getElem hk]
  simp [List.getD, hk]
theorem hull_le (s : Nat) : ∀ (l : List Nat) (a : Nat), hull s a l ≤ a
  | [], a => Nat.le_refl _
  | F :: l, a => by
    unfold hull
    simp only [List.foldl_cons]
    refine Nat.le_trans (hull_le s l _) ?_
    split
    · exact Nat.and_le_left
    · exact Nat.le_refl _
theorem mem_take {x : Nat} {l : List Nat} {k : Nat} (hk : k < l.length) : memB x (l.take (k + 1)) = (memB x (l.take k) || decide (l.getD k 0 = x)) := by
  rw [Bool.eq_iff_iff, Bool.or_eq_true]
  unfold memB
  rw [List.take_add_one, List.getElem?_eq_getElem hk, decide_eq_true_iff, decide_eq_true_iff, decide_eq_true_iff, List.mem_append]
  have e : l.getD k 0 = l[k] := by simp [List.getD, hk]
  rw [e]
  constructor
  · rintro (h | h)
    · exact .inl h
    · exact .inr (by simpa using h : x = l[k]).symm
  · rintro (h | h)
    · exact .inl h
    · exact .inr (by simp [h])
theorem Tbl.rks {g : Nat} {w : World} {T cap n : Nat} {f : Nat → Nat} (h : Tbl g w T f) (hT : T = 2 ^ n) (hT2 : T ≤ 256) : Ints w (.slice (some ⟨g, 0, none⟩) T cap) (N ((List.range (2 ^ n)).map f)) := by
  have hl : (N ((List.range (2 ^ n)).map f)).length = T := by rw [N_len, hT]; simp
  refine ⟨some ⟨g, 0, none⟩, cap, by rw [hl], by rw [hl]; omega, fun _ => ⟨g, 0, rfl, h.size, fun i hi => ?_⟩⟩
  rw [hl] at hi
  rw [map_getD (by omega), Nat.zero_add]
  exact h.cell i hi
theorem bas_doc {m : Nat} {bs l : List Nat} (hm : m ≤ 8) (hf : Fam m bs) (hb : Bas bs) (hl : flatL m bs = l) : bigS ((List.range (2 ^ m)).filter fun s => (N ((List.range (2 ^ m)).map (rk bs))).getD s 0 == (pop s : Int)) = basFl m l := by
  have e : basFl m l = bs := by
    have := of_flat hm hf hb
    unfold basFl
    rw [← (less_take (l := bs) hm).1, hl] at this
    exact this
  rw [e]
  refine Eq.trans (congrArg bigS (List.filter_congr fun s hs => ?_)) (big_ind hm hf hb)
  rw [map_getD (List.mem_range.1 hs), Bool.eq_iff_iff]
  simp
  omega
theorem wrap_less {x : Int} (h0 : 0 ≤ x) (h1 : x ≤ 100) : IntKind.i64.wrap x = x := by
  have h2 : ∀ n : Nat, n ≤ 100 → IntKind.i64.wrap (n : Int) = n := by decide +kernel
  obtain ⟨n, rfl⟩ := Int.eq_ofNat_of_zero_le h0
  exact h2 n (by omega)
theorem hgt_succ {r : Nat → Nat} {l : List Nat} {F k : Nat} (hk : k < l.length) : hgt r l F (k + 1) = if subB (l.getD k 0) F = true then max (hgt r l F k) (r (l.getD k 0) + 1) else hgt r l F k := by
  unfold hgt
  rw [List.take_add_one, List.foldl_append, List.getElem?_eq_getElem hk]
  simp [List.getD, hk]
theorem Tbl.apart {g g' : Nat} {w : World} {T : Nat} {f : Nat → Nat} (h : Tbl g w T f) (hne : g ≠ g') (j : Nat) (x : Value) : Tbl g (w.setCell ⟨g', j, none⟩ x) T f :=
  ⟨fun i hi => (World.cell?_setCell_other _ _ _ _ (by simp)).trans (h.cell i hi), fun i => (World.frozen?_setCell _ _ _ _).trans (h.frozen i), by simpa using h.size⟩
theorem Own.grownAt {w W W' : World} {v : Value} {l : List Nat} {u : Obj} (ho : Own (w.heap.size + 1) W v l) (h : At1 w W) (hg : (W.alloc u).grownBy W' v.ownBlock) : At1 w W' := by
  have B : Below (w.heap.size + 1) W W' := Own.grown ho (Below.refl _ _) h.2.2 hg
  refine ⟨h.1.trans (B.mono (by omega)), (B.block _ (by omega)).trans h.2.1, Nat.le_trans h.2.2 B.size⟩

set_option maxRecDepth 100000 in
set_option maxHeartbeats 8000000 in
theorem OfFlats_ref (m : Nat) (v : Value) (l : List Nat) (w : World) (hm : m ≤ 8) (hf : Fam m l) (h : Ints w v (N l)) :
    Calls Try.prog 34 #[.int .i64 m, v] w (BoolM w (qOf (FlatAx m l)) m (basFl m l)) := by
  obtain ⟨i0, hi, hz0, hz1, hz2⟩ := info_parts Try.infoInt
  have HI := hid h
  have HL := hid (hf.lt256 hm)
  have HF := hid hf
  have hln : l.length ≤ 256 := Nat.le_trans (fam_len hm hf) (by decide)
  obtain ⟨a, cap, rfl, hlen, hc⟩ := h.nats
  obtain ⟨T, HT, hT2, hT0⟩ : ∃ T : Nat, Hid (T = 2 ^ m) ∧ T ≤ 256 ∧ 1 ≤ T := ⟨2 ^ m, rfl, (pow_wrap _ hm).2, Nat.one_le_two_pow⟩
  have AL := hid (fun w => All_nat m w hm)
  have N0 := hid (flats_no0 hf)
  have N1 := hid (fun i j hi hj => flats_no1 hf (i := i) (j := j) hi hj)
  have N2 := hid (fun i hi => flats_no2 hf (i := i) hi)
  have YY := hid (flats_yes hf)
  rw [← HT.out] at AL N0 N2 YY
  have HAS := hid (fun (x : Nat) (w' : World) (hb : At1 w w') => Has_any (.slice a l.length cap) l x w' (hb.ints HI.out))
  obtain ⟨q, HQ⟩ : ∃ q, Hid (qOf (FlatAx m l) = q) := ⟨_, rfl⟩
  rw [HQ.out]
  have A0 := hid (At1.new w)
  clear h hf
  have HH := hid (HAS.out (T - 1) _ A0.out)
  cases h0 : memB (T - 1) l with
  | false =>
    have Q3 : Hid (q = 3) := HQ.out.symm.trans (qOf_neg (N0.out h0))
    rw [h0] at HH
    clear h0
    go_enter Try.func34, Try.ntmps34
    go_wp2_with fail
    refine (AL.out _).mono ?_
    rintro e w2 ⟨rfl, rfl⟩
    go_wp2_with fail
    refine HH.out.mono ?_
    rintro e w2 ⟨rfl, rfl⟩
    generalize w.alloc _ = w1 at *
    obtain ⟨y0, y1, g0, g1⟩ := A0.out.cells
    go_wp2_with fail
    obtain ⟨⟨c0, c1⟩, hD⟩ := A0.out.end (.int .i64 0) (.slice none 0 0)
    refine bodyPost_ret (v := .tuple #[.agg #[.int .i64 0, .slice none 0 0], .bool false]) ?_ rfl (BoolM.no Q3.out hD)
    simp [results, Try.f34, go_sem, c0, c1]
  | true =>
    have H0 := hid h0
    rw [h0] at HH
    clear h0
    go_enter Try.func34, Try.ntmps34
    go_wp2_with fail
    refine (AL.out _).mono ?_
    rintro e w2 ⟨rfl, rfl⟩
    go_wp2_with fail
    refine HH.out.mono ?_
    rintro e w2 ⟨rfl, rfl⟩
    generalize w.alloc _ = w1 at *
    clear HH
    go_wp2_with fail
    go_loopw [6] (fun i wr => ∃ k : Nat, k ≤ l.length ∧ i = .int .i64 k ∧ Hid (∀ i, i < k → (∀ j, j < l.length → memB (l.getD i 0 &&& l.getD j 0) l = true) ∧ walkB (T - 1) (l.getD i 0) (l.getD i 0) (nextL l (l.getD i 0)) = true) ∧ Hid (At1 w wr)) (fun i _ => l.length - (intOf i).toNat)
    case atStart => exact ⟨0, Nat.zero_le _, rfl, fun i h => absurd h (by omega), A0⟩
    case round =>
      obtain ⟨i, hi2, rfl, G1, A1⟩ := hrel
      by_cases hlt1 : i < l.length
      · obtain ⟨b, off, rfl, hb, hcell⟩ := hc (by omega)
        have hci := hcell i hlt1
        have hxi := getD_lt HL.out i
        have NN1 := hid (fun j hj => N1.out i j hlt1 hj)
        have NN2 := hid (N2.out i hlt1)
        obtain ⟨x, HX⟩ : ∃ x, Hid (l.getD i 0 = x) := ⟨_, rfl⟩
        rw [HX.out] at hci hxi NN1 NN2
        go_wp2_with fail
        go_loopw [7, 8] (fun u j wr => ∃ k : Nat, k ≤ l.length ∧ j = .int .i64 k ∧ Own (w.heap.size + 1) wr u ((l.take k).filter fun G => decide (x ≠ G) && subB x G) ∧ Hid (∀ j, j < k → memB (x &&& l.getD j 0) l = true) ∧ Hid (At1 w wr)) (fun _ j _ => l.length - (intOf j).toNat)
        case atStart => exact ⟨0, Nat.zero_le _, rfl, Own.nil _ _, fun j h => absurd h (by omega), A1⟩
        case round =>
          rename World => wr2
          obtain ⟨j, hj, rfl, hown, G2, A2⟩ := hrel
          have HO := hid hown
          clear hown
          by_cases hlt2 : j < l.length
          · have hyj := getD_lt HL.out j
            have NJ := hid (NN1.out j hlt2)
            have hcj := hcell j hlt2
            have Hhit := hid (fun hp => filter_hit (p := fun G => decide (x ≠ G) && subB x G) hlt2 hp)
            have Hmiss := hid (fun hp => filter_miss (p := fun G => decide (x ≠ G) && subB x G) hlt2 hp)
            have hfl := filter_le (fun G => decide (x ≠ G) && subB x G) l j
            obtain ⟨y, HY⟩ : ∃ y, Hid (l.getD j 0 = y) := ⟨_, rfl⟩
            rw [HY.out] at hyj NJ hcj Hhit Hmiss
            generalize hacc : (l.take j).filter (fun G => decide (x ≠ G) && subB x G) = acc at *
            clear hacc
            have ci : ∀ x9 : Later wr2, x9.now.cell? ⟨b, off + i, none⟩ = some (.int .i64 (x : Nat)) := fun x9 => (A2.out.on x9.kept).cell hb hci
            have cj : ∀ x9 : Later wr2, x9.now.cell? ⟨b, off + j, none⟩ = some (.int .i64 (y : Nat)) := fun x9 => (A2.out.on x9.kept).cell hb hcj
            have AN : bits .and .i64 (x : Int) (y : Int) = ((x &&& y : Nat) : Int) := i64_and_nat x y (Nat.lt_trans hxi (by decide)) (Nat.lt_trans hyj (by decide))
            have HH := hid (fun x9 : Later wr2 => HAS.out (x &&& y) x9.now (A2.out.on x9.kept))
            cases hme : memB (x &&& y) l with
            | false =>
              have Q3 : Hid (q = 3) := HQ.out.symm.trans (qOf_neg (NJ.out hme))
              rw [hme] at HH
              clear hme NJ Hhit Hmiss
              generalize x &&& y = xy at *
              go_wp2_with fail
              refine region_later (by kernel_rfl) (by kernel_rfl) ?_
              repeat (go_big_quiet_step (((go_at_call 56; refine (HH.out _).mono ?_; rintro e w' ⟨rfl, hb9⟩; exact ⟨rfl, Later.on _ (by rw [hb9]; exact Below.refl _ _)⟩))))
              refine wpQuiet_nil ?_
              intro w6 hw'
              obtain ⟨⟨y6, hb6⟩, hw''⟩ := hw'
              dsimp only at hw''
              subst hw''
              have A9 := hid (A2.out.on hb6)
              clear hb6 ci cj
              obtain ⟨y0, y1, g0, g1⟩ := A9.out.cells
              go_wp2_with fail
              obtain ⟨⟨c0, c1⟩, hD⟩ := A9.out.end (.int .i64 0) (.slice none 0 0)
              refine bodyPost_ret (v := .tuple #[.agg #[.int .i64 0, .slice none 0 0], .bool false]) ?_ rfl (BoolM.no Q3.out hD)
              simp [results, Try.f34, go_sem, c0, c1]
            | true =>
              have HM := hid hme
              rw [hme] at HH
              clear hme NJ
              have HXY := hid (rfl : x &&& y = x &&& y)
              generalize hxy : x &&& y = xy at *
              have HXY2 := hid hxy
              clear hxy HXY
              go_wp2_with fail
              refine region_later (by kernel_rfl) (by kernel_rfl) ?_
              repeat (go_big_quiet_step (((go_at_call 56; refine (HH.out _).mono ?_; rintro e w' ⟨rfl, hb9⟩; exact ⟨rfl, Later.on _ (by rw [hb9]; exact Below.refl _ _)⟩))))
              refine wpQuiet_nil ?_
              intro w6 hw'
              obtain ⟨⟨y6, hb6⟩, hw''⟩ := hw'
              dsimp only at hw''
              subst hw''
              have A9 := hid (A2.out.on hb6)
              have HO9 := hid (HO.out.below hb6)
              clear hb6 ci cj
              clear HO
              go_wp2_with fail
              have ci : ∀ x9 : Later w6, x9.now.cell? ⟨b, off + i, none⟩ = some (.int .i64 (x : Nat)) := fun x9 => (A9.out.on x9.kept).cell hb hci
              have cj : ∀ x9 : Later w6, x9.now.cell? ⟨b, off + j, none⟩ = some (.int .i64 (y : Nat)) := fun x9 => (A9.out.on x9.kept).cell hb hcj
              have NX : Hid (∀ j', j' < j + 1 → memB (x &&& l.getD j' 0) l = true) := fun j' hj' => (Nat.lt_succ_iff_lt_or_eq.1 hj').elim (G2.out j') (fun e => by subst e; rw [HY.out, HXY2.out]; exact HM.out)
              have WI := hid (fun w => Within_any x y w hxi hyj)
              by_cases hne : x = y
              · have hne' : ((x : Int) != (y : Int)) = false := by rw [hne]; simp
                have PM : Hid ((decide (x ≠ y) && subB x y) = false) := by show _ = _; simp [hne]
                clear hne
                go_wp2_with fail
                refine region_later (by kernel_rfl) (by kernel_rfl) ?_
                repeat (go_big_quiet_step (fail))
                refine wpQuiet_nil ?_
                intro w7 hw'
                obtain ⟨⟨y6, hb6⟩, hw''⟩ := hw'
                dsimp only at hw''
                subst hw''
                have AX := hid (A9.out.on hb6)
                have HOX := hid (HO9.out.below hb6)
                clear hb6 ci cj
                go_wp2_with fail
                go_roundw
                case rel => exact ⟨j + 1, by omega, by go_num, by rw [Hmiss.out PM.out]; exact HOX.out, NX, AX⟩
                case measure => simp [intOf]; omega
              · have hne' : ((x : Int) != (y : Int)) = true := by rw [bne_iff_ne]; omega
                cases hsub : subB x y with
                | false =>
                  have PM : Hid ((decide (x ≠ y) && subB x y) = false) := by show _ = _; rw [hsub]; simp
                  rw [hsub] at WI
                  clear hsub hne
                  go_wp2_with fail
                  refine region_later (by kernel_rfl) (by kernel_rfl) ?_
                  repeat (go_big_quiet_step (((go_at_call 44; refine (WI.out _).mono ?_; rintro e w' ⟨rfl, hb9⟩; exact ⟨rfl, Later.on _ (by rw [hb9]; exact Below.refl _ _)⟩))))
                  refine wpQuiet_nil ?_
                  intro w7 hw'
                  obtain ⟨⟨y6, hb6⟩, hw''⟩ := hw'
                  dsimp only at hw''
                  subst hw''
                  have AX := hid (A9.out.on hb6)
                  have HOX := hid (HO9.out.below hb6)
                  clear hb6 ci cj
                  go_wp2_with fail
                  go_roundw
                  case rel => exact ⟨j + 1, by omega, by go_num, by rw [Hmiss.out PM.out]; exact HOX.out, NX, AX⟩
                  case measure => simp [intOf]; omega
                | true =>
                  have PM : Hid ((decide (x ≠ y) && subB x y) = true) := by show _ = _; rw [hsub]; simp [hne]
                  rw [hsub] at WI
                  clear hsub hne
                  go_wp2_with fail
                  refine region_later (by kernel_rfl) (by kernel_rfl) ?_
                  repeat (go_big_quiet_step (((go_at_call 44; refine (WI.out _).mono ?_; rintro e w' ⟨rfl, hb9⟩; exact ⟨rfl, Later.on _ (by rw [hb9]; exact Below.refl _ _)⟩))))
                  refine wpQuiet_nil ?_
                  intro w7 hw'
                  obtain ⟨⟨y6, hb6⟩, hw''⟩ := hw'
                  dsimp only at hw''
                  subst hw''
                  have AX := hid (A9.out.on hb6)
                  have HOX := hid (HO9.out.below hb6)
                  clear hb6 ci cj
                  have hck := AX.out.cell hb hcj
                  have hs7 := AX.out.2.2
                  have HB7 := hid AX.out.1
                  go_wp2_with (at_builtin; refine wpList_append_own _ rfl _ _ 22 rfl (w.heap.size + 1) 3 i0 (.int .i64 0) 1 8 Try.underlying22 hi hz0 hz1 hz2 rfl (by decide) _ _ _ rfl (HOX.out.alloc _) ⟨w7.heap.size, 0, none⟩ 1 1 [.int .i64 (y : Nat)] rfl rfl ?c1 ?c2 ?c3 ?c4 ?c5 ?_)
                  case c1 => exact cell_one_new _ _ _
                  case c2 => intro u hu; simp at hu; subst hu; rfl
                  case c3 => unfold maxLen; omega
                  case c4 => omega
                  case c5 => simp; omega
                  intro v' w8 hown' hgrow _
                  have R3 := hid (Own.snoc hown')
                  have R4 := hid (Own.grownAt HOX.out AX.out hgrow)
                  clear hown' hgrow
                  go_wp2_with fail
                  go_roundw
                  case rel => exact ⟨j + 1, by omega, by go_num, by rw [Hhit.out PM.out]; exact R3.out, NX, R4⟩
                  case measure => simp [intOf]; omega
          · have hjj : j = l.length := by omega
            have G2' : Hid (∀ j, j < l.length → memB (x &&& l.getD j 0) l = true) := fun j' hj' => G2.out j' (by omega)
            have HO2 := HO
            rw [hjj, List.take_length] at HO2
            obtain ⟨ra, rcap, hr⟩ := ownsRow_form' HO2.out
            subst hr
            have L1 : Hid ((l.filter fun G => decide (x ≠ G) && subB x G).length ≤ 256) := Nat.le_trans (List.length_filter_le _ _) hln
            have LE := hid (Least_ref m _ (l.filter fun G => decide (x ≠ G) && subB x G) wr2.drew hm (fun s hs => HL.out s (List.mem_filter.1 hs).1) ((HO2.out.ints (Nat.le_trans L1.out (by decide))).below ((Below.refl _ _).drew)))
            rw [next_doc HF.out x] at LE
            have ci := A2.out.cell hb hci
            have ci' : wr2.drew.cell? ⟨b, off + i, none⟩ = some (.int .i64 (x : Nat)) := ci
            have AD := hid (A2.out.on ((Below.refl _ _).drew))
            have NXT : Hid (∀ s ∈ nextL l x, s < 256) := fun s hs => HL.out s (mem_next.1 hs).1
            have NXL : Hid ((nextL l x).length ≤ 256) := Nat.le_trans (List.length_filter_le _ _) hln
            have WE : Hid (walkB (T - 1) x x (nextL l x) = walkB (T - 1) x x ((nextL l x).drop 0)) := rfl
            obtain ⟨nx, HNX⟩ : ∃ nx, Hid (nextL l x = nx) := ⟨_, rfl⟩
            rw [HNX.out] at LE NXT NXL NN2 WE
            generalize (l.filter fun G => decide (x ≠ G) && subB x G).length = fl at *
            clear HO HO2 L1 G2
            go_wp2_with fail
            go_region_with ((go_at_call 54; refine LE.out.mono ?_; rintro e w5 ⟨r5, rfl, ho5, hb5⟩; have A5 := hid (AD.out.on hb5); have ci5 := A5.out.cell hb hci; have HO5 := hid (ho5.mono AD.out.2.2 : Own (w.heap.size + 1) w5 r5 nx); obtain ⟨ra5, rcap5, rfl⟩ := ho5.form; clear hb5 ho5))
            all_goals go_wp2_with fail
            all_goals (
              have IN5 := HO5.out.ints (Nat.le_trans NXL.out (by decide))
              obtain ⟨_, _, he5, _, hcn⟩ := IN5.nats
              simp only [Value.slice.injEq, true_and] at he5
              obtain ⟨rfl, rfl⟩ := he5
              clear IN5
              go_loopw [10, 11] (fun u j wr => ∃ k sn : Nat, k ≤ nx.length ∧ j = .int .i64 k ∧ u = .int .i64 sn ∧ sn < 256 ∧ Hid (walkB (T - 1) x x nx = walkB (T - 1) x sn (nx.drop k)) ∧ Hid (Below w5.heap.size w5 wr)) (fun _ j _ => nx.length - (intOf j).toNat)
              case atStart => exact ⟨0, x, Nat.zero_le _, rfl, rfl, hxi, WE, Below.refl _ _⟩
              case round =>
                rename World => wr3
                obtain ⟨k, sn, hk, rfl, rfl, hsn, WK, B3⟩ := hrel
                have A3 := hid (A5.out.on B3.out)
                by_cases hlt3 : k < nx.length
                · obtain ⟨nb, noff, rfl, hnb, hnc⟩ := hcn (by omega)
                  have hck := hnc k hlt3
                  have hy8 := getD_lt NXT.out k
                  have WD := hid (walk_drop (T := T - 1) (F := x) (sn := sn) hlt3)
                  generalize nx.getD k 0 = y at *
                  have cn : ∀ x9 : Later wr3, x9.now.cell? ⟨nb, noff + k, none⟩ = some (.int .i64 (y : Nat)) := fun x9 => (x9.kept.cell (p := ⟨nb, noff + k, none⟩) (Nat.lt_of_lt_of_le hnb B3.out.size)).trans ((B3.out.cell (p := ⟨nb, noff + k, none⟩) hnb).trans hck)
                  have ci9 : ∀ x9 : Later wr3, x9.now.cell? ⟨b, off + i, none⟩ = some (.int .i64 (x : Nat)) := fun x9 => (A3.out.on x9.kept).cell hb hci
                  have AN : bits .and .i64 (y : Int) (sn : Int) = ((y &&& sn : Nat) : Int) := i64_and_nat y sn (Nat.lt_trans hy8 (by decide)) (Nat.lt_trans hsn (by decide))
                  by_cases hq : y &&& sn = x
                  · have hq' : (((y &&& sn : Nat) : Int) != (x : Int)) = false := by rw [hq]; simp
                    have WN : Hid (walkB (T - 1) x x nx = walkB (T - 1) x (sn ||| y) (nx.drop (k + 1))) := by show _ = _; rw [WK.out, WD.out, hq]; simp
                    have OR : bits .or .i64 (sn : Int) (y : Int) = ((sn ||| y : Nat) : Int) := i64_or_nat sn y (Nat.lt_trans hsn (by decide)) (Nat.lt_trans hy8 (by decide))
                    have hor : sn ||| y < 256 := Nat.or_lt_two_pow (n := 8) hsn hy8
                    clear WD hq
                    generalize y &&& sn = ys at *
                    go_wp2_with fail
                    refine region_later (by kernel_rfl) (by kernel_rfl) ?_
                    repeat (go_big_quiet_step (fail))
                    refine wpQuiet_nil ?_
                    intro w6 hw'
                    obtain ⟨⟨y6, hb6⟩, hw''⟩ := hw'
                    dsimp only at hw''
                    subst hw''
                    have A9 := hid (A3.out.on hb6)
                    have B9 := hid (B3.out.trans (hb6.mono B3.out.size))
                    have cn2 : w6.cell? ⟨nb, noff + k, none⟩ = some (.int .i64 (y : Nat)) := cn ⟨w6, hb6⟩
                    clear hb6 cn ci9
                    go_wp2_with fail
                    go_roundw
                    case rel => exact ⟨k + 1, sn ||| y, by omega, by go_num, rfl, hor, WN, B9⟩
                    case measure => simp [intOf]; omega
                  · have hq' : (((y &&& sn : Nat) : Int) != (x : Int)) = true := by rw [bne_iff_ne]; intro e9; exact hq (by exact_mod_cast e9)
                    have Q3 : Hid (q = 3) := HQ.out.symm.trans (qOf_neg (NN2.out (by rw [WK.out, WD.out]; simp [hq])))
                    clear WD hq
                    generalize y &&& sn = ys at *
                    go_wp2_with fail
                    refine region_later (by kernel_rfl) (by kernel_rfl) ?_
                    repeat (go_big_quiet_step (fail))
                    refine wpQuiet_nil ?_
                    intro w6 hw'
                    obtain ⟨⟨y6, hb6⟩, hw''⟩ := hw'
                    dsimp only at hw''
                    subst hw''
                    have A9 := hid (A3.out.on hb6)
                    have B9 := hid (B3.out.trans (hb6.mono B3.out.size))
                    have cn2 : w6.cell? ⟨nb, noff + k, none⟩ = some (.int .i64 (y : Nat)) := cn ⟨w6, hb6⟩
                    clear hb6 cn ci9
                    obtain ⟨y0, y1, g0, g1⟩ := A9.out.cells
                    go_wp2_with fail
                    obtain ⟨⟨c0, c1⟩, hD⟩ := A9.out.end (.int .i64 0) (.slice none 0 0)
                    refine bodyPost_ret (v := .tuple #[.agg #[.int .i64 0, .slice none 0 0], .bool false]) ?_ rfl (BoolM.no Q3.out hD)
                    simp [results, Try.f34, go_sem, c0, c1]
                · have hkk : k = nx.length := by omega
                  have WL : Hid (walkB (T - 1) x x nx = (sn == T - 1)) := by show _ = _; rw [WK.out, hkk, List.drop_length]; rfl
                  by_cases hq : sn = T - 1
                  · have hq' : ((sn : Int) != ((T - 1 : Nat) : Int)) = false := by rw [hq]; simp
                    have WT : Hid (walkB (T - 1) x x nx = true) := by show _ = _; rw [WL.out, hq]; simp
                    clear hq
                    go_wp2_with fail
                    refine (AL.out _).mono ?_
                    rintro e w9 ⟨rfl, rfl⟩
                    go_wp2_with fail
                    go_roundw
                    case rel => exact ⟨i + 1, by omega, by go_num, fun i' hi' => (Nat.lt_succ_iff_lt_or_eq.1 hi').elim (fun h => G1.out i' h) (fun e => by subst e; rw [HX.out, HNX.out]; exact ⟨G2'.out, WT.out⟩), A3⟩
                    case measure => simp [intOf]; omega
                  · have hq' : ((sn : Int) != ((T - 1 : Nat) : Int)) = true := by rw [bne_iff_ne]; intro e9; exact hq (by exact_mod_cast e9)
                    have Q3 : Hid (q = 3) := HQ.out.symm.trans (qOf_neg (NN2.out (by rw [WL.out]; simpa using hq)))
                    clear hq
                    obtain ⟨y0, y1, g0, g1⟩ := A3.out.cells
                    go_wp2_with fail
                    refine (AL.out _).mono ?_
                    rintro e w9 ⟨rfl, rfl⟩
                    go_wp2_with fail
                    obtain ⟨⟨c0, c1⟩, hD⟩ := A3.out.end (.int .i64 0) (.slice none 0 0)
                    refine bodyPost_ret (v := .tuple #[.agg #[.int .i64 0, .slice none 0 0], .bool false]) ?_ rfl (BoolM.no Q3.out hD)
                    simp [results, Try.f34, go_sem, c0, c1])
      · have AX := hid (YY.out H0.out fun i' hi' => G1.out i' (by omega))
        have Q0 : Hid (q = 0) := HQ.out.symm.trans (qOf_pos AX.out)
        have hl0 : 0 < l.length := List.length_pos_iff.2 (fun e => by have := H0.out; rw [e] at this; simp [memB] at this)
        obtain ⟨bs, HBF, HBB, HBL⟩ : ∃ bs, Hid (Fam m bs) ∧ Hid (Bas bs) ∧ Hid (flatL m bs = l) := by
          obtain ⟨bs, h1, h2, h3⟩ := flat_makes hm HF.out AX.out
          exact ⟨bs, h1, h2, h3⟩
        have hTw : wrap64 (2 ^ m) = (T : Int) := by rw [HT.out]; exact (pow_wrap m hm).1
        have hmk1 := fun w => run_make_row' (P := Try.prog) 22 3 (.int .i64 0) 8 Try.underlying22 Try.infoInt rfl .i64 .i64 l.length (by omega) (by omega) w
        have hmk2 := fun w => run_make_row' (P := Try.prog) 22 3 (.int .i64 0) 8 Try.underlying22 Try.infoInt rfl .i64 .i64 T (by omega) (by omega) w
        go_wp2_with fail
        obtain ⟨W1, hW1⟩ : ∃ W1, (wr.alloc (.cells (madeCells #[.int .i64 0] l.length) 3)).alloc (.cells (madeCells #[.int .i64 0] T) 3) = W1 := ⟨_, rfl⟩
        have tH : Hid (Tbl wr.heap.size W1 l.length (fun p => if p < 0 then rk bs (l.getD p 0) else 0)) := by
          rw [← hW1]
          exact ((Tbl.new wr l.length).below ((Below.refl _ _).alloc (Nat.le_refl _) _)).congr (by simp)
        have tR : Hid (Tbl (wr.heap.size + 1) W1 T (fun _ => 0)) := by
          have := Tbl.new (wr.alloc (.cells (madeCells #[.int .i64 0] l.length) 3)) T
          rw [World.size_alloc, hW1] at this
          exact this
        have B1 : Hid (Below wr.heap.size wr W1) := by
          rw [← hW1]
          exact ((Below.refl _ wr).alloc (Nat.le_refl _) _).alloc (by simp) _
        have HGT := hid (fun i (hi : i < l.length) => by have := hgt_eq hm HBB.out (i := i) (by rw [HBL.out]; exact hi); rw [HBL.out] at this; exact this)
        have R8 := hid (rk_le8 bs (HBF.out.lt256 hm))
        rw [hW1]
        clear hW1 hmk1 hmk2 YY N0 N1 N2 G1 HAS
        obtain ⟨b, off, rfl, hb, hcell⟩ := hc hl0
        go_loopw [14] (fun i w2 => ∃ k : Nat, k ≤ l.length ∧ i = .int .i64 k ∧ Hid (Tbl wr.heap.size w2 l.length (fun p => if p < k then rk bs (l.getD p 0) else 0)) ∧ Hid (Tbl (wr.heap.size + 1) w2 T (fun _ => 0)) ∧ Hid (Below wr.heap.size wr w2)) (fun i _ => l.length - (intOf i).toNat)
        case atStart => exact ⟨0, Nat.zero_le _, rfl, tH, tR, B1⟩
        case round =>
          rename World => w2
          obtain ⟨k, hk, rfl, TH, TR, B2⟩ := hrel
          by_cases hlt1 : k < l.length
          · have hci := hcell k hlt1
            have hxi := getD_lt HL.out k
            have HE := hid (HGT.out k hlt1)
            have TH0 : Hid (Tbl wr.heap.size w2 l.length (fun p => if p < k then rk bs (l.getD p 0) else if p = k then hgt (rk bs) l (l.getD k 0) 0 else 0)) := TH.out.congr fun p hp => by
              by_cases h1 : p < k
              · simp [h1]
              · by_cases h2 : p = k <;> simp [h1, h2, hgt]
            obtain ⟨x, HX⟩ : ∃ x, Hid (l.getD k 0 = x) := ⟨_, rfl⟩
            rw [HX.out] at hci hxi HE TH0
            clear TH
            go_wp2_with fail
            go_loopw [15] (fun j w3 => ∃ z : Nat, z ≤ k ∧ j = .int .i64 z ∧ Hid (Tbl wr.heap.size w3 l.length (fun p => if p < k then rk bs (l.getD p 0) else if p = k then hgt (rk bs) l x z else 0)) ∧ Hid (Tbl (wr.heap.size + 1) w3 T (fun _ => 0)) ∧ Hid (Below wr.heap.size wr w3)) (fun j _ => k - (intOf j).toNat)
            case atStart => exact ⟨0, Nat.zero_le _, rfl, TH0, TR, B2⟩
            case round =>
              rename World => w3
              obtain ⟨z, hz, rfl, TZ, TRz, B3⟩ := hrel
              have A3 := hid (A1.out.on B3.out)
              by_cases hlt2 : z < k
              · have hcj := hcell z (by omega)
                have hyj := getD_lt HL.out z
                have HS := hid (hgt_succ (r := rk bs) (F := x) (show z < l.length by omega))
                have hr8 := R8.out (l.getD z 0)
                have cz := TZ.out.cell z (by omega)
                have ck := TZ.out.cell k hlt1
                have fk := TZ.out.frozen k
                simp only [if_pos hlt2] at cz
                simp only [Nat.lt_irrefl, if_false, if_true] at ck
                obtain ⟨y, HY⟩ : ∃ y, Hid (l.getD z 0 = y) := ⟨_, rfl⟩
                rw [HY.out] at hyj hcj HS hr8 cz
                have WI := hid (fun w => Within_any y x w hyj hxi)
                have ci : ∀ x9 : Later w3, x9.now.cell? ⟨b, off + k, none⟩ = some (.int .i64 (x : Nat)) := fun x9 => (A3.out.on x9.kept).cell hb hci
                have cj : ∀ x9 : Later w3, x9.now.cell? ⟨b, off + z, none⟩ = some (.int .i64 (y : Nat)) := fun x9 => (A3.out.on x9.kept).cell hb hcj
                cases hsub : subB y x with
                | false =>
                  rw [hsub] at WI HS
                  clear hsub
                  go_wp2_with fail
                  refine region_later (by kernel_rfl) (by kernel_rfl) ?_
                  repeat (go_big_quiet_step (((go_at_call 44; refine (WI.out _).mono ?_; rintro e w' ⟨rfl, hb9⟩; exact ⟨rfl, Later.on _ (by rw [hb9]; exact Below.refl _ _)⟩))))
                  refine wpQuiet_nil ?_
                  intro w6 hw'
                  obtain ⟨⟨y6, hb6⟩, hw''⟩ := hw'
                  dsimp only at hw''
                  subst hw''
                  have A9 := hid (A3.out.on hb6)
                  have B9 := hid (B3.out.trans (hb6.mono B3.out.size))
                  have TZ9 := hid (TZ.out.below hb6)
                  have TR9 := hid (TRz.out.below hb6)
                  clear hb6 ci cj
                  go_wp2_with fail
                  go_roundw
                  case rel => exact ⟨z + 1, by omega, by go_num, TZ9.out.congr fun p hp => by rw [HS.out]; simp, TR9, B9⟩
                  case measure => simp [intOf]; omega
                | true =>
                  rw [hsub] at WI HS
                  clear hsub
                  go_wp2_with fail
                  refine region_later (by kernel_rfl) (by kernel_rfl) ?_
                  repeat (go_big_quiet_step (((go_at_call 44; refine (WI.out _).mono ?_; rintro e w' ⟨rfl, hb9⟩; exact ⟨rfl, Later.on _ (by rw [hb9]; exact Below.refl _ _)⟩))))
                  refine wpQuiet_nil ?_
                  intro w6 hw'
                  obtain ⟨⟨y6, hb6⟩, hw''⟩ := hw'
                  dsimp only at hw''
                  subst hw''
                  have A9 := hid (A3.out.on hb6)
                  have B9 := hid (B3.out.trans (hb6.mono B3.out.size))
                  have TZ9 := hid (TZ.out.below hb6)
                  have TR9 := hid (TRz.out.below hb6)
                  have ck9 : w6.cell? ⟨wr.heap.size, k, none⟩ = some (.int .i64 (hgt (rk bs) l x z : Nat)) := (hb6.cell (p := ⟨wr.heap.size, k, none⟩) TZ.out.size).trans ck
                  have cz9 : w6.cell? ⟨wr.heap.size, z, none⟩ = some (.int .i64 (rk bs y : Nat)) := (hb6.cell (p := ⟨wr.heap.size, z, none⟩) TZ.out.size).trans cz
                  have fk9 : w6.frozen? ⟨wr.heap.size, k, none⟩ = false := TZ9.out.frozen k
                  clear hb6 ci cj
                  have FIN : Hid (∀ u : Nat, max (hgt (rk bs) l x z) (rk bs y + 1) = u → ∀ W, Tbl wr.heap.size W l.length (fun p => if p < k then rk bs (l.getD p 0) else if p = k then hgt (rk bs) l x z else 0) → Tbl wr.heap.size (W.setCell ⟨wr.heap.size, k, none⟩ (.int .i64 (u : Int))) l.length (fun p => if p < k then rk bs (l.getD p 0) else if p = k then hgt (rk bs) l x (z + 1) else 0)) := fun u hu W hW => hW.set k u hlt1 fun p hp => by
                    by_cases h1 : p < k
                    · have h3 : ¬ k = p := by omega
                      simp [h1, h3]
                    · by_cases h2 : p = k
                      · subst h2; simp [HS.out, hu]
                      · have h3 : ¬ k = p := fun e => h2 e.symm
                        simp [h1, h2, h3]
                  clear ck cz fk TZ TRz B3 A3 HS
                  generalize hgt (rk bs) l x z = hv at *
                  generalize rk bs y = ry at *
                  have hzl : z < l.length := by omega
                  have hzi : (z : Int) < (l.length : Int) := by omega
                  have hz0i : (0 : Int) ≤ (z : Int) := by omega
                  have hki : (k : Int) < (l.length : Int) := by omega
                  have hk0i : (0 : Int) ≤ (k : Int) := by omega
                  have hwr : IntKind.i64.wrap ((ry : Int) + 1) = (ry : Int) + 1 := wrap_less (by omega) (by omega)
                  have F1 := hid (fun (h9 : (hv : Int) < (ry : Int) + 1) => by have := (FIN.out (ry + 1) (by omega) w6 TZ9.out).drew; rw [show ((ry + 1 : Nat) : Int) = (ry : Int) + 1 from by omega] at this; exact this)
                  have F2 := hid (fun (h9 : ¬ (hv : Int) < (ry : Int) + 1) => (FIN.out hv (by omega) w6 TZ9.out).drew)
                  have F3 := hid (fun u => (TR9.out.apart (g' := wr.heap.size) (by omega) k u).drew)
                  have F4 := hid (fun u => (B9.out.setCell (p := ⟨wr.heap.size, k, none⟩) (Nat.le_refl _) u).drew)
                  clear FIN
                  go_wp2_with fail
                  go_region_with (fail)
                  all_goals go_wp2_with fail
                  all_goals first
                    | exact ⟨⟨z + 1, by omega, by omega, F1.out (by omega), F3.out _, F4.out _⟩, by simp [intOf]; omega⟩
                    | exact ⟨⟨z + 1, by omega, by omega, F2.out (by omega), F3.out _, F4.out _⟩, by simp [intOf]; omega⟩
              · have hzz : z = k := by omega
                have TK : Hid (Tbl wr.heap.size w3 l.length (fun p => if p < k + 1 then rk bs (l.getD p 0) else 0)) := TZ.out.congr fun p hp => by
                  by_cases h1 : p < k
                  · have h3 : p < k + 1 := by omega
                    simp [h1, h3]
                  · by_cases h2 : p = k
                    · subst h2
                      have := HE.out
                      rw [hzz]
                      simp [this]
                      rw [← HX.out]
                      simp [List.getD]
                    · have h3 : ¬ p < k + 1 := by omega
                      simp [h1, h2, h3]
                go_wp2_with fail
                go_roundw
                case rel => exact ⟨k + 1, by omega, by go_num, TK, TRz, B3⟩
                case measure => simp [intOf]; omega
          · have hkk : k = l.length := by omega
            have TL : Hid (Tbl wr.heap.size w2 l.length (fun p => rk bs (l.getD p 0))) := TH.out.congr fun p hp => by rw [hkk]; simp [hp]
            clear TH
            go_wp2_with fail
            go_loopw [16] (fun i w3 => ∃ s : Nat, s ≤ T ∧ i = .int .i64 s ∧ Hid (Tbl wr.heap.size w3 l.length (fun p => rk bs (l.getD p 0))) ∧ Hid (Tbl (wr.heap.size + 1) w3 T (fun p => if p < s then rk bs p else 0)) ∧ Hid (Below wr.heap.size wr w3)) (fun i _ => T - (intOf i).toNat)
            case atStart => exact ⟨0, Nat.zero_le _, rfl, TL, TR.out.congr (by simp), B2⟩
            case round =>
              rename World => w3
              obtain ⟨s, hs, rfl, TH3, TR3, B3⟩ := hrel
              by_cases hlt2 : s < T
              · have hs8 : s < 256 := by omega
                go_wp2_with fail
                refine (AL.out _).mono ?_
                rintro e w4 ⟨rfl, rfl⟩
                go_wp2_with fail
                go_loopw [17, 19] (fun u i w5 => ∃ z : Nat, z ≤ l.length ∧ i = .int .i64 z ∧ u = .int .i64 (hull s (T - 1) (l.take z) : Nat) ∧ Hid (w5 = w4)) (fun _ i _ => l.length - (intOf i).toNat)
                case atStart => exact ⟨0, Nat.zero_le _, rfl, rfl, rfl⟩
                case round =>
                  rename World => w5
                  obtain ⟨z, hz, rfl, rfl, EQ⟩ := hrel
                  obtain rfl := EQ.out
                  have A3 := hid (A1.out.on B3.out)
                  by_cases hlt3 : z < l.length
                  · have cz := A3.out.cell hb (hcell z hlt3)
                    have hx8 := getD_lt HL.out z
                    have HU := hid (hull_succ (s := s) (a := T - 1) hlt3)
                    have hh8 : hull s (T - 1) (l.take z) < 256 := Nat.lt_of_le_of_lt (hull_le _ _ _) (by omega)
                    generalize l.getD z 0 = x at *
                    have WI := hid (fun w => Within_any s x w hs8 hx8)
                    have AN : bits .and .i64 ((hull s (T - 1) (l.take z) : Nat) : Int) (x : Int) = ((hull s (T - 1) (l.take z) &&& x : Nat) : Int) := i64_and_nat _ x (Nat.lt_trans hh8 (by decide)) (Nat.lt_trans hx8 (by decide))
                    cases hsub : subB s x with
                    | false =>
                      rw [hsub] at WI HU
                      clear hsub
                      generalize hull s (T - 1) (l.take z) = hu at *
                      go_wp2_with fail
                      refine (WI.out _).mono ?_
                      rintro e w6 ⟨rfl, rfl⟩
                      go_wp2_with fail
                      go_roundw
                      case rel => exact ⟨z + 1, by omega, by go_num, by rw [HU.out]; rfl, by first | rfl | trivial⟩
                      case measure => simp [intOf]; omega
                    | true =>
                      rw [hsub] at WI HU
                      clear hsub
                      generalize hull s (T - 1) (l.take z) = hu at *
                      go_wp2_with fail
                      refine (WI.out _).mono ?_
                      rintro e w6 ⟨rfl, rfl⟩
                      go_wp2_with fail
                      go_roundw
                      case rel => exact ⟨z + 1, by omega, by go_num, by rw [HU.out]; rfl, by first | rfl | trivial⟩
                      case measure => simp [intOf]; omega
                  · have hzz : z = l.length := by omega
                    rw [hzz, List.take_length]
                    have HM : Hid (memB (hull s (T - 1) l) l = true) := by
                      have := hull_mem hm HBB.out (s := s) (by rw [← HT.out]; exact hlt2)
                      rw [HBL.out, ← HT.out] at this
                      unfold memB
                      exact decide_eq_true this
                    have HRK : Hid (rk bs (hull s (T - 1) l) = rk bs s) := by
                      have := hull_rk hm HBB.out (s := s) (by rw [← HT.out]; exact hlt2)
                      rw [HBL.out, ← HT.out] at this
                      exact this
                    generalize hull s (T - 1) l = hu at *
                    go_wp2_with fail
                    go_loopw [18, 20] (fun u i w6 => ∃ z : Nat, z ≤ l.length ∧ i = .int .i64 z ∧ u = .int .i64 (if memB hu (l.take z) = true then rk bs hu else 0 : Nat) ∧ Hid (w6 = w5)) (fun _ i _ => l.length - (intOf i).toNat)
                    case atStart => exact ⟨0, Nat.zero_le _, rfl, rfl, rfl⟩
                    case round =>
                      rename World => w6
                      obtain ⟨z2, hz2', rfl, rfl, EQ2⟩ := hrel
                      obtain rfl := EQ2.out
                      by_cases hlt4 : z2 < l.length
                      · have cz := A3.out.cell hb (hcell z2 hlt4)
                        have ch := TH3.out.cell z2 hlt4
                        have MT := hid (mem_take (x := hu) hlt4)
                        generalize l.getD z2 0 = x at *
                        by_cases hq : x = hu
                        · have hq' : ((x : Int) == (hu : Int)) = true := by rw [hq]; simp
                          have VE : Hid ((if memB hu (l.take (z2 + 1)) = true then rk bs hu else 0) = rk bs x) := by show _ = _; rw [MT.out, hq]; simp
                          clear hq
                          go_wp2_with fail
                          go_roundw
                          case rel => exact ⟨z2 + 1, by omega, by go_num, by rw [VE.out], by first | rfl | trivial⟩
                          case measure => simp [intOf]; omega
                        · have hq' : ((x : Int) == (hu : Int)) = false := by rw [beq_eq_false_iff_ne]; omega
                          have VE : Hid ((if memB hu (l.take (z2 + 1)) = true then rk bs hu else 0) = if memB hu (l.take z2) = true then rk bs hu else 0) := by show _ = _; rw [MT.out]; simp [hq]
                          clear hq
                          generalize (if memB hu (l.take z2) = true then rk bs hu else 0) = av at *
                          go_wp2_with fail
                          go_roundw
                          case rel => exact ⟨z2 + 1, by omega, by go_num, by rw [VE.out], by first | rfl | trivial⟩
                          case measure => simp [intOf]; omega
                      · have hzz2 : z2 = l.length := by omega
                        have VE : Hid ((if memB hu (l.take z2) = true then rk bs hu else 0) = rk bs s) := by show _ = _; rw [hzz2, List.take_length, HM.out, ← HRK.out]; rfl
                        rw [VE.out]
                        have fr := TR3.out.frozen s
                        have cr := TR3.out.cell s hlt2
                        have TN := hid (TR3.out.set (f' := fun p => if p < s + 1 then rk bs p else 0) s (rk bs s) hlt2 fun p hp => by
                          by_cases h1 : s = p
                          · subst h1; simp
                          · by_cases h2 : p < s
                            · have h3 : p < s + 1 := by omega
                              simp [h1, h2, h3]
                            · have h3 : ¬ p < s + 1 := by omega
                              simp [h1, h2, h3])
                        have TP := hid (TH3.out.apart (g' := wr.heap.size + 1) (by omega) s (.int .i64 (rk bs s : Nat)))
                        have BN := hid (B3.out.setCell (p := ⟨wr.heap.size + 1, s, none⟩) (Nat.le_succ _) (.int .i64 (rk bs s : Nat)))
                        generalize rk bs s = rs at *
                        go_wp2_with fail
                        go_roundw
                        case rel => first | exact ⟨s + 1, by omega, by go_num, TP, TN, BN⟩ | exact ⟨s + 1, by omega, by go_num, TP, TN⟩
                        case measure => simp [intOf]; omega
              · have hss : s = T := by omega
                have TF : Hid (Tbl (wr.heap.size + 1) w3 T (rk bs)) := TR3.out.congr fun p hp => by rw [hss]; simp [hp]
                have OR := hid (OfRanks_ref m (.slice (some ⟨wr.heap.size + 1, 0, none⟩) T T) (N ((List.range (2 ^ m)).map (rk bs))) w3 hm (by rw [N_len]; simp) (TF.out.rks HT.out hT2))
                rw [qOf_pos ((rk_ax (n := m) HBB.out).int fun s hs => map_getD hs), bas_doc hm HBF.out HBB.out HBL.out] at OR
                go_wp2_with fail
                refine OR.out.mono ?_
                rintro e w9 ⟨nn, ra, L, c, rfl, hg, hb9⟩
                have A9 := hid ((A1.out.on B3.out).on hb9)
                have GM := hid hg
                obtain ⟨y0, y1, g0, g1⟩ := A9.out.cells
                clear hb9 hg
                go_wp2_with fail
                obtain ⟨⟨c0, c1⟩, hD⟩ := A9.out.end (.int .i64 nn) (.slice ra L c)
                refine bodyPost_ret (v := .tuple #[.agg #[.int .i64 nn, .slice ra L c], .bool true]) ?_ rfl ⟨nn, ra, L, c, by rw [Q0.out]; rfl, ?_, hD⟩
                · simp [results, Try.f34, go_sem, c0, c1]
                · rw [Q0.out]
                  exact (GM.out.set2 (by have := A1.out.2.2; have := B3.out.size; omega)).mono (by have := A1.out.2.2; have := B3.out.size; omega)
end Go.Proofs.Ythbldeloocmakaa
