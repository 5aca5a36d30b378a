/- same.Rename. -/
import Derived.Test.YthlmnhcnpffjdaaGreatOrdEQ
import Derived.Test.YthlmnhcnpffjdaaGreatPlainAll
import Derived.Test.YthlmnhcnpffjdaaGreatIsOrQ
import Derived.Test.YthlmnhcnpffjdaaGreatSortWQ
import Derived.Test.YthlmnhcnpffjdaaGreatBasQ
import Derived.Test.YthlmnhcnpffjdaaGreatBothQ
namespace Go.Proofs.YthlmnhcnpffjdaaGreat
open Go.RowKit

/-- The images, put in order, are what is renamed. -/
theorem ren_sorted {m : Nat} {p l L : List Nat} (hp : Beg m p) (hl : p.length = m) (hf : Fam m l) (h1 : L.Perm (l.map (image p))) (h2 : L.Pairwise (· ≤ ·)) : L = renL m p l := by
  have hn : (l.map (image p)).Nodup := by
    refine List.pairwise_map.2 (List.Pairwise.imp_of_mem (fun {a b} ha hb hab e => ?_) hf.up)
    have := hp.image_inj (s := a) (t := b) (by rw [hl]; exact hf.lt a ha) (by rw [hl]; exact hf.lt b hb) e
    omega
  have hL : L.Nodup := h1.nodup_iff.2 hn
  have h3 : L.Pairwise (· < ·) := by
    refine List.Pairwise.imp₂ (fun a b h4 h5 => ?_) h2 hL
    exact Nat.lt_of_le_of_ne h4 h5
  refine sorted_ext h3 (ren_fam m p l).up fun x => ?_
  rw [h1.mem_iff, List.mem_map, hp.mem_image hl hf]
theorem Beg.front {n : Nat} {p q : List Nat} (h : Beg n (p ++ q)) : Beg n p := ⟨fun x hx => h.lt x (List.mem_append_left _ hx), (List.nodup_append.1 h.once).1⟩
theorem map_take {f : Nat → Nat} {l : List Nat} {k : Nat} (h : k < l.length) : (l.take (k + 1)).map f = (l.take k).map f ++ [f (l.getD k 0)] := by
  rw [take_snoc h, List.map_append]
  rfl
theorem wpList_snoc {B : Nat} {w : World} {l : List Nat} {v : Value} {b : Nat} {ad : Addr} {ops : Array Oper} {rest : List Oper} {o : Oper} {a : Act} {Q : Exit → Act → World → Prop} (hgd : o.guard = none) (s x : Operand)
    (ho : o.op = .call { callee := .builtin .append, args := #[s, x], argTypes := #[22, 22] }) (hs : a.eval s = v) (hx : a.eval x = .slice (some ad) 1 1) (h : Own B w v l) (hc : w.cell? ad = some (.int .i64 b)) (hl : l.length ≤ 256) (hB : B ≤ w.heap.size)
    (hK : ∀ v' w', Own B w' v' (l ++ [b]) → w.grownBy w' v.ownBlock → wpList Tryz.prog ops Q rest (a.put o.dst v') w') : wpList Tryz.prog ops Q (o :: rest) a w := by
  obtain ⟨i0, hi, hz0, hz1, hz2⟩ := info_parts Tryz.infoInt
  refine wpList_plain hgd fun K hk => ?_
  obtain ⟨v', w', hrun, r1, r2, r3⟩ := run_append_own (P := Tryz.prog) w B 22 o.type 3 i0 (.int .i64 0) 1 8 Tryz.underlying22 hi hz0 hz1 hz2 rfl (by decide) v l.length (V l) h ad 1 1 [.int .i64 b] rfl
      (fun j u hu => by
        have hj : j < 1 := (List.getElem?_eq_some_iff.1 hu).1
        obtain rfl : j = 0 := by omega
        simp only [List.getElem?_cons_zero] at hu
        rw [← hu, ← hc]
        simp [Addr.add])
      (by intro u hu; simp at hu; subst hu; rfl) (by unfold maxLen; omega) (by omega) hB
  unfold Oper.wp
  simp [execOp, ho, resolve, invoke, builtin, hs, hx, hrun, Result.andThen]
  exact hk _ _ (hK v' w' (Own.snoc r1) r2)
theorem with_take (m gN gI B i : Nat) (p : List Nat) (w : World) (hm : m ≤ 8) (hp : Beg m p) (hl : p.length = m) (hi : i < p.length) (hne : gN ≠ gI) (hO : OrdAt B w gN gI m (p.take i)) :
    Calls Tryz.prog 36 #[.agg #[.slice (some ⟨gN, 0, none⟩) i m, .slice (some ⟨gI, 0, none⟩) (2 ^ i) (2 ^ m)], .int .i64 (p.getD i 0 : Nat)] w fun e w' => e = .returned (.agg #[.slice (some ⟨gN, 0, none⟩) (i + 1) m, .slice (some ⟨gI, 0, none⟩) (2 ^ (i + 1)) (2 ^ m)]) ∧ OrdAt B w' gN gI m (p.take (i + 1)) ∧ Save (fun k => k = gN ∨ k = gI) w w' := by
  have e : (p.take i).length = i := by rw [List.length_take]; omega
  have h1 := with_ok m (p.getD i 0) gN gI B (p.take i) w hm (hp.at hi) (by rw [e]; omega) (fun x hx => hp.lt x (List.mem_of_mem_take hx)) hO.num hO.img hne
  rw [e] at h1
  refine h1.mono ?_
  rintro r w' ⟨rfl, h2, h3, h4⟩
  refine ⟨rfl, ?_, h4⟩
  rw [take_snoc hi]
  have h2' : Own B w' (.slice (some ⟨gN, 0, none⟩) ((p.take i).length + 1) m) (p.take i ++ [p.getD i 0]) := by rw [e]; exact h2
  exact OrdAt.of_with h2' h3 (by rw [e]) rfl
set_option maxRecDepth 20000 in
set_option maxHeartbeats 4000000 in
theorem Rename_ok (m : Nat) (v u : Value) (l p : List Nat) (w : World) (hm : m ≤ 8) (hf : Fam m l) (hb : Bas l) (h : Ints w v (N l)) (hu : Ints w u (N p)) (hp : Beg m p) (hl : p.length = m) :
    Calls Tryz.prog 11 #[.agg #[.int .i64 m, v], u] w (GivesO w m (renL m p l)) := by
  obtain ⟨i0, hi, hz0, hz1, hz2⟩ := info_parts Tryz.infoInt
  have B0 := boxM_below w m v
  have HB0 := hid B0
  have HSZ := hid (boxM_size w m v)
  have HBK : Hid (∀ w2, Below (boxM w m v).heap.size (boxM w m v) w2 → _) := fun w2 h => boxM_blocks h
  have CK := hid (check_any m v (N l) _ (h.below B0))
  rw [chk_mk hm hf hb] at CK
  have IO := hid (fun w' (hb0 : Below w.heap.size w w') => IsOrder_full m u (N p) w' hm (hu.below hb0))
  have HOZ : Hid (OrdZ m (N p)) := ⟨p, rfl, hp, hl⟩
  have BG := hid (fun w' => begin_ok m w' hm)
  have WT := hid (fun gN gI B i w1 (hlt : i < p.length) (hne : gN ≠ gI) (hO : OrdAt B w1 gN gI m (p.take i)) => with_take m gN gI B i p w1 hm hp hl hlt hne hO)
  have HPB : Hid (∀ i, i < p.length → p.getD i 0 < m) := fun i hi => hp.at hi
  have HSO := hid (fun L h1 h2 => ren_sorted (L := L) hp hl hf h1 h2)
  have HLT : Hid (∀ b ∈ l, b < 2 ^ m) := hf.lt
  have hll := fam_len hm hf
  have HIM : Hid (∀ B W gN gI b, b < 2 ^ m → OrdAt B W gN gI m p → W.cell? ⟨gI, b, none⟩ = some (.int .i64 (image p b : Nat)) ∧ image p b < 2 ^ m) := fun B W gN gI b hb hO => by
    have h1 := hO.img.at (i := b) (by rw [imgs_len _ p rfl, hl]; exact hb)
    rw [imgs_at _ p rfl b (by rw [hl]; exact hb)] at h1
    exact ⟨h1, hp.image_lt b⟩
  have hT := (pow_wrap m hm).2
  obtain ⟨a0, cap, hv, -, hcl⟩ := h.nats
  obtain ⟨a1, cap1, hu', -, hcp⟩ := hu.nats
  subst hv
  subst hu'
  have HCL := hid hcl
  have HCP := hid hcp
  have mk := fun w => run_make_to 0 l.length (Nat.zero_le _) hll w
  rw [show ((0 : Nat) : Int) = 0 from rfl] at mk
  have HPM : Hid (p.length = m) := hl
  have hp8l : p.length ≤ 8 := by rw [hl]; exact hm
  clear hf hb h hu hp hcl hcp B0 hl
  go_enter Tryz.func11, Tryz.ntmps11
  go_wp2_with fail
  refine CK.out.mono ?_
  rintro e w1 ⟨rfl, hb1⟩
  obtain ⟨y0, y1⟩ := HBK.out w1 hb1
  have B1 := hid (HB0.out.trans (hb1.mono HB0.out.size))
  have hs1 : w.heap.size + 2 ≤ w1.heap.size := by rw [← HSZ.out]; exact hb1.size
  have Y0 := hid y0
  have Y1 := hid y1
  obtain ⟨x0, x1⟩ := cells2 y0
  have IO1 := hid (IO.out w1 B1.out)
  clear hb1 CK HB0 HSZ HBK IO y0 y1
  go_wp2_with fail
  refine IO1.out.mono ?_
  rintro e w' ⟨⟨q, rfl, hq⟩, hw'⟩
  obtain rfl := hw'.symm
  obtain rfl : q = true := hq.2 HOZ.out
  have BG1 := hid (BG.out w1)
  clear IO1 hq HOZ BG
  go_wp2_with fail
  refine BG1.out.mono ?_
  rintro e w2 ⟨gN, gI, rfl, ho2, hne, hb2⟩
  unfold ordV
  go_wp2_with fail
  have hgN := ho2.num.lt
  have hgI := ho2.img.lt
  have hs2 := hb2.size
  have HO2 : Hid (OrdAt w1.heap.size (w2.alloc (.cells #[.slice (some ⟨gN, 0, none⟩) 0 m, .slice (some ⟨gI, 0, none⟩) 1 (2 ^ m)] 58)) gN gI m (p.take 0)) := ho2.save (X := fun _ => False) ((Save.refl _ _).alloc _) id id
  have HB2 := hid ((hb2.alloc hs2 (.cells #[.slice (some ⟨gN, 0, none⟩) 0 m, .slice (some ⟨gI, 0, none⟩) 1 (2 ^ m)] 58)))
  have HY2 := hid (World.alloc_heap_new w2 (.cells #[.slice (some ⟨gN, 0, none⟩) 0 m, .slice (some ⟨gI, 0, none⟩) 1 (2 ^ m)] 58))
  clear BG1 ho2 hb2
  obtain ⟨T, HT⟩ : ∃ T, Hid (2 ^ m = T) := ⟨2 ^ m, Eq.refl (2 ^ m)⟩
  rw [HT.out] at HO2 HB2 HY2 hT HLT HIM
  simp only [HT.out] at WT
  rw [HT.out]
  go_loopw [9, 30] (fun _ jx wr => ∃ i : Nat, i ≤ p.length ∧ jx = .int .i64 i ∧ Hid (OrdAt w1.heap.size wr gN gI m (p.take i)) ∧ Hid (wr.heap[w2.heap.size]? = some (.cells #[.slice (some ⟨gN, 0, none⟩) i m, .slice (some ⟨gI, 0, none⟩) (2 ^ i) T] 58 (0, 0))) ∧ Hid (Below w1.heap.size w1 wr)) (fun _ jx _ => p.length - (intOf jx).toNat)
  case atStart => exact ⟨0, Nat.zero_le _, rfl, HO2, HY2, HB2⟩
  case round =>
    obtain ⟨i, hi, rfl, HOr, HYr, HBr⟩ := hrel
    clear HO2 HY2 HB2
    have hsr := HBr.out.size
    have hlr := (Array.getElem?_eq_some_iff.1 HYr.out).1
    obtain ⟨z0, z1, z2, z3⟩ := two_cells HYr.out
    by_cases hlt : i < p.length
    · have hlt' : (i : Int) < (p.length : Int) := by omega
      have hmeas : p.length - (i + 1) < p.length - i := by omega
      obtain ⟨pb, po, rfl, hpb, hcell⟩ := HCP.out (by omega)
      have cP := ((B1.out.trans (HBr.out.mono B1.out.size)).cell (p := ⟨pb, po + i, none⟩) hpb).trans (hcell i hlt)
      have W1 := hid (WT.out gN gI w1.heap.size i wr hlt hne HOr.out)
      have hp8 := HPB.out i hlt
      clear hcell WT
      generalize p.getD i 0 = x at *
      go_wp2_with fail
      refine W1.out.mono ?_
      rintro e w3 ⟨rfl, ho3, hs3⟩
      have b3 := (hs3.block w2.heap.size hlr (by omega)).trans HYr.out
      have s4 : Save (fun k => k = w2.heap.size) w3 ((w3.setCell ⟨w2.heap.size, 0, none⟩ (.slice (some ⟨gN, 0, none⟩) (i + 1) m)).setCell ⟨w2.heap.size, 1, none⟩ (.slice (some ⟨gI, 0, none⟩) (2 ^ (i + 1)) T)) := Save.setCell (X := fun k => k = w2.heap.size) (Save.setCell (X := fun k => k = w2.heap.size) (Save.refl _ w3) (p := ⟨w2.heap.size, 0, none⟩) (.inl rfl) _) (p := ⟨w2.heap.size, 1, none⟩) (.inl rfl) _
      have O4 := hid (ho3.save s4 (by omega) (by omega))
      have Y4 := hid (set_one (y := .slice (some ⟨gI, 0, none⟩) (2 ^ (i + 1)) T) (set_nil (y := .slice (some ⟨gN, 0, none⟩) (i + 1) m) b3))
      have B4 := hid (s4.below (hs3.below HBr.out hsr (fun k hk => by omega)) (Nat.le_trans hsr hs3.size) (fun k hk => by omega))
      obtain ⟨q0, q1, q2, q3⟩ := two_cells b3
      clear W1 ho3 hs3 b3 s4 z0 z1 z2 z3
      go_wp2_with fail
      go_roundw
      case rel => exact ⟨i + 1, hlt, by go_num, O4, Y4, B4⟩
      case measure => exact hmeas
    · obtain rfl : i = p.length := by omega
      generalize wr = wO at *
      have hlt' : ¬ ((p.length : Nat) : Int) < ((p.length : Nat) : Int) := by omega
      rw [List.take_length] at HOr
      have hb0 : Hid (Below w.heap.size w wO) := B1.out.trans (HBr.out.mono B1.out.size)
      have Z0 := hid ((HBr.out.block w.heap.size (by omega)).trans Y0.out)
      have Z1 := hid ((HBr.out.block (w.heap.size + 1) (by omega)).trans Y1.out)
      obtain ⟨x0, x1⟩ := cells2 Z0.out
      clear WT HCP HPB z0 z1 z2 z3
      have bn : Below wO.heap.size wO (wO.alloc (.cells (madeCells #[.int .i64 0] l.length) 3)) := (Below.refl _ _).alloc (Nat.le_refl _) _
      have hzn : (wO.alloc (.cells (madeCells #[.int .i64 0] l.length) 3)).heap.size = wO.heap.size + 1 := World.size_alloc ..
      have hyn := World.alloc_heap_new wO (.cells (madeCells #[.int .i64 0] l.length) 3)
      have w0 := (bn.cell (p := ⟨w.heap.size, 0, none⟩) (by show w.heap.size < _; omega)).trans x0
      have w1' := (bn.cell (p := ⟨w.heap.size, 1, none⟩) (by show w.heap.size < _; omega)).trans x1
      have OE : Hid (Own wO.heap.size (wO.alloc (.cells (madeCells #[.int .i64 0] l.length) 3)) (.slice (some ⟨wO.heap.size, 0, none⟩) 0 l.length) []) := own_made hyn (Nat.le_refl _) hll [] (.inl rfl)
      have HBN := hid bn
      clear hyn bn
      go_wp2_with fail
      revert OE HBN hzn w0 w1'
      generalize (wO.alloc (.cells (madeCells #[.int .i64 0] l.length) 3)) = WB
      intro hzn w0 w1' OE HBN
      clear w0 w1' x0 x1
      go_loopw [10, 12, 45] (fun uacc _ jx wx => ∃ j : Nat, j ≤ l.length ∧ jx = .int .i64 j ∧ Hid (Own wO.heap.size wx uacc ((l.take j).map (image p))) ∧ Hid (Below wO.heap.size wO wx) ∧ Hid (wO.heap.size ≤ wx.heap.size)) (fun _ _ jx _ => l.length - (intOf jx).toNat)
      case atStart => exact ⟨0, Nat.zero_le _, rfl, OE, HBN, by show _ ≤ _; omega⟩
      case round =>
        obtain ⟨j, hj, rfl, HOx, HBx, HSx⟩ := hrel
        clear OE HBN
        have hsx := HSx.out
        obtain ⟨t0, t1⟩ := cells2 ((HBx.out.block w.heap.size (by omega)).trans Z0.out)
        obtain ⟨q0, q1⟩ := cells2 ((HBx.out.block w2.heap.size hlr).trans HYr.out)
        by_cases hlt2 : j < l.length
        · have hlt2' : (j : Int) < (l.length : Int) := by omega
          have hmeas : l.length - (j + 1) < l.length - j := by omega
          obtain ⟨lb, lo, rfl, hlb, hcell⟩ := HCL.out (by omega)
          have cL := ((hb0.out.trans (HBx.out.mono hb0.out.size)).cell (p := ⟨lb, lo + j, none⟩) hlb).trans (hcell j hlt2)
          have hbT : l.getD j 0 < T := HLT.out _ (by simp [List.getD, hlt2])
          have HMT := hid (map_take (f := image p) hlt2)
          clear hcell
          generalize l.getD j 0 = b at *
          have OX := HOr.out.save (X := fun _ => False) (Save.of_below HBx.out) id id
          obtain ⟨cI, hiT⟩ := HIM.out _ wr gN gI b hbT OX
          have hbT' : (b : Int) < ((2 ^ p.length : Nat) : Int) := by rw [HPM.out, HT.out]; omega
          obtain ⟨KT, HKT⟩ : ∃ K, Hid (2 ^ p.length = K) := ⟨2 ^ p.length, Eq.refl (2 ^ p.length)⟩
          rw [HKT.out] at hbT' q1
          have OD := hid (HOx.out.below ((Below.refl _ _).alloc (Nat.le_refl _) (.cells #[.int .i64 (image p b : Nat)] 3)))
          have hcN : (wr.alloc (.cells #[.int .i64 (image p b : Nat)] 3)).cell? ⟨wr.heap.size, 0, none⟩ = some (.int .i64 (image p b : Nat)) := (Boxed.new wr 3 _).cell
          have NX : Hid (∀ v' w', Own wO.heap.size w' v' ((l.take j).map (image p) ++ [image p b]) → (wr.alloc (.cells #[.int .i64 (image p b : Nat)] 3)).grownBy w' u10.ownBlock → Hid (Own wO.heap.size w' v' ((l.take (j + 1)).map (image p))) ∧ Hid (Below wO.heap.size wO w') ∧ Hid (wO.heap.size ≤ w'.heap.size)) := fun v' w' h1 h2 => by
            have hb9 := HOx.out.grown HBx.out hsx h2
            exact ⟨by show Own _ _ _ _; rw [HMT.out]; exact h1, hb9, hb9.size⟩
          obtain ⟨ua, uc, hu10⟩ := ownsRow_form' HOx.out
          subst hu10
          have hl9 : ((l.take j).map (image p)).length ≤ 256 := by rw [List.length_map, List.length_take]; omega
          clear OX HMT HCL t0 t1 HIM
          generalize image p b = ib at *
          generalize (l.take j).map (image p) = acc at *
          go_wp2_with (at_builtin; refine wpList_snoc rfl (.tmp 49) (.tmp 55) rfl rfl rfl OD.out hcN hl9 (by rw [World.size_alloc]; omega) ?_)
          intro v' w' h1 h2
          obtain ⟨R1, R2, R3⟩ := NX.out v' w' h1 h2
          clear h1 h2 NX OD hcN
          go_wp2_with fail
          go_roundw
          case rel => exact ⟨j + 1, hlt2, by go_num, R1, R2, R3⟩
          case measure => exact hmeas
        · obtain rfl : j = l.length := by omega
          have hlt2' : ¬ ((l.length : Nat) : Int) < ((l.length : Nat) : Int) := by omega
          rw [List.take_length] at HOx
          have SO := hid (Sort_own HOx.out (by rw [List.length_map]; omega))
          have HZ1 := hid ((HBx.out.block (w.heap.size + 1) (by omega)).trans Z1.out)
          clear HCL HIM q0 q1
          go_wp2_with fail
          refine SO.out.mono ?_
          rintro e w9 ⟨rfl, L, hperm, hsort, ho9, hbel, hgr⟩
          have hL := HSO.out L hperm hsort
          subst hL
          have hb9 := hbel wO HBx.out hsx
          have HBW := hb0.out.trans (hb9.mono hb0.out.size)
          have n9 := (hb9.block (w.heap.size + 1) (by omega)).trans Z1.out
          obtain ⟨t0', t1'⟩ := cells2 ((hb9.block w.heap.size (by omega)).trans Z0.out)
          obtain ⟨ra, rc, hr9⟩ := ownsRow_form' ho9
          subst hr9
          have HC9 := hid (set_two (x := .int .i64 m) (y := .slice ra (renL m p l).length rc) n9)
          have HD9 := hid (below_two (b := w.heap.size + 1) (x := .int .i64 m) (y := .slice ra (renL m p l).length rc) HBW (by omega))
          have HI9 := hid ((ho9.set2 (b := w.heap.size + 1) (x := .int .i64 m) (y := .slice ra (renL m p l).length rc) (by omega)).mono (by omega : w.heap.size ≤ wO.heap.size))
          obtain ⟨k0, k1, k2, k3⟩ := two_cells n9
          clear hbel hgr ho9 hb9 HBW n9 hperm hsort SO t0 t1 HOx
          go_wp2_with fail
          obtain ⟨j0, j1⟩ := HC9.out
          refine bodyPost_ret (v := .tuple #[.agg #[.int .i64 m, .slice ra (renL m p l).length rc], .int .i64 0]) ?_ rfl ⟨_, rfl, HI9.out, HD9.out⟩
          simp [results, Tryz.f11, go_sem, j0, j1]
end Go.Proofs.YthlmnhcnpffjdaaGreat
