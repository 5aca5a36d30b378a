/- rotakeep.FieldProducts. -/
import Derived.Test.YtpdfaenjmjphpaaFdYQ
import Derived.Test.YtpdfaenjmjphpaaOpnQ
import Derived.Deep.RegionHeld3
import Derived.Deep.CutRange
import Derived.Deep.RegionLaw
namespace Go.Proofs.Ytpdfaenjmjphpaa
open Go.RowKit

theorem lit_mat : MatOK 3 (1 : Nat) [[2]] := MatOK.iff.1 (by decide +kernel)
theorem lit_det : detL 3 1 [[2]] (2 ^ 1 - 1) = 2 := by decide +kernel
/-- Determinant, whatever the shape. -/
theorem Determinant_any (p : Int) (c : Nat) (v : Value) (R : List (List Int)) (w : World) (h : RowsI w v R) (hcp : ∀ a L c, v = .slice a L c → L ≤ c) (hm : MatOK p c R) :
    Calls Try.prog 5 #[.agg #[.int .i64 p, .int .i64 c, v]] w fun e w' => ∃ n q : Int, e = .returned (.tuple #[.int .i64 n, .int .i64 q]) ∧ ((R.length = c ∧ q = 0 ∧ n = detL p c R (2 ^ c - 1)) ∨ (R.length ≠ c ∧ q = 3)) ∧ Below w.heap.size w w' := by
  by_cases hl : R.length = c
  · exact (Determinant_ok p c v R w h hcp hm hl).mono fun e w' h9 => ⟨_, _, h9.1, .inl ⟨hl, rfl, rfl⟩, h9.2⟩
  · exact (Determinant_shape p c v R w h hm hl).mono fun e w' h9 => ⟨_, _, h9.1, .inr ⟨hl, rfl⟩, h9.2⟩
theorem TotC.save {W W' : World} {B z : Nat} {v : Value} {n k : Nat} {f : Nat → Nat → Int} (h : TotC W B v n k f) (hs : Save (fun j => j = z) W W') (hz : z < B) (hty : ∀ c, W.heap[z]? ≠ some (.cells c 3 (0, 0))) : TotC W' B v n k f := by
  obtain ⟨us, h1, ⟨h2, h3⟩, h4⟩ := h
  refine ⟨us, h1, ⟨h2, h3.imp_right ?_⟩, fun i hi => ?_⟩
  · rintro ⟨g, cap, cur, hv, hg, hheap, hr⟩
    exact ⟨g, cap, cur, hv, hg, (hs.block g (Array.getElem?_eq_some_iff.1 hheap).1 (by omega)).trans hheap, hr⟩
  · obtain ⟨b, cp, h5, h6⟩ := h4 i hi
    exact ⟨b, cp, h5, h6.same (hs.block b h6.tbl.size fun e => by
      obtain ⟨c, hc⟩ := h6.ty
      rw [e] at hc
      exact hty c hc) hs.size⟩
theorem TotC.rowsI {W : World} {B : Nat} {v : Value} {n k : Nat} {f : Nat → Nat → Int} (h : TotC W B v n k f) (hn8 : n ≤ 8) (hk : k ≤ 8) : RowsI W v (matL k n f) ∧ ∀ a L c, v = .slice a L c → L ≤ c := by
  obtain ⟨us, h1, h2, h3⟩ := h
  have h2' := h2
  constructor
  · rcases Go.Joins.ownsRow_forms h2 with ⟨rfl, h0⟩ | ⟨g, cap, rfl⟩
    · exact ⟨none, 0, by rw [matL_len, h0], by rw [matL_len]; omega, fun hh => by rw [matL_len] at hh; omega⟩
    · refine ⟨_, cap, by rw [matL_len], by rw [matL_len]; omega, fun _ => ⟨g, 0, rfl, (World.ownsRow.lt h2 g rfl).2, fun i hi => ?_⟩⟩
      rw [matL_len] at hi
      obtain ⟨b, cp, h5, h6⟩ := h3 i hi
      refine ⟨.slice (some ⟨b, 0, none⟩) n cp, ?_, ?_⟩
      · have := World.ownsRow.cellAt h2 i (by omega)
        rw [Nat.zero_add, this, h5]
      · rw [matL_row hi]
        exact h6.tbl.ints (by omega)
  · intro a L c e
    obtain ⟨g0, g1⟩ := h2'
    rcases g1 with ⟨rfl, g2⟩ | ⟨g, cp, cur, rfl, g3, g4, g5, g6⟩
    · cases e; exact Nat.le_refl _
    · cases e
      first | exact g5 | omega
theorem step_app_ownF {P : Program} {w : World} {ops : Array Oper} {o : Oper} {a : Act} {K : Act → World → Prop} {Q : Exit → Act → World → Prop} {E : Prop}
    (hg : o.guard = none) (s x : Operand) (t : TypeId) (hop : o.op = Op.call { callee := Callee.builtin Builtin.append, args := #[s, x], argTypes := #[t, t] })
    (base : Nat) (e : TypeId) (i : TypeInfo) (z : Value) (size bytes : Nat) (h1 : P.underlying t = some (.slice e)) (h2 : P.info? e = some i) (h3 : i.zero = some z) (h4 : i.size = size) (h5 : i.bytes = bytes) (h6 : z.cells.size = size) (h7 : 0 < size)
    (v : Value) (k : Nat) (xs : List Value) (hs : a.eval s = v) (hown : w.ownsRow base e size v k xs) (ad : Addr) (m c : Nat) (news : List Value) (hx : a.eval x = .slice (some ad) m c) (hn : news.length = m * size)
    (hc : ∀ j u, news[j]? = some u → w.cell? (ad.add j) = some u) (h1c : ∀ u ∈ news, u.oneCell' = true) (b1 : k + m ≤ maxLen) (b2 : (k + m) * bytes ≤ 140737488355328) (b3 : base ≤ w.heap.size)
    (hK : ∀ v' w', w'.ownsRow base e size v' (k + m) (xs ++ news) → w.grownBy w' v.ownBlock → K (a.put o.dst v') w') :
    if Region.wanted o (yielded ops a.tmps) = true then Oper.wp P o a w K Q else E := by
  have hw : Region.wanted o (yielded ops a.tmps) = true := by simp [Region.wanted, hg]
  rw [if_pos hw]
  obtain ⟨v', w', hrun, r1, r2, r3⟩ := run_append_own (P := P) w base t o.type e i z size bytes h1 h2 h3 h4 h5 h6 h7 v k xs hown ad m c news hn hc h1c b1 b2 b3
  unfold Oper.wp
  simp [execOp, hop, resolve, invoke, builtin, hs, hx, hrun, Result.andThen]
  exact hK v' w' r1 r2
theorem own_pos {W : World} {B k : Nat} {ty : TypeId} {v : Value} {xs : List Value} (h : W.ownsRow B ty 1 v (k + 1) xs) : ∃ g c, v = .slice (some ⟨g, 0, none⟩) (k + 1) c := by
  rcases Go.Joins.ownsRow_forms h with ⟨rfl, h0⟩ | ⟨g', cap', rfl⟩
  · omega
  · exact ⟨_, _, rfl⟩
/-- Two boxes, either one first. -/
structure TwoB (w W : World) (o : Obj) (ga gb : Nat) : Prop where
  a : W.heap[ga]? = some o
  b : W.heap[gb]? = some o
  ne : ga ≠ gb
  ga0 : w.heap.size ≤ ga
  gb0 : w.heap.size ≤ gb
  la : ga < W.heap.size
  lb : gb < W.heap.size
  bel : Below w.heap.size w W
theorem TwoB.one (w : World) (cs : Array Value) (t : TypeId) : TwoB w ((w.drew.alloc (.cells cs t)).alloc (.cells cs t)) (.cells cs t (0, 0)) w.heap.size (w.heap.size + 1) := by
  have h1 : (w.drew.alloc (.cells cs t)).heap[w.heap.size]? = some (.cells cs t (0, 0)) := World.alloc_heap_new w.drew (.cells cs t)
  refine ⟨?_, ?_, by omega, by omega, by omega, by simp <;> omega, by simp <;> omega, ((Below.refl _ _).drew.alloc (by simp) _).alloc (by simp <;> omega) _⟩
  · rw [Below.heap_alloc _ _ _ (by simp <;> omega)]; exact h1
  · have := World.alloc_heap_new (w.drew.alloc (.cells cs t)) (.cells cs t)
    rwa [show (w.drew.alloc (.cells cs t)).heap.size = w.heap.size + 1 by simp] at this
theorem TwoB.two {w W : World} {o : Obj} {ga gb : Nat} (h : TwoB w W o ga gb) : TwoB w W o gb ga := ⟨h.b, h.a, fun e => h.ne e.symm, h.gb0, h.ga0, h.lb, h.la, h.bel⟩
theorem two_pows : ∀ c : Nat, c ≤ 8 → wrap64 (2 ^ c) = ((2 ^ c : Nat) : Int) := fun c hc => (pow_wrap c hc).1
set_option maxRecDepth 20000 in
set_option maxHeartbeats 16000000 in
theorem fprod_law (p c : Int) (v : Value) (R : List (List Int)) (p2 c2 : Int) (v2 : Value) (R2 : List (List Int)) (w : World) (h : RowsI w v R) (h2 : RowsI w v2 R2) (hcp : ∀ a L c, v = .slice a L c → L ≤ c) :
    Calls Try.prog 4 #[.agg #[.int .i64 p, .int .i64 c, v], .agg #[.int .i64 p2, .int .i64 c2, v2]] w fun e w' => e = .returned (.bool true) ∧ Below w.heap.size w w' := by
  have b1 : Below w.heap.size w (w.alloc (.cells #[.int .i64 p, .int .i64 c, v] 24)) := (Below.refl _ _).alloc (Nat.le_refl _) _
  have b2 : Below w.heap.size w ((w.alloc (.cells #[.int .i64 p, .int .i64 c, v] 24)).alloc (.cells #[.int .i64 p2, .int .i64 c2, v2] 24)) := b1.alloc (by simp) _
  have S0 : ((w.alloc (.cells #[.int .i64 p, .int .i64 c, v] 24)).alloc (.cells #[.int .i64 p2, .int .i64 c2, v2] 24)).heap.size = w.heap.size + 2 := by simp
  have B : Hid (Below w.heap.size w ((w.alloc (.cells #[.int .i64 p, .int .i64 c, v] 24)).alloc (.cells #[.int .i64 p2, .int .i64 c2, v2] 24))) := b2
  have X : Hid (((w.alloc (.cells #[.int .i64 p, .int .i64 c, v] 24)).alloc (.cells #[.int .i64 p2, .int .i64 c2, v2] 24)).heap[w.heap.size]? = some (.cells #[.int .i64 p, .int .i64 c, v] 24 (0, 0))) := by
    show _ = _
    rw [Below.heap_alloc _ _ _ (by simp)]
    exact World.alloc_heap_new w _
  have Y : Hid (((w.alloc (.cells #[.int .i64 p, .int .i64 c, v] 24)).alloc (.cells #[.int .i64 p2, .int .i64 c2, v2] 24)).heap[w.heap.size + 1]? = some (.cells #[.int .i64 p2, .int .i64 c2, v2] 24 (0, 0))) := by
    have := World.alloc_heap_new (w.alloc (.cells #[.int .i64 p, .int .i64 c, v] 24)) (.cells #[.int .i64 p2, .int .i64 c2, v2] 24)
    rwa [World.size_alloc] at this
  have RX := hid (h.below b2)
  have RY := hid (h2.below b2)
  have hL := RowsI.lit1 ((w.alloc (.cells #[.int .i64 p, .int .i64 c, v] 24)).alloc (.cells #[.int .i64 p2, .int .i64 c2, v2] 24)) 2
  rw [S0] at hL
  have CL := hid (Determinant_ok 3 1 _ [[2]] ((((w.alloc (.cells #[.int .i64 p, .int .i64 c, v] 24)).alloc (.cells #[.int .i64 p2, .int .i64 c2, v2] 24)).alloc (.cells #[.int .i64 2] 3)).alloc (.cells #[.slice (some ⟨w.heap.size + 2, 0, none⟩) 1 1] 35)) hL (fun a L c e => by cases e; exact Nat.le_refl _) lit_mat rfl)
  rw [lit_det] at CL
  have BL : Below ((w.alloc (.cells #[.int .i64 p, .int .i64 c, v] 24)).alloc (.cells #[.int .i64 p2, .int .i64 c2, v2] 24)).heap.size ((w.alloc (.cells #[.int .i64 p, .int .i64 c, v] 24)).alloc (.cells #[.int .i64 p2, .int .i64 c2, v2] 24)) ((((w.alloc (.cells #[.int .i64 p, .int .i64 c, v] 24)).alloc (.cells #[.int .i64 p2, .int .i64 c2, v2] 24)).alloc (.cells #[.int .i64 2] 3)).alloc (.cells #[.slice (some ⟨w.heap.size + 2, 0, none⟩) 1 1] 35)) := ((Below.refl _ _).alloc (Nat.le_refl _) _).alloc (by simp) _
  clear b1 b2 hL
  have HBL := hid BL
  clear BL
  obtain ⟨a, cap, rfl⟩ := h.form
  obtain ⟨a2, cap2, rfl⟩ := h2.form
  have HCP := hid hcp
  clear h h2 hcp
  go_enter Try.func4, Try.ntmps4
  go_wp2_with fail
  refine CL.out.mono ?_
  rintro e w0 ⟨rfl, hb0⟩
  have hb := HBL.out.trans (hb0.mono HBL.out.size)
  replace B := hid (B.out.trans (hb.mono B.out.size))
  replace X := hid (box_keep X.out hb)
  replace Y := hid (box_keep Y.out hb)
  replace RX := hid (RX.out.below hb)
  replace RY := hid (RY.out.below hb)
  clear hb hb0 HBL CL S0
  rcases matR_01 p c R with hm | hm
  rotate_left
  · skip
    obtain ⟨Xc0, Xc1, Xc2⟩ := three_cells X.out
    obtain ⟨Yc0, Yc1, Yc2⟩ := three_cells Y.out
    have CC1 := hid (Times_bad1 p c p2 c2 _ _ R R2 _ RX.out RY.out hm)
    go_wp2_with fail
    refine CC1.out.mono ?_
    rintro e w2 ⟨rfl, hb⟩
    clear Xc0 Xc1 Xc2 Yc0 Yc1 Yc2
    have hk := (Below.refl _ w2).alloc (Nat.le_refl _) (.cells #[.int .i64 0, .int .i64 0, .slice none 0 0] 24)
    have hT := hb.trans (hk.mono hb.size)
    replace B := hid (B.out.trans (hT.mono B.out.size))
    replace X := hid (box_keep X.out hT)
    replace Y := hid (box_keep Y.out hT)
    replace RX := hid (RX.out.below hT)
    replace RY := hid (RY.out.below hT)
    have XP := hid (World.alloc_heap_new w2 (.cells #[.int .i64 0, .int .i64 0, .slice none 0 0] 24))
    clear hk hT hb CC1
    obtain ⟨XPc0, XPc1, XPc2⟩ := three_cells XP.out
    go_wp2_with fail
    go_ret
    exact ⟨rfl, B.out⟩
  have HM := hid (MatOK.of hm)
  obtain ⟨c, rfl⟩ : ∃ k : Nat, c = k := ⟨c.toNat, by have := HM.out.c0; omega⟩
  clear hm
  by_cases hn : matR p2 c2 R2 = 0 ∧ p = p2 ∧ c = R2.length
  rotate_left
  · skip
    obtain ⟨Xc0, Xc1, Xc2⟩ := three_cells X.out
    obtain ⟨Yc0, Yc1, Yc2⟩ := three_cells Y.out
    have CC3 := hid (Times_no p c p2 c2 _ _ R R2 _ RX.out RY.out HM.out hn)
    go_wp2_with fail
    refine CC3.out.mono ?_
    rintro e w4 ⟨q, hq, rfl, hb⟩
    clear Xc0 Xc1 Xc2 Yc0 Yc1 Yc2
    have hk := (Below.refl _ w4).alloc (Nat.le_refl _) (.cells #[.int .i64 0, .int .i64 0, .slice none 0 0] 24)
    have hT := hb.trans (hk.mono hb.size)
    replace B := hid (B.out.trans (hT.mono B.out.size))
    replace X := hid (box_keep X.out hT)
    replace Y := hid (box_keep Y.out hT)
    replace RX := hid (RX.out.below hT)
    replace RY := hid (RY.out.below hT)
    have XP := hid (World.alloc_heap_new w4 (.cells #[.int .i64 0, .int .i64 0, .slice none 0 0] 24))
    clear hk hT hb CC3
    obtain ⟨XPc0, XPc1, XPc2⟩ := three_cells XP.out
    have hq' : (q != 0) = true := by rw [bne_iff_ne]; exact hq
    clear hq
    go_wp2_with fail
    go_ret
    exact ⟨rfl, B.out⟩
  obtain ⟨hm2, rfl, he2⟩ := hn
  have HM2 := hid (MatOK.of hm2)
  obtain ⟨c2, rfl⟩ : ∃ k : Nat, c2 = k := ⟨c2.toNat, by have := HM2.out.c0; omega⟩
  have HE2 := hid he2
  clear hm2 he2
  have c6 : c ≤ 6 := by have := HM2.out.rl; have := HE2.out; omega
  obtain ⟨Xc0, Xc1, Xc2⟩ := three_cells X.out
  obtain ⟨Yc0, Yc1, Yc2⟩ := three_cells Y.out
  have CC5 := hid (Times_ok p c p c2 _ _ R R2 _ RX.out RY.out HM.out HM2.out rfl HE2.out)
  go_wp2_with fail
  refine CC5.out.mono ?_
  rintro e w6 ⟨u, rfl, hr, hb⟩
  obtain ⟨upa, upc, rfl⟩ := hr.form
  have HCPP := hid hr.cap
  clear Xc0 Xc1 Xc2 Yc0 Yc1 Yc2
  have hk := (Below.refl _ w6).alloc (Nat.le_refl _) (.cells #[.int .i64 p, .int .i64 c2, .slice upa (timL p c c2 R R2).length upc] 24)
  have hT := hb.trans (hk.mono hb.size)
  replace B := hid (B.out.trans (hT.mono B.out.size))
  replace X := hid (box_keep X.out hT)
  replace Y := hid (box_keep Y.out hT)
  replace RX := hid (RX.out.below hT)
  replace RY := hid (RY.out.below hT)
  have XP := hid (World.alloc_heap_new w6 (.cells #[.int .i64 p, .int .i64 c2, .slice upa (timL p c c2 R R2).length upc] 24))
  have RP := hid ((hr.rows).below hk)
  clear hk hT hb CC5 hr
  have HMP := hid (timL_ok HM.out HM2.out)
  obtain ⟨Xc0, Xc1, Xc2⟩ := three_cells X.out
  have CC7 := hid (Determinant_any p c _ R _ RX.out HCP.out HM.out)
  go_wp2_with fail
  refine CC7.out.mono ?_
  rintro e w8 ⟨n0, q0, rfl, hcs, hb⟩
  clear Xc0 Xc1 Xc2
  replace B := hid (B.out.trans (hb.mono B.out.size))
  replace X := hid (box_keep X.out hb)
  replace Y := hid (box_keep Y.out hb)
  replace RX := hid (RX.out.below hb)
  replace RY := hid (RY.out.below hb)
  replace XP := hid (box_keep XP.out hb)
  replace RP := hid (RP.out.below hb)
  clear hb CC7
  have HCS := hid hcs
  clear hcs
  go_upto_if 62 with fail
  go_cut [9, 10, 11, 12, 13, 14] from 56 to 83 (fun _ _ _ _ _ _ W => Hid (Below w8.heap.size w8 W))
  case first =>
    rcases HCS.out with ⟨hl, rfl, rfl⟩ | ⟨hl, rfl⟩
    · skip
      have HL := hid hl
      clear hl
      have BD : Hid (Below w8.heap.size w8 w8) := Below.refl _ _
      obtain ⟨Xc0, Xc1, Xc2⟩ := three_cells X.out
      have CC9 := hid (Turned_ok p c _ R _ RX.out HM.out c6)
      go_wp2_with fail
      refine CC9.out.mono ?_
      rintro e w10 ⟨u, rfl, hr, hb⟩
      obtain ⟨uta, utc, rfl⟩ := hr.form
      have HCPT := hid hr.cap
      clear Xc0 Xc1 Xc2
      have hk := (Below.refl _ w10).alloc (Nat.le_refl _) (.cells #[.int .i64 p, .int .i64 (R.length : Nat), .slice uta (turL c R).length utc] 24)
      have hT := hb.trans (hk.mono hb.size)
      replace B := hid (B.out.trans (hT.mono B.out.size))
      replace X := hid (box_keep X.out hT)
      replace Y := hid (box_keep Y.out hT)
      replace RX := hid (RX.out.below hT)
      replace RY := hid (RY.out.below hT)
      replace XP := hid (box_keep XP.out hT)
      replace RP := hid (RP.out.below hT)
      replace BD := hid (BD.out.trans (hT.mono BD.out.size))
      have XT := hid (World.alloc_heap_new w10 (.cells #[.int .i64 p, .int .i64 (R.length : Nat), .slice uta (turL c R).length utc] 24))
      have RT := hid ((hr.rows).below hk)
      clear hk hT hb CC9 hr
      obtain ⟨XTc0, XTc1, XTc2⟩ := three_cells XT.out
      have CC11 := hid (Determinant_ok p R.length _ (turL c R) _ RT.out HCPT.out (turL_ok HM.out c6) ((turL_len c R).trans HL.out.symm))
      rw [det_tur HM.out HL.out] at CC11
      go_wp2_with fail
      refine CC11.out.mono ?_
      rintro e w12 ⟨rfl, hb⟩
      clear XTc0 XTc1 XTc2
      replace B := hid (B.out.trans (hb.mono B.out.size))
      replace X := hid (box_keep X.out hb)
      replace Y := hid (box_keep Y.out hb)
      replace RX := hid (RX.out.below hb)
      replace RY := hid (RY.out.below hb)
      replace XP := hid (box_keep XP.out hb)
      replace RP := hid (RP.out.below hb)
      replace BD := hid (BD.out.trans (hb.mono BD.out.size))
      replace XT := hid (box_keep XT.out hb)
      replace RT := hid (RT.out.below hb)
      clear hb CC11
      go_wp2_with fail
      go_meet
      exact BD.out
    · skip
      go_wp2_with fail
      go_meet
      exact Below.refl _ _
  case rest =>
    have hb := hcut.out
    replace B := hid (B.out.trans (hb.mono B.out.size))
    replace X := hid (box_keep X.out hb)
    replace Y := hid (box_keep Y.out hb)
    replace RX := hid (RX.out.below hb)
    replace RY := hid (RY.out.below hb)
    replace XP := hid (box_keep XP.out hb)
    replace RP := hid (RP.out.below hb)
    clear hb hcut HCS
    by_cases hsq : R.length = c2
    rotate_left
    · skip
      obtain ⟨XPc0, XPc1, XPc2⟩ := three_cells XP.out
      have CC13 := hid (Determinant_shape p c2 _ (timL p c c2 R R2) _ RP.out HMP.out (by rw [timL_len]; exact hsq))
      go_wp2_with fail
      refine CC13.out.mono ?_
      rintro e w14 ⟨rfl, hb⟩
      clear XPc0 XPc1 XPc2
      replace B := hid (B.out.trans (hb.mono B.out.size))
      replace X := hid (box_keep X.out hb)
      replace Y := hid (box_keep Y.out hb)
      replace RX := hid (RX.out.below hb)
      replace RY := hid (RY.out.below hb)
      replace XP := hid (box_keep XP.out hb)
      replace RP := hid (RP.out.below hb)
      clear hb CC13
      go_wp2_with fail
      go_ret
      exact ⟨rfl, B.out⟩
    have HSQ := hid hsq
    clear hsq
    obtain ⟨XPc0, XPc1, XPc2⟩ := three_cells XP.out
    have CC15 := hid (Determinant_ok p c2 _ (timL p c c2 R R2) _ RP.out HCPP.out HMP.out (by rw [timL_len]; exact HSQ.out))
    rw [cb_list HM.out HSQ.out] at CC15
    go_wp2_with fail
    refine CC15.out.mono ?_
    rintro e w16 ⟨rfl, hb⟩
    clear XPc0 XPc1 XPc2
    replace B := hid (B.out.trans (hb.mono B.out.size))
    replace X := hid (box_keep X.out hb)
    replace Y := hid (box_keep Y.out hb)
    replace RX := hid (RX.out.below hb)
    replace RY := hid (RY.out.below hb)
    clear XP
    clear RP
    clear hb CC15
    obtain ⟨Xc0, Xc1, Xc2⟩ := three_cells X.out
    have hT := two_pows c HM.out.c8'
    obtain ⟨T, HT⟩ : ∃ T : Nat, Hid (2 ^ c = T) := ⟨_, rfl⟩
    rw [HT.out] at hT
    have hp2 := isP_pos HM.out.pr
    have hN6 := HM.out.rl
    have hc8 := HM.out.c8'
    have hT256 : T ≤ 256 := by rw [← HT.out]; exact (pow_wrap c hc8).2
    rw [HT.out]
    go_wp2_with fail
    try rw [hT]
    clear hT Xc0 Xc1 Xc2
    go_loopw [16, 17, 18, 19, 27, 28, 29, 30, 96] (fun su _ _ _ _ _ _ _ i wr => ∃ s : Nat, s ≤ T ∧ i = .int .i64 s ∧ su = .int .i64 (sm s (cbT p c c2 R R2)) ∧ Hid (Below w16.heap.size w16 wr)) (fun _ _ _ _ _ _ _ _ i _ => T - (intOf i).toNat)
    case atStart => exact ⟨0, Nat.zero_le _, rfl, rfl, Below.refl _ _⟩
    case round =>
      obtain ⟨s, hs, rfl, rfl, HB⟩ := hrel
      have hsm := sm_le (n := T) (f := cbT p c c2 R R2) (m := 49) (fun i _ => cbT_le HM.out.pr i) s hs
      by_cases hlt : s < T
      · have hsi : (s : Int) < (T : Int) := by omega
        have hS : s < 2 ^ c := by rw [HT.out]; exact hlt
        have HSS := hid hS
        clear hS
        have XW := hid (box_keep X.out HB.out)
        obtain ⟨x0, x1, x2⟩ := three_cells XW.out
        have SZ : Hid (∀ wx, Below wr.heap.size wr wx → Calls Try.prog 15 #[.int .i64 s] wx fun e w' => e = .returned (.int .i64 (pop s)) ∧ Below wr.heap.size wr w') := fun wx hb => (Size_any s wx (by omega)).mono fun e w' h9 => ⟨h9.1, hb.trans (h9.2.mono hb.size)⟩
        obtain ⟨S0, hS0⟩ : ∃ S0, sm s (cbT p c c2 R R2) = S0 := ⟨_, rfl⟩
        have E1 : Hid (sm (s + 1) (cbT p c c2 R R2) = S0 + cbT p c c2 R R2 s) := by show _ = _; rw [← hS0]; rfl
        rw [hS0] at hsm ⊢
        clear hS0
        by_cases hps : pop s = c2
        rotate_left
        · have hpp : (((pop s : Nat) : Int) != (R.length : Int)) = true := by have := HSQ.out; rw [bne_iff_ne]; omega
          rw [cbT_miss hps, Int.add_zero] at E1
          clear hps
          generalize pop s = ps at *
          go_wp2_with fail
          go_region_held3 (fun w' => w'.cell? ⟨w.heap.size, 2, none⟩ = some (.slice a R.length cap)) (go_keep) (first | (go_at_call 15; (refine (SZ.out _ (by first | exact (Below.refl _ _).drew | exact Below.refl _ _)).mono ?_); rintro e w3 ⟨rfl, hb3⟩; have K3 := hid hb3; obtain ⟨k0, k1, k2⟩ := three_cells (box_keep XW.out hb3); clear hb3))
          have HB3 := hid (HB.out.trans (K3.out.mono HB.out.size))
          go_wp2_with fail
          go_roundw
          case rel => exact ⟨s + 1, by omega, by go_num, by rw [E1.out], HB3.out⟩
          case measure => simp [intOf]; omega
        · have hpp : (((pop s : Nat) : Int) != (R.length : Int)) = false := by have := HSQ.out; rw [hps, ← this]; simp
          rw [cbT_hit hps] at E1
          have HPS := hid hps
          clear hps
          obtain ⟨ps, HPN⟩ : ∃ ps, Hid (pop s = ps) := ⟨_, rfl⟩
          rw [HPN.out] at SZ hpp
          go_wp2_with fail
          go_region_held3 (fun w' => w'.cell? ⟨w.heap.size, 2, none⟩ = some (.slice a R.length cap)) (go_keep) (first | (go_at_call 15; (refine (SZ.out _ (by first | exact (Below.refl _ _).drew | exact Below.refl _ _)).mono ?_); rintro e w3 ⟨rfl, hb3⟩; have K3 := hid hb3; obtain ⟨k0, k1, k2⟩ := three_cells (box_keep XW.out hb3); clear hb3))
          have HB3 := hid (HB.out.trans (K3.out.mono HB.out.size))
          have X3 := hid (box_keep XW.out K3.out)
          clear SZ XW x0 x1 x2 K3 HB hpp k0 k1 k2
          obtain ⟨x0, x1, x2⟩ := three_cells X3.out
          have ne1 : ¬ w3.heap.size = w.heap.size := by have := (Array.getElem?_eq_some_iff.1 X3.out).1; omega
          have ne2 : ¬ w.heap.size = w3.heap.size := fun e => ne1 e.symm
          have ne3 : ¬ w3.heap.size + 1 = w.heap.size := by have := (Array.getElem?_eq_some_iff.1 X3.out).1; omega
          have ne4 : ¬ w.heap.size = w3.heap.size + 1 := fun e => ne3 e.symm
          have TW := hid (TwoB.one w3 #[.int .i64 p, .int .i64 (R.length : Nat), .slice none 0 0] 24)
          go_wp2_with fail
          go_cut [18, 19] from 105 to 116 (fun x y W => ∃ ga gb : Nat, x = .pointer (some ⟨ga, 0, none⟩) ∧ y = .pointer (some ⟨gb, 0, none⟩) ∧ Hid (TwoB w3 W (.cells #[.int .i64 p, .int .i64 (R.length : Nat), .slice none 0 0] 24 (0, 0)) ga gb))
          case first =>
            go_region_held3 (fun w' => w'.cell? ⟨w.heap.size, 0, none⟩ = some (.int .i64 p) ∧ w'.cell? ⟨w.heap.size, 2, none⟩ = some (.slice a R.length cap)) (go_keep) (fail)
            all_goals go_wp2_with fail
            all_goals go_meet
            all_goals first | exact ⟨_, _, rfl, rfl, TW.out⟩ | exact ⟨_, _, rfl, rfl, TW.out.two⟩
          case rest =>
            obtain ⟨ga, gb, rfl, rfl, H2⟩ := hcut
            clear TW ne1 ne2 ne3 ne4 x0 x1 x2
            have hga := H2.out.ga0
            have hgb := H2.out.gb0
            have hla := H2.out.la
            have hlb := H2.out.lb
            have hgn := H2.out.ne
            obtain ⟨V, hV⟩ : ∃ V, V = wc := ⟨_, rfl⟩
            subst hV
            have hXl : w.heap.size < w3.heap.size := (Array.getElem?_eq_some_iff.1 X3.out).1
            have XV := hid (box_keep X3.out H2.out.bel)
            obtain ⟨x0, x1, x2⟩ := three_cells XV.out
            have HNE : Hid ((elT s c 0).length = R.length) := by show _ = _; rw [el_len HM.out.c8' HSS.out, HPS.out, HSQ.out]
            have HEL : Hid (els s = elT s c 0) := els_elT HM.out.c8' HSS.out
            obtain ⟨a', cap', ea, hc⟩ := RX.out.reads HM.out.lens
            cases ea
            have HC := hid hc
            obtain ⟨a2', cap2', ea2, hc2⟩ := RY.out.reads HM2.out.lens
            cases ea2
            have HC2 := hid hc2
            clear hc hc2
            have Bw16 : Hid (∀ wx, Below w3.heap.size w3 wx → Below w16.heap.size w16 wx) := fun wx hx => HB3.out.trans (hx.mono HB3.out.size)
            have HEC : Hid (∀ (wx wE : World) (r : Value), Own wx.heap.size wE r (els s) → ∃ ea ec, r = .slice ea R.length ec ∧ ∀ u, u < R.length → ∃ eg eo, ea = some ⟨eg, eo, none⟩ ∧ (wx.heap.size ≤ eg ∧ eg < wE.heap.size) ∧ wE.cell? ⟨eg, eo + u, none⟩ = some (.int .i64 ((elT s c 0).getD u 0 : Nat))) := fun wx wE r ho => by
              have hl : (els s).length = R.length := by rw [HEL.out]; exact HNE.out
              rcases Go.Joins.ownsRow_forms ho with ⟨rfl, h0⟩ | ⟨g, cap', rfl⟩
              · exact ⟨none, 0, by rw [← hl, h0], fun u hu => by omega⟩
              · refine ⟨some ⟨g, 0, none⟩, cap', by rw [hl], fun u hu => ⟨g, 0, rfl, World.ownsRow.lt ho g rfl, ?_⟩⟩
                have h5 := World.ownsRow.cellAt ho u (by omega)
                rw [Nat.zero_add, h5, ← HEL.out]
                have : u < (els s).length := by omega
                simp [Go.Proofs.Ytpdfaenjmjphpaa.V, List.getD, this]
            have HJ : Hid (∀ u, u < R.length → (elT s c 0).getD u 0 < c) := fun u hu => by
              have hu2 : u < (elT s c 0).length := by rw [HNE.out]; exact hu
              have : (elT s c 0).getD u 0 = (elT s c 0)[u] := by simp [List.getD, hu2]
              rw [this]
              exact el_lt' _ (List.getElem_mem hu2)
            obtain ⟨i0, hi0, hz0, hz1, hz2⟩ := info_parts Try.infoRowI
            obtain ⟨j0, hj0, hy0, hy1, hy2⟩ := info_parts Try.infoInt
            go_wp2_with fail
            clear x0 x1 x2
            obtain ⟨D, HD⟩ : ∃ D, Hid (V.heap.size = D) := ⟨_, rfl⟩
            rw [HD.out] at hla hlb
            go_loopw [21, 22, 120] (fun _ _ i wr => ∃ (t : Nat) (va : Value), t ≤ R.length ∧ i = .int .i64 t ∧ Hid (wr.heap[ga]? = some (.cells #[.int .i64 p, .int .i64 (R.length : Nat), va] 24 (0, 0))) ∧ Hid (TotC wr D va R.length t (colF c R s)) ∧ Hid (Save (fun z => z = ga) V wr)) (fun _ _ i _ => R.length - (intOf i).toNat)
            case atStart => exact ⟨0, _, Nat.zero_le _, rfl, H2.out.a, TotC.nil _ _ _ _, Save.refl _ _⟩
            case round =>
              obtain ⟨t, va, ht, rfl, HXA, HTC, HSV⟩ := hrel
              have BW3 : Hid (Below w3.heap.size w3 wr) := HSV.out.below H2.out.bel H2.out.bel.size (fun z e => by omega)
              have hDw : D ≤ wr.heap.size := by rw [← HD.out]; exact HSV.out.size
              by_cases hlt2 : t < R.length
              · have hti : (t : Int) < (R.length : Int) := by omega
                obtain ⟨lb, lo, rfl, ra, rc, hu⟩ := HC.out t hlt2
                have HU := hid hu
                have c0 := (hu wr (Bw16.out wr BW3.out)).1
                have EL := hid (Elements_any s wr (by omega))
                clear hu
                go_wp2_with fail
                refine EL.out.mono ?_
                rintro e wE ⟨r, rfl, ho, hbE⟩
                obtain ⟨ea, ec, rfl, hec⟩ := HEC.out _ _ _ ho
                have EC := hid hec
                have BE3 := hid (BW3.out.trans (hbE.mono BW3.out.size))
                have HBE0 := hid hbE
                clear EL ho hec hbE c0
                obtain ⟨Wt, hWt⟩ : ∃ Wt, Wt = wr := ⟨_, rfl⟩
                subst hWt
                go_wp2_with fail
                obtain ⟨D2, HD2⟩ : ∃ D2, Hid (wE.heap.size = D2) := ⟨_, rfl⟩
                have hDD : D ≤ D2 := by rw [← HD2.out]; exact Nat.le_trans hDw HBE0.out.size
                go_loopw [22, 24, 127] (fun vl _ i wr => ∃ (u : Nat) (la : Option Addr) (lc : Nat), u ≤ R.length ∧ i = .int .i64 u ∧ vl = .slice la u lc ∧ Hid (wr.ownsRow D2 3 1 (.slice la u lc) u (VZ ((List.range u).map (colF c R s t)))) ∧ Hid (Below D2 wE wr)) (fun _ _ i _ => R.length - (intOf i).toNat)
                case atStart => exact ⟨0, none, 0, Nat.zero_le _, rfl, rfl, World.ownsRow_nil _ _ _ _, by rw [← HD2.out]; exact Below.refl _ _⟩
                case round =>
                  obtain ⟨u, la, lc, hu0, rfl, rfl, HO, HBE⟩ := hrel
                  have hD2w : D2 ≤ wr.heap.size := by rw [← HD2.out]; exact (show wE.heap.size ≤ wr.heap.size from HBE.out.size)
                  have BE4 : Hid (Below wE.heap.size wE wr) := by rw [HD2.out]; exact HBE.out
                  by_cases hun : u < R.length
                  · have hui : (u : Int) < (R.length : Int) := by omega
                    obtain ⟨eg, eo, rfl, ⟨-, heg⟩, hecell⟩ := EC.out u hun
                    have d0 := (BE4.out.cell (p := ⟨eg, eo + u, none⟩) heg).trans hecell
                    have hj := HJ.out u hun
                    obtain ⟨rb2, ro2, rfl, c1⟩ := (HU.out wr (Bw16.out wr (BE3.out.trans (BE4.out.mono BE3.out.size)))).2.2 _ hj
                    have XE : Hid (rowF R t ((elT s c 0).getD u 0) = colF c R s t u) := rfl
                    obtain ⟨x, hx⟩ : ∃ x, rowF R t ((elT s c 0).getD u 0) = x := ⟨_, rfl⟩
                    rw [hx] at c1 XE
                    obtain ⟨j, hjE⟩ : ∃ j, (elT s c 0).getD u 0 = j := ⟨_, rfl⟩
                    rw [hjE] at d0 c1 hj
                    have hji : (j : Int) < (c : Int) := by omega
                    clear hecell hx hjE
                    go_wp2_with (at_builtin; refine wpList_append_own _ rfl _ _ 35 rfl D2 3 j0 (.int .i64 0) 1 8 Try.underlying35 hj0 hy0 hy1 hy2 rfl (by decide) _ _ _ rfl (HO.out.alloc _) ⟨wr.heap.size, 0, none⟩ 1 1 [.int .i64 x] rfl rfl ?d1 ?d2 ?d3 ?d4 ?d5 ?_)
                    all_goals first | exact cell_one_new _ _ _ | rfl | (intro u hu; simp at hu; subst hu; rfl) | (unfold maxLen; omega) | omega | (simp; omega) | skip
                    intro v' w7 hown' hgrow _
                    obtain ⟨gv, cv', rfl⟩ : ∃ gv cv, v' = .slice (some ⟨gv, 0, none⟩) (u + 1) cv := by
                      rcases Go.Joins.ownsRow_forms hown' with ⟨rfl, h0⟩ | ⟨g', cap', rfl⟩
                      · omega
                      · exact ⟨_, _, rfl⟩
                    have HO7 : Hid (w7.ownsRow D2 3 1 (.slice (some ⟨gv, 0, none⟩) (u + 1) cv') (u + 1) (VZ ((List.range (u + 1)).map (colF c R s t)))) := by
                      show World.ownsRow _ _ _ _ _ _ _
                      rw [List.range_succ, List.map_append, List.map_singleton, ← XE.out, VZ_snoc]
                      exact hown'
                    have HB7 : Hid (Below D2 wE w7) := (HBE.out.alloc hD2w _).grown hgrow (by simp; omega) (fun j hj => (World.ownsRow.lt HO.out j hj).1)
                    clear hown' hgrow
                    go_wp2_with fail
                    exact ⟨⟨u + 1, _, _, by omega, by go_num, rfl, HO7.out, HB7.out⟩, by simp [intOf]; omega⟩
                  · obtain rfl : u = R.length := by omega
                    have hnu : ¬ (R.length : Int) < (R.length : Int) := by omega
                    have OZ : OwnZ 3 D2 wr (.slice la R.length lc) ((List.range R.length).map (colF c R s t)) := by
                      unfold OwnZ
                      rw [List.length_map, List.length_range]
                      exact HO.out
                    obtain ⟨g, cv, eq1, hgD, hrow⟩ := OZ.rowB (by simp; omega)
                    rw [List.length_map, List.length_range] at eq1 hrow
                    cases eq1
                    have RG := hid (hrow.congr (f' := colF c R s t) fun i hi => by simp [List.getD, hi])
                    have BT : Hid (Below Wt.heap.size Wt wr) := HBE0.out.trans (BE4.out.mono HBE0.out.size)
                    obtain ⟨us, u1, u2, u3⟩ := HTC.out.below BT.out
                    have U1 := hid u1
                    have U2 := hid u2
                    have U3 := hid u3
                    have KX2 := hid (box_keep HXA.out BT.out)
                    obtain ⟨z0, z1, z2⟩ := three_cells KX2.out
                    have hus : us.length ≤ 8 := by omega
                    clear u1 u2 u3 OZ hrow HO
                    go_wp2_with (at_builtin; refine wpList_append_own _ rfl _ _ 22 rfl D 35 i0 (.slice none 0 0) 1 24 Try.undRowsI hi0 hz0 hz1 hz2 rfl (by decide) _ _ _ rfl (U2.out.alloc _) ⟨wr.heap.size, 0, none⟩ 1 1 [.slice (some ⟨g, 0, none⟩) R.length lc] rfl rfl ?e1 ?e2 ?e3 ?e4 ?e5 ?_)
                    all_goals first | exact cell_one_new _ _ _ | rfl | (intro u hu; simp at hu; subst hu; rfl) | (unfold maxLen; omega) | omega | (simp; omega) | skip
                    intro v' w7 hown' hgrow _
                    obtain ⟨gv, cv', rfl⟩ : ∃ gv cv, v' = .slice (some ⟨gv, 0, none⟩) (t + 1) cv := by
                      rcases Go.Joins.ownsRow_forms hown' with ⟨rfl, h0⟩ | ⟨g', cap', rfl⟩
                      · omega
                      · exact ⟨_, _, rfl⟩
                    have TS := TotC.snoc (g := g) (cg := lc) U1.out U2.out U3.out RG.out hown' hgrow
                    have hbG : Below D wr w7 := ((Below.refl _ wr).alloc (by omega) _).grown hgrow (by simp; omega) (fun j hj => (World.ownsRow.lt U2.out j hj).1)
                    have hX7 := (hbG.block ga (by omega)).trans KX2.out
                    have hX8 : (w7.setCell ⟨ga, 2, none⟩ (.slice (some ⟨gv, 0, none⟩) (t + 1) cv')).heap[ga]? = some (.cells #[.int .i64 p, .int .i64 (R.length : Nat), (.slice (some ⟨gv, 0, none⟩) (t + 1) cv')] 24 (0, 0)) := by
                      unfold World.setCell
                      dsimp only
                      rw [Array.getElem?_modify, hX7]
                      simp
                    have TS8 := hid (TS.save (save_cell w7 ga 2 (.slice (some ⟨gv, 0, none⟩) (t + 1) cv')) (by omega) (fun cs e => by rw [hX7] at e; simp at e))
                    have SG : Save (fun z => D ≤ z) wr w7 := ⟨hbG.os, hbG.tape, hbG.output, hbG.size, fun k hk hx => hbG.block k (by omega)⟩
                    have SV8 := hid ((((HSV.out.trans (Save.of_below BT.out)).andThen SG (fun i hi hDi => by rw [HD.out] at hi; omega)).setCell (p := ⟨ga, 2, none⟩) (.inl rfl) (.slice (some ⟨gv, 0, none⟩) (t + 1) cv')))
                    have KX8 := hid hX8
                    have c0 : w7.cell? ⟨ga, 2, none⟩ = some va := by simp [World.cell?, hX7]
                    have f0 : w7.frozen? ⟨ga, 2, none⟩ = false := by simp [World.frozen?, hX7]
                    clear hown' hgrow TS hbG hX7 hX8 SG z0 z1 z2
                    go_wp2_with fail
                    exact ⟨⟨t + 1, _, by omega, by go_num, KX8.out, TS8.out, SV8.out⟩, by simp [intOf]; omega⟩
              · obtain rfl : t = R.length := by omega
                have hnt : ¬ (R.length : Int) < (R.length : Int) := by omega
                have EL := hid (Elements_any s wr (by omega))
                go_wp2_with fail
                refine EL.out.mono ?_
                rintro e wE ⟨r, rfl, ho, hbE⟩
                obtain ⟨ea, ec, rfl, hec⟩ := HEC.out _ _ _ ho
                have EC := hid hec
                have BE3 := hid (BW3.out.trans (hbE.mono BW3.out.size))
                have XA2 := hid (box_keep HXA.out hbE)
                have TA2 := hid (HTC.out.below hbE)
                have XB2 := hid (box_keep ((HSV.out.block gb (by rw [HD.out]; exact hlb) (by omega)).trans H2.out.b) hbE)
                have YE := hid (box_keep Y.out (Bw16.out wE BE3.out))
                have hDE : D ≤ wE.heap.size := Nat.le_trans hDw hbE.size
                have hYl : w.heap.size + 1 < w3.heap.size := Nat.lt_of_lt_of_le (Array.getElem?_eq_some_iff.1 Y.out).1 HB3.out.size
                clear EL ho hec hbE HXA HTC HSV BW3 HC
                go_wp2_with fail
                obtain ⟨DE, HDE⟩ : ∃ DE, Hid (wE.heap.size = DE) := ⟨_, rfl⟩
                rw [HDE.out] at hDE
                go_loopw [26, 149] (fun _ i wr => ∃ (t : Nat) (vb : Value), t ≤ R.length ∧ i = .int .i64 t ∧ Hid (wr.heap[gb]? = some (.cells #[.int .i64 p, .int .i64 (R.length : Nat), vb] 24 (0, 0))) ∧ Hid (TotC wr DE vb c2 t (fun i r => rowF R2 ((elT s c 0).getD i 0) r)) ∧ Hid (Save (fun z => z = gb) wE wr)) (fun _ i _ => R.length - (intOf i).toNat)
                case atStart => exact ⟨0, _, Nat.zero_le _, rfl, XB2.out, TotC.nil _ _ _ _, Save.refl _ _⟩
                case round =>
                  obtain ⟨t, vb, ht2, rfl, HXB, HTB, HSB⟩ := hrel
                  have BW3 : Hid (Below w3.heap.size w3 wr) := HSB.out.below BE3.out BE3.out.size (fun z e => by omega)
                  have hDw2 : DE ≤ wr.heap.size := by rw [← HDE.out]; exact HSB.out.size
                  by_cases hlt2 : t < R.length
                  · have hti : (t : Int) < (R.length : Int) := by omega
                    obtain ⟨eg, eo, rfl, ⟨heg0, heg⟩, hecell⟩ := EC.out t hlt2
                    have d0 := (World.cell?_of_block (HSB.out.block eg heg (by omega))).trans hecell
                    have hj := HJ.out t hlt2
                    have XE : Hid (∀ r, rowF R2 ((elT s c 0).getD t 0) r = (fun i r => rowF R2 ((elT s c 0).getD i 0) r) t r) := fun _ => rfl
                    obtain ⟨j, hjE⟩ : ∃ j, (elT s c 0).getD t 0 = j := ⟨_, rfl⟩
                    have HJE := hid hjE
                    rw [hjE] at d0 hj
                    clear hecell hjE
                    have hj2 : j < R2.length := by rw [← HE2.out]; exact hj
                    have hji : (j : Int) < (R2.length : Int) := by omega
                    obtain ⟨lb2, lo2, rfl, ra2, rc2, hu⟩ := HC2.out j hj2
                    obtain ⟨c0, hI, -⟩ := hu wr (Bw16.out wr BW3.out)
                    have hlb2 : Hid (∀ wx, Below wr.heap.size wr wx → wx.cell? ⟨lb2, lo2 + j, none⟩ = some (.slice ra2 c2 rc2)) := fun wx hx => (hu wx (Bw16.out wx (BW3.out.trans (hx.mono BW3.out.size)))).1
                    have CK : Hid (∀ wx, Below wr.heap.size wr wx → Calls Try.prog 17 #[.slice ra2 c2 rc2] wx fun e w' => ∃ a cap g, e = .returned (.slice a c2 cap) ∧ a = some ⟨g, 0, none⟩ ∧ wr.heap.size ≤ g ∧ RowB w' g c2 (rowF R2 j) ∧ Below wr.heap.size wr w') := fun wx hx => (CloneR_ok c2 (rowF R2 j) (.slice ra2 c2 rc2) wx (by
                        obtain ⟨a5, c5, e5, -, h5⟩ := hI.below hx
                        refine ⟨ra2, rc2, rfl, fun h0 => ?_⟩
                        rw [List.length_map, List.length_range] at e5 h5
                        cases e5
                        obtain ⟨b6, o6, e6, g6, k6⟩ := h5 h0
                        exact ⟨b6, o6, e6, trivial, g6, fun i hi => by rw [k6 i hi]; simp [List.getD, hi]⟩) (by have := HSQ.out; omega)).mono fun e w' h9 => by
                      obtain ⟨a9, cap9, e9, h9, hb9⟩ := h9
                      obtain ⟨g9, e10, hg9, hr9⟩ := h9 (by have := HSQ.out; omega)
                      exact ⟨a9, cap9, g9, e9, e10, Nat.le_trans hx.size hg9, hr9, hx.trans (hb9.mono hx.size)⟩
                    have YW := hid ((HSB.out.block (w.heap.size + 1) (by have := BE3.out.size; omega) (by omega)).trans YE.out)
                    obtain ⟨y0, y1, y2⟩ := three_cells YW.out
                    obtain ⟨z0, z1, z2⟩ := three_cells HXB.out
                    obtain ⟨f0, f1, f2⟩ := three_frozen HXB.out
                    have hgw : gb < wr.heap.size := (Array.getElem?_eq_some_iff.1 HXB.out).1
                    have hc2i : c2 ≤ 6 := by have := HSQ.out; omega
                    clear hu hI
                    go_wp2_with fail
                    go_region_law (first
                      | (refine step_app_ownF rfl (.tmp 154) (.tmp 161) 22 rfl DE 35 i0 (.slice none 0 0) 1 24 Try.undRowsI hi0 hz0 hz1 hz2 rfl (by decide) _ _ _ rfl (U2.out.alloc _) ⟨w5.heap.size, 0, none⟩ 1 1 [.slice (some ⟨g5, 0, none⟩) c2 cap5] rfl rfl (cell_one_new _ _ _) (by intro u hu; simp at hu; subst hu; rfl) (by unfold maxLen; omega) (by omega) (by simp <;> omega) ?_; intro v' w7 hown' hgrow; obtain ⟨gv, cv', rfl⟩ := own_pos hown'; have TS := hid (TotC.snoc (g := g5) (cg := cap5) (f := fun i r => rowF R2 ((elT s c 0).getD i 0) r) U1.out U2.out U3.out (R5.out.congr fun r _ => by show rowF R2 ((elT s c 0).getD t 0) r = _; rw [HJE.out]) hown' hgrow); have hbG := hid (((Below.refl _ w5).alloc (by omega : DE ≤ w5.heap.size) _).grown hgrow (by simp <;> omega) (fun j hj => (World.ownsRow.lt U2.out j hj).1)); have X7 := hid ((hbG.out.block gb (by omega)).trans X5.out); obtain ⟨t0, t1, t2⟩ := three_cells X7.out; obtain ⟨e0, e1, e2⟩ := three_frozen X7.out; clear hown' hgrow)
                      | (go_simp; go_at_call 17; (refine (CK.out _ (by first | exact (Below.refl _ _).drew | exact Below.refl _ _)).mono ?_); rintro e w5 ⟨a5, cap5, g5, rfl, rfl, hg5, hr5, hb5⟩; obtain ⟨us, u1, u2, u3⟩ := HTB.out.below hb5; have U1 := hid u1; have U2 := hid u2; have U3 := hid u3; have R5 := hid hr5; have K5 := hid hb5; have X5 := hid (box_keep HXB.out hb5); obtain ⟨q0, q1, q2⟩ := three_cells X5.out; obtain ⟨s0, s1, s2⟩ := three_cells (box_keep YW.out hb5); have l5 := hlb2.out w5 hb5; have hw5 : wr.heap.size ≤ w5.heap.size := hb5.size; have hus : us.length ≤ 8 := (by omega); have q9 := (((Below.refl _ w5).alloc (Nat.le_refl _) (.cells #[.slice (some ⟨g5, 0, none⟩) c2 cap5] 35)).cell (p := ⟨gb, 2, none⟩) (by show gb < w5.heap.size; omega)).trans q2; clear u1 u2 u3 hr5 hb5))
                    all_goals go_wp2_with fail
                    all_goals (
                      have hX8 : (w7.setCell ⟨gb, 2, none⟩ (.slice (some ⟨gv, 0, none⟩) (t + 1) cv')).heap[gb]? = some (.cells #[.int .i64 p, .int .i64 (R.length : Nat), (.slice (some ⟨gv, 0, none⟩) (t + 1) cv')] 24 (0, 0)) := by
                        unfold World.setCell
                        dsimp only
                        rw [Array.getElem?_modify, X7.out]
                        simp
                      have TS8 := TS.out.save (save_cell w7 gb 2 (.slice (some ⟨gv, 0, none⟩) (t + 1) cv')) (by omega) (fun cs e => by rw [X7.out] at e; simp at e)
                      have SG : Save (fun z => DE ≤ z) w5 w7 := ⟨hbG.out.os, hbG.out.tape, hbG.out.output, hbG.out.size, fun k hk hx => hbG.out.block k (by omega)⟩
                      have SV8 := (((HSB.out.trans (Save.of_below K5.out)).andThen SG (fun i hi hDi => by rw [HDE.out] at hi; omega)).setCell (p := ⟨gb, 2, none⟩) (.inl rfl) (.slice (some ⟨gv, 0, none⟩) (t + 1) cv'))
                      exact ⟨⟨t + 1, _, by omega, by go_num, hX8, TS8, SV8⟩, by simp [intOf]; omega⟩)
                  · obtain rfl : t = R.length := by omega
                    have hnt2 : ¬ (R.length : Int) < (R.length : Int) := by omega
                    have HM2' : Hid (MatOK p (R.length : Nat) R2) := by show MatOK _ _ _; rw [HSQ.out]; exact HM2.out
                    have XA3 := hid ((HSB.out.block ga (by rw [HDE.out]; omega) (by omega)).trans XA2.out)
                    have TA3 := TA2.out.save HSB.out (by omega) (fun cs e => by rw [XB2.out] at e; simp at e)
                    obtain ⟨ra3, ca3⟩ := TA3.rowsI (by omega) (by omega)
                    have TB3 : TotC wr DE vb R.length R.length (fun i r => rowF R2 ((elT s c 0).getD i 0) r) := by
                      have := HTB.out
                      rw [← HSQ.out] at this
                      exact this
                    obtain ⟨rb3, cb3⟩ := TB3.rowsI (by omega) (by omega)
                    rw [← colL_mat HNE.out] at ra3
                    rw [← rwsL_mat HM2'.out (fun j hj => by have := el_lt' j hj; have := HE2.out; omega) HNE.out] at rb3
                    have DA := hid (Determinant_ok p R.length _ _ wr ra3 ca3 (col_ok HM.out HNE.out (by omega)) colL_len)
                    have RB3 := hid rb3
                    have CB3 := hid cb3
                    have DB : Hid (∀ wx, Below wr.heap.size wr wx → Calls Try.prog 5 #[.agg #[.int .i64 p, .int .i64 (R.length : Nat), vb]] wx fun e w' => e = .returned (.tuple #[.int .i64 (detL p R.length (rwsL c R2 s) (2 ^ R.length - 1)), .int .i64 0]) ∧ Below wr.heap.size wr w') := fun wx hx => (Determinant_ok p R.length _ _ wx (RB3.out.below hx) CB3.out (rws_ok HM2'.out HE2.out HNE.out (by omega)) (by rw [rwsL_len HM.out.c8' HSS.out, HPS.out, HSQ.out])).mono fun e w' h9 => ⟨h9.1, hx.trans (h9.2.mono hx.size)⟩
                    rw [← HSQ.out] at E1
                    rw [HSQ.out] at E1
                    have EU : detL p R.length (colL c R s) (2 ^ R.length - 1) = detL p c2 (colL c R s) (2 ^ c2 - 1) := by rw [HSQ.out]
                    have EV : detL p R.length (rwsL c R2 s) (2 ^ R.length - 1) = detL p c2 (rwsL c R2 s) (2 ^ c2 - 1) := by rw [HSQ.out]
                    rw [EU] at DA
                    rw [EV] at DB
                    have r1 := detL_in HM.out.pr c2 (colL c R s) (2 ^ c2 - 1)
                    have r2 := detL_in HM.out.pr c2 (rwsL c R2 s) (2 ^ c2 - 1)
                    obtain ⟨u0, hu0⟩ : ∃ u0, detL p c2 (colL c R s) (2 ^ c2 - 1) = u0 := ⟨_, rfl⟩
                    obtain ⟨v0, hv0⟩ : ∃ v0, detL p c2 (rwsL c R2 s) (2 ^ c2 - 1) = v0 := ⟨_, rfl⟩
                    rw [hu0] at DA r1 E1
                    rw [hv0] at DB r2 E1
                    obtain ⟨m2, hm2⟩ : ∃ m2, u0 * v0 = m2 := ⟨_, rfl⟩
                    have b2 : 0 ≤ m2 ∧ m2 ≤ 49 := by
                      rw [← hm2]
                      refine ⟨Int.mul_nonneg r1.1 r2.1, ?_⟩
                      have := Int.mul_le_mul (show u0 ≤ 7 by omega) (show v0 ≤ 7 by omega) (by omega) (by omega)
                      omega
                    rw [hm2] at E1
                    obtain ⟨m3, hm3⟩ : ∃ m3, S0 + m2 = m3 := ⟨_, rfl⟩
                    rw [hm3] at E1
                    have hw2 : IntKind.i64.wrap m2 = m2 := IntWalk.i64_in _ (by omega)
                    have hw3 : IntKind.i64.wrap m3 = m3 := IntWalk.i64_in _ (by omega)
                    obtain ⟨x0, x1, x2⟩ := three_cells XA3.out
                    have XB3 := hid HXB.out
                    clear ra3 ca3 rb3 cb3 TA3 TB3 EU EV hu0 hv0 HTB HSB
                    go_wp2_with fail
                    refine DA.out.mono ?_
                    rintro e w8 ⟨rfl, hb8⟩
                    have HB8 := hid hb8
                    obtain ⟨y0, y1, y2⟩ := three_cells (box_keep XB3.out hb8)
                    clear x0 x1 x2 hb8 DA
                    go_wp2_with fail
                    refine (DB.out w8 HB8.out).mono ?_
                    rintro e w9 ⟨rfl, hb9⟩
                    have HFIN := hid (Bw16.out w9 (BW3.out.trans (hb9.mono BW3.out.size)))
                    clear y0 y1 y2 hb9 DB
                    go_wp2_with fail
                    go_roundw
                    case rel => exact ⟨s + 1, by omega, by go_num, by rw [E1.out], HFIN.out⟩
                    case measure => simp [intOf]; omega
      · obtain rfl : s = T := by omega
        have hne : ¬ (s : Int) < (s : Int) := by omega
        obtain ⟨x0, x1, x2⟩ := three_cells (box_keep X.out HB.out)
        have HBW := hid (B.out.trans (HB.out.mono B.out.size))
        obtain ⟨S0, hS0⟩ : ∃ S0, sm s (cbT p c c2 R R2) = S0 := ⟨_, rfl⟩
        rw [hS0] at hsm ⊢
        have hq : Int.tmod S0 p = S0 % p := Int.tmod_eq_emod_of_nonneg hsm.1
        obtain ⟨m, hm⟩ : ∃ m, S0 % p = m := ⟨_, rfl⟩
        have b4 : 0 ≤ m ∧ m < p := by rw [← hm]; exact ⟨Int.emod_nonneg _ (by omega), Int.emod_lt_of_pos _ (by omega)⟩
        rw [hm] at hq
        have hw4 : IntKind.i64.wrap m = m := IntWalk.i64_in _ (by omega)
        have hp0 : (p == 0) = false := by rw [beq_eq_false_iff_ne]; omega
        go_wp2_with fail
        go_ret
        exact ⟨rfl, HBW.out⟩
end Go.Proofs.Ytpdfaenjmjphpaa
