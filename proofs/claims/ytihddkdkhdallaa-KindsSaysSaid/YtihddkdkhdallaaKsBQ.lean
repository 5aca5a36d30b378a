/- rotaref.Linear. -/
import Derived.Test.YtihddkdkhdallaaFdZW
import Derived.Test.YtihddkdkhdallaaFdRQ
import Derived.Test.YtihddkdkhdallaaRefMinQ
import Derived.Test.YtihddkdkhdallaaPlainAll
import Derived.Test.YtihddkdkhdallaaKLbQ
import Derived.Deep.RegionLaw
namespace Go.Proofs.Ytihddkdkhdallaa
open Go.RowKit

theorem below_boxE (w : World) (cs : Array Value) (t : TypeId) : Below w.heap.size w (w.alloc (.cells cs t)) := (Below.refl _ _).alloc (Nat.le_refl _) _
/-- v is a slice of the call's own, of rows of the call's own. -/
def RowsG (B : Nat) (w : World) (v : Value) (R : List (List Int)) : Prop := ∃ us : List Value, us.length = R.length ∧ w.ownsRow B 32 1 v R.length us ∧ ∀ i, i < R.length → ∃ u, us[i]? = some u ∧ OwnZ 3 B w u (R.getD i [])
theorem RowsG.nil (B : Nat) (w : World) : RowsG B w (.slice none 0 0) [] := ⟨[], rfl, World.ownsRow_nil _ _ _ _, fun i hi => by simp at hi⟩
theorem RowsG.rows {B : Nat} {w : World} {v : Value} {R : List (List Int)} (h : RowsG B w v R) (hl : R.length ≤ 256) (hr : ∀ i, i < R.length → (R.getD i []).length ≤ 256) : RowsI w v R := by
  obtain ⟨us, h1, h2, h3⟩ := h
  rcases Go.Joins.ownsRow_forms h2 with ⟨rfl, h0⟩ | ⟨g, cap, rfl⟩
  · exact ⟨none, 0, by rw [h0], by omega, fun hh => by omega⟩
  · refine ⟨_, cap, rfl, by omega, fun _ => ⟨g, 0, rfl, (World.ownsRow.lt h2 g rfl).2, fun i hi => ?_⟩⟩
    obtain ⟨u, h5, h6⟩ := h3 i hi
    refine ⟨u, ?_, h6.ints (by have := hr i hi; omega)⟩
    have := World.ownsRow.cellAt h2 i (by omega)
    rw [Nat.zero_add, this, h5]
theorem RowsG.below {B : Nat} {w w' : World} {v : Value} {R : List (List Int)} (h : RowsG B w v R) (hb : Below w.heap.size w w') : RowsG B w' v R := by
  obtain ⟨us, h1, ⟨h2, h3⟩, h4⟩ := h
  refine ⟨us, h1, ⟨h2, h3.imp_right ?_⟩, fun i hi => ?_⟩
  · rintro ⟨g, cap, cur, rfl, hg, hheap, hr⟩
    exact ⟨g, cap, cur, rfl, hg, (hb.block g (Array.getElem?_eq_some_iff.1 hheap).1).trans hheap, hr⟩
  · obtain ⟨u, g1, g2⟩ := h4 i hi
    exact ⟨u, g1, g2.below hb⟩
theorem OwnZ.kept {B : Nat} {W W' : World} {u : Value} {l : List Int} {row : Option Nat} (h : OwnZ 3 B W u l) (hg : W.grownBy W' row) (hr : ∀ k, row = some k → ∃ cs, W.heap[k]? = some (.cells cs 32 (0, 0))) : OwnZ 3 B W' u l := by
  obtain ⟨h0, h1⟩ := h
  refine ⟨h0, h1.imp_right ?_⟩
  rintro ⟨g, cap, cur, rfl, hgB, hheap, hx⟩
  refine ⟨g, cap, cur, rfl, hgB, (hg.block g (Array.getElem?_eq_some_iff.1 hheap).1 (fun e => ?_)).trans hheap, hx⟩
  obtain ⟨cs, hcs⟩ := hr g e.symm
  rw [hheap] at hcs
  simp at hcs
theorem own_row {B k : Nat} {W : World} {v : Value} {us : List Value} (h : W.ownsRow B 32 1 v k us) : ∀ g, v.ownBlock = some g → ∃ cs, W.heap[g]? = some (.cells cs 32 (0, 0)) := by
  obtain ⟨-, ⟨rfl, -⟩ | ⟨g', cap, cur, rfl, -, hheap, -⟩⟩ := h
  · intro g e; cases e
  · intro g e
    cases e
    exact ⟨cur, hheap⟩
theorem RowsG.snoc {B : Nat} {W W' : World} {v v' u : Value} {us : List Value} {R : List (List Int)} {r : List Int} (h1 : us.length = R.length) (h2 : W.ownsRow B 32 1 v R.length us) (h3 : ∀ i, i < R.length → ∃ u, us[i]? = some u ∧ OwnZ 3 B W u (R.getD i [])) (hu : OwnZ 3 B W u r) (ho : W'.ownsRow B 32 1 v' (R.length + 1) (us ++ [u])) (hg : W.grownBy W' v.ownBlock) : RowsG B W' v' (R ++ [r]) := by
  have hk := own_row h2
  refine ⟨us ++ [u], by simp [h1], by rw [List.length_append]; exact ho, fun i hi => ?_⟩
  rw [List.length_append, List.length_singleton] at hi
  by_cases e : i < R.length
  · obtain ⟨x, g1, g2⟩ := h3 i e
    refine ⟨x, by rw [List.getElem?_append_left (by omega)]; exact g1, ?_⟩
    rw [show (R ++ [r]).getD i [] = R.getD i [] by simp [List.getD, List.getElem?_append_left e]]
    exact g2.kept hg hk
  · obtain rfl : i = R.length := by omega
    refine ⟨u, by rw [List.getElem?_append_right (by omega), h1]; simp, ?_⟩
    rw [show (R ++ [r]).getD R.length [] = r by simp [List.getD]]
    exact hu.kept hg hk
theorem step_appK {P : Program} {w : World} {ops : Array Oper} {o : Oper} {a : Act} {K : Act → World → Prop} {Q : Exit → Act → World → Prop} {E : Prop}
    (hg : o.guard = none) (s x : Operand) (t : TypeId) (hop : o.op = Op.call { callee := Callee.builtin Builtin.append, args := #[s, x], argTypes := #[t, t] })
    (base : Nat) (e : TypeId) (i : TypeInfo) (z : Value) (size bytes : Nat) (h1 : P.underlying t = some (.slice e)) (h2 : P.info? e = some i) (h3 : i.zero = some z) (h4 : i.size = size) (h5 : i.bytes = bytes) (h6 : z.cells.size = size) (h7 : 0 < size)
    (v : Value) (k : Nat) (xs : List Value) (hs : a.eval s = v) (hown : w.ownsRow base e size v k xs) (ad : Addr) (m c : Nat) (news : List Value) (hx : a.eval x = .slice (some ad) m c) (hn : news.length = m * size)
    (hc : ∀ j u, news[j]? = some u → w.cell? (ad.add j) = some u) (h1c : ∀ u ∈ news, u.oneCell' = true) (b1 : k + m ≤ maxLen) (b2 : (k + m) * bytes ≤ 140737488355328) (b3 : base ≤ w.heap.size)
    (hK : ∀ v' w', w'.ownsRow base e size v' (k + m) (xs ++ news) → w.grownBy w' v.ownBlock → K (a.put o.dst v') w') :
    if Region.wanted o (yielded ops a.tmps) = true then Oper.wp P o a w K Q else E := by
  have hw : Region.wanted o (yielded ops a.tmps) = true := by simp [Region.wanted, hg]
  rw [if_pos hw]
  obtain ⟨v', w', hrun, r1, r2, r3⟩ := run_append_own (P := P) w base t o.type e i z size bytes h1 h2 h3 h4 h5 h6 h7 v k xs hown ad m c news hn hc h1c b1 b2 b3
  unfold Oper.wp
  simp [execOp, hop, resolve, invoke, builtin, hs, hx, hrun, Result.andThen]
  exact hK v' w' r1 r2
/-- A column, as a list. -/
def colJ (R : List (List Int)) (j : Nat) : List Int := (List.range R.length).map fun i => rowF R i j
theorem colJ_len (R : List (List Int)) (j : Nat) : (colJ R j).length = R.length := by unfold colJ; simp
theorem colJ_at {R : List (List Int)} {j r : Nat} (hr : r < R.length) : (colJ R j).getD r 0 = mtF R j r := by
  unfold colJ rowF mtF
  simp [List.getD, hr]
theorem own_oneZ {B : Nat} {w : World} {u : Value} {l : List Int} (h : OwnZ 3 B w u l) : u.oneCell' = true := by
  rcases Go.Joins.ownsRow_forms h with ⟨rfl, -⟩ | ⟨g, c, rfl⟩ <;> rfl
theorem ownZ_form {B : Nat} {w : World} {u : Value} {l : List Int} (h : OwnZ 3 B w u l) : ∃ a c, u = .slice a l.length c := by
  rcases Go.Joins.ownsRow_forms h with ⟨rfl, h0⟩ | ⟨g, c, rfl⟩
  · exact ⟨none, 0, by rw [h0]⟩
  · exact ⟨_, _, rfl⟩
theorem mtF_inK {p : Int} {c : Nat} {R : List (List Int)} (hm : MatOK p c R) : ∀ j r, 0 ≤ mtF R j r ∧ mtF R j r < p := fun j r => by
  have hp := isP_pos hm.pr
  by_cases h : r < R.length ∧ j < c
  · exact hm.rowc r h.1 j h.2
  · have : mtF R j r = 0 := by
      unfold mtF
      by_cases h1 : r < R.length
      · have := hm.lens r h1
        rw [show (R.getD r []).getD j 0 = 0 by simp only [List.getD]; rw [List.getElem?_eq_none (by rw [List.getD] at this; omega)]; rfl]
      · rw [show R.getD r [] = [] by simp only [List.getD]; rw [List.getElem?_eq_none (by omega)]; rfl]; rfl
    rw [this]; omega
theorem mtF_out {R : List (List Int)} (j r : Nat) (h : R.length ≤ r) : mtF R j r = 0 := by
  unfold mtF
  rw [show R.getD r [] = [] by simp only [List.getD]; rw [List.getElem?_eq_none (by omega)]; rfl]; rfl
/-- What the closure tells. -/
def hngN (p : Int) (R : List (List Int)) (s : Nat) : Nat := redN p R.length (pop s) (fun k => mtF R ((els s).getD k 0))
theorem rowJ {R : List (List Int)} {s k r : Nat} (hk : k < (els s).length) (hr : r < R.length) : rowF ((els s).map (colJ R)) k r = mtF R ((els s).getD k 0) r := by
  rw [← colJ_at hr]
  unfold rowF
  simp [List.getD, hk]
set_option maxRecDepth 20000 in
set_option maxHeartbeats 2000000 in
theorem RLinQ_ok (s bx : Nat) (p : Int) (c : Nat) (v : Value) (R : List (List Int)) (w : World) (hs : s < 2 ^ c) (hm : MatOK p c R) (hbx : w.heap[bx]? = some (.cells #[.int .i64 p, .int .i64 c, v] 27 (0, 0))) (h : RowsI w v R) :
    Calls Try.prog 25 #[.int .i64 s, .pointer (some ⟨bx, 0, none⟩)] w fun e w' => e = .returned (.int .i64 (hngN p R s : Nat)) ∧ Below w.heap.size w w' := by
  obtain ⟨i0, hi0, hz0, hz1, hz2⟩ := info_parts Try.infoRowI
  have hc8 := hm.c8'
  have hr6 := hm.rl
  have HM := hid hm
  have hs8 : s < 256 := lt256 hc8 hs
  have EL := hid (Elements_any s w hs8)
  have hpop : (els s).length ≤ 8 := by rw [← pop_els]; exact pop_le s hs8
  have HEL : Hid (∀ t, t < (els s).length → (els s).getD t 0 < c) := fun t ht => by
    have h1 : (els s).getD t 0 ∈ els s := by simp only [List.getD, List.getElem?_eq_getElem ht, Option.getD_some]; exact List.getElem_mem _
    exact bit_lt hs ((mem_els hs8).1 h1)
  have HX := hid hbx
  have HR := hid h
  go_enter Try.func25, Try.ntmps25
  go_wp2_with fail
  refine EL.out.mono ?_
  rintro e w1 ⟨r1, rfl, ho1, hb1⟩
  obtain ⟨ea1, ec1, hq1⟩ := ownsRow_form' ho1
  subst hq1
  have HO1 := hid ho1
  have HB1 := hid hb1
  clear ho1 hb1 EL hbx h hm
  go_wp2_with fail
  obtain ⟨D, HD⟩ : ∃ D, Hid (w1.heap.size = D) := ⟨_, rfl⟩
  have hwD : w.heap.size ≤ D := by rw [← HD.out]; exact HB1.out.size
  go_loopw [4, 6] (fun vl i wr => ∃ (t : Nat) (va : Option Addr) (vc : Nat), t ≤ (els s).length ∧ i = .int .i64 t ∧ vl = .slice va t vc ∧ Hid (RowsG D wr (.slice va t vc) (((els s).take t).map (colJ R))) ∧ Hid (Below D w1 wr)) (fun _ i _ => (els s).length - (intOf i).toNat)
  case atStart => exact ⟨0, none, 0, Nat.zero_le _, rfl, rfl, RowsG.nil _ _, by rw [← HD.out]; exact Below.refl _ _⟩
  case round =>
    obtain ⟨t, va, vc, ht, rfl, rfl, HG, HB⟩ := hrel
    have HBw : Hid (Below w1.heap.size w1 wr) := by rw [HD.out]; exact HB.out
    have hDr : D ≤ wr.heap.size := by rw [← HD.out]; exact HBw.out.size
    have BW := hid (HB1.out.trans (HBw.out.mono HB1.out.size))
    have hlt : (((els s).take t).map (colJ R)).length = t := by simp; omega
    obtain ⟨x0, x1, x2⟩ := three_cells (box_keep HX.out BW.out)
    by_cases htl : t < (els s).length
    · have hti : (t : Int) < ((els s).length : Int) := by omega
      obtain ⟨eg, ecp, he⟩ : ∃ eg ecp, (Value.slice ea1 (els s).length ec1) = .slice (some ⟨eg, 0, none⟩) (els s).length ecp := by
        rcases Go.Joins.ownsRow_forms HO1.out with ⟨h0, h1⟩ | ⟨g', cap', h1⟩
        · omega
        · exact ⟨g', cap', h1⟩
      cases he
      have hcell := World.ownsRow.cellAt HO1.out t (by simp; omega)
      obtain ⟨j, hj⟩ : ∃ j, (els s).getD t 0 = j := ⟨_, rfl⟩
      have hjc : j < c := by rw [← hj]; exact HEL.out t htl
      have d1 : wr.cell? ⟨eg, t, none⟩ = some (.int .i64 (j : Nat)) := by
        refine (HBw.out.cell (p := ⟨eg, t, none⟩) (World.ownsRow.lt HO1.out eg rfl).2).trans (hcell.trans ?_)
        rw [← hj]
        simp [V, List.getD, htl]
      have HJ : Hid (((els s).take (t + 1)).map (colJ R) = ((els s).take t).map (colJ R) ++ [colJ R j]) := by
        show _ = _
        rw [List.take_add_one, List.map_append, ← hj]
        simp [List.getD, htl]
      have HJ2 := hid hj
      clear hj hcell
      have CO : Hid (∀ W, Below wr.heap.size wr W → Calls Try.prog 26 #[.agg #[.int .i64 p, .int .i64 c, v], .int .i64 j] W fun e w' => ∃ a5 c5, e = .returned (.slice a5 R.length c5) ∧ OwnZ 3 D w' (.slice a5 R.length c5) (colJ R j) ∧ Below wr.heap.size wr w') := fun W hW => (Column_own p c v R j W (HR.out.below (BW.out.trans (hW.mono BW.out.size))) HM.out hjc).mono fun e w' ⟨r, h1, h2, h3⟩ => by
        obtain ⟨a5, c5, rfl⟩ := ownZ_form h2
        rw [show ((List.range R.length).map fun i => rowF R i j) = colJ R j from rfl] at h2 h1
        rw [colJ_len] at h1 h2
        exact ⟨a5, c5, h1, h2.mono (Nat.le_trans hDr hW.size), hW.trans (h3.mono hW.size)⟩
      go_wp2_with fail
      go_region_law (first
        | (refine step_appK rfl (.tmp 15) (.tmp 22) 25 rfl D 32 i0 (.slice none 0 0) 1 24 Try.undRowsI hi0 hz0 hz1 hz2 rfl (by decide) _ t us rfl (V2.out.alloc _) ⟨w5.heap.size, 0, none⟩ 1 1 [.slice a5 R.length c5] rfl rfl (cell_one_new _ _ _) (by intro u hu; simp at hu; subst hu; rfl) (by unfold maxLen; omega) (by omega) (by simp; omega) ?_; intro v' w7 hown' hgrow; have OW := hid hown'; have GW := hid hgrow; clear hown' hgrow)
        | (go_simp; go_at_call 26; (refine (CO.out _ (by first | exact (Below.refl _ _).drew | exact Below.refl _ _)).mono ?_); rintro e w5 ⟨a5, c5, rfl, ho5, hb5⟩; have O5 := hid ho5; have K5 := hid hb5; obtain ⟨us, v1, v2, v3⟩ := HG.out.below hb5; have V1 := hid v1; have V3 := hid v3; rw [hlt] at v2; have V2 := hid v2; clear v1 v2 v3; have hs5 := hb5.size; clear ho5 hb5))
      all_goals go_wp2_with fail
      all_goals (
        obtain ⟨gv, cv, rfl⟩ : ∃ gv cv, v' = .slice (some ⟨gv, 0, none⟩) (t + 1) cv := by
          rcases Go.Joins.ownsRow_forms OW.out with ⟨rfl, h0⟩ | ⟨g', cap', rfl⟩
          · omega
          · exact ⟨_, _, rfl⟩
        have hbA := below_boxE w5 #[.slice a5 R.length c5] 32
        have G2 : (w5.alloc (.cells #[.slice a5 R.length c5] 32)).grownBy w7 (Value.slice va t vc).ownBlock := GW.out
        have TS : RowsG D w7 (.slice (some ⟨gv, 0, none⟩) (t + 1) cv) (((els s).take t).map (colJ R) ++ [colJ R j]) := RowsG.snoc (us := us) (u := .slice a5 R.length c5) V1.out (by rw [hlt]; exact V2.out.alloc _) (fun i hi => by
          obtain ⟨x, g1, g2⟩ := V3.out i hi
          exact ⟨x, g1, g2.below hbA⟩) (O5.out.below hbA) (by rw [hlt]; exact OW.out) G2
        rw [← HJ.out] at TS
        have HB5 := HB.out.trans (K5.out.mono hDr)
        exact ⟨⟨t + 1, _, _, by omega, by go_num, rfl, TS, (HB5.alloc (by omega) _).grown G2 (by simp; omega) (fun k e => (World.ownsRow.lt V2.out k e).1)⟩, by simp [intOf]; omega⟩)
    · obtain rfl : t = (els s).length := by omega
      have hnt : ¬ ((els s).length : Int) < ((els s).length : Int) := by omega
      rw [List.take_length] at HG
      have hl8 : ((els s).map (colJ R)).length = (els s).length := by simp
      have RI := HG.out.rows (by omega) fun i hi => by
        rw [hl8] at hi
        rw [show ((els s).map (colJ R)).getD i [] = colJ R ((els s).getD i 0) by simp [List.getD, hi], colJ_len]
        omega
      have hm := HM.out
      have HN := hid (Hang_ok p R.length _ ((els s).map (colJ R)) wr RI hm.pr (by omega) (by omega) (fun k hk => by
        rw [hl8] at hk
        rw [show ((els s).map (colJ R)).getD k [] = colJ R ((els s).getD k 0) by simp [List.getD, hk], colJ_len]) (fun k hk r hr => by
        rw [hl8] at hk
        rw [rowJ hk hr]
        exact mtF_inK hm _ _))
      have HE : Hid (redN p R.length ((els s).map (colJ R)).length (rowF ((els s).map (colJ R))) = hngN p R s) := by
        show _ = _
        unfold hngN
        rw [hl8, pop_els]
        exact (red_cong hm.pr (fun i hi r hr => mtF_inK hm _ _) fun i hi r hr => rowJ hi hr).symm
      rw [HE.out] at HN
      clear hm RI HG HE
      go_wp2_with fail
      refine HN.out.mono ?_
      rintro e w9 ⟨rfl, hb9⟩
      have B9 := hid (BW.out.trans (hb9.mono BW.out.size))
      clear hb9 HN
      go_wp2_with fail
      go_ret
      exact ⟨rfl, B9.out⟩
end Go.Proofs.Ytihddkdkhdallaa
