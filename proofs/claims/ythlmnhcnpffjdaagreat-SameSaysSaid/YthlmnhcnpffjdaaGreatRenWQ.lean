/- A load of a list in a region that draws. -/
import Derived.Test.YthlmnhcnpffjdaaGreatOrdNQ
import Derived.Deep.CutRange
import Derived.Deep.RegionHeld3
import Derived.Test.YthlmnhcnpffjdaaGreatImgRQ
import Derived.Test.YthlmnhcnpffjdaaGreatStkAQ
import Derived.Test.YthlmnhcnpffjdaaGreatOrbWQ
namespace Go.Proofs.YthlmnhcnpffjdaaGreat
open Go.RowKit

theorem ready_load {md : Region.Mode} {ops : Array Oper} {Q : Exit → Act → World → Prop} {S : World → Prop} {fuel : Nat} {listed : Array Bool} {a : Act} {w : World} {i : Nat} {o : Oper} {rs : List Nat} (k : Nat) (ad : Addr) (x : Value)
    (ho : ops[i]? = some o) (hg : o.guard = none) (hop : o.op = .load 22 (.tmp k)) (hp : a.eval (.tmp k) = .pointer (some ad)) (hc : w.cell? ad = some x) (hS : S w)
    (h : wpAnyH Tryz.prog md ops Q S fuel (listed.setIfInBounds i true) (a.put o.dst x) w) (hs : AllReadyH Tryz.prog md ops Q S fuel listed a w rs) : AllReadyH Tryz.prog md ops Q S fuel listed a w (i :: rs) := by
  refine AllReadyH.cons ho (fun K hK => ?_) hs
  have hw : Region.wanted o (yielded ops a.tmps) = true := by simp [Region.wanted, hg]
  rw [if_pos hw]
  have hK2 := hK.out (a.put o.dst x) w hS (fun _ => h)
  unfold Oper.wp
  have hp' : a.tmps[k]?.getD undef = .pointer (some ad) := by simpa [go_sem] using hp
  simp [execOp, hop, hp', hc, go_sem]
  exact hK2
end Go.Proofs.YthlmnhcnpffjdaaGreat

namespace Go.Proofs.YthlmnhcnpffjdaaGreat
open Go.RowKit

theorem step_snocL {B : Nat} {w : World} {l : List Nat} {v : Value} {b : Nat} {ad : Addr} {ops : Array Oper} {o : Oper} {a : Act} {K : Act → World → Prop} {Q : Exit → Act → World → Prop} {E : Prop} (hg : o.guard = none) (s x : Operand)
    (ho : o.op = .call { callee := .builtin .append, args := #[s, x], argTypes := #[22, 22] }) (hs : a.eval s = v) (hx : a.eval x = .slice (some ad) 1 1) (h : Own B w v l) (hc : w.cell? ad = some (.int .i64 b)) (hl : l.length ≤ 256) (hB : B ≤ w.heap.size)
    (hK : ∀ v' w', Own B w' v' (l ++ [b]) → w.grownBy w' v.ownBlock → K (a.put o.dst v') w') :
    if Region.wanted o (yielded ops a.tmps) = true then Oper.wp Tryz.prog o a w K Q else E := by
  obtain ⟨i0, hi, hz0, hz1, hz2⟩ := info_parts Tryz.infoInt
  have hw : Region.wanted o (yielded ops a.tmps) = true := by simp [Region.wanted, hg]
  rw [if_pos hw]
  obtain ⟨v', w', hrun, r1, r2, r3⟩ := run_append_own (P := Tryz.prog) w B 22 o.type 3 i0 (.int .i64 0) 1 8 Tryz.underlying22 hi hz0 hz1 hz2 rfl (by decide) v l.length (V l) h ad 1 1 [.int .i64 b] rfl
      (fun j u hu => by
        have hj : j < 1 := (List.getElem?_eq_some_iff.1 hu).1
        obtain rfl : j = 0 := by omega
        simp only [List.getElem?_cons_zero] at hu
        rw [← hu, ← hc]
        simp [Addr.add])
      (by intro u hu; simp at hu; subst hu; rfl) (by unfold maxLen; omega) (by omega) hB
  unfold Oper.wp
  simp [execOp, ho, resolve, invoke, builtin, hs, hx, hrun, Result.andThen]
  exact hK v' w' (Own.snoc r1) r2
/-- What Renamed's variables hold: the matroid, the result, out. -/
structure RnI (w : World) (m : Nat) (v : Value) (vO : Value) (L : List Nat) (W : World) : Prop where
  low : Below w.heap.size w W
  top : w.heap.size + 3 ≤ W.heap.size
  mat : W.heap[w.heap.size]? = some (.cells #[.int .i64 m, v] 24 (0, 0))
  res : W.heap[w.heap.size + 1]? = some (.cells #[.int .i64 0, .slice none 0 0] 24 (0, 0))
  out : W.heap[w.heap.size + 2]? = some (.cells #[.int .i64 m, vO] 24 (0, 0))
  own : Own (w.heap.size + 3) W vO L
variable {w : World} {m : Nat} {v : Value} {vO : Value} {L : List Nat} {W W' : World}
theorem RnI.below (h : RnI w m v vO L W) (hb : Below W.heap.size W W') : RnI w m v vO L W' := by
  have ht := h.top
  exact ⟨h.low.trans (hb.mono h.low.size), Nat.le_trans ht hb.size, (hb.block _ (by omega)).trans h.mat, (hb.block _ (by omega)).trans h.res, (hb.block _ (by omega)).trans h.out, h.own.below hb⟩
/-- The list is another one now: its block alone has changed. -/
theorem RnI.grown (h : RnI w m v vO L W) {vO' : Value} {L' : List Nat} (hg : W.grownBy W' vO.ownBlock) (ho : Own (w.heap.size + 3) W' vO' L') : RnI w m v vO' L' (W'.setCell ⟨w.heap.size + 2, 1, none⟩ vO') := by
  have ht := h.top
  have hs : Save (fun k => vO.ownBlock = some k) W W' := Save.of_grown hg (fun k e => e)
  have hge : ∀ k, vO.ownBlock = some k → w.heap.size + 3 ≤ k := fun k e => (World.ownsRow.lt h.own k e).1
  have hk : ∀ k, k < w.heap.size + 3 → W'.heap[k]? = W.heap[k]? := fun k hk => hs.block k (by omega) (fun e => by have := hge k e; omega)
  have hs2 : Save (fun k => k = w.heap.size + 2) W' (W'.setCell ⟨w.heap.size + 2, 1, none⟩ vO') := Save.setCell (X := fun k => k = w.heap.size + 2) (Save.refl _ W') (p := ⟨w.heap.size + 2, 1, none⟩) (.inl rfl) _
  have hz := hs.size
  refine ⟨(hs.below h.low h.low.size (fun k e => by have := hge k e; omega)).setCell (p := ⟨w.heap.size + 2, 1, none⟩) (by show _ ≤ w.heap.size + 2; omega) _, Nat.le_trans ht (Nat.le_trans hz hs2.size), (hs2.block _ (by omega) (by omega)).trans ((hk _ (by omega)).trans h.mat), (hs2.block _ (by omega) (by omega)).trans ((hk _ (by omega)).trans h.res), set_one ((hk _ (by omega)).trans h.out), ho.saveV2 hs2 (fun g hg e => by have := (World.ownsRow.lt ho g hg).1; omega)⟩
theorem RnI.same (h : RnI w m v vO L W) {L' : List Nat} (hg : W.grownBy W' vO.ownBlock) (ho : Own (w.heap.size + 3) W' vO L') : RnI w m v vO L' W' := by
  have ht := h.top
  have hs : Save (fun k => vO.ownBlock = some k) W W' := Save.of_grown hg (fun k e => e)
  have hge : ∀ k, vO.ownBlock = some k → w.heap.size + 3 ≤ k := fun k e => (World.ownsRow.lt h.own k e).1
  have hk : ∀ k, k < w.heap.size + 3 → W'.heap[k]? = W.heap[k]? := fun k hk => hs.block k (by omega) (fun e => by have := hge k e; omega)
  exact ⟨hs.below h.low h.low.size (fun k e => by have := hge k e; omega), Nat.le_trans ht hs.size, (hk _ (by omega)).trans h.mat, (hk _ (by omega)).trans h.res, (hk _ (by omega)).trans h.out, ho⟩
theorem RnI.new (w : World) (m : Nat) (v : Value) : RnI w m v (.slice none 0 0) [] (((w.alloc (.cells #[.int .i64 m, v] 24)).alloc (.cells #[.int .i64 0, .slice none 0 0] 24)).alloc (.cells #[.int .i64 m, .slice none 0 0] 24)) := by
  obtain ⟨h1, h2, h3⟩ := three w (.cells #[.int .i64 m, v] 24) (.cells #[.int .i64 0, .slice none 0 0] 24) (.cells #[.int .i64 m, .slice none 0 0] 24)
  exact ⟨(((Below.refl _ _).alloc (Nat.le_refl _) _).alloc (by simp) _).alloc (by simp; omega) _, by simp, h1, h2, h3, Own.nil _ _⟩
set_option maxRecDepth 20000 in
set_option maxHeartbeats 4000000 in
theorem Renamed_ok (m : Nat) (v u : Value) (l p : List Nat) (w : World) (hm : m ≤ 8) (hf : Fam m l) (h : Ints w v (N l)) (hu : Ints w u (N p)) (hp : Beg m p) (hl : p.length = m) :
    Calls Tryz.prog 9 #[.agg #[.int .i64 m, v], u] w fun e w' => ∃ r, e = .returned (.agg #[.int .i64 m, r]) ∧ Own w.heap.size w' r (renL m p l) ∧ Below w.heap.size w w' := by
  have R0 := hid (RnI.new w m v)
  have hp8 : p.length ≤ 8 := by omega
  have IM := hid (fun W' s (h : Ints W' u (N p)) (hs : s < 2 ^ m) => ImageR_any u p s W' h hp8 (by rw [hl]; exact hs) (fun i => by
    by_cases hi : i < p.length
    · have := hp.at hi; omega
    · simp [List.getD, List.getElem?_eq_none (show p.length ≤ i by omega)]))
  have HLT : Hid (∀ b ∈ l, b < 2 ^ m) := hf.lt
  have hll := fam_len hm hf
  have HSO := hid (fun L h1 h2 => ren_sorted (L := L) hp hl hf h1 h2)
  have HU := hid hu
  have HV := hid h
  obtain ⟨a0, cap, hv, -, -⟩ := h.nats
  obtain ⟨a1, cap1, hu', -, -⟩ := hu.nats
  subst hv
  subst hu'
  clear hf hp hl h hu
  obtain ⟨R, HR⟩ : ∃ R, Hid (renL m p l = R) := ⟨_, Eq.refl (renL m p l)⟩
  rw [HR.out]
  go_enter Tryz.func9, Tryz.ntmps9
  go_wp2_with fail
  go_loopw [6] (fun jx wr => ∃ (i : Nat) (vO : Value), i ≤ l.length ∧ jx = .int .i64 i ∧ Hid (RnI w m (.slice a0 l.length cap) vO ((l.take i).map (image p)) wr)) (fun jx _ => l.length - (intOf jx).toNat)
  case atStart => exact ⟨0, _, Nat.zero_le _, rfl, R0⟩
  case round =>
    obtain ⟨i, vO, hi, rfl, RI⟩ := hrel
    clear R0
    obtain ⟨x0, x1⟩ := cells2 RI.out.mat
    obtain ⟨y0, y1, y2, y3⟩ := two_cells RI.out.out
    have ht := RI.out.top
    by_cases hlt : i < l.length
    · have hlt' : (i : Int) < (l.length : Int) := by omega
      have hmeas : l.length - (i + 1) < l.length - i := by omega
      obtain ⟨a2, c2, e2, -, hcc⟩ := HV.out.nats
      obtain ⟨rfl, rfl⟩ : a0 = a2 ∧ cap = c2 := by simpa using e2
      obtain ⟨lb, lo, rfl, hlb, hcell⟩ := hcc (by omega)
      have cL := (RI.out.low.cell (p := ⟨lb, lo + i, none⟩) hlb).trans (hcell i hlt)
      have hbT := HLT.out _ (show l.getD i 0 ∈ l by simp [List.getD, hlt])
      have HMT := hid (map_take (f := image p) hlt)
      have I1 := hid (IM.out wr.drew _ (HU.out.below (RI.out.low.trans ((Below.refl wr.heap.size wr).drew.mono RI.out.low.size))) hbT)
      have hl9 : ((l.take i).map (image p)).length ≤ 256 := by rw [List.length_map, List.length_take]; omega
      clear hcell hcc e2 IM HLT hbT
      generalize l.getD i 0 = b at *
      generalize image p b = ib at *
      obtain ⟨oa, oc, hvo⟩ := ownsRow_form' RI.out.own
      subst hvo
      generalize (l.take i).map (image p) = acc at *
      have KS : Hid (∀ W : World, (W.heap[w.heap.size]? = wr.heap[w.heap.size]? ∧ W.heap[lb]? = wr.heap[lb]?) → W.cell? ⟨w.heap.size, 1, none⟩ = some (.slice (some ⟨lb, lo, none⟩) l.length cap) ∧ W.cell? ⟨lb, lo + i, none⟩ = some (.int .i64 b)) := fun W hW =>
        ⟨(World.cell?_of_block (a := ⟨w.heap.size, 1, none⟩) hW.1).trans x1, (World.cell?_of_block (a := ⟨lb, lo + i, none⟩) hW.2).trans cL⟩
      have KR : Hid (∀ (W : World) (vO' : Value) (L' : List Nat), RnI w m (.slice (some ⟨lb, lo, none⟩) l.length cap) vO' L' W → W.heap[w.heap.size]? = wr.heap[w.heap.size]? ∧ W.heap[lb]? = wr.heap[lb]?) := fun W vO' L' h => ⟨h.mat.trans RI.out.mat.symm, (h.low.block lb hlb).trans (RI.out.low.block lb hlb).symm⟩
      have cS : wr.drew.cell? ⟨w.heap.size, 1, none⟩ = some (.slice (some ⟨lb, lo, none⟩) l.length cap) ∧ wr.drew.cell? ⟨lb, lo + i, none⟩ = some (.int .i64 b) := KS.out _ ⟨rfl, rfl⟩
      have Rd := hid (RI.out.below (Below.refl wr.heap.size wr).drew)
      go_wp2_with fail
      refine wp_region_noPanic ?_
      refine wp_region_held_drew (S := fun w' => w'.cell? ⟨w.heap.size, 1, none⟩ = some (.slice (some ⟨lb, lo, none⟩) l.length cap) ∧ w'.cell? ⟨lb, lo + i, none⟩ = some (.int .i64 b)) (by kernel_rfl) cS (fun _ => ?_)
      refine wpAnyH_take (i := 0) (v := .pointer (some ⟨w.heap.size + 2, 1, none⟩)) rfl (by kernel_rfl) (by kernel_rfl) (by kernel_rfl) (fun _ _ _ h => h) (Or.inl ⟨by rfl, fun w hw => by go_simp⟩) cS ?_
      refine wpAnyH_take (i := 2) (v := .slice a1 p.length cap1) rfl (by kernel_rfl) (by kernel_rfl) (by kernel_rfl) (fun _ _ _ h => h) (Or.inl ⟨by rfl, fun w hw => by go_simp⟩) cS ?_
      refine wpAnyH_take (i := 3) (v := .pointer (some ⟨w.heap.size, 1, none⟩)) rfl (by kernel_rfl) (by kernel_rfl) (by kernel_rfl) (fun _ _ _ h => h) (Or.inl ⟨by rfl, fun w hw => by go_simp⟩) cS ?_
      refine wpAnyH_take (i := 4) (v := .slice (some ⟨lb, lo, none⟩) l.length cap) rfl (by kernel_rfl) (by kernel_rfl) (by kernel_rfl) (fun _ _ _ h => h) (Or.inl ⟨by rfl, fun w hw => by obtain ⟨h1, h2⟩ := hw; go_simp⟩) cS ?_
      refine wpAnyH_take (i := 5) (v := .int .i64 i) rfl (by kernel_rfl) (by kernel_rfl) (by kernel_rfl) (fun _ _ _ h => h) (Or.inl ⟨by rfl, fun w hw => by go_simp⟩) cS ?_
      refine wpAnyH_take (i := 6) (v := .pointer (some ⟨lb, lo + i, none⟩)) rfl (by kernel_rfl) (by kernel_rfl) (by kernel_rfl) (fun _ _ _ h => h) (Or.inl ⟨by rfl, fun w hw => by go_simp⟩) cS ?_
      refine wpAnyH_take (i := 7) (v := .int .i64 b) rfl (by kernel_rfl) (by kernel_rfl) (by kernel_rfl) (fun _ _ _ h => h) (Or.inl ⟨by rfl, fun w hw => by obtain ⟨h1, h2⟩ := hw; go_simp⟩) cS ?_
      refine wpAnyH_ready (rs := [1, 8]) (by kernel_rfl) (by simp) ?_
      refine ready_load 17 ⟨w.heap.size + 2, 1, none⟩ (.slice oa acc.length oc) rfl rfl rfl rfl (two_cells Rd.out.out).2.1 (KS.out _ (KR.out _ _ _ Rd.out)) ?_ (AllReadyH.cons rfl ?_ AllReadyH.nil)
      · refine wpAnyH_ready (rs := [8]) (by kernel_rfl) (by simp) ?_
        refine AllReadyH.cons rfl ?_ AllReadyH.nil
        intro K hK
        go_simp
        refine I1.out.mono ?_
        rintro e w3 ⟨rfl, hb3⟩
        have R3 := hid (Rd.out.below hb3)
        refine hK.out _ _ (KS.out _ (KR.out _ _ _ R3.out)) (fun _ => ?_)
        clear hK K hb3
        refine wpAnyH_ready (rs := [9]) (by kernel_rfl) (by simp) ?_
        refine AllReadyH.cons rfl ?_ AllReadyH.nil
        intro K hK
        have R4 := hid (R3.out.below ((Below.refl _ _).alloc (Nat.le_refl _) (.cells #[.int .i64 ib] 3)))
        have c4 : (w3.alloc (.cells #[.int .i64 ib] 3)).cell? ⟨w3.heap.size, 0, none⟩ = some (.int .i64 ib) := (Boxed.new w3 3 (.int .i64 ib)).cell
        go_simp
        refine hK.out _ _ (KS.out _ (KR.out _ _ _ R4.out)) (fun _ => ?_)
        clear hK K
        refine wpAnyH_ready (rs := [10]) (by kernel_rfl) (by simp) ?_
        refine AllReadyH.cons rfl ?_ AllReadyH.nil
        intro K hK
        refine step_snocL rfl (.tmp 18) (.tmp 26) rfl rfl rfl R4.out.own c4 hl9 R4.out.top ?_
        intro v5 w5 hv5 hg5
        have hv5' : Own (w.heap.size + 3) w5 v5 ((l.take (i + 1)).map (image p)) := by rw [HMT.out]; exact hv5
        have R5 := hid (R4.out.grown hg5 hv5')
        have S5 : Save (fun k => (Value.slice oa acc.length oc).ownBlock = some k) (w3.alloc (.cells #[.int .i64 ib] 3)) w5 := Save.of_grown hg5 (fun k e => e)
        have hge : ∀ k, (Value.slice oa acc.length oc).ownBlock = some k → w.heap.size + 3 ≤ k := fun k e => (World.ownsRow.lt R4.out.own k e).1
        have t4 := R4.out.top
        have n5 : w5.heap[w.heap.size + 2]? = some (.cells #[.int .i64 m, .slice oa acc.length oc] 24 (0, 0)) := (S5.block _ (by omega) (fun e => by have := hge _ e; omega)).trans R4.out.out
        have K5 : w5.heap[w.heap.size]? = wr.heap[w.heap.size]? ∧ w5.heap[lb]? = wr.heap[lb]? := ⟨(S5.block _ (by omega) (fun e => by have := hge _ e; omega)).trans (KR.out _ _ _ R4.out).1, (S5.block _ (by omega) (fun e => by have := hge _ e; omega)).trans (KR.out _ _ _ R4.out).2⟩
        obtain ⟨z0, z1, z2, z3⟩ := two_cells n5
        obtain ⟨va, vn, vc, hvv⟩ : ∃ a n c, v5 = .slice a n c := by
          rcases hv5.2 with ⟨e, _⟩ | ⟨g, cap, cur, e, _⟩
          · exact ⟨_, _, _, e⟩
          · exact ⟨_, _, _, e⟩
        subst hvv
        refine hK.out _ _ (KS.out _ K5) (fun _ => ?_)
        clear hK K hv5 hg5 S5 hge hv5' n5
        refine wpAnyH_ready (rs := [11]) (by kernel_rfl) (by simp) ?_
        refine AllReadyH.cons rfl ?_ AllReadyH.nil
        intro K hK
        go_simp
        refine hK.out _ _ (KS.out _ K5) (fun _ => ?_)
        clear hK K
        refine wpAnyH_ready (rs := [12]) (by kernel_rfl) (by simp) ?_
        refine AllReadyH.cons rfl ?_ AllReadyH.nil
        intro K hK
        go_simp
        refine hK.out _ _ (KS.out _ (KR.out _ _ _ R5.out)) (fun _ => ?_)
        clear hK K z0 z1 z2 z3 K5
        refine wpAnyH_done (by kernel_rfl) ?_ _
        refine NoPanic.normal ?_
        clear I1 KS KR Rd R4 c4
        go_wp2_with fail
        go_roundw
        case rel => exact ⟨i + 1, _, hlt, by go_num, R5⟩
        case measure => exact hmeas
      · intro K hK
        go_simp
        refine I1.out.mono ?_
        rintro e w3 ⟨rfl, hb3⟩
        have R3 := hid (Rd.out.below hb3)
        refine hK.out _ _ (KS.out _ (KR.out _ _ _ R3.out)) (fun _ => ?_)
        clear hK K hb3
        refine wpAnyH_ready (rs := [1, 9]) (by kernel_rfl) (by simp) ?_
        refine ready_load 17 ⟨w.heap.size + 2, 1, none⟩ (.slice oa acc.length oc) rfl rfl rfl rfl (two_cells R3.out.out).2.1 (KS.out _ (KR.out _ _ _ R3.out)) ?_ (AllReadyH.cons rfl ?_ AllReadyH.nil)
        · refine wpAnyH_ready (rs := [9]) (by kernel_rfl) (by simp) ?_
          refine AllReadyH.cons rfl ?_ AllReadyH.nil
          intro K hK
          have R4 := hid (R3.out.below ((Below.refl _ _).alloc (Nat.le_refl _) (.cells #[.int .i64 ib] 3)))
          have c4 : (w3.alloc (.cells #[.int .i64 ib] 3)).cell? ⟨w3.heap.size, 0, none⟩ = some (.int .i64 ib) := (Boxed.new w3 3 (.int .i64 ib)).cell
          go_simp
          refine hK.out _ _ (KS.out _ (KR.out _ _ _ R4.out)) (fun _ => ?_)
          clear hK K
          refine wpAnyH_ready (rs := [10]) (by kernel_rfl) (by simp) ?_
          refine AllReadyH.cons rfl ?_ AllReadyH.nil
          intro K hK
          refine step_snocL rfl (.tmp 18) (.tmp 26) rfl rfl rfl R4.out.own c4 hl9 R4.out.top ?_
          intro v5 w5 hv5 hg5
          have hv5' : Own (w.heap.size + 3) w5 v5 ((l.take (i + 1)).map (image p)) := by rw [HMT.out]; exact hv5
          have R5 := hid (R4.out.grown hg5 hv5')
          have S5 : Save (fun k => (Value.slice oa acc.length oc).ownBlock = some k) (w3.alloc (.cells #[.int .i64 ib] 3)) w5 := Save.of_grown hg5 (fun k e => e)
          have hge : ∀ k, (Value.slice oa acc.length oc).ownBlock = some k → w.heap.size + 3 ≤ k := fun k e => (World.ownsRow.lt R4.out.own k e).1
          have t4 := R4.out.top
          have n5 : w5.heap[w.heap.size + 2]? = some (.cells #[.int .i64 m, .slice oa acc.length oc] 24 (0, 0)) := (S5.block _ (by omega) (fun e => by have := hge _ e; omega)).trans R4.out.out
          have K5 : w5.heap[w.heap.size]? = wr.heap[w.heap.size]? ∧ w5.heap[lb]? = wr.heap[lb]? := ⟨(S5.block _ (by omega) (fun e => by have := hge _ e; omega)).trans (KR.out _ _ _ R4.out).1, (S5.block _ (by omega) (fun e => by have := hge _ e; omega)).trans (KR.out _ _ _ R4.out).2⟩
          obtain ⟨z0, z1, z2, z3⟩ := two_cells n5
          obtain ⟨va, vn, vc, hvv⟩ : ∃ a n c, v5 = .slice a n c := by
            rcases hv5.2 with ⟨e, _⟩ | ⟨g, cap, cur, e, _⟩
            · exact ⟨_, _, _, e⟩
            · exact ⟨_, _, _, e⟩
          subst hvv
          refine hK.out _ _ (KS.out _ K5) (fun _ => ?_)
          clear hK K hv5 hg5 S5 hge hv5' n5
          refine wpAnyH_ready (rs := [11]) (by kernel_rfl) (by simp) ?_
          refine AllReadyH.cons rfl ?_ AllReadyH.nil
          intro K hK
          go_simp
          refine hK.out _ _ (KS.out _ K5) (fun _ => ?_)
          clear hK K
          refine wpAnyH_ready (rs := [12]) (by kernel_rfl) (by simp) ?_
          refine AllReadyH.cons rfl ?_ AllReadyH.nil
          intro K hK
          go_simp
          refine hK.out _ _ (KS.out _ (KR.out _ _ _ R5.out)) (fun _ => ?_)
          clear hK K z0 z1 z2 z3 K5
          refine wpAnyH_done (by kernel_rfl) ?_ _
          refine NoPanic.normal ?_
          clear I1 KS KR Rd R4 c4
          go_wp2_with fail
          go_roundw
          case rel => exact ⟨i + 1, _, hlt, by go_num, R5⟩
          case measure => exact hmeas
        · intro K hK
          have R4 := hid (R3.out.below ((Below.refl _ _).alloc (Nat.le_refl _) (.cells #[.int .i64 ib] 3)))
          have c4 : (w3.alloc (.cells #[.int .i64 ib] 3)).cell? ⟨w3.heap.size, 0, none⟩ = some (.int .i64 ib) := (Boxed.new w3 3 (.int .i64 ib)).cell
          go_simp
          refine hK.out _ _ (KS.out _ (KR.out _ _ _ R4.out)) (fun _ => ?_)
          clear hK K
          refine wpAnyH_ready (rs := [1]) (by kernel_rfl) (by simp) ?_
          refine ready_load 17 ⟨w.heap.size + 2, 1, none⟩ (.slice oa acc.length oc) rfl rfl rfl rfl (two_cells R4.out.out).2.1 (KS.out _ (KR.out _ _ _ R4.out)) ?_ AllReadyH.nil
          refine wpAnyH_ready (rs := [10]) (by kernel_rfl) (by simp) ?_
          refine AllReadyH.cons rfl ?_ AllReadyH.nil
          intro K hK
          refine step_snocL rfl (.tmp 18) (.tmp 26) rfl rfl rfl R4.out.own c4 hl9 R4.out.top ?_
          intro v5 w5 hv5 hg5
          have hv5' : Own (w.heap.size + 3) w5 v5 ((l.take (i + 1)).map (image p)) := by rw [HMT.out]; exact hv5
          have R5 := hid (R4.out.grown hg5 hv5')
          have S5 : Save (fun k => (Value.slice oa acc.length oc).ownBlock = some k) (w3.alloc (.cells #[.int .i64 ib] 3)) w5 := Save.of_grown hg5 (fun k e => e)
          have hge : ∀ k, (Value.slice oa acc.length oc).ownBlock = some k → w.heap.size + 3 ≤ k := fun k e => (World.ownsRow.lt R4.out.own k e).1
          have t4 := R4.out.top
          have n5 : w5.heap[w.heap.size + 2]? = some (.cells #[.int .i64 m, .slice oa acc.length oc] 24 (0, 0)) := (S5.block _ (by omega) (fun e => by have := hge _ e; omega)).trans R4.out.out
          have K5 : w5.heap[w.heap.size]? = wr.heap[w.heap.size]? ∧ w5.heap[lb]? = wr.heap[lb]? := ⟨(S5.block _ (by omega) (fun e => by have := hge _ e; omega)).trans (KR.out _ _ _ R4.out).1, (S5.block _ (by omega) (fun e => by have := hge _ e; omega)).trans (KR.out _ _ _ R4.out).2⟩
          obtain ⟨z0, z1, z2, z3⟩ := two_cells n5
          obtain ⟨va, vn, vc, hvv⟩ : ∃ a n c, v5 = .slice a n c := by
            rcases hv5.2 with ⟨e, _⟩ | ⟨g, cap, cur, e, _⟩
            · exact ⟨_, _, _, e⟩
            · exact ⟨_, _, _, e⟩
          subst hvv
          refine hK.out _ _ (KS.out _ K5) (fun _ => ?_)
          clear hK K hv5 hg5 S5 hge hv5' n5
          refine wpAnyH_ready (rs := [11]) (by kernel_rfl) (by simp) ?_
          refine AllReadyH.cons rfl ?_ AllReadyH.nil
          intro K hK
          go_simp
          refine hK.out _ _ (KS.out _ K5) (fun _ => ?_)
          clear hK K
          refine wpAnyH_ready (rs := [12]) (by kernel_rfl) (by simp) ?_
          refine AllReadyH.cons rfl ?_ AllReadyH.nil
          intro K hK
          go_simp
          refine hK.out _ _ (KS.out _ (KR.out _ _ _ R5.out)) (fun _ => ?_)
          clear hK K z0 z1 z2 z3 K5
          refine wpAnyH_done (by kernel_rfl) ?_ _
          refine NoPanic.normal ?_
          clear I1 KS KR Rd R4 c4
          go_wp2_with fail
          go_roundw
          case rel => exact ⟨i + 1, _, hlt, by go_num, R5⟩
          case measure => exact hmeas
    · obtain rfl : i = l.length := by omega
      have hlt' : ¬ ((l.length : Nat) : Int) < ((l.length : Nat) : Int) := by omega
      rw [List.take_length] at RI
      have hl9 : (l.map (image p)).length ≤ 256 := by rw [List.length_map]; exact hll
      rw [HR.out] at HSO
      clear IM HLT HU HV HR
      generalize l.map (image p) = acc at *
      have SO := hid (Sort_own RI.out.own (by omega))
      obtain ⟨oa, oc, hvo⟩ := ownsRow_form' RI.out.own
      subst hvo
      go_wp2_with fail
      refine SO.out.mono ?_
      rintro e w3 ⟨rfl, L, hperm, hsort, ho3, -, hg3⟩
      have hL := HSO.out L hperm hsort
      subst hL
      have R3 := hid (RI.out.same hg3 ho3)
      clear SO hperm hsort ho3 hg3 RI HSO x0 x1 y0 y1 y2 y3
      obtain ⟨y0, y1⟩ := cells2 R3.out.out
      obtain ⟨k0, k1, k2, k3⟩ := two_cells R3.out.res
      have HC := hid (set_two (x := .int .i64 m) (y := .slice oa acc.length oc) R3.out.res)
      have HD := hid (below_two (b := w.heap.size + 1) (x := .int .i64 m) (y := .slice oa acc.length oc) R3.out.low (by omega))
      have HO := hid ((R3.out.own.set2 (b := w.heap.size + 1) (x := .int .i64 m) (y := .slice oa acc.length oc) (by omega)).mono (by omega : w.heap.size ≤ _))
      go_wp2_with fail
      obtain ⟨j0, j1⟩ := HC.out
      refine bodyPost_ret (v := .agg #[.int .i64 m, .slice oa acc.length oc]) ?_ rfl ⟨_, rfl, HO.out, HD.out⟩
      simp [results, Tryz.f9, go_sem, j0, j1]
end Go.Proofs.YthlmnhcnpffjdaaGreat
