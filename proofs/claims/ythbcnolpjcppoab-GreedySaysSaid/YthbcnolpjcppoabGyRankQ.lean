/- rotaref.Ranked. -/
import Derived.Test.YthbcnolpjcppoabGyInsQ
namespace Go.Proofs.Ythbcnolpjcppoab
open Go.RowKit

theorem below_dq {B : Nat} {w w' : World} (h : Below B w w') : ∀ q, Below B w (w'.drewN q)
  | 0 => h
  | q + 1 => (below_dq h q).drew
theorem ins_step (B : Nat) (u : Value) (o : List Nat) (t k q : Nat) (wi : World) (hO : Own B wi u o) (hB : B ≤ wi.heap.size) (ht : t ≤ o.length) (hl : o.length ≤ 8) :
    Calls Try.prog 71 #[u, .int .i64 t, .slice (some ⟨wi.heap.size, 0, none⟩) 1 1] ((wi.drewN q).alloc (.cells #[.int .i64 (k : Nat)] 3)) fun e w' => ∃ r, e = .returned r ∧ Own B w' r (insV o t k) ∧ Below B wi w' := by
  have hs : (wi.drewN q).heap.size = wi.heap.size := rfl
  have hb : Below wi.heap.size wi ((wi.drewN q).alloc (.cells #[.int .i64 (k : Nat)] 3)) := (below_dq (Below.refl _ _) q).alloc (Nat.le_refl _) _
  have hb2 : Below B wi ((wi.drewN q).alloc (.cells #[.int .i64 (k : Nat)] 3)) := hb.mono hB
  refine (insert_any B u o t k wi.heap.size _ (hO.below hb) (Nat.le_trans hB hb.size) ht (by omega) 3 (World.alloc_heap_new (wi.drewN q) _) fun h => ?_).mono ?_
  · have := (World.ownsRow.lt hO _ h).2
    omega
  · rintro e w' ⟨r, rfl, h1, h2⟩
    exact ⟨r, rfl, h1, hb2.trans h2⟩
set_option maxRecDepth 20000 in
set_option maxHeartbeats 2000000 in
theorem Ranked_any (v : Value) (ws : List Int) (w : World) (h : Ints w v ws) (hn : ws.length ≤ 8) :
    Calls Try.prog 21 #[v] w fun e w' => ∃ r, e = .returned r ∧ Own w.heap.size w' r (hvO ws) ∧ Below w.heap.size w w' := by
  obtain ⟨a, cap, rfl, hl, hc⟩ := h
  have HC := hid hc
  clear hc
  obtain ⟨F, HF⟩ : ∃ F : Nat → Int, Hid (∀ k, ws.getD k 0 = F k) := ⟨fun k => ws.getD k 0, fun k => rfl⟩
  have HFIN : Hid (∀ o, ByW ws.length F o → hvO ws = o) := fun o ho => by
    have h0 := hvO_by ws
    rw [show (fun i => ws.getD i 0) = F from funext HF.out] at h0
    exact h0.unique ho
  obtain ⟨n, HN⟩ : ∃ n, Hid (ws.length = n) := ⟨ws.length, Eq.refl ws.length⟩
  rw [HN.out] at HFIN HC hn hl ⊢
  go_enter Try.func21, Try.ntmps21
  go_wp2_with fail
  go_loopw [3, 4] (fun u i wr => ∃ (k : Nat) (o : List Nat), k ≤ n ∧ i = .int .i64 k ∧ Hid (Own w.heap.size wr u o) ∧ Hid (ByW k F o) ∧ o.length = k ∧ Hid (Below w.heap.size w wr)) (fun _ i _ => n - (intOf i).toNat)
  case atStart => exact ⟨0, [], Nat.zero_le _, rfl, Own.nil _ _, byw_nil F, rfl, Below.refl _ _⟩
  case round =>
    obtain ⟨k, o, hk, rfl, HO, HBY, hol, HW⟩ := hrel
    obtain ⟨oa, oc, hform⟩ := HO.out.form
    subst hform
    have hsz := HW.out.size
    have HOL := hid hol
    have hol8 : o.length ≤ 8 := by omega
    clear hol
    by_cases hlt : k < n
    · have hki : (k : Int) < (n : Int) := by omega
      obtain ⟨b, off, rfl, hb, hcell⟩ := HC.out (by omega)
      have HCE : Hid (∀ i, i < n → wr.cell? ⟨b, off + i, none⟩ = some (.int .i64 (F i))) := fun i hi => by
        rw [← HF.out]; exact (HW.out.cell (p := ⟨b, off + i, none⟩) hb).trans (hcell i hi)
      have HCO : Hid (0 < o.length → ∃ ob ooff, oa = some ⟨ob, ooff, none⟩ ∧ ob < wr.heap.size ∧ ∀ i, i < o.length → wr.cell? ⟨ob, ooff + i, none⟩ = some (.int .i64 (o.getD i 0 : Nat))) := by
        obtain ⟨oa', oc', he, _, hco⟩ := (HO.out.ints (by omega)).nats
        injection he with h1 h2 h3
        subst h1
        exact hco
      clear hcell
      go_wp2_with fail
      go_loopw [5] (fun j wi => ∃ t : Nat, t ≤ o.length ∧ j = .int .i64 t ∧ Hid (Below wr.heap.size wr wi) ∧ Hid (∀ s, s < t → F k ≤ F (o.getD s 0))) (fun j _ => o.length - (intOf j).toNat)
      case atStart => exact ⟨0, Nat.zero_le _, rfl, Below.refl _ _, fun s hs => absurd hs (Nat.not_lt_zero s)⟩
      case round =>
      obtain ⟨t, ht, rfl, HI, HG⟩ := hrel
      have hcK := (HI.out.cell (p := ⟨b, off + k, none⟩) (by show b < _; omega)).trans (HCE.out k hlt)
      by_cases htl : t < o.length
      · have hti : (t : Int) < (o.length : Int) := by omega
        obtain ⟨ob, ooff, rfl, hob, hoc⟩ := HCO.out (by omega)
        have hct := (HI.out.cell (p := ⟨ob, ooff + t, none⟩) hob).trans (hoc t htl)
        have hxn : o.getD t 0 < n := by have := HBY.out.beg.at htl; omega
        have hcX := (HI.out.cell (p := ⟨b, off + o.getD t 0, none⟩) (by show b < _; omega)).trans (HCE.out _ hxn)
        have HB2 : Hid (F (o.getD t 0) < F k → ByW (k + 1) F (insV o t k)) := fun hlt2 => byw_ins HBY.out HG.out fun _ => hlt2
        have HG2 : Hid (F k ≤ F (o.getD t 0) → ∀ s, s < t + 1 → F k ≤ F (o.getD s 0)) := fun h9 s hs => by
          by_cases e : s = t
          · subst e; exact h9
          · exact HG.out s (by omega)
        have hxi : ((o.getD t 0 : Nat) : Int) < (n : Int) := by omega
        clear hoc hob
        generalize o.getD t 0 = x at *
        generalize hFx : F x = fx at *
        generalize hFk : F k = fk at *
        clear hFx hFk
        by_cases hge : fk ≤ fx
        · have HG3 := hid (HG2.out hge)
          have hd : decide (fk ≤ fx) = true := by simp [hge]
          go_wp2_with fail
          go_quiet (fail)
          go_wp2_with fail
          go_roundw
          case rel => exact ⟨t + 1, by omega, by go_num, below_dq HI.out _, HG3.out⟩
          case measure => simp [intOf]; omega
        · have HB3 := hid (HB2.out (by omega))
          have hd : decide (fk ≤ fx) = false := by simp; omega
          go_wp2_with fail
          go_quiet (fail)
          go_wp2_with fail
          refine (ins_step w.heap.size _ o t k _ wr (HO.out.below HI.out) (Nat.le_trans hsz HI.out.size) ht hol8).mono ?_
          rintro e w5 ⟨r5, rfl, ho5, hb5⟩
          have HO5 := hid ho5
          have HB5 := hid (HW.out.trans ((HI.out.mono hsz).trans hb5))
          obtain ⟨ra, rc, hrf⟩ := ho5.form
          subst hrf
          clear ho5 hb5
          go_wp2_with fail
          go_roundw
          case rel => exact ⟨k + 1, insV o t k, by omega, by go_num, HO5, HB3, by rw [insV_len ht, HOL.out], HB5⟩
          case measure => simp [intOf]; omega
      · obtain rfl : t = o.length := by omega
        have HB3 : Hid (ByW (k + 1) F (insV o o.length k)) := byw_ins HBY.out HG.out fun h => by omega
        go_wp2_with fail
        go_quiet (fail)
        go_wp2_with fail
        refine (ins_step w.heap.size _ o o.length k _ wr (HO.out.below HI.out) (Nat.le_trans hsz HI.out.size) ht hol8).mono ?_
        rintro e w5 ⟨r5, rfl, ho5, hb5⟩
        have HO5 := hid ho5
        have HB5 := hid (HW.out.trans ((HI.out.mono hsz).trans hb5))
        obtain ⟨ra, rc, hrf⟩ := ho5.form
        subst hrf
        clear ho5 hb5
        go_wp2_with fail
        go_roundw
        case rel => exact ⟨k + 1, insV o o.length k, by omega, by go_num, HO5, HB3, by rw [insV_len ht, HOL.out], HB5⟩
        case measure => simp [intOf]; omega
    · obtain rfl : k = n := by omega
      go_wp2_with fail
      go_ret
      refine ⟨_, rfl, ?_, HW.out⟩
      rw [HFIN.out _ HBY.out]
      exact HO.out
end Go.Proofs.Ythbcnolpjcppoab
