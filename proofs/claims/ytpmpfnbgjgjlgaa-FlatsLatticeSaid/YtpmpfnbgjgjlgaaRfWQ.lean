/- rotaref.Unbroken. -/
import Derived.Test.YtpmpfnbgjgjlgaaFlGQ
import Derived.Test.YtpmpfnbgjgjlgaaRefAxDQ
import Derived.Test.YtpmpfnbgjgjlgaaQBelW
namespace Go.Proofs.Ytpmpfnbgjgjlgaa
open Go.RowKit

theorem sub_tz : ∀ c : Nat, c < 256 → 0 < c → c - 2 ^ tz c = rm c (tz c) ∧ 2 ^ tz c ≤ c := by decide +kernel
theorem sub_tzI {c : Nat} (h : c < 256) (h0 : 0 < c) : ∃ P : Nat, wrap64 (2 ^ tz c) = (P : Int) ∧ IntKind.i64.wrap (2 ^ tz c) = (P : Int) ∧ (c : Int) - (P : Int) = ((rm c (tz c) : Nat) : Int) ∧ P < 256 := by
  obtain ⟨t1, t2⟩ := sub_tz c h h0
  have t8 := tz_lt c h h0
  have e := (pow_wrap (tz c) (by omega)).1
  have p8 := pow_lt256 t8
  refine ⟨2 ^ tz c, e, by rw [IntWalk.i64_left]; exact e, ?_, p8⟩
  generalize 2 ^ tz c = P at *
  omega
theorem enters_unb1 : Enters 52 := fun args w => enters_of Try.func52 (by kernel_rfl) rfl args w
set_option maxRecDepth 20000 in
set_option maxHeartbeats 2000000 in
theorem unb1_ans {w : World} {b : Nat} {v : Value} {cs : List Nat} {T : Nat} (hT : T ≤ 256) (hcs : ∀ x ∈ cs, x < 256 ∧ 0 < x) (hlen : cs.length ≤ 256) (h1 : b < w.heap.size) (hc : w.cell? ⟨b, 0, none⟩ = some v) (hv : Ints w v (N cs)) :
    AnswersTo w.heap.size w 52 #[.pointer (some ⟨b, 0, none⟩)] T (fun s => cs.all fun c => !subB (rm c (tz c)) s) := by
  intro x hx w1 hb hs
  have d1 := (hb.cell (p := ⟨b, 0, none⟩) h1).trans hc
  have hv1 := hv.below hb
  obtain ⟨ca, cc, rfl, -, hcc⟩ := hv1.nats
  have hb1 : b < w1.heap.size := by have := hb.size; omega
  have HL : Hid (∀ k, k < cs.length → cs.getD k 0 < 256 ∧ 0 < cs.getD k 0) := fun k hk => hcs _ (by simp [List.getD, hk])
  obtain ⟨p, HP⟩ : ∃ p : Nat → Bool, Hid ((fun c => !subB (rm c (tz c)) x) = p) := ⟨_, rfl⟩
  have PX : Hid (∀ c, p c = !subB (rm c (tz c)) x) := fun c => by rw [← HP.out]
  have HE : Hid ((fun s => cs.all fun c => !subB (rm c (tz c)) s) x = cs.all p) := by show _ = _; rw [← HP.out]
  have HCC := hid hcc
  clear hv hc hcc hv1 hcs HP
  show Calls Try.prog 52 #[.int .i64 (x : Nat), .pointer (some ⟨b, 0, none⟩)] w1 _
  rw [HE.out]
  go_enter Try.func52, Try.ntmps52
  go_wp2_with fail
  go_loopw [4, 5] (fun i _ wr => ∃ k : Nat, k ≤ cs.length ∧ i = .int .i64 k ∧ Hid (cs.all p = (cs.drop k).all p) ∧ Hid (Below w1.heap.size w1 wr)) (fun i _ _ => cs.length - (intOf i).toNat)
  case atStart => exact ⟨0, Nat.zero_le _, rfl, rfl, Below.refl _ _⟩
  case round =>
    obtain ⟨k, hk, rfl, HA, HW⟩ := hrel
    have y0 := (HW.out.cell (p := ⟨b, 0, none⟩) hb1).trans d1
    by_cases hlt : k < cs.length
    · obtain ⟨cb, co, rfl, hcb, hcell⟩ := HCC.out (by omega)
      have z1 := (HW.out.cell (p := ⟨cb, co + k, none⟩) hcb).trans (hcell k hlt)
      obtain ⟨l1, l2⟩ := HL.out k hlt
      have PK := hid (PX.out (cs.getD k 0))
      have AD := hid (all_drop (p := p) hlt)
      have EL := hid (Elements_any (cs.getD k 0) wr l1)
      have ES := hid (els_step _ l1 l2)
      have t8 := tz_lt _ l1 l2
      obtain ⟨P, HPP⟩ : ∃ P : Nat, Hid (wrap64 (2 ^ tz (cs.getD k 0)) = (P : Int) ∧ IntKind.i64.wrap (2 ^ tz (cs.getD k 0)) = (P : Int) ∧ (cs.getD k 0 : Int) - (P : Int) = ((rm (cs.getD k 0) (tz (cs.getD k 0)) : Nat) : Int) ∧ P < 256) := sub_tzI l1 l2
      have hms : cs.length - (k + 1) < cs.length - k := by omega
      have hkn : k + 1 ≤ cs.length := hlt
      have r8 := bc_lt l1
      have WI := hid (fun w => Within_any (rm (cs.getD k 0) (tz (cs.getD k 0))) x w r8 (by omega))
      have htn : ¬ (tz (cs.getD k 0) : Int) < 0 := by omega
      have t6 : (tz (cs.getD k 0)) < 64 := by omega
      have hlb : 0 < (els (cs.getD k 0)).length := by rw [ES.out]; simp
      have hgz : (els (cs.getD k 0)).getD 0 0 = tz (cs.getD k 0) := by rw [ES.out]; rfl
      have hl8 : (els (cs.getD k 0)).length ≤ 8 := by have := pop_le _ l1; rw [pop_els] at this; exact this
      have CE : Hid (∀ w', Below wr.heap.size wr w' → w'.cell? ⟨b, 0, none⟩ = some (.slice (some ⟨cb, co, none⟩) cs.length cc) ∧ w'.cell? ⟨cb, co + k, none⟩ = some (.int .i64 (cs.getD k 0 : Nat))) := fun w' hb' => ⟨((HW.out.trans (hb'.mono HW.out.size)).cell (p := ⟨b, 0, none⟩) hb1).trans d1, ((HW.out.trans (hb'.mono HW.out.size)).cell (p := ⟨cb, co + k, none⟩) hcb).trans (hcell k hlt)⟩
      clear hcell PX ES
      generalize rm (cs.getD k 0) (tz (cs.getD k 0)) = bc at *
      generalize hek : els (cs.getD k 0) = ek at *
      clear hek
      generalize tz (cs.getD k 0) = tk at *
      generalize cs.getD k 0 = ck at *
      generalize subB bc x = sb at *
      go_wp2_with fail
      refine EL.out.mono ?_
      rintro e w3 ⟨ev, rfl, ho3, hb3⟩
      obtain ⟨y3, z3⟩ := CE.out w3 hb3
      obtain ⟨ea, ec, he3, -, hec⟩ := (ho3.ints (by omega)).nats
      subst he3
      obtain ⟨eb, eo, rfl, heb, hecell⟩ := hec (by omega)
      have e0 := hecell 0 (by omega)
      rw [hgz, Nat.add_zero] at e0
      have hl0 : (0 : Int) < (ek.length : Int) := by omega
      have HB3 := hid (HW.out.trans (hb3.mono HW.out.size))
      have HD := hid (fun m => HB3.out.trans (drewN_below _ _ m))
      clear hecell hec ho3 hb3 EL CE hgz
      generalize ek.length = E at *
      cases sb
      · have HA2 : Hid (cs.all p = (cs.drop (k + 1)).all p) := by show _ = _; rw [HA.out, AD.out, PK.out]; rfl
        clear AD PK
        obtain ⟨hpw, hpw2, hsb, hP8⟩ := HPP.out
        go_wp2_with fail
        go_quiet ((go_at_call 38; refine (WI.out _).mono ?_; rintro e w' ⟨rfl, rfl⟩; exact ⟨rfl, _, rfl⟩))
        clear hpw hpw2 hsb hP8
        go_wp2_with fail
        go_roundw
        case rel => exact ⟨k + 1, hkn, by go_num, HA2.out, HD.out _⟩
        case measure => simp [intOf]; omega
      · have HA2 : Hid (cs.all p = false) := by show _ = _; rw [HA.out, AD.out, PK.out]; rfl
        clear AD PK
        obtain ⟨hpw, hpw2, hsb, hP8⟩ := HPP.out
        go_wp2_with fail
        go_quiet ((go_at_call 38; refine (WI.out _).mono ?_; rintro e w' ⟨rfl, rfl⟩; exact ⟨rfl, _, rfl⟩))
        clear hpw hpw2 hsb hP8
        go_wp2_with fail
        go_ret
        exact ⟨ret_bool HA2.out.symm, HD.out _⟩
    · obtain rfl : k = cs.length := by omega
      have HA2 : Hid (cs.all p = true) := by show _ = _; rw [HA.out, List.drop_length]; rfl
      go_wp2_with fail
      go_ret
      exact ⟨ret_bool HA2.out.symm, HW.out⟩
set_option maxHeartbeats 1000000 in
theorem Unbroken_ref (m : Nat) (v : Value) (l : List Nat) (w : World) (hm : m ≤ 8) (hf : Fam m l) (hb : Bas l) (h : Ints w v (N l)) :
    Calls Try.prog 19 #[.agg #[.int .i64 m, v]] w fun e w' => ∃ u, e = .returned u ∧ Own w.heap.size w' u ((List.range (2 ^ m)).filter (unbB (rk l) m)) ∧ Below w.heap.size w w' := by
  have HI := hid h
  obtain ⟨a, cap, hv, -, -⟩ := h.nats
  subst hv
  have HB0 := hid (below_box w #[.int .i64 m, .slice a l.length cap])
  have HC := hid (Circ_ref m _ l _ hm (hf.lt256 hm) (HI.out.below HB0.out))
  rw [cir_eq hm hb] at HC
  have HP := hid (cir_pos hm hb)
  have hlen : ((List.range (2 ^ m)).filter (cirB (rk l))).length ≤ 256 := Nat.le_trans (Nat.le_trans (List.length_filter_le _ _) (by simp)) (pow_wrap m hm).2
  have hT := (pow_wrap m hm).2
  obtain ⟨ans, HA⟩ : ∃ ans, Hid ((List.range (2 ^ m)).filter (unbB (rk l) m) = ans) := ⟨_, rfl⟩
  rw [HA.out]
  have HA2 : Hid ((List.range (2 ^ m)).filter (fun s => ((List.range (2 ^ m)).filter (cirB (rk l))).all fun c => !subB (rm c (tz c)) s) = ans) := HA
  clear HA
  generalize (List.range (2 ^ m)).filter (cirB (rk l)) = cs at *
  go_enter Try.func19, Try.ntmps19
  go_wp2_with fail
  refine HC.out.mono ?_
  rintro e w2 ⟨r, rfl, ho, hb2⟩
  obtain ⟨x0, x1⟩ := box_cells hb2
  have HB := hid (HB0.out.trans (hb2.mono HB0.out.size))
  have hs2 : w.heap.size + 1 ≤ w2.heap.size := by have := hb2.size; simpa using this
  have hb4 : Below w2.heap.size w2 (w2.alloc (.cells #[r] 22)) := (Below.refl _ _).alloc (Nat.le_refl _) _
  have x4 := (hb4.cell (p := ⟨w.heap.size, 0, none⟩) (by show w.heap.size < _; omega)).trans x0
  have hsz : (w2.alloc (.cells #[r] 22)).heap.size = w2.heap.size + 1 := World.size_alloc ..
  have AN := unb1_ans (w := w2.alloc (.cells #[r] 22)) (b := w2.heap.size) (v := r) (cs := cs) (T := 2 ^ m) hT HP.out hlen (by omega) (Boxed.new w2 22 r).cell ((ho.below hb4).ints (by omega))
  have SV := hid (Those_any m 52 #[.pointer (some ⟨w2.heap.size, 0, none⟩)] _ _ hm enters_unb1 AN)
  rw [HA2.out] at SV
  have HB4 := hid (HB.out.trans (hb4.mono HB.out.size))
  obtain ⟨ra, rcap, hr⟩ := ho.form
  subst hr
  clear hb2 hb4 ho AN HC
  go_wp2_with fail
  refine SV.out.mono ?_
  rintro e w5 ⟨q, rfl, ho5, hb5⟩
  have HB5 := hid (HB4.out.trans (hb5.mono HB4.out.size))
  have HO5 := hid (ho5.mono HB4.out.size)
  clear hb5 ho5
  go_wp2_with fail
  go_ret
  exact ⟨_, rfl, HO5.out, HB5.out⟩
end Go.Proofs.Ytpmpfnbgjgjlgaa
