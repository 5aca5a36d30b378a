/- flats.Broken. -/
import Derived.Test.YtpmpfnbgjgjlgaaFlFQ
namespace Go.Proofs.Ytpmpfnbgjgjlgaa
open Go.RowKit

theorem unb_brk (r : Nat → Nat) (n s : Nat) : (!(brkL ((List.range (2 ^ n)).filter (cirB r))).any fun c => subB c s) = unbB r n s := by
  unfold brkL unbB
  rw [List.any_map, List.not_any_eq_all_not]
  rfl
theorem cir_pos {m : Nat} {l : List Nat} (hm : m ≤ 8) (hb : Bas l) : ∀ s ∈ (List.range (2 ^ m)).filter (cirB (rk l)), s < 256 ∧ 0 < s := fun s hs => by
  rw [List.mem_filter, List.mem_range] at hs
  have h8 := lt256 hm hs.1
  refine ⟨h8, Nat.pos_of_ne_zero (hb.rk.cir_ne ((cir_iff h8).1 hs.2).2)⟩
theorem brk_lt {l : List Nat} (h : ∀ s ∈ l, s < 256 ∧ 0 < s) : ∀ s ∈ brkL l, s < 256 := fun s hs => by
  unfold brkL at hs
  rw [List.mem_map] at hs
  obtain ⟨c, hc, rfl⟩ := hs
  exact bc_lt (h c hc).1
theorem enters_brk1 : Enters 60 := fun args w => enters_of Try.func60 (by kernel_rfl) rfl args w
theorem brk1_ans {w : World} {b : Nat} {v : Value} {bl : List Nat} {T : Nat} (hT : T ≤ 256) (hbl : ∀ x ∈ bl, x < 256) (h1 : b < w.heap.size) (hc : w.cell? ⟨b, 0, none⟩ = some v) (hv : Ints w v (N bl)) :
    AnswersTo w.heap.size w 60 #[.pointer (some ⟨b, 0, none⟩)] T (fun s => !bl.any fun c => subB c s) := by
  intro x hx w1 hb hs
  have d1 := (hb.cell (p := ⟨b, 0, none⟩) h1).trans hc
  have HO := hid (hasOne_any v bl x w1 (by omega) hbl (hv.below hb))
  obtain ⟨a, cap, rfl, _, _⟩ := hv
  obtain ⟨ans, HA⟩ : ∃ ans, Hid ((bl.any fun c => subB c x) = ans) := ⟨_, rfl⟩
  rw [HA.out] at HO
  show Calls Try.prog 60 #[.int .i64 (x : Nat), .pointer (some ⟨b, 0, none⟩)] w1 _
  go_enter Try.func60, Try.ntmps60
  go_wp2_with fail
  refine HO.out.mono ?_
  rintro e w2 ⟨rfl, hb2⟩
  have HB := hid hb2
  clear hb2
  go_wp2_with fail
  go_ret
  exact ⟨ret_bool (by show (!ans) = !(bl.any fun c => subB c x); rw [HA.out]), HB.out⟩
theorem Broken_bad (n : Int) (v : Value) (zs : List Int) (w : World) (h : Ints w v zs) (hc : chkR n zs ≠ 0) :
    Calls Try.prog 26 #[.agg #[.int .i64 n, v]] w fun e w' => e = .returned (.tuple #[.slice none 0 0, .int .i64 (chkR n zs)]) ∧ Below w.heap.size w w' := by
  have HI := hid h
  obtain ⟨a, cap, rfl, _, _⟩ := h
  have HB0 := hid (below_box w #[.int .i64 n, .slice a zs.length cap])
  have HC := hid (Circuits_bad n _ zs _ (HI.out.below HB0.out) hc)
  generalize chkR n zs = q at *
  have hc' : (q == 0) = false := by rw [beq_eq_false_iff_ne]; exact hc
  go_enter Try.func26, Try.ntmps26
  go_wp2_with fail
  refine HC.out.mono ?_
  rintro e w2 ⟨rfl, hb2⟩
  have HB := hid (HB0.out.trans (hb2.mono HB0.out.size))
  clear hb2
  go_wp2_with fail
  go_ret2
  exact ⟨rfl, HB.out⟩
set_option maxHeartbeats 1000000 in
theorem Broken_ok (m : Nat) (v : Value) (l : List Nat) (w : World) (hm : m ≤ 8) (hf : Fam m l) (hb : Bas l) (h : Ints w v (N l)) :
    Calls Try.prog 26 #[.agg #[.int .i64 m, v]] w fun e w' => ∃ u, e = .returned (.tuple #[u, .int .i64 0]) ∧ Own w.heap.size w' u ((List.range (2 ^ m)).filter (unbB (rk l) m)) ∧ Below w.heap.size w w' := by
  have HI := hid h
  obtain ⟨a, cap, hv, -, -⟩ := h.nats
  subst hv
  have HB0 := hid (below_box w #[.int .i64 m, .slice a l.length cap])
  have HC := hid (Circuits_ok m _ l _ hm hf hb (HI.out.below HB0.out))
  have HP := hid (cir_pos hm hb)
  have hlen : ((List.range (2 ^ m)).filter (cirB (rk l))).length ≤ 256 := Nat.le_trans (Nat.le_trans (List.length_filter_le _ _) (by simp)) (pow_wrap m hm).2
  have HE : Hid ((fun s => !(brkL ((List.range (2 ^ m)).filter (cirB (rk l)))).any fun c => subB c s) = unbB (rk l) m) := funext fun s => unb_brk (rk l) m s
  have hT := (pow_wrap m hm).2
  obtain ⟨ans, HA⟩ : ∃ ans, Hid ((List.range (2 ^ m)).filter (unbB (rk l) m) = ans) := ⟨_, rfl⟩
  rw [HA.out]
  rw [← HE.out] at HA
  clear HE
  generalize (List.range (2 ^ m)).filter (cirB (rk l)) = cs at *
  go_enter Try.func26, Try.ntmps26
  go_wp2_with fail
  refine HC.out.mono ?_
  rintro e w2 ⟨r, rfl, ho, hb2⟩
  obtain ⟨x0, x1⟩ := box_cells hb2
  have HB := hid (HB0.out.trans (hb2.mono HB0.out.size))
  have hs2 : w.heap.size + 1 ≤ w2.heap.size := by have := hb2.size; simpa using this
  have WL := hid (withoutLeastF_any r cs w2 HP.out hlen (ho.ints (by omega)))
  obtain ⟨ra, rcap, hr⟩ := ho.form
  subst hr
  clear hb2 ho HC
  go_wp2_with fail
  refine WL.out.mono ?_
  rintro e w3 ⟨u, rfl, ho3, hb3⟩
  have x3 := (hb3.cell (p := ⟨w.heap.size, 0, none⟩) (by show w.heap.size < _; omega)).trans x0
  have hs3 := hb3.size
  have HB3 := hid (HB.out.trans (hb3.mono HB.out.size))
  have hb4 : Below w3.heap.size w3 (w3.alloc (.cells #[u] 22)) := (Below.refl _ _).alloc (Nat.le_refl _) _
  have x4 := (hb4.cell (p := ⟨w.heap.size, 0, none⟩) (by show w.heap.size < _; omega)).trans x3
  have hsz : (w3.alloc (.cells #[u] 22)).heap.size = w3.heap.size + 1 := World.size_alloc ..
  have AN := brk1_ans (w := w3.alloc (.cells #[u] 22)) (b := w3.heap.size) (v := u) (bl := brkL cs) (T := 2 ^ m) hT (brk_lt HP.out) (by omega) (Boxed.new w3 22 u).cell ((ho3.below hb4).ints (by rw [brk_len]; omega))
  have SV := hid (Sieve_any m 60 #[.pointer (some ⟨w3.heap.size, 0, none⟩)] _ _ hm enters_brk1 AN)
  have HB4 := hid (HB3.out.trans (hb4.mono HB3.out.size))
  obtain ⟨ua, ucap, hu⟩ := ho3.form
  subst hu
  clear hb3 hb4 AN ho3 WL
  rw [HA.out] at SV
  generalize (brkL cs).length = bl at *
  go_wp2_with fail
  refine SV.out.mono ?_
  rintro e w5 ⟨q, rfl, ho5, hb5⟩
  have HB5 := hid (HB4.out.trans (hb5.mono HB4.out.size))
  have HO5 := hid (ho5.mono HB4.out.size)
  clear hb5 ho5
  go_wp2_with fail
  go_ret2
  exact ⟨_, rfl, HO5.out, HB5.out⟩
end Go.Proofs.Ytpmpfnbgjgjlgaa
