/- rotaref.Linear, and what the law's own function tells. -/
import Derived.Test.YtihddkdkhdallaaKsBQ
import Derived.Test.YtihddkdkhdallaaRefGrQ
import Derived.Test.YtihddkdkhdallaaPlainAll
import Derived.Test.YtihddkdkhdallaaUnifW
namespace Go.Proofs.Ytihddkdkhdallaa
open Go.RowKit

theorem hng_basR {p : Int} {c : Nat} {R : List (List Int)} (hm : MatOK p c R) : basR c (hngN p R) = bigL c (fun s => linB p R c s) := by
  have hc8 := hm.c8'
  rw [lin_basR hm.pr (fun j i => mtF_inK hm j i) hc8]
  have h1 : ∀ s, s < 2 ^ c → hngN p R s = depR c (depC p (mtF R)) s := fun s hs => hang_rank hm.pr hc8 hs hm.rl (fun j r hr => mtF_out j r hr) (fun j r => mtF_inK hm j r)
  unfold basR
  refine List.filter_congr fun s hs => ?_
  rw [h1 s (List.mem_range.1 hs), h1 _ (Nat.sub_lt (Nat.two_pow_pos _) (by decide))]
set_option maxRecDepth 20000 in
set_option maxHeartbeats 1600000 in
theorem RLinear_ok (p : Int) (c : Nat) (v : Value) (R : List (List Int)) (w : World) (hm : MatOK p c R) (h : RowsI w v R) :
    Calls Try.prog 11 #[.agg #[.int .i64 p, .int .i64 c, v]] w fun e w' => ∃ r, e = .returned (.agg #[.int .i64 c, r]) ∧ Own w.heap.size w' r (bigL c fun s => linB p R c s) ∧ Below w.heap.size w w' := by
  have HI := hid h
  have HM := hid hm
  have hc8 := hm.c8'
  have HA := hid (hng_basR hm)
  obtain ⟨a, cap, hv⟩ := h.form
  subst hv
  clear h hm
  have hmf : ∀ (fn : Fn) (first cap : Array Value) (w : World), (Instr.makeFunc fn first cap).run Try.prog w = .ok (.func fn first cap) w := fun _ _ _ _ => rfl
  have HB0 : Hid (Below w.heap.size w ((w.alloc (.cells #[.int .i64 p, .int .i64 c, .slice a R.length cap] 27)).alloc (.cells #[.int .i64 0, .slice none 0 0] 34))) := ((Below.refl _ _).alloc (Nat.le_refl _) _).alloc (by simp) _
  have HX := hid (slotM (w := w) (p := p) (c := c) (v := .slice a R.length cap))
  have HSZ : Hid (((w.alloc (.cells #[.int .i64 p, .int .i64 c, .slice a R.length cap] 27)).alloc (.cells #[.int .i64 0, .slice none 0 0] 34)).heap.size = w.heap.size + 2) := by show _ = _; simp
  have OR := hid (fun W0 (hb0 : Below w.heap.size w W0) (hx0 : W0.heap[w.heap.size]? = some (.cells #[.int .i64 p, .int .i64 c, .slice a R.length cap] 27 (0, 0))) => OfRank_any c 25 #[.pointer (some ⟨w.heap.size, 0, none⟩)] (hngN p R) W0 hc8 (fun args w => enters_of Try.func25 (by kernel_rfl) rfl args w)
    (fun x hx w3 hb3 _ => RLinQ_ok x w.heap.size p c _ R w3 hx HM.out ((hb3.block _ (Array.getElem?_eq_some_iff.1 hx0).1).trans hx0) ((HI.out.below hb0).below hb3)))
  rw [HA.out] at OR
  generalize (bigL c fun s => linB p R c s) = acc at *
  have x1 := (three_cells HX.out.1).2.1
  go_enter Try.func11, Try.ntmps11
  go_wp2_with fail
  have OR0 := hid (OR.out _ HB0.out HX.out.1)
  clear OR x1
  refine OR0.out.mono ?_
  clear OR0
  revert HB0 HX HSZ
  generalize ((w.alloc (.cells #[.int .i64 p, .int .i64 c, .slice a R.length cap] 27)).alloc (.cells #[.int .i64 0, .slice none 0 0] 34)) = W0
  intro HB0 HX HSZ
  rintro e w4 ⟨r4, rfl, hr4, hb4⟩
  have hsz := HSZ.out
  obtain ⟨ra, rc, hr⟩ := ownsRow_form' hr4
  subst hr
  have hxx := (hb4.block (w.heap.size + 1) (by omega)).trans HX.out.2
  obtain ⟨y2, y3, g2, g3⟩ := two_cells hxx
  have HC := hid (set_two (x := .int .i64 c) (y := .slice ra acc.length rc) hxx)
  have HB4 := hid (HB0.out.trans (hb4.mono HB0.out.size))
  have HD := hid (below_two (b := w.heap.size + 1) (x := .int .i64 c) (y := .slice ra acc.length rc) HB4.out (by omega))
  have HII := hid ((hr4.set2 (b := w.heap.size + 1) (x := .int .i64 c) (y := .slice ra acc.length rc) (by omega)).mono (by omega : w.heap.size ≤ _))
  clear hb4 hr4 hxx
  go_wp2_with fail
  obtain ⟨c0, c1⟩ := HC.out
  refine bodyPost_ret (v := .agg #[.int .i64 c, .slice ra _ rc]) ?_ rfl ⟨_, rfl, HII.out, HD.out⟩
  simp [results, Try.f11, go_sem, c0, c1]
theorem gr_isl {n : Nat} {F : List (Int × Int)} (h : graphR n F = 0) : islL n (natE F) = bigL F.length (fun s => !ringB (natE F) s) := by
  have h1 : 1 ≤ (n : Int) ∧ (n : Int) ≤ 7 ∧ F.length ≤ 8 ∧ F.all (edgeB n) = true := by
    unfold graphR at h
    split at h
    · assumption
    · cases h
  have hE : ∀ j, j < (natE F).length → ea (natE F) j < n ∧ eb (natE F) j < n := fun j hj => by
    rw [natE_len] at hj
    have hb := edge_in h1.2.2.2 hj
    unfold ea eb
    rw [natE_at hj]
    show (F.getD j (0, 0)).1.toNat < n ∧ (F.getD j (0, 0)).2.toNat < n
    omega
  have h2 := graph_basR (E := natE F) (by rw [natE_len]; exact h1.2.2.1) (natE_lt h1.2.1 h1.2.2.2)
  rw [natE_len] at h2
  rw [h2]
  unfold islL
  rw [isle_basR hE, natE_len]
theorem uni_min : ∀ n : Nat, n < 9 → ∀ k : Nat, k < n + 1 → basR n (fun s => min k (pop s)) = uniL n k := by decide +kernel
set_option maxRecDepth 20000 in
set_option maxHeartbeats 1600000 in
theorem KsQ_ok (s bx k : Nat) (w : World) (hs : s < 256) (hbx : w.cell? ⟨bx, 0, none⟩ = some (.int .i64 k)) :
    Calls Try.prog 8 #[.int .i64 s, .pointer (some ⟨bx, 0, none⟩)] w fun e w' => e = .returned (.int .i64 (min k (pop s) : Nat)) ∧ Below w.heap.size w w' := by
  have SZ := hid (fun W => Size_any s W hs)
  have hp8 := pop_le s hs
  go_enter Try.func8, Try.ntmps8
  go_wp2_with fail
  go_region_held3 (fun W => W.cell? ⟨bx, 0, none⟩ = some (.int .i64 k)) (go_keep) ((go_at_call 9; refine (SZ.out _).mono ?_; rintro e w3 ⟨rfl, hb3⟩; have K3 := hid hb3; have c3 := (hb3.cell (p := ⟨bx, 0, none⟩) (World.block_lt_of_cell? _ _ hbx)).trans hbx; clear hb3))
  all_goals go_wp2_with fail
  all_goals go_ret
  all_goals exact ⟨ret_int (by omega), ((Below.refl w.heap.size w).drew).trans K3.out⟩
end Go.Proofs.Ytihddkdkhdallaa
