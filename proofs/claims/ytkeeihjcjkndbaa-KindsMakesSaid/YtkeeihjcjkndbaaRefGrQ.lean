/- rotaref.Graphic. -/
import Derived.Test.YtkeeihjcjkndbaaRefIsleQ
import Derived.Test.YtkeeihjcjkndbaaRefMinQ
import Derived.Test.YtkeeihjcjkndbaaKGraphQ
namespace Go.Proofs.Ytkeeihjcjkndbaa
open Go.RowKit

set_option maxHeartbeats 800000 in
theorem RGraphQ_ok (s b n : Nat) (v : Value) (E : List (Nat × Nat)) (w : World) (hs : s < 256) (hn0 : 1 ≤ n) (hn : n ≤ 7) (hE : ∀ j, j < E.length → ea E j < n ∧ eb E j < n) (hb : w.heap[b]? = some (.cells #[.int .i64 n, v] 48 (0, 0))) (h : EdgesAt w v E) :
    Calls Try.prog 42 #[.int .i64 s, .pointer (some ⟨b, 0, none⟩)] w fun e w' => e = .returned (.int .i64 (n - isleN n E s : Nat)) ∧ Below w.heap.size w w' := by
  have HI := hid (fun x : Later w => Isle_any n v E s x.now hn0 hn hs hE (h.below x.kept))
  obtain ⟨a, cap, rfl, _, _⟩ := h
  have HBX : Hid (∀ x : Later w, x.now.cell? ⟨b, 0, none⟩ = some (.int .i64 n) ∧ x.now.cell? ⟨b, 1, none⟩ = some (.slice a E.length cap)) := fun x => by
    obtain ⟨q0, q1, _, _⟩ := two_cells ((x.kept.block b (Array.getElem?_eq_some_iff.1 hb).1).trans hb)
    exact ⟨q0, q1⟩
  have z0 := fun x => (HBX.out x).1
  have z1 := fun x => (HBX.out x).2
  have hle := isleTo_le (turnTo E s n) n
  change isleN n E s ≤ n at hle
  have hsub : ((n : Int) - (isleN n E s : Int)) = ((n - isleN n E s : Nat) : Int) := by omega
  generalize isleN n E s = y at *
  go_enter Try.func42, Try.ntmps42
  go_wp2_with fail
  refine region_later (by kernel_rfl) (by kernel_rfl) ?_
  repeat (go_big_quiet_step ((go_at_call 43; refine (HI.out _).mono ?_; rintro e w' ⟨rfl, hb9⟩; exact ⟨rfl, Later.on _ hb9⟩)))
  refine wpQuiet_nil ?_
  intro w6 hw'
  obtain ⟨⟨y6, hb6⟩, hw''⟩ := hw'
  dsimp only at hw''
  subst hw''
  have HB := hid hb6
  clear hb6
  go_wp2_with fail
  go_ret
  exact ⟨rfl, HB.out⟩
theorem slotH {w : World} {n : Int} {v : Value} : ((w.alloc (.cells #[.int .i64 n, v] 48)).alloc (.cells #[.int .i64 0, .slice none 0 0] 26)).heap[w.heap.size]? = some (.cells #[.int .i64 n, v] 48 (0, 0)) ∧ ((w.alloc (.cells #[.int .i64 n, v] 48)).alloc (.cells #[.int .i64 0, .slice none 0 0] 26)).heap[w.heap.size + 1]? = some (.cells #[.int .i64 0, .slice none 0 0] 26 (0, 0)) := by
  refine ⟨?_, ?_⟩
  · rw [Below.heap_alloc _ _ _ (by simp)]
    exact World.alloc_heap_new w _
  · have := World.alloc_heap_new (w.alloc (.cells #[.int .i64 n, v] 48)) (.cells #[.int .i64 0, .slice none 0 0] 26)
    rwa [World.size_alloc] at this
/-- The document's matroid of a graph. -/
def islL (n : Nat) (E : List (Nat × Nat)) : List Nat := basR E.length fun s => n - isleN n E s
set_option maxRecDepth 20000 in
set_option maxHeartbeats 1600000 in
theorem RGraphic_ok (n : Nat) (v : Value) (E : List (Nat × Nat)) (w : World) (hn0 : 1 ≤ n) (hn : n ≤ 7) (hE : ∀ j, j < E.length → ea E j < n ∧ eb E j < n) (h : EdgesAt w v E) :
    Calls Try.prog 21 #[.agg #[.int .i64 n, v]] w fun e w' => ∃ r, e = .returned (.agg #[.int .i64 E.length, r]) ∧ Own w.heap.size w' r (islL n E) ∧ Below w.heap.size w w' := by
  have HI := hid h
  obtain ⟨a, cap, rfl, hlen, hc⟩ := h
  clear hc
  have hmf : ∀ (fn : Fn) (first cap : Array Value) (w : World), (Instr.makeFunc fn first cap).run Try.prog w = .ok (.func fn first cap) w := fun _ _ _ _ => rfl
  have HB0 : Hid (Below w.heap.size w ((w.alloc (.cells #[.int .i64 n, .slice a E.length cap] 48)).alloc (.cells #[.int .i64 0, .slice none 0 0] 26))) := ((Below.refl _ _).alloc (Nat.le_refl _) _).alloc (by simp) _
  have HX := hid (slotH (w := w) (n := n) (v := .slice a E.length cap))
  have HSZ : Hid (((w.alloc (.cells #[.int .i64 n, .slice a E.length cap] 48)).alloc (.cells #[.int .i64 0, .slice none 0 0] 26)).heap.size = w.heap.size + 2) := by show _ = _; simp
  have HEE := hid hE
  have OR := hid (fun W0 (hb0 : Below w.heap.size w W0) (hx0 : W0.heap[w.heap.size]? = some (.cells #[.int .i64 n, .slice a E.length cap] 48 (0, 0))) => OfRank_any E.length 42 #[.pointer (some ⟨w.heap.size, 0, none⟩)] (fun s => n - isleN n E s) W0 hlen (fun args w => enters_of Try.func42 (by kernel_rfl) rfl args w)
    (fun x hx w3 hb3 _ => RGraphQ_ok x w.heap.size n _ E w3 (lt256 hlen hx) hn0 hn HEE.out ((hb3.block _ (Array.getElem?_eq_some_iff.1 hx0).1).trans hx0) ((HI.out.below hb0).below hb3)))
  change Hid (∀ W0, Below w.heap.size w W0 → W0.heap[w.heap.size]? = some (.cells #[.int .i64 n, .slice a E.length cap] 48 (0, 0)) → Calls _ _ _ W0 fun e w' => ∃ v, e = .returned (.agg #[.int .i64 E.length, v]) ∧ Own _ w' v (islL n E) ∧ _) at OR
  generalize islL n E = acc at *
  go_enter Try.func21, Try.ntmps21
  go_wp2_with fail
  have OR0 := hid (OR.out _ HB0.out HX.out.1)
  clear OR
  refine OR0.out.mono ?_
  clear OR0
  revert HB0 HX HSZ
  generalize ((w.alloc (.cells #[.int .i64 n, .slice a E.length cap] 48)).alloc (.cells #[.int .i64 0, .slice none 0 0] 26)) = W0
  intro HB0 HX HSZ
  rintro e w4 ⟨r4, rfl, hr4, hb4⟩
  have hsz := HSZ.out
  obtain ⟨ra, rc, hr⟩ := ownsRow_form' hr4
  subst hr
  have hxx := (hb4.block (w.heap.size + 1) (by omega)).trans HX.out.2
  obtain ⟨y2, y3, g2, g3⟩ := two_cells hxx
  have HC := hid (set_two (x := .int .i64 E.length) (y := .slice ra acc.length rc) hxx)
  have HB4 := hid (HB0.out.trans (hb4.mono HB0.out.size))
  have HD := hid (below_two (b := w.heap.size + 1) (x := .int .i64 E.length) (y := .slice ra acc.length rc) HB4.out (by omega))
  have HII := hid ((hr4.set2 (b := w.heap.size + 1) (x := .int .i64 E.length) (y := .slice ra acc.length rc) (by omega)).mono (by omega : w.heap.size ≤ _))
  clear hb4 hr4 hxx
  go_wp2_with fail
  obtain ⟨c0, c1⟩ := HC.out
  refine bodyPost_ret (v := .agg #[.int .i64 E.length, .slice ra _ rc]) ?_ rfl ⟨_, rfl, HII.out, HD.out⟩
  simp [results, Try.f21, go_sem, c0, c1]
end Go.Proofs.Ytkeeihjcjkndbaa
