/- The document's answers of chapter 2: rotaref.Free, Circuits, Flats, Hyperplanes, Closure. -/
import Derived.Test.YtimciginbiobmaaRefAxAQ
namespace Go.Proofs.Ytimciginbiobmaa
open Go.RowKit

theorem enters_free : Enters 110 := fun args w => enters_of Try.func110 (by kernel_rfl) rfl args w
theorem enters_circ : Enters 102 := fun args w => enters_of Try.func102 (by kernel_rfl) rfl args w
theorem fam_small {m : Nat} (hm : m ≤ 8) (p : Nat → Bool) : ((List.range (2 ^ m)).filter p).length ≤ 256 := Nat.le_trans (rg_le p _) (pow_wrap m hm).2
theorem fam_lt {m : Nat} (hm : m ≤ 8) (p : Nat → Bool) : ∀ s ∈ (List.range (2 ^ m)).filter p, s < 256 := fun s hs => by
  rw [List.mem_filter, List.mem_range] at hs
  exact lt256 hm hs.1

theorem Free_ref (m : Nat) (v : Value) (l : List Nat) (w : World) (hm : m ≤ 8) (hl : ∀ s ∈ l, s < 256) (h : Ints w v (N l)) :
    Calls Try.prog 100 #[.agg #[.int .i64 m, v]] w fun e w' => ∃ r, e = .returned r ∧ Own w.heap.size w' r (freeL m l) ∧ Below w.heap.size w w' := by
  have hmf : ∀ (fn : Fn) (first cap : Array Value) (w : World), (Instr.makeFunc fn first cap).run Try.prog w = .ok (.func fn first cap) w := fun _ _ _ _ => rfl
  have HI := hid h
  obtain ⟨a, cap, hv, _, _⟩ := h
  rw [N_len] at hv
  subst hv
  have B0 := below_box w #[.int .i64 m, .slice a l.length cap]
  have TH := hid (Those_any m 110 #[.pointer (some ⟨w.heap.size, 0, none⟩)] (freeK l) (w.alloc (.cells #[.int .i64 m, .slice a l.length cap] 34)) hm enters_free (fun x hx w1 hb1 _ => (Free1_any x w.heap.size _ l w1 (lt256 hm hx) hl (box_cells hb1).2 ((HI.out.below B0).below hb1)).mono (fun e w' he => ⟨he.1, by rw [he.2]; exact Below.refl _ _⟩)))
  have HB0 := hid B0
  clear B0
  unfold freeL
  generalize (List.range (2 ^ m)).filter (freeK l) = acc at *
  go_enter Try.func100, Try.ntmps100
  go_wp2_with fail
  refine TH.out.mono ?_
  rintro e w2 ⟨r, rfl, ho, hb2⟩
  have HB := hid (HB0.out.trans (hb2.mono HB0.out.size))
  have HO := hid (ho.mono HB0.out.size : Own w.heap.size w2 r acc)
  clear hb2 ho
  go_wp2_with fail
  go_ret
  exact ⟨_, rfl, HO.out, HB.out⟩

set_option maxRecDepth 20000 in
set_option maxHeartbeats 2000000 in
theorem Circ_ref (m : Nat) (v : Value) (l : List Nat) (w : World) (hm : m ≤ 8) (hl : ∀ s ∈ l, s < 256) (h : Ints w v (N l)) :
    Calls Try.prog 80 #[.agg #[.int .i64 m, v]] w fun e w' => ∃ r, e = .returned r ∧ Own w.heap.size w' r ((List.range (2 ^ m)).filter (leastK (depL m l))) ∧ Below w.heap.size w w' := by
  have hmf : ∀ (fn : Fn) (first cap : Array Value) (w : World), (Instr.makeFunc fn first cap).run Try.prog w = .ok (.func fn first cap) w := fun _ _ _ _ => rfl
  have HI := hid h
  obtain ⟨a, cap, hv, _, _⟩ := h
  rw [N_len] at hv
  subst hv
  have B0 := below_box w #[.int .i64 m, .slice a l.length cap]
  have FR := hid (Free_ref m _ l _ hm hl (HI.out.below B0))
  have FS0 := hid (fam_small hm (freeK l))
  have TH := hid (fun (w3 : World) (b : Nat) (u : Value) (hb : b < w3.heap.size) (hc : w3.cell? ⟨b, 0, none⟩ = some u) (hi : Ints w3 u (N (freeL m l))) =>
    Those_any m 102 #[.pointer (some ⟨b, 0, none⟩)] (fun s => !memB s (freeL m l)) w3 hm enters_circ (fun x hx w1 hb1 _ => (Circ1_any x b u _ w1 ((hb1.cell (p := ⟨b, 0, none⟩) hb).trans hc) (hi.below hb1)).mono (fun e w' he => ⟨he.1, by rw [he.2]; exact Below.refl _ _⟩)))
  have FS := hid (fam_small hm (fun s => !memB s (freeL m l)))
  have FT := hid (fam_lt hm (fun s => !memB s (freeL m l)))
  have MO := hid (fun w v (h : Ints w v (N ((List.range (2 ^ m)).filter (fun s => !memB s (freeL m l))))) => Least_ref m v _ w hm FT.out h)
  have HB0 := hid B0
  clear B0 FT
  unfold depL
  generalize hacc : (List.range (2 ^ m)).filter (fun s => !memB s (freeL m l)) = acc at *
  generalize (List.range (2 ^ m)).filter (leastK acc) = acc2 at *
  have FF : Hid ((freeL m l).length ≤ 256) := FS0.out
  generalize freeL m l = fl at *
  clear FS0 hacc
  go_enter Try.func80, Try.ntmps80
  go_wp2_with fail
  refine FR.out.mono ?_
  rintro e w2 ⟨r, rfl, ho, hb2⟩
  obtain ⟨x0, x1⟩ := box_cells hb2
  have HB2 := hid (HB0.out.trans (hb2.mono HB0.out.size))
  have I2 := hid (ho.ints (Nat.le_trans FF.out (by omega)))
  have S2 : w.heap.size + 1 ≤ w2.heap.size := by have := hb2.size; simpa using this
  obtain ⟨ra, rcap, rfl⟩ := ho.form
  have y0 := cellA (.cells #[.slice ra fl.length rcap] 32) x0
  have y1 := (cellN w2 (.slice ra fl.length rcap) 32).1
  have B3 : Below w2.heap.size w2 (w2.alloc (.cells #[.slice ra fl.length rcap] 32)) := (Below.refl _ _).alloc (Nat.le_refl _) _
  have s3 : w2.heap.size < (w2.alloc (.cells #[.slice ra fl.length rcap] 32)).heap.size := by simp
  have T3 := hid (TH.out (w2.alloc (.cells #[.slice ra fl.length rcap] 32)).drew w2.heap.size _ s3 y1 (I2.out.below B3.drew))
  have HB3 := hid (HB2.out.trans (B3.drew.mono HB2.out.size))
  clear hb2 ho TH B3 y1 s3
  go_wp2_with fail
  go_region_with (first
    | (go_at_call 48; refine T3.out.mono ?_; rintro e w4 ⟨r4, rfl, ho4, hb4⟩; have HB4 := hid (HB3.out.trans (hb4.mono HB3.out.size)); have z0 : w4.cell? ⟨w.heap.size, 0, none⟩ = some (.int .i64 m) := (hb4.cell (p := ⟨w.heap.size, 0, none⟩) (by show w.heap.size < _; simp; omega)).trans y0; have HMO := hid (MO.out _ _ (ho4.ints (Nat.le_trans FS.out (by omega)))); obtain ⟨ra4, rcap4, rfl⟩ := ho4.form; clear hb4 ho4)
    | (go_at_call 101; refine HMO.out.mono ?_; rintro e w5 ⟨r5, rfl, ho5, hb5⟩; have HB5 := hid (HB4.out.trans (hb5.mono HB4.out.size)); have HO5 := hid (ho5.mono HB4.out.size : Own w.heap.size w5 r5 acc2); obtain ⟨ra5, rcap5, rfl⟩ := ho5.form; clear hb5 ho5))
  all_goals go_wp2_with fail
  all_goals go_ret
  all_goals exact ⟨_, rfl, HO5.out, HB5.out⟩

end Go.Proofs.Ytimciginbiobmaa
