/- rotaref.Transversal, whole; rotaref.Laminar. -/
import Derived.Test.YtkeeihjcjkndbaaRefTrQ
namespace Go.Proofs.Ytkeeihjcjkndbaa
open Go.RowKit

theorem big_eq (n : Nat) (p : Nat → Bool) : ((List.range (2 ^ n)).filter p).filter (fun s => pop s == mxTo ((List.range (2 ^ n)).filter p) ((List.range (2 ^ n)).filter p).length) = bigL n p := by
  rw [mxTo_all, filt_two]
  rfl
set_option maxRecDepth 20000 in
set_option maxHeartbeats 1600000 in
theorem RTrans_ok (m : Nat) (v : Value) (l : List Nat) (w : World) (hm : m ≤ 8) (hl : ∀ s ∈ l, s < 256) (h : Ints w v (N l)) :
    Calls Try.prog 5 #[.int .i64 m, v] w fun e w' => ∃ r, e = .returned (.agg #[.int .i64 m, r]) ∧ Own w.heap.size w' r (bigL m fun s => hallTo l s s) ∧ Below w.heap.size w w' := by
  have HI := hid h
  obtain ⟨a, cap, rfl, hlen, hc⟩ := h.nats
  have HL := hid hl
  clear hc h hl
  have hmf : ∀ (fn : Fn) (first cap : Array Value) (w : World), (Instr.makeFunc fn first cap).run Try.prog w = .ok (.func fn first cap) w := fun _ _ _ _ => rfl
  have HB0 : Hid (Below w.heap.size w ((w.alloc (.cells #[.slice a l.length cap] 22)).alloc (.cells #[.int .i64 0, .slice none 0 0] 26))) := ((Below.refl _ _).alloc (Nat.le_refl _) _).alloc (by simp) _
  have HX := hid (slot_box (w := w) (b := .slice a l.length cap))
  have HSZ : Hid (((w.alloc (.cells #[.slice a l.length cap] 22)).alloc (.cells #[.int .i64 0, .slice none 0 0] 26)).heap.size = w.heap.size + 2) := by show _ = _; simp
  have TH := hid (Those_any m 15 #[.pointer (some ⟨w.heap.size, 0, none⟩)] (fun s => hallTo l s s) ((w.alloc (.cells #[.slice a l.length cap] 22)).alloc (.cells #[.int .i64 0, .slice none 0 0] 26)) hm (fun args w => enters_of Try.func15 (by kernel_rfl) rfl args w)
    (fun x hx w3 hb3 hs3 => RTransQ_ok x w.heap.size (.slice a l.length cap) l w3 (lt256 hm hx) HL.out ((hb3.cell (p := ⟨w.heap.size, 0, none⟩) (by simp; omega)).trans (Boxed.cell HX.out.1)) (by have := HSZ.out; omega) ((HI.out.below HB0.out).below hb3)))
  have HF8 : Hid (∀ s ∈ (List.range (2 ^ m)).filter (fun s => hallTo l s s), s < 256) := fun s hs => lt256 hm (List.mem_range.1 (List.mem_filter.1 hs).1)
  have HFL := hid (fil_len hm fun s => hallTo l s s)
  have BE := hid (big_eq m fun s => hallTo l s s)
  obtain ⟨acc, HACC⟩ : ∃ acc : List Nat, Hid (bigL m (fun s => hallTo l s s) = acc) := ⟨_, rfl⟩
  rw [HACC.out] at BE
  generalize (List.range (2 ^ m)).filter (fun s => hallTo l s s) = F at *
  go_enter Try.func5, Try.ntmps5
  go_wp2_with fail
  refine TH.out.mono ?_
  clear TH
  revert HB0 HX HSZ
  generalize ((w.alloc (.cells #[.slice a l.length cap] 22)).alloc (.cells #[.int .i64 0, .slice none 0 0] 26)) = W0
  intro HB0 HX HSZ
  rintro e w2 ⟨r2, rfl, ho2, hb2⟩
  have hsz := HSZ.out
  have hF2 := ho2.ints (Nat.le_trans HFL.out (by decide : 256 ≤ 17592186044416))
  have BG := hid (biggest_any r2 F w2 HF8.out HFL.out hF2)
  rw [BE.out] at BG
  obtain ⟨a2, c2, hr2⟩ := ownsRow_form' ho2
  subst hr2
  have HB2 := hid (HB0.out.trans (hb2.mono HB0.out.size))
  have hxx := (hb2.block (w.heap.size + 1) (by omega)).trans HX.out.2
  have HX2 := hid hxx
  have hs2 := hb2.size
  clear hb2 ho2 hF2 hxx
  go_wp2_with fail
  refine BG.out.mono ?_
  rintro e w4 ⟨r4, rfl, hr4, hb4⟩
  obtain ⟨ra, rc, hr⟩ := ownsRow_form' hr4
  subst hr
  have hxx := (hb4.block (w.heap.size + 1) (by omega)).trans HX2.out
  obtain ⟨y2, y3, g2, g3⟩ := two_cells hxx
  have HC := hid (set_two (x := .int .i64 m) (y := .slice ra acc.length rc) hxx)
  have HB4 := hid (HB2.out.trans (hb4.mono HB2.out.size))
  have HD := hid (below_two (b := w.heap.size + 1) (x := .int .i64 m) (y := .slice ra acc.length rc) HB4.out (by omega))
  have HII := hid ((hr4.set2 (b := w.heap.size + 1) (x := .int .i64 m) (y := .slice ra acc.length rc) (by omega)).mono (by omega : w.heap.size ≤ _))
  clear hb4 hr4 hxx
  go_wp2_with fail
  obtain ⟨c0, c1⟩ := HC.out
  refine bodyPost_ret (v := .agg #[.int .i64 m, .slice ra _ rc]) ?_ rfl ⟨_, rfl, by rw [HACC.out]; exact HII.out, HD.out⟩
  simp [results, Try.f5, go_sem, c0, c1]

set_option maxRecDepth 20000 in
set_option maxHeartbeats 1600000 in
theorem RLamQ_ok (s b b2 : Nat) (v u : Value) (l : List Nat) (ms : List Int) (w : World) (hs : s < 256) (hl : ∀ s ∈ l, s < 256) (hml : ms.length = l.length) (hb : w.cell? ⟨b, 0, none⟩ = some v) (hbs : b < w.heap.size) (hb2 : w.cell? ⟨b2, 0, none⟩ = some u) (hbs2 : b2 < w.heap.size) (h : Ints w v (N l)) (hu : Ints w u ms) :
    Calls Try.prog 20 #[.int .i64 s, .pointer (some ⟨b, 0, none⟩), .pointer (some ⟨b2, 0, none⟩)] w fun e w' => e = .returned (.bool (keepH l ms s)) ∧ Below w.heap.size w w' := by
  obtain ⟨a, cap, rfl, hlen, hc⟩ := h.nats
  obtain ⟨a2, cap2, rfl, _, hc2⟩ := hu
  rw [hml] at hc2 hb2
  have HL := hid hl
  clear h hl
  go_enter Try.func20, Try.ntmps20
  go_wp2_with fail
  go_loopw [5] (fun i wr => ∃ k : Nat, k ≤ l.length ∧ i = .int .i64 k ∧ Below w.heap.size w wr ∧ Hid (keepH l ms s = ((List.range l.length).drop k).all fun i => decide ((pop (s &&& l.getD i 0) : Int) ≤ ms.getD i 0))) (fun i _ => l.length - (intOf i).toNat)
  case atStart => exact ⟨0, Nat.zero_le _, rfl, Below.refl _ _, rfl⟩
  case round =>
    obtain ⟨k, hk, rfl, hnx, R⟩ := hrel
    have hx0 : wr.cell? ⟨b, 0, none⟩ = some (.slice a l.length cap) := (hnx.cell (p := ⟨b, 0, none⟩) hbs).trans hb
    have hx1 : wr.cell? ⟨b2, 0, none⟩ = some (.slice a2 l.length cap2) := (hnx.cell (p := ⟨b2, 0, none⟩) hbs2).trans hb2
    by_cases hlt : k < l.length
    · obtain ⟨bb, off, rfl, hbb, hcell⟩ := hc (by omega)
      obtain ⟨bb2, off2, rfl, hbb2, hcell2⟩ := hc2 (by omega)
      have hck : wr.cell? ⟨bb, off + k, none⟩ = some (.int .i64 (l.getD k 0 : Nat)) := (hnx.cell (p := ⟨bb, off + k, none⟩) hbb).trans (hcell k hlt)
      have hck2 : wr.cell? ⟨bb2, off2 + k, none⟩ = some (.int .i64 (ms.getD k 0)) := (hnx.cell (p := ⟨bb2, off2 + k, none⟩) hbb2).trans (hcell2 k hlt)
      have D := hid (keep_drop (ms := ms) (s := s) hlt)
      have hx := getD_lt HL.out k
      have hki : (k : Int) < (l.length : Int) := by omega
      clear hcell hc hcell2 hc2
      generalize l.getD k 0 = x at *
      generalize ms.getD k 0 = y at *
      have hand : bits .and .i64 (s : Int) (x : Int) = ((s &&& x : Nat) : Int) := i64_and_nat s x (by omega) (by omega)
      have SZ := hid (fun w' => Size_any (s &&& x) w' (and_lt hs))
      generalize s &&& x = z at *
      generalize pop z = c at *
      have hx0' : ∀ y : Later wr, y.now.cell? ⟨b, 0, none⟩ = some (.slice (some ⟨bb, off, none⟩) l.length cap) := fun y => (y.kept.cell (p := ⟨b, 0, none⟩) (World.block_lt_of_cell? wr _ hx0)).trans hx0
      have hx1' : ∀ y : Later wr, y.now.cell? ⟨b2, 0, none⟩ = some (.slice (some ⟨bb2, off2, none⟩) l.length cap2) := fun y => (y.kept.cell (p := ⟨b2, 0, none⟩) (World.block_lt_of_cell? wr _ hx1)).trans hx1
      have hck' : ∀ y : Later wr, y.now.cell? ⟨bb, off + k, none⟩ = some (.int .i64 (x : Nat)) := fun y => (y.kept.cell (p := ⟨bb, off + k, none⟩) (World.block_lt_of_cell? wr _ hck)).trans hck
      have hck2' : ∀ q : Later wr, q.now.cell? ⟨bb2, off2 + k, none⟩ = some (.int .i64 y) := fun q => (q.kept.cell (p := ⟨bb2, off2 + k, none⟩) (World.block_lt_of_cell? wr _ hck2)).trans hck2
      by_cases h1 : (c : Int) ≤ y
      · have h1' : ¬ (y < (c : Int)) := by omega
        have HX := hid (decide_eq_true h1)
        go_wp2_with fail
        refine region_later (by kernel_rfl) (by kernel_rfl) ?_
        repeat (go_big_quiet_step ((go_at_call 17; refine (SZ.out _).mono ?_; rintro e w' ⟨rfl, hb9⟩; exact ⟨rfl, Later.on _ hb9⟩)))
        refine wpQuiet_nil ?_
        intro w6 hw'
        obtain ⟨⟨y6, hb6⟩, hw''⟩ := hw'
        dsimp only at hw''
        subst hw''
        have HB6 := hid (hnx.trans (hb6.mono hnx.size))
        clear hb6
        go_wp2_with fail
        go_roundw
        case rel => exact ⟨k + 1, by omega, by go_num, HB6.out, by show _ = _; rw [R.out, D.out, HX.out, Bool.true_and]⟩
        case measure => simp [intOf]; omega
      · have h1' : y < (c : Int) := by omega
        have HX := hid (decide_eq_false h1)
        go_wp2_with fail
        refine region_later (by kernel_rfl) (by kernel_rfl) ?_
        repeat (go_big_quiet_step ((go_at_call 17; refine (SZ.out _).mono ?_; rintro e w' ⟨rfl, hb9⟩; exact ⟨rfl, Later.on _ hb9⟩)))
        refine wpQuiet_nil ?_
        intro w6 hw'
        obtain ⟨⟨y6, hb6⟩, hw''⟩ := hw'
        dsimp only at hw''
        subst hw''
        have HB6 := hid (hnx.trans (hb6.mono hnx.size))
        clear hb6
        go_wp2_with fail
        go_ret
        exact ⟨ret_bool (by rw [R.out, D.out, HX.out, Bool.false_and]), HB6.out⟩
    · go_wp2_with fail
      go_ret
      exact ⟨ret_bool (by rw [R.out, List.drop_of_length_le (by simp; omega)]; rfl), hnx⟩
end Go.Proofs.Ytkeeihjcjkndbaa
