/- kinds.Transversal. -/
import Derived.Test.YtgkkemlemnlchaaKLamQ
import Derived.Test.YtgkkemlemnlchaaWithoutQ
import Derived.Test.YtgkkemlemnlchaaFewQ
namespace Go.Proofs.Ytgkkemlemnlchaa
open Go.RowKit

/-- The greatest of the sets that p tells, rising. -/
def bigL (n : Nat) (p : Nat → Bool) : List Nat := (List.range (2 ^ n)).filter fun s => pop s == maxI p (2 ^ n) && p s
theorem big_fam (n : Nat) (p : Nat → Bool) : Fam n (bigL n p) := Fam.range n _
/-- What a maker hands back: a matroid, or an error. -/
def Makes (w : World) (q : Int) (n : Int) (l : List Nat) (e : Ending) (w' : World) : Prop := (q = 0 → GivesO w n l e w') ∧ (q ≠ 0 → BadM w q e w')
theorem slot_box {w : World} {b : Value} : ((w.alloc (.cells #[b] 25)).alloc (.cells #[.int .i64 0, .slice none 0 0] 33)).heap[w.heap.size]? = some (.cells #[b] 25 (0, 0)) ∧ ((w.alloc (.cells #[b] 25)).alloc (.cells #[.int .i64 0, .slice none 0 0] 33)).heap[w.heap.size + 1]? = some (.cells #[.int .i64 0, .slice none 0 0] 33 (0, 0)) := by
  refine ⟨?_, ?_⟩
  · rw [Below.heap_alloc _ _ _ (by simp)]
    exact World.alloc_heap_new w _
  · have := World.alloc_heap_new (w.alloc (.cells #[b] 25)) (.cells #[.int .i64 0, .slice none 0 0] 33)
    rwa [World.size_alloc] at this

set_option maxRecDepth 20000 in
set_option maxHeartbeats 1600000 in
theorem Trans_any (n : Int) (v : Value) (zs : List Int) (w : World) (h : Ints w v zs) :
    Calls Try.prog 8 #[.int .i64 n, v] w (Makes w (lisR n zs) n (bigL n.toNat fun s => hallTo (zs.map Int.toNat) s s)) := by
  have HI := hid h
  obtain ⟨a, cap, rfl, hlen, hc⟩ := h
  have HB0 : Hid (Below w.heap.size w ((w.alloc (.cells #[.slice a zs.length cap] 25)).alloc (.cells #[.int .i64 0, .slice none 0 0] 33))) := ((Below.refl _ _).alloc (Nat.le_refl _) _).alloc (by simp) _
  have HX := hid (slot_box (w := w) (b := .slice a zs.length cap))
  have HSZ : Hid (((w.alloc (.cells #[.slice a zs.length cap] 25)).alloc (.cells #[.int .i64 0, .slice none 0 0] 33)).heap.size = w.heap.size + 2) := by show _ = _; simp
  have CF := hid (few_any n (.slice a zs.length cap) zs _ (HI.out.below HB0.out))
  by_cases hq : lisR n zs = 0
  · have F : Hid (lisR n zs = 0) := hq
    have hall : zs.all (fun s => setR n s == 0) = true ∧ 0 ≤ n ∧ n ≤ 8 := by
      refine Classical.byContradiction fun hc => ?_
      unfold lisR at hq
      rw [if_neg hc] at hq
      cases hq
    obtain ⟨m, rfl⟩ := Int.eq_ofNat_of_zero_le hall.2.1
    have hm : m ≤ 8 := by omega
    obtain ⟨l, hl0, hlt2⟩ := lis_nats hall.1
    have hl := hid hl0
    clear hl0
    rw [F.out] at CF
    clear hall hq
    go_enter Try.func8, Try.ntmps8
    have c00 : ((w.alloc (.cells #[.slice a zs.length cap] 25)).alloc (.cells #[.int .i64 0, .slice none 0 0] 33)).cell? ⟨w.heap.size, 0, none⟩ = some (.slice a zs.length cap) := Boxed.cell HX.out.1
    go_wp2_with fail
    revert c00 HB0 HX HSZ CF
    generalize ((w.alloc (.cells #[.slice a zs.length cap] 25)).alloc (.cells #[.int .i64 0, .slice none 0 0] 33)) = W0
    intro HB0 HX HSZ CF x0
    have hsz := HSZ.out
    obtain ⟨y2, y3, g2, g3⟩ := two_cells HX.out.2
    refine CF.out.mono ?_
    rintro e w' ⟨rfl, hw'⟩
    obtain rfl := hw'.symm
    have hmf : ∀ (fn : Fn) (first cap : Array Value) (w : World), (Instr.makeFunc fn first cap).run Try.prog w = .ok (.func fn first cap) w := fun _ _ _ _ => rfl
    have OI := hid (ofInd_any m 22 #[.pointer (some ⟨w.heap.size, 0, none⟩)] (fun s => hallTo (zs.map Int.toNat) s s) W0 hm (fun args w => enters_of Try.func22 (by kernel_rfl) rfl args w)
      (fun x hx w3 hb3 _ => by
        have e1 : zs.map Int.toNat = l := by rw [hl.out]; simp [N, Function.comp_def]
        have HI3 := (HI.out.below HB0.out).below hb3
        have := TransQ_ok x w.heap.size (.slice a zs.length cap) l w3 (lt256 hm hx) (fun s hs => lt256 hm (hlt2 s hs)) ((hb3.cell (p := ⟨w.heap.size, 0, none⟩) (by show w.heap.size < _; omega)).trans x0) (by rw [← hl.out]; exact HI3)
        rw [e1]
        exact this))
    obtain ⟨acc, HACC⟩ : ∃ acc : List Nat, Hid (bigL m (fun s => hallTo (zs.map Int.toNat) s s) = acc) := ⟨_, rfl⟩
    change Hid (Calls _ _ _ _ fun e w' => ∃ r, e = .returned (.agg #[.int .i64 m, r]) ∧ Own _ w' r (bigL m (fun s => hallTo (zs.map Int.toNat) s s)) ∧ _) at OI
    rw [HACC.out] at OI
    clear hl hlt2
    go_wp2_with fail
    refine OI.out.mono ?_
    rintro e w4 ⟨r4, rfl, hr4, hb4⟩
    obtain ⟨ra, rc, hr⟩ := ownsRow_form' hr4
    subst hr
    have hxx := (hb4.block (w.heap.size + 1) (by omega)).trans HX.out.2
    obtain ⟨y2, y3, g2, g3⟩ := two_cells hxx
    have HC := hid (set_two (x := .int .i64 m) (y := .slice ra acc.length rc) hxx)
    have HB4 := hid (HB0.out.trans (hb4.mono HB0.out.size))
    have HD := hid (below_two (b := w.heap.size + 1) (x := .int .i64 m) (y := .slice ra acc.length rc) HB4.out (by omega))
    have HII := hid ((hr4.set2 (b := w.heap.size + 1) (x := .int .i64 m) (y := .slice ra acc.length rc) (by omega)).mono (by omega : w.heap.size ≤ _))
    clear hb4 hr4 hxx
    go_wp2_with fail
    obtain ⟨c0, c1⟩ := HC.out
    refine bodyPost_ret (v := .tuple #[.agg #[.int .i64 m, .slice ra _ rc], .int .i64 0]) ?_ rfl ⟨fun _ => ⟨_, rfl, by rw [Int.toNat_natCast, HACC.out]; exact HII.out, HD.out⟩, fun e => absurd F.out e⟩
    simp [results, Try.f8, go_sem, c0, c1]
  · obtain ⟨q, HQ⟩ : ∃ q, Hid (lisR n zs = q) := ⟨lisR n zs, Eq.refl (lisR n zs)⟩
    rw [HQ.out] at CF hq
    go_enter Try.func8, Try.ntmps8
    have c00 : ((w.alloc (.cells #[.slice a zs.length cap] 25)).alloc (.cells #[.int .i64 0, .slice none 0 0] 33)).cell? ⟨w.heap.size, 0, none⟩ = some (.slice a zs.length cap) := Boxed.cell HX.out.1
    go_wp2_with fail
    revert c00 HB0 HX HSZ CF
    generalize ((w.alloc (.cells #[.slice a zs.length cap] 25)).alloc (.cells #[.int .i64 0, .slice none 0 0] 33)) = W0
    intro HB0 HX HSZ CF x0
    have HCC := hid (set_two (x := .int .i64 0) (y := .slice none 0 0) HX.out.2)
    have HD := hid (below_two (b := w.heap.size + 1) (x := .int .i64 0) (y := .slice none 0 0) HB0.out (by omega))
    obtain ⟨y2, y3, g2, g3⟩ := two_cells HX.out.2
    refine CF.out.mono ?_
    rintro e w' ⟨rfl, hw'⟩
    obtain rfl := hw'.symm
    go_wp2_with fail
    obtain ⟨c0, c1⟩ := HCC.out
    refine bodyPost_ret (v := .tuple #[.agg #[.int .i64 0, .slice none 0 0], .int .i64 q]) ?_ rfl ⟨fun e => absurd (HQ.out.symm.trans e) hq, fun _ => ⟨by rw [HQ.out], HD.out⟩⟩
    simp [results, Try.f8, go_sem, c0, c1]
end Go.Proofs.Ytgkkemlemnlchaa
