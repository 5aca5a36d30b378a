/- rotakeep.HallOre. -/
import Derived.Test.YtffdjnhihjebmaaRfSevQ
import Derived.Test.YtffdjnhihjebmaaHaBQ
import Derived.Test.YtffdjnhihjebmaaQBelQ
namespace Go.Proofs.Ytffdjnhihjebmaa
open Go.RowKit

theorem ho_lit : mostB [1, 1, 0] = 1 := by decide +kernel
theorem ints_lit (w : World) (l : List Nat) (h : l.length ≤ 1000) : Ints (w.alloc (.cells (V l).toArray 3)) (.slice (some ⟨w.heap.size, 0, none⟩) l.length l.length) (N l) := by
  refine ⟨_, l.length, by rw [show (N l).length = l.length by simp [N]], by rw [show (N l).length = l.length by simp [N]]; omega, fun _ => ⟨_, 0, rfl, by simp, fun i hi => ?_⟩⟩
  rw [show (N l).length = l.length by simp [N]] at hi
  rw [World.cell?_alloc_at _ _ _ _ rfl]
  simp [V, N, List.getD_eq_getElem?_getD, hi]
set_option maxRecDepth 20000 in
set_option maxHeartbeats 4000000 in
theorem hore_law (n : Int) (v : Value) (zs : List Int) (w : World) (h : Ints w v zs) :
    Calls Try.prog 3 #[.int .i64 n, v] w fun e w' => e = .returned (.bool true) ∧ Below w.heap.size w w' := by
  have D1 := hid (Most_ok 1 _ [1, 1, 0] _ (by decide) (by decide) (by decide) (ints_lit w [1, 1, 0] (by decide)))
  have HB0 : Hid (Below w.heap.size w (w.alloc (.cells (V [1, 1, 0]).toArray 3))) := (Below.refl _ _).alloc (Nat.le_refl _) _
  rw [ho_lit] at D1
  have HI := hid (h.below HB0.out)
  by_cases hq : lisR n zs = 0
  · obtain ⟨m, l, rfl, hm, rfl, hk, hl⟩ := lis_good hq
    have hl8 : ∀ x ∈ l, x < 256 := fun x hx => lt256 hm (hl x hx)
    have M1 := hid (fun w hi => Most_ok m v l w hm hk hl hi)
    have HORE := hid (ore hk)
    obtain ⟨a, cap, rfl, -, -⟩ := h.nats
    have SV := hid (fun s w hs hi => Several_any s (.slice a l.length cap) l w hs hk hl8 hi)
    have HP : 2 ^ l.length ≤ 256 := Nat.pow_le_pow_right (by decide) (by omega : l.length ≤ 8)
    have HP0 : 0 < 2 ^ l.length := Nat.two_pow_pos _
    obtain ⟨P, HPE⟩ : ∃ P, Hid (2 ^ l.length = P) := ⟨2 ^ l.length, Eq.refl (2 ^ l.length)⟩
    have hw : wrap64 (2 ^ l.length) = (P : Int) := by rw [← HPE.out]; exact (pow_wrap _ hk).1
    have hw2 : wrap64 (2 ^ min l.length 64) = (P : Int) := by rw [Nat.min_eq_left (by omega)]; exact hw
    have WGE := hid (wor_ge l)
    have WLE := hid (fun k hk => wor_le (l := l) k hk)
    have WST : Hid (∀ k, worF l (k + 1) = max (worF l k) ((pop k : Int) - pop (sevL l k))) := fun k => rfl
    have W0 : Hid (worF l 0 = 0) := rfl
    have FLT : Hid (∀ s, sevL l s < 256) := sev_lt (n := 8) hl8
    have hmost : mostB l ≤ 8 := by have := HORE.out; have := WGE.out (2 ^ l.length); omega
    rw [HPE.out] at HORE HP HP0
    generalize mostB l = M at *
    generalize worF l = wf at *
    generalize sevL l = f at *
    clear h hl hl8
    go_enter Try.func3, Try.ntmps3
    go_wp2_with fail
    refine D1.out.mono ?_
    rintro e w1 ⟨rfl, hb1⟩
    have B1 := hid (HB0.out.trans (hb1.mono HB0.out.size))
    have I1 := hid (HI.out.below hb1)
    clear hb1
    go_wp2_with fail
    refine (M1.out _ I1.out).mono ?_
    rintro e w2 ⟨rfl, hb2⟩
    have B2 := hid (B1.out.trans (hb2.mono B1.out.size))
    have I2 := hid (I1.out.below hb2)
    clear hb2
    go_wp2_with fail
    first | rw [hw2] | rw [hw]
    go_loopw [9, 10, 35] (fun x _ i wr => ∃ k : Nat, k ≤ P ∧ i = .int .i64 k ∧ x = .int .i64 (wf k) ∧ Hid (Below w2.heap.size w2 wr)) (fun _ _ i _ => P - (intOf i).toNat)
    case atStart => exact ⟨0, Nat.zero_le _, rfl, by rw [W0.out], Below.refl _ _⟩
    case round =>
      obtain ⟨k, hk2, rfl, rfl, BW⟩ := hrel
      by_cases hlt : k < P
      · have hki : (k : Int) < (P : Int) := by omega
        have ST := hid (WST.out k)
        have q1 := WGE.out k
        have q2 := WLE.out k (by omega)
        have q3 := FLT.out k
        have p1 := pop_le_8 k (by omega)
        have p2 := pop_le_8 _ q3
        have S1 := hid (fun w => Size_any k w (by omega))
        have S2 := hid (fun w => Size_any (f k) w q3)
        have IW := hid (I2.out.below BW.out)
        obtain ⟨y, HY⟩ : ∃ y, Hid (f k = y) := ⟨f k, Eq.refl (f k)⟩
        rw [HY.out] at ST q3 p2 S2
        generalize wf k = z at *
        go_wp2_with fail
        refine (S1.out _).mono ?_
        rintro e w3 ⟨rfl, hb3⟩
        have B3 := hid (BW.out.trans (hb3.mono BW.out.size))
        have I3 := hid (IW.out.below hb3)
        clear hb3
        go_wp2_with fail
        refine (SV.out k _ (by omega) I3.out).mono ?_
        rintro e w' ⟨rfl, hw'⟩
        obtain rfl := hw'.symm
        rw [HY.out]
        go_wp2_with fail
        refine (S2.out _).mono ?_
        rintro e w4 ⟨rfl, hb4⟩
        have B4 := hid (B3.out.trans (hb4.mono B3.out.size))
        clear hb4
        go_wp2_with fail
        exact ⟨⟨k + 1, by omega, by go_num, by rw [ST.out]; congr 1; split <;> omega, B4⟩, by simp [intOf]; omega⟩
      · obtain rfl : k = P := by omega
        have BF := hid (B2.out.trans (BW.out.mono B2.out.size))
        have q1 := WGE.out k
        have q2 := WLE.out k (by omega)
        have hO := HORE.out
        have hwl : wrap64 ((l.length : Int) - wf k) = (M : Int) := by rw [hO]; exact IntWalk.wrap64_in _ (by omega)
        go_wp2_with fail
        go_ret
        exact ⟨rfl, BF.out⟩
  · have M1 := hid (fun w hi => Most_bad n v zs w hi hq)
    generalize lisR n zs = q at *
    clear h
    go_enter Try.func3, Try.ntmps3
    go_wp2_with fail
    refine D1.out.mono ?_
    rintro e w1 ⟨rfl, hb1⟩
    have B1 := hid (HB0.out.trans (hb1.mono HB0.out.size))
    have I1 := hid (HI.out.below hb1)
    clear hb1
    go_wp2_with fail
    refine (M1.out _ I1.out).mono ?_
    rintro e w' ⟨rfl, hw'⟩
    obtain rfl := hw'.symm
    go_wp2_with fail
    go_ret
    exact ⟨rfl, B1.out⟩
end Go.Proofs.Ytffdjnhihjebmaa
