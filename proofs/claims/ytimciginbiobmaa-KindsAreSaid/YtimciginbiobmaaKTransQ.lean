/- kinds.Transversal. -/
import Derived.Test.YtimciginbiobmaaKLamQ
import Derived.Test.YtimciginbiobmaaWithoutQ
namespace Go.Proofs.Ytimciginbiobmaa
open Go.RowKit

/-- The greatest of the sets that p tells, rising. -/
def bigL (n : Nat) (p : Nat → Bool) : List Nat := (List.range (2 ^ n)).filter fun s => pop s == maxI p (2 ^ n) && p s
theorem big_fam (n : Nat) (p : Nat → Bool) : Fam n (bigL n p) := Fam.range n _
/-- What is wrong with a list of sets. -/
def lisR (n : Int) (zs : List Int) : Int := if zs.all (fun s => setR n s == 0) = true ∧ 0 ≤ n ∧ n ≤ 8 then (if 8 < zs.length then 2 else 0) else 1
theorem setR_01 (n s : Int) : setR n s = 0 ∨ setR n s = 1 := by unfold setR; split <;> simp
theorem setR_n {n s : Int} (h : setR n s = 0) : 0 ≤ n ∧ n ≤ 8 ∧ 0 ≤ s ∧ s < 2 ^ n.toNat := by
  unfold setR at h
  split at h
  · assumption
  · cases h
theorem lis_nats {n : Nat} {zs : List Int} (h : zs.all (fun s => setR n s == 0) = true) : ∃ l : List Nat, zs = N l ∧ ∀ s ∈ l, s < 2 ^ n := by
  rw [List.all_eq_true] at h
  refine ⟨zs.map Int.toNat, ?_, ?_⟩
  · unfold N
    rw [List.map_map]
    refine ((List.map_congr_left (g := id) fun z hz => ?_).trans (List.map_id _)).symm
    have := setR_n (beq_iff_eq.1 (h z hz))
    show ((z.toNat : Nat) : Int) = z
    omega
  · intro s hs
    obtain ⟨z, hz, rfl⟩ := List.mem_map.1 hs
    have := setR_n (beq_iff_eq.1 (h z hz))
    rw [Int.toNat_natCast] at this
    have e : ((2 ^ n : Nat) : Int) = (2 : Int) ^ n := by simp
    omega
theorem allI_drop {p : Int → Bool} {zs : List Int} {k : Nat} (hk : k < zs.length) : (zs.drop k).all p = (p (zs.getD k 0) && (zs.drop (k + 1)).all p) := by
  rw [drop_getD hk, List.all_cons]
/-- What a maker hands back: a matroid, or an error. -/
def Makes (w : World) (q : Int) (n : Int) (l : List Nat) (e : Ending) (w' : World) : Prop := (q = 0 → GivesO w n l e w') ∧ (q ≠ 0 → BadM w q e w')
theorem slot_box {w : World} {b : Value} : ((w.alloc (.cells #[b] 32)).alloc (.cells #[.int .i64 0, .slice none 0 0] 34)).heap[w.heap.size]? = some (.cells #[b] 32 (0, 0)) ∧ ((w.alloc (.cells #[b] 32)).alloc (.cells #[.int .i64 0, .slice none 0 0] 34)).heap[w.heap.size + 1]? = some (.cells #[.int .i64 0, .slice none 0 0] 34 (0, 0)) := by
  refine ⟨?_, ?_⟩
  · rw [Below.heap_alloc _ _ _ (by simp)]
    exact World.alloc_heap_new w _
  · have := World.alloc_heap_new (w.alloc (.cells #[b] 32)) (.cells #[.int .i64 0, .slice none 0 0] 34)
    rwa [World.size_alloc] at this

set_option maxRecDepth 20000 in
set_option maxHeartbeats 1600000 in
theorem Trans_any (n : Int) (v : Value) (zs : List Int) (w : World) (h : Ints w v zs) :
    Calls Try.prog 26 #[.int .i64 n, v] w (Makes w (lisR n zs) n (bigL n.toNat fun s => hallTo (zs.map Int.toNat) s s)) := by
  have HI := hid h
  obtain ⟨a, cap, rfl, hlen, hc⟩ := h
  have CK := hid (fun s w' => setsCheck_any n s w')
  have HB0 : Hid (Below w.heap.size w ((w.alloc (.cells #[.slice a zs.length cap] 32)).alloc (.cells #[.int .i64 0, .slice none 0 0] 34))) := ((Below.refl _ _).alloc (Nat.le_refl _) _).alloc (by simp) _
  have HX := hid (slot_box (w := w) (b := .slice a zs.length cap))
  have HSZ : Hid (((w.alloc (.cells #[.slice a zs.length cap] 32)).alloc (.cells #[.int .i64 0, .slice none 0 0] 34)).heap.size = w.heap.size + 2) := by show _ = _; simp
  by_cases hn : 0 ≤ n ∧ n ≤ 8
  · obtain ⟨m, rfl⟩ := Int.eq_ofNat_of_zero_le hn.1
    have hm : m ≤ 8 := by omega
    have C0 := hid (fun w' => CK.out 0 w')
    have E0 : setR (m : Int) 0 = 0 := setR_ok (s := 0) hm (Nat.two_pow_pos m)
    rw [E0] at C0
    have HF : Hid (lisR (m : Int) zs = if zs.all (fun s => setR m s == 0) = true then (if 8 < zs.length then 2 else 0) else 1) := by
      show _ = _
      unfold lisR
      simp only [hn, and_true]
    go_enter Try.func26, Try.ntmps26
    go_wp2_with fail
    refine (C0.out _).mono ?_
    rintro e w' ⟨rfl, hw'⟩
    subst hw'
    go_wp2_with fail
    revert HB0 HX HSZ
    generalize ((w.alloc (.cells #[.slice a zs.length cap] 32)).alloc (.cells #[.int .i64 0, .slice none 0 0] 34)) = W0
    intro HB0 HX HSZ
    have hsz := HSZ.out
    obtain ⟨y2, y3, g2, g3⟩ := two_cells HX.out.2
    have x0 : W0.cell? ⟨w.heap.size, 0, none⟩ = some (.slice a zs.length cap) := Boxed.cell HX.out.1
    go_loop [18] (fun i => ∃ k : Nat, k ≤ zs.length ∧ i = .int .i64 k ∧ Hid (zs.all (fun s => setR m s == 0) = (zs.drop k).all (fun s => setR m s == 0))) (fun i => zs.length - (intOf i).toNat)
    case atStart => exact ⟨0, Nat.zero_le _, rfl, rfl⟩
    case round =>
      obtain ⟨k, hk, rfl, R⟩ := hrel
      by_cases hlt : k < zs.length
      · obtain ⟨b, off, rfl, hb, hcell⟩ := hc (by omega)
        have hck := (HB0.out.cell (p := ⟨b, off + k, none⟩) hb).trans (hcell k hlt)
        have D := hid (allI_drop (p := fun s => setR m s == 0) hlt)
        have C1 := hid (CK.out (zs.getD k 0) W0)
        have hki : (k : Int) < (zs.length : Int) := by omega
        clear hcell hc
        generalize zs.getD k 0 = x at *
        rcases setR_01 m x with h1 | h1
        · rw [h1] at C1 D
          go_wp2_with fail
          refine C1.out.mono ?_
          rintro e w' ⟨rfl, hw'⟩
          subst hw'
          go_wp2_with fail
          go_round
          case rel => exact ⟨k + 1, by omega, by go_num, by show _ = _; rw [R.out, D.out]; rfl⟩
          case measure => simp [intOf]; omega
        · rw [h1] at C1 D
          have F : Hid (lisR (m : Int) zs = 1) := by
            show _ = _
            rw [HF.out, if_neg]
            rw [R.out, D.out]
            simp
          have HCC := hid (set_two (x := .int .i64 0) (y := .slice none 0 0) HX.out.2)
          have HD := hid (below_two (b := w.heap.size + 1) (x := .int .i64 0) (y := .slice none 0 0) HB0.out (by omega))
          go_wp2_with fail
          refine C1.out.mono ?_
          rintro e w' ⟨rfl, hw'⟩
          subst hw'
          go_wp2_with fail
          obtain ⟨c0, c1⟩ := HCC.out
          refine bodyPost_ret (v := .tuple #[.agg #[.int .i64 0, .slice none 0 0], .int .i64 1]) ?_ rfl ⟨fun e => absurd (F.out.symm.trans e) (by decide), fun _ => ⟨by rw [F.out], HD.out⟩⟩
          simp [results, Try.f26, go_sem, c0, c1]
      · have hall : zs.all (fun s => setR m s == 0) = true := by rw [R.out, List.drop_of_length_le (by omega)]; rfl
        by_cases h8 : 8 < zs.length
        · have F : Hid (lisR (m : Int) zs = 2) := by show _ = _; rw [HF.out, if_pos hall, if_pos h8]
          have h8' : (8 : Int) < (zs.length : Int) := by omega
          have HCC := hid (set_two (x := .int .i64 0) (y := .slice none 0 0) HX.out.2)
          have HD := hid (below_two (b := w.heap.size + 1) (x := .int .i64 0) (y := .slice none 0 0) HB0.out (by omega))
          go_wp2_with fail
          obtain ⟨c0, c1⟩ := HCC.out
          refine bodyPost_ret (v := .tuple #[.agg #[.int .i64 0, .slice none 0 0], .int .i64 2]) ?_ rfl ⟨fun e => absurd (F.out.symm.trans e) (by decide), fun _ => ⟨by rw [F.out], HD.out⟩⟩
          simp [results, Try.f26, go_sem, c0, c1]
        · have F : Hid (lisR (m : Int) zs = 0) := by show _ = _; rw [HF.out, if_pos hall, if_neg h8]
          have h8' : ¬ (8 : Int) < (zs.length : Int) := by omega
          obtain ⟨l, hl, hlt2⟩ := lis_nats hall
          have hmf : ∀ (fn : Fn) (first cap : Array Value) (w : World), (Instr.makeFunc fn first cap).run Try.prog w = .ok (.func fn first cap) w := fun _ _ _ _ => rfl
          have OI := hid (ofInd_any m 69 #[.pointer (some ⟨w.heap.size, 0, none⟩)] (fun s => hallTo (zs.map Int.toNat) s s) W0 hm (fun args w => enters_of Try.func69 (by kernel_rfl) rfl args w)
            (fun x hx w3 hb3 _ => by
              have e1 : zs.map Int.toNat = l := by rw [hl]; simp [N, Function.comp_def]
              have HI3 := (HI.out.below HB0.out).below hb3
              have := TransQ_ok x w.heap.size (.slice a zs.length cap) l w3 (lt256 hm hx) (fun s hs => lt256 hm (hlt2 s hs)) ((hb3.cell (p := ⟨w.heap.size, 0, none⟩) (by show w.heap.size < _; omega)).trans x0) (by rw [← hl]; exact HI3)
              rw [e1]
              exact this))
          obtain ⟨acc, HACC⟩ : ∃ acc : List Nat, Hid (bigL m (fun s => hallTo (zs.map Int.toNat) s s) = acc) := ⟨_, rfl⟩
          change Hid (Calls _ _ _ _ fun e w' => ∃ r, e = .returned (.agg #[.int .i64 m, r]) ∧ Own _ w' r (bigL m (fun s => hallTo (zs.map Int.toNat) s s)) ∧ _) at OI
          rw [HACC.out] at OI
          clear hl hlt2
          go_wp2_with fail
          refine OI.out.mono ?_
          rintro e w4 ⟨r4, rfl, hr4, hb4⟩
          obtain ⟨ra, rc, hr⟩ := ownsRow_form' hr4
          subst hr
          have hxx := (hb4.block (w.heap.size + 1) (by omega)).trans HX.out.2
          obtain ⟨y2, y3, g2, g3⟩ := two_cells hxx
          have HC := hid (set_two (x := .int .i64 m) (y := .slice ra acc.length rc) hxx)
          have HB4 := hid (HB0.out.trans (hb4.mono HB0.out.size))
          have HD := hid (below_two (b := w.heap.size + 1) (x := .int .i64 m) (y := .slice ra acc.length rc) HB4.out (by omega))
          have HII := hid ((hr4.set2 (b := w.heap.size + 1) (x := .int .i64 m) (y := .slice ra acc.length rc) (by omega)).mono (by omega : w.heap.size ≤ _))
          clear hb4 hr4 hxx
          go_wp2_with fail
          obtain ⟨c0, c1⟩ := HC.out
          refine bodyPost_ret (v := .tuple #[.agg #[.int .i64 m, .slice ra _ rc], .int .i64 0]) ?_ rfl ⟨fun _ => ⟨_, rfl, by rw [Int.toNat_natCast, HACC.out]; exact HII.out, HD.out⟩, fun e => absurd F.out e⟩
          simp [results, Try.f26, go_sem, c0, c1]
  · have E0 : Hid (setR n 0 = 1) := by show _ = _; unfold setR; rw [if_neg (fun c => hn ⟨c.1, c.2.1⟩)]
    have F : Hid (lisR n zs = 1) := by show _ = _; unfold lisR; rw [if_neg (fun c => hn c.2)]
    have C0 := hid (fun w' => CK.out 0 w')
    rw [E0.out] at C0
    go_enter Try.func26, Try.ntmps26
    go_wp2_with fail
    refine (C0.out _).mono ?_
    rintro e w' ⟨rfl, hw'⟩
    subst hw'
    revert HB0 HX HSZ
    generalize ((w.alloc (.cells #[.slice a zs.length cap] 32)).alloc (.cells #[.int .i64 0, .slice none 0 0] 34)) = W0
    intro HB0 HX HSZ
    have HCC := hid (set_two (x := .int .i64 0) (y := .slice none 0 0) HX.out.2)
    have HD := hid (below_two (b := w.heap.size + 1) (x := .int .i64 0) (y := .slice none 0 0) HB0.out (by omega))
    obtain ⟨y2, y3, g2, g3⟩ := two_cells HX.out.2
    go_wp2_with fail
    obtain ⟨c0, c1⟩ := HCC.out
    refine bodyPost_ret (v := .tuple #[.agg #[.int .i64 0, .slice none 0 0], .int .i64 1]) ?_ rfl ⟨fun e => absurd (F.out.symm.trans e) (by decide), fun _ => ⟨by rw [F.out], HD.out⟩⟩
    simp [results, Try.f26, go_sem, c0, c1]
end Go.Proofs.Ytimciginbiobmaa
