/- kinds.Laminar. -/
import Derived.Test.YtomajfpincehnaaKTransW
namespace Go.Proofs.Ytomajfpincehnaa
open Go.RowKit

theorem lam_step {l : List Nat} {ms : List Int} {k : Nat} (hk : k < l.length) : lamR l ms (l.length - k) = if lamAt l ms k = 0 then lamR l ms (l.length - (k + 1)) else lamAt l ms k := by
  obtain ⟨j, hj⟩ : ∃ j, l.length - k = j + 1 := ⟨l.length - k - 1, by omega⟩
  have e : l.length - (j + 1) = k := by omega
  have e2 : l.length - (k + 1) = j := by omega
  rw [hj, e2]
  show (if lamAt l ms (l.length - (j + 1)) = 0 then lamR l ms j else lamAt l ms (l.length - (j + 1))) = _
  rw [e]
/-- What is wrong with a family and its numbers. -/
def lamE (n : Int) (zs ms : List Int) : Int := if famR n zs = 0 then (if ms.length = zs.length then lamR (zs.map Int.toNat) ms zs.length else 3) else 1
theorem Ints.takeP {w : World} {a : Option Addr} {L cap k : Nat} {l : List Nat} (h : Ints w (.slice a L cap) (N l)) (hk : k ≤ l.length) : Ints w (.slice a k cap) (N (l.take k)) := by
  obtain ⟨a', cap', e, hl, hc⟩ := h
  obtain ⟨⟨rfl, rfl⟩, rfl⟩ : (a = a' ∧ L = (N l).length) ∧ cap = cap' := by simpa [and_assoc] using e
  rw [N_len] at hl hc
  have ht : (l.take k).length = k := by simp; omega
  refine ⟨a, cap, by rw [N_len, ht], by rw [N_len, ht]; omega, fun h0 => ?_⟩
  rw [N_len, ht] at h0
  obtain ⟨b, off, e1, hb, hcell⟩ := hc (by omega)
  refine ⟨b, off, e1, hb, fun i hi => ?_⟩
  rw [N_len, ht] at hi
  rw [hcell i (by omega), N_getD, N_getD]
  simp [List.getD, hi]
theorem slot3 {w : World} {b c : Value} : (((w.alloc (.cells #[b] 28)).alloc (.cells #[c] 28)).alloc (.cells #[.int .i64 0, .slice none 0 0] 30)).heap[w.heap.size]? = some (.cells #[b] 28 (0, 0)) ∧ (((w.alloc (.cells #[b] 28)).alloc (.cells #[c] 28)).alloc (.cells #[.int .i64 0, .slice none 0 0] 30)).heap[w.heap.size + 1]? = some (.cells #[c] 28 (0, 0)) ∧
    (((w.alloc (.cells #[b] 28)).alloc (.cells #[c] 28)).alloc (.cells #[.int .i64 0, .slice none 0 0] 30)).heap[w.heap.size + 1 + 1]? = some (.cells #[.int .i64 0, .slice none 0 0] 30 (0, 0)) := by
  refine ⟨?_, ?_, ?_⟩
  · rw [Below.heap_alloc _ _ _ (by simp; omega), Below.heap_alloc _ _ _ (by simp)]
    exact World.alloc_heap_new w _
  · rw [Below.heap_alloc _ _ _ (by simp)]
    have := World.alloc_heap_new (w.alloc (.cells #[b] 28)) (.cells #[c] 28)
    rwa [World.size_alloc] at this
  · have := World.alloc_heap_new ((w.alloc (.cells #[b] 28)).alloc (.cells #[c] 28)) (.cells #[.int .i64 0, .slice none 0 0] 30)
    rwa [World.size_alloc, World.size_alloc] at this

set_option maxRecDepth 20000 in
set_option maxHeartbeats 1600000 in
theorem Lam_any (n : Int) (v u : Value) (zs ms : List Int) (w : World) (h : Ints w v zs) (hu : Ints w u ms) (hcp : ∀ a L c, v = .slice a L c → L ≤ c) :
    Calls Try.prog 8 #[.int .i64 n, v, u] w (Makes w (lamE n zs ms) n (bigL n.toNat (keepH (zs.map Int.toNat) ms))) := by
  have HI := hid h
  have HU := hid hu
  obtain ⟨a, cap, rfl, hlen, hc⟩ := h
  obtain ⟨a2, cap2, rfl, hlen2, hc2⟩ := hu
  have hcap := hcp _ _ _ rfl
  clear hcp
  have HB0 : Hid (Below w.heap.size w (((w.alloc (.cells #[.slice a zs.length cap] 28)).alloc (.cells #[.slice a2 ms.length cap2] 28)).alloc (.cells #[.int .i64 0, .slice none 0 0] 30))) := (((Below.refl _ _).alloc (Nat.le_refl _) _).alloc (by simp) _).alloc (by simp; omega) _
  have HX := hid (slot3 (w := w) (b := .slice a zs.length cap) (c := .slice a2 ms.length cap2))
  have HSZ : Hid ((((w.alloc (.cells #[.slice a zs.length cap] 28)).alloc (.cells #[.slice a2 ms.length cap2] 28)).alloc (.cells #[.int .i64 0, .slice none 0 0] 30)).heap.size = w.heap.size + 3) := by show _ = _; simp
  have FA := hid (fun W0 (hb0 : Below w.heap.size w W0) => family_any n _ zs W0 (HI.out.below hb0))
  have FA0 := hid (FA.out _ HB0.out)
  go_enter Try.func8, Try.ntmps8
  go_wp2_with fail
  refine FA0.out.mono ?_
  rintro e w' ⟨rfl, hw'⟩
  subst hw'
  clear FA FA0
  revert HB0 HX HSZ
  generalize (((w.alloc (.cells #[.slice a zs.length cap] 28)).alloc (.cells #[.slice a2 ms.length cap2] 28)).alloc (.cells #[.int .i64 0, .slice none 0 0] 30)) = W0
  intro HB0 HX HSZ
  have hsz := HSZ.out
  obtain ⟨y2, y3, g2, g3⟩ := two_cells HX.out.2.2
  have x0 : W0.cell? ⟨w.heap.size, 0, none⟩ = some (.slice a zs.length cap) := Boxed.cell HX.out.1
  have x1 : W0.cell? ⟨w.heap.size + 1, 0, none⟩ = some (.slice a2 ms.length cap2) := Boxed.cell HX.out.2.1
  have HCC := hid (set_two (x := .int .i64 0) (y := .slice none 0 0) HX.out.2.2)
  have HD0 := hid (below_two (b := w.heap.size + 1 + 1) (x := .int .i64 0) (y := .slice none 0 0) HB0.out (by omega))
  by_cases hf : famR n zs = 0
  · obtain ⟨m, l, rfl, hm, rfl, hF⟩ := fam_of hf
    have e1 : (N l).map Int.toNat = l := by simp [N, Function.comp_def]
    have HL := hid (hF.lt256 hm)
    by_cases hml : ms.length = (N l).length
    · have HE : Hid (lamE (m : Int) (N l) ms = lamR l ms l.length) := by
        show _ = _
        unfold lamE
        rw [if_pos hf, if_pos hml, e1, N_len]
      rw [hf, e1]
      rw [N_len] at *
      have hne : ((ms.length : Int) != (l.length : Int)) = false := by rw [hml]; simp
      have KB := hid (fun x (hx : x < 2 ^ m) w3 (hb3 : Below W0.heap.size W0 w3) => LamQ_ok x w.heap.size (w.heap.size + 1) (.slice a l.length cap) (.slice a2 ms.length cap2) l ms w3 (lt256 hm hx) HL.out hml ((hb3.cell (p := ⟨w.heap.size, 0, none⟩) (by show w.heap.size < _; omega)).trans x0) ((hb3.cell (p := ⟨w.heap.size + 1, 0, none⟩) (by show w.heap.size + 1 < _; omega)).trans x1) ((HI.out.below HB0.out).below hb3) ((HU.out.below HB0.out).below hb3))
      have OI := hid (ofInd_any m 23 #[.pointer (some ⟨w.heap.size, 0, none⟩), .pointer (some ⟨w.heap.size + 1, 0, none⟩)] (keepH l ms) W0 hm (fun args w => enters_of Try.func23 (by kernel_rfl) rfl args w) (fun x hx w3 hb3 _ => KB.out x hx w3 hb3))
      change Hid (Calls _ _ _ _ fun e w' => ∃ r, e = .returned (.agg #[.int .i64 m, r]) ∧ Own _ w' r (bigL m (keepH l ms)) ∧ _) at OI
      have hmf : ∀ (fn : Fn) (first cap : Array Value) (w : World), (Instr.makeFunc fn first cap).run Try.prog w = .ok (.func fn first cap) w := fun _ _ _ _ => rfl
      rw [hml] at x1 hc2
      have hE0 : Hid (lamR l ms l.length = lamR l ms (l.length - 0)) := rfl
      go_wp2_with fail
      go_loop [26] (fun i => ∃ k : Nat, k ≤ l.length ∧ i = .int .i64 k ∧ Hid (lamR l ms l.length = lamR l ms (l.length - k))) (fun i => l.length - (intOf i).toNat)
      case atStart => exact ⟨0, Nat.zero_le _, rfl, rfl⟩
      case round =>
        obtain ⟨k, hk, rfl, R⟩ := hrel
        by_cases hlt : k < l.length
        · obtain ⟨b, off, rfl, hb, hcell⟩ := hc (by omega)
          obtain ⟨b2, off2, rfl, hb2, hcell2⟩ := hc2 (by omega)
          have hck := (HB0.out.cell (p := ⟨b, off + k, none⟩) hb).trans (hcell k hlt)
          have hck2 := (HB0.out.cell (p := ⟨b2, off2 + k, none⟩) hb2).trans (hcell2 k hlt)
          rw [N_getD] at hck
          have D := hid (lam_step (ms := ms) hlt)
          have hx := getD_lt HL.out k
          have CR := hid (crosses_any (.slice (some ⟨b, off, none⟩) k cap) (l.take k) (l.getD k 0) W0 hx (fun s hs => HL.out s (List.mem_of_mem_take hs)) ((HI.out.below HB0.out).takeP hk))
          have LA : Hid (lamAt l ms k = if ms.getD k 0 < 0 then 1 else if (l.take k).any (crossB (l.getD k 0)) = true then 3 else 0) := rfl
          have hki : (k : Int) < (l.length : Int) := by omega
          have hkc : k ≤ cap := by omega
          clear hcell hc hcell2 hc2
          generalize l.getD k 0 = x at *
          generalize ms.getD k 0 = y at *
          by_cases hy : y < 0
          · rw [if_pos hy] at LA
            have F : Hid (lamE (m : Int) (N l) ms = 1) := by show _ = _; rw [HE.out, R.out, D.out, LA.out]; rfl
            go_wp2_with fail
            obtain ⟨c0, c1⟩ := HCC.out
            refine bodyPost_ret (v := .tuple #[.agg #[.int .i64 0, .slice none 0 0], .int .i64 1]) ?_ rfl ⟨fun e => absurd (F.out.symm.trans e) (by decide), fun _ => ⟨by rw [F.out], HD0.out⟩⟩
            simp [results, Try.f8, go_sem, c0, c1]
          · rw [if_neg hy] at LA
            rcases hq : (l.take k).any (crossB x) with _ | _
            · rw [hq] at CR LA
              have F : Hid (lamR l ms l.length = lamR l ms (l.length - (k + 1))) := by show _ = _; rw [R.out, D.out, LA.out]; rfl
              go_wp2_with fail
              refine CR.out.mono ?_
              rintro e w' ⟨rfl, hw'⟩
              subst hw'
              go_wp2_with fail
              go_round
              case rel => exact ⟨k + 1, by omega, by go_num, F⟩
              case measure => simp [intOf]; omega
            · rw [hq] at CR LA
              have F : Hid (lamE (m : Int) (N l) ms = 3) := by show _ = _; rw [HE.out, R.out, D.out, LA.out]; rfl
              go_wp2_with fail
              refine CR.out.mono ?_
              rintro e w' ⟨rfl, hw'⟩
              subst hw'
              go_wp2_with fail
              obtain ⟨c0, c1⟩ := HCC.out
              refine bodyPost_ret (v := .tuple #[.agg #[.int .i64 0, .slice none 0 0], .int .i64 3]) ?_ rfl ⟨fun e => absurd (F.out.symm.trans e) (by decide), fun _ => ⟨by rw [F.out], HD0.out⟩⟩
              simp [results, Try.f8, go_sem, c0, c1]
        · have F : Hid (lamE (m : Int) (N l) ms = 0) := by show _ = _; rw [HE.out, R.out, show l.length - k = 0 by omega]; rfl
          obtain ⟨acc, HACC⟩ : ∃ acc : List Nat, Hid (bigL m (keepH l ms) = acc) := ⟨_, rfl⟩
          rw [HACC.out] at OI
          go_wp2_with fail
          refine OI.out.mono ?_
          rintro e w4 ⟨r4, rfl, hr4, hb4⟩
          obtain ⟨ra, rc, hr⟩ := ownsRow_form' hr4
          subst hr
          have hxx := (hb4.block (w.heap.size + 1 + 1) (by omega)).trans HX.out.2.2
          obtain ⟨y2, y3, g2, g3⟩ := two_cells hxx
          have HC := hid (set_two (x := .int .i64 m) (y := .slice ra acc.length rc) hxx)
          have HB4 := hid (HB0.out.trans (hb4.mono HB0.out.size))
          have HD := hid (below_two (b := w.heap.size + 1 + 1) (x := .int .i64 m) (y := .slice ra acc.length rc) HB4.out (by omega))
          have HII := hid ((hr4.set2 (b := w.heap.size + 1 + 1) (x := .int .i64 m) (y := .slice ra acc.length rc) (by omega)).mono (by omega : w.heap.size ≤ _))
          clear hb4 hr4 hxx
          go_wp2_with fail
          obtain ⟨c0, c1⟩ := HC.out
          refine bodyPost_ret (v := .tuple #[.agg #[.int .i64 m, .slice ra _ rc], .int .i64 0]) ?_ rfl ⟨fun _ => ⟨_, rfl, by rw [Int.toNat_natCast, e1, HACC.out]; exact HII.out, HD.out⟩, fun e => absurd F.out e⟩
          simp [results, Try.f8, go_sem, c0, c1]
    · have F : Hid (lamE (m : Int) (N l) ms = 3) := by show _ = _; unfold lamE; rw [if_pos hf, if_neg hml]
      have hne : ((ms.length : Int) != ((N l).length : Int)) = true := by rw [bne_iff_ne]; omega
      rw [hf]
      go_wp2_with fail
      obtain ⟨c0, c1⟩ := HCC.out
      refine bodyPost_ret (v := .tuple #[.agg #[.int .i64 0, .slice none 0 0], .int .i64 3]) ?_ rfl ⟨fun e => absurd (F.out.symm.trans e) (by decide), fun _ => ⟨by rw [F.out], HD0.out⟩⟩
      simp [results, Try.f8, go_sem, c0, c1]
  · have h1 : famR n zs = 1 := (family_err n _ zs w HI.out hf).elim fun _ h => h.elim fun _ h => h.2
    have F : Hid (lamE n zs ms = 1) := by show _ = _; unfold lamE; rw [if_neg hf]
    rw [h1]
    go_wp2_with fail
    obtain ⟨c0, c1⟩ := HCC.out
    refine bodyPost_ret (v := .tuple #[.agg #[.int .i64 0, .slice none 0 0], .int .i64 1]) ?_ rfl ⟨fun e => absurd (F.out.symm.trans e) (by decide), fun _ => ⟨by rw [F.out], HD0.out⟩⟩
    simp [results, Try.f8, go_sem, c0, c1]
end Go.Proofs.Ytomajfpincehnaa
