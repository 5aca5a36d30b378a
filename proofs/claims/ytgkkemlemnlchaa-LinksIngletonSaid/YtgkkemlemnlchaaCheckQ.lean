/- axioms.Check. -/
import Derived.Test.YtgkkemlemnlchaaExch2Q
import Derived.Test.YtgkkemlemnlchaaFamQ
namespace Go.Proofs.Ytgkkemlemnlchaa
open Go.RowKit

/-- What Check answers. -/
def chkR (n : Int) (zs : List Int) : Int := if famR n zs ≠ 0 then 1 else if zs = [] ∨ oneB (zs.map Int.toNat) = false then 1 else if exchB (zs.map Int.toNat) = true then 0 else 3
theorem N_back (l : List Nat) : (N l).map Int.toNat = l := by
  unfold N
  rw [List.map_map]
  conv => rhs; rw [← List.map_id l]
  exact List.map_congr_left fun a _ => by simp
theorem famR_01 (n : Int) (zs : List Int) : famR n zs = 0 ∨ famR n zs = 1 := by unfold famR; split <;> simp

set_option maxRecDepth 20000 in
set_option maxHeartbeats 1000000 in
theorem check_any (n : Int) (v : Value) (zs : List Int) (w : World) (h : Ints w v zs) :
    Calls Try.prog 18 #[.agg #[.int .i64 n, v]] w fun e w' => e = .returned (.int .i64 (chkR n zs)) ∧ Below w.heap.size w w' := by
  have HI := hid h
  obtain ⟨a, cap, hv, hlen, h0⟩ := h
  clear h0
  subst hv
  have hB0 : Below w.heap.size w (w.alloc (.cells #[.int .i64 n, .slice a zs.length cap] 33)) := (Below.refl _ _).alloc (Nat.le_refl _) _
  have HI1 := hid (HI.out.below hB0)
  have HB0 := hid hB0
  clear hB0
  rcases famR_01 n zs with h0 | h0
  · obtain ⟨m, l, rfl, hm, rfl, hfam⟩ := fam_of h0
    have HL := hid (hfam.lt256 hm)
    have H0 := hid h0
    have E1 : Hid (chkR m (N l) = if l = [] ∨ oneB l = false then 1 else if exchB l = true then 0 else 3) := by
      show _ = _
      unfold chkR
      rw [h0, N_back]
      by_cases e : l = []
      · subst e; simp [N]
      · have : N l ≠ [] := fun h => e (by unfold N at h; simpa using h)
        simp [e, this]
    obtain ⟨q, HQ⟩ : ∃ q, Hid (chkR m (N l) = q) := ⟨_, rfl⟩
    rw [HQ.out]
    have E2 : Hid (q = if l = [] ∨ oneB l = false then 1 else if exchB l = true then 0 else 3) := HQ.out.symm.trans E1.out
    clear h0 E1 HQ
    rw [N_len] at *
    by_cases e : l = []
    · subst e
      go_enter Try.func18, Try.ntmps18
      go_wp2_with fail
      refine (family_any _ _ _ _ HI1.out).mono ?_
      rw [H0.out]
      rintro e w' ⟨rfl, rfl⟩
      go_wp2_with fail
      go_ret
      exact ⟨ret_int (by rw [E2.out]; simp), HB0.out⟩
    · have hpos : ¬ ((l.length : Int) == 0) = true := by
        rw [beq_iff_eq]
        intro h
        exact e (List.length_eq_zero_iff.1 (by omega))
      have hpos' : ((l.length : Int) == 0) = false := by simpa using hpos
      have HE := hid e
      have HO := hid (areOne_any _ l _ HL.out HI1.out)
      clear e hpos
      rcases ho : oneB l with _ | _
      · have HOB := hid ho
        clear ho
        go_enter Try.func18, Try.ntmps18
        go_wp2_with fail
        refine (family_any _ _ _ _ HI1.out).mono ?_
        rw [H0.out]
        rintro e w' ⟨rfl, rfl⟩
        go_wp2_with fail
        refine HO.out.mono ?_
        rw [HOB.out]
        rintro e w' ⟨rfl, hb'⟩
        have HB := hid (HB0.out.trans (hb'.mono HB0.out.size))
        clear hb'
        go_wp2_with fail
        go_ret
        exact ⟨ret_int (by rw [E2.out]; simp [HOB.out]), HB.out⟩
      · have HOB := hid ho
        clear ho
        go_enter Try.func18, Try.ntmps18
        go_wp2_with fail
        refine (family_any _ _ _ _ HI1.out).mono ?_
        rw [H0.out]
        rintro e w' ⟨rfl, rfl⟩
        go_wp2_with fail
        refine HO.out.mono ?_
        rw [HOB.out]
        rintro e w2 ⟨rfl, hb'⟩
        have HB := hid (HB0.out.trans (hb'.mono HB0.out.size))
        have HX := hid (canExchange_any _ l _ HL.out (HI1.out.below hb'))
        have hcx : w2.cell? ⟨w.heap.size, 1, none⟩ = some (.slice a l.length cap) := (hb'.cell (p := ⟨w.heap.size, 1, none⟩) (by show w.heap.size < _; simp)).trans (by rw [World.cell?_alloc_at _ _ _ _ rfl]; rfl)
        clear hb'
        rcases hx : exchB l with _ | _
        · have HXB := hid hx
          clear hx
          go_wp2_with fail
          refine HX.out.mono ?_
          rw [HXB.out]
          rintro e w3 ⟨rfl, hb3⟩
          have HB3 := hid (HB.out.trans (hb3.mono HB.out.size))
          clear hb3
          go_wp2_with fail
          go_ret
          exact ⟨ret_int (by rw [E2.out]; simp [HE.out, HOB.out, HXB.out]), HB3.out⟩
        · have HXB := hid hx
          clear hx
          go_wp2_with fail
          refine HX.out.mono ?_
          rw [HXB.out]
          rintro e w3 ⟨rfl, hb3⟩
          have HB3 := hid (HB.out.trans (hb3.mono HB.out.size))
          clear hb3
          go_wp2_with fail
          go_ret
          exact ⟨ret_int (by rw [E2.out]; simp [HE.out, HOB.out, HXB.out]), HB3.out⟩
  · have E1 : Hid (chkR n zs = 1) := by
      show _ = _
      unfold chkR
      rw [h0]
      simp
    rw [E1.out]
    have H0 := hid h0
    clear h0 E1
    go_enter Try.func18, Try.ntmps18
    go_wp2_with fail
    refine (family_any _ _ _ _ HI1.out).mono ?_
    rw [H0.out]
    rintro e w' ⟨rfl, rfl⟩
    go_wp2_with fail
    go_ret
    exact ⟨rfl, HB0.out⟩
end Go.Proofs.Ytgkkemlemnlchaa
