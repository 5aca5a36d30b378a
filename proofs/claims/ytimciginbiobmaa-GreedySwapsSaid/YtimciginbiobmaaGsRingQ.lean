/- rotaref.Ring, rotaref.Ladder; greedy.Ladder and greedy.Fundamental where something is wrong. -/
import Derived.Test.YtimciginbiobmaaGsSwQ
import Derived.Test.YtimciginbiobmaaGrLQ
import Derived.Test.YtimciginbiobmaaRefAxBQ
namespace Go.Proofs.Ytimciginbiobmaa
open Go.RowKit

set_option maxRecDepth 20000 in
set_option maxHeartbeats 2000000 in
theorem Ring_ok (m b i : Nat) (v : Value) (l : List Nat) (w : World) (h : Ints w v (N l)) (hm : m ≤ 8) (hf : Fam m l) (hbs : Bas l) (hbl : b ∈ l) (hi : i < m) (hbi : b.testBit i = false) :
    Calls Try.prog 38 #[.agg #[.int .i64 m, v], .int .i64 b, .int .i64 i] w fun e w' => e = .returned (.int .i64 (fund l b i : Nat)) ∧ Below w.heap.size w w' := by
  have B0 := below_box w #[.int .i64 m, v]
  have CR := hid (Circ_ref m v l _ hm (hf.lt256 hm) (h.below B0))
  have HB := hid B0
  obtain ⟨sa, scap, rfl, _, _⟩ := h
  have hb8 := hbs.lt b hbl
  rw [cir_eq hm hbs] at CR
  obtain ⟨f1, f2, f3, f4⟩ := fund_cir hm hf hbs hbl hi hbi
  have FI := hid (fun c (hc : cirB (rk l) c = true) hs => fund_is hm hf hbs hbl hi hbi (c := c) hc hs)
  generalize fund l b i = fd at *
  go_enter Try.func38, Try.ntmps38
  go_wp2_with fail
  refine CR.out.mono ?_
  rintro e w1 ⟨r1, rfl, ho1, hb1⟩
  have hlen := rg_le (cirB (rk l)) (2 ^ m)
  have T8 : (2 : Nat) ^ m ≤ 256 := (pow_wrap m hm).2
  have FM : Hid (fd ∈ (List.range (2 ^ m)).filter (cirB (rk l))) := by show _ ∈ _; rw [List.mem_filter, List.mem_range]; exact ⟨f1, f2⟩
  have FU : Hid (∀ c ∈ (List.range (2 ^ m)).filter (cirB (rk l)), subB c (b ||| 2 ^ i) = true → c = fd) := fun c hc hs => by
    rw [List.mem_filter] at hc
    exact FI.out c hc.2 hs
  have FL : Hid (∀ c ∈ (List.range (2 ^ m)).filter (cirB (rk l)), c < 256) := fun c hc => by rw [List.mem_filter, List.mem_range] at hc; omega
  have FS : Hid (subB fd (b ||| 2 ^ i) = true) := f3
  generalize (List.range (2 ^ m)).filter (cirB (rk l)) = C at *
  have HI1 := hid (ho1.ints (by omega))
  have HB1 := hid (HB.out.trans (hb1.mono HB.out.size))
  obtain ⟨ca, ccap, rfl, _, hcl⟩ := HI1.out.nats
  have hpw : wrap64 (2 ^ i) = ((2 ^ i : Nat) : Int) := (pow_wrap i (by omega)).1
  have hpi := pow_lt256 (i := i) (by omega)
  have hpw2 : IntKind.i64.wrap (2 ^ i) = ((2 ^ i : Nat) : Int) := by rw [show (2 : Int) ^ i = ((2 ^ i : Nat) : Int) by simp]; exact wrap_i64_nat _ (by omega)
  have hor : bits .or .i64 (b : Int) ((2 ^ i : Nat) : Int) = ((b ||| 2 ^ i : Nat) : Int) := i64_or_nat _ _ (by omega) (by omega)
  have hu8 : b ||| 2 ^ i < 256 := or_lt hb8 hpi
  have hin : ¬ (i : Int) < 0 := by omega
  clear hb1 ho1 f1 f2 f3 f4 CR
  generalize b ||| 2 ^ i = u at *
  generalize 2 ^ i = pi at *
  go_wp2_with fail
  go_loopw [8] (fun q wr => ∃ k : Nat, k ≤ C.length ∧ q = .int .i64 k ∧ Hid (∀ j, j < k → subB (C.getD j 0) u = false) ∧ Hid (Below w1.heap.size w1 wr)) (fun q _ => C.length - (intOf q).toNat)
  case atStart => exact ⟨0, Nat.zero_le _, rfl, fun j hj => by omega, Below.refl _ _⟩
  case round =>
    obtain ⟨k, hk, rfl, R, HW⟩ := hrel
    by_cases hlt : k < C.length
    · have hki : (k : Int) < (C.length : Int) := by omega
      obtain ⟨cb, coff, rfl, hcb, hcell⟩ := hcl (by omega)
      have hck := (HW.out.cell (p := ⟨cb, coff + k, none⟩) hcb).trans (hcell k hlt)
      have hmem : C.getD k 0 ∈ C := by simp only [List.getD, List.getElem?_eq_getElem hlt, Option.getD_some]; exact List.getElem_mem _
      have hc8 := FL.out _ hmem
      have hfu := FU.out _ hmem
      have R2 : Hid (subB (C.getD k 0) u = false → ∀ j, j < k + 1 → subB (C.getD j 0) u = false) := fun h j hj => by
        by_cases e : j = k
        · subst e; exact h
        · exact R.out j (by omega)
      generalize C.getD k 0 = c at *
      have WI := hid (fun w => Within_any c u w hc8 hu8)
      clear hcell hcl
      rcases hq : subB c u with _ | _
      · rw [hq] at WI
        have R3 := hid (R2.out hq)
        clear hq hfu R2
        go_wp2_with fail
        go_quiet ((go_at_call 35; refine (WI.out _).mono ?_; rintro e w' ⟨rfl, rfl⟩; exact ⟨rfl, _, rfl⟩))
        have HW2 : Hid (Below w1.heap.size w1 (wr.drewN nq)) := HW.out.trans (drewN_below _ _ _)
        clear hck
        go_wp2_with fail
        go_roundw
        case rel => exact ⟨k + 1, by omega, by go_num, R3, HW2⟩
        case measure => simp [intOf]; omega
      · rw [hq] at WI
        have hfd := hfu hq
        rw [hfd] at hck WI
        clear hq R2 hfu hfd
        go_wp2_with fail
        go_quiet ((go_at_call 35; refine (WI.out _).mono ?_; rintro e w' ⟨rfl, rfl⟩; exact ⟨rfl, _, rfl⟩))
        have hck2 : (wr.drewN nq).cell? ⟨cb, coff + k, none⟩ = some (.int .i64 (fd : Nat)) := hck
        have HW2 : Hid (Below w.heap.size w (wr.drewN nq)) := HB1.out.trans ((HW.out.trans (drewN_below _ _ _)).mono HB1.out.size)
        go_wp2_with fail
        go_ret
        exact ⟨rfl, HW2.out⟩
    · exfalso
      obtain ⟨j, hj, he⟩ := List.mem_iff_getElem.1 FM.out
      have h1 := R.out j (by omega)
      simp only [List.getD, List.getElem?_eq_getElem hj, Option.getD_some] at h1
      rw [he, FS.out] at h1
      cases h1
end Go.Proofs.Ytimciginbiobmaa
