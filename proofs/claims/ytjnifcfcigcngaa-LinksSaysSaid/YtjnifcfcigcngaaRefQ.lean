/- Contracts of the document's own helpers: rotaref.In, Elements, Size, Within; rotalaw.Same[int]. -/
import Derived.Test.YtjnifcfcigcngaaOwnQ
import Derived.Deep.QuietTactic
import Derived.BigQuiet
namespace Go.Proofs.Ytjnifcfcigcngaa
open Go.RowKit

theorem in_fact : ∀ s : Nat, s < 256 → ∀ i : Nat, i < 8 → ((s : Int) / 2 ^ i % 2 == 1) = s.testBit i := by decide +kernel
theorem In_any (s i : Nat) (w : World) (hs : s < 256) (hi : i < 8) :
    Calls Try.prog 19 #[.int .i64 s, .int .i64 i] w fun e w' => e = .returned (.bool (s.testBit i)) ∧ w' = w := by
  have F := hid (in_fact s hs i hi)
  go_enter Try.func19, Try.ntmps19
  go_wp2
  go_ret
  exact ⟨ret_bool F.out, rfl⟩


theorem range_hit' {p : Nat → Bool} {k : Nat} (hp : p k = true) : (List.range (k + 1)).filter p = (List.range k).filter p ++ [k] := by
  rw [List.range_succ, List.filter_append, List.filter_cons, hp]; simp
theorem range_miss' {p : Nat → Bool} {k : Nat} (hp : p k = false) : (List.range (k + 1)).filter p = (List.range k).filter p := by
  rw [List.range_succ, List.filter_append, List.filter_cons, hp]; simp
theorem range_le' (p : Nat → Bool) (k : Nat) : ((List.range k).filter p).length ≤ k := by
  have := List.length_filter_le p (List.range k); simpa using this

set_option maxRecDepth 20000 in
set_option maxHeartbeats 800000 in
theorem Elements_any (s : Nat) (w : World) (hs : s < 256) :
    Calls Try.prog 17 #[.int .i64 s] w fun e w' => ∃ r, e = .returned r ∧ Own w.heap.size w' r (els s) ∧ Below w.heap.size w w' := by
  obtain ⟨i0, hi, hz0, hz1, hz2⟩ := info_parts Try.infoInt
  go_enter Try.func17, Try.ntmps17
  go_wp2_with fail
  go_loopw [3, 4] (fun u i wr => ∃ k : Nat, k ≤ 8 ∧ i = .int .i64 k ∧ Own w.heap.size wr u ((List.range k).filter fun i => s.testBit i) ∧ Below w.heap.size w wr) (fun _ i _ => 8 - (intOf i).toNat)
  case atStart => exact ⟨0, Nat.zero_le _, rfl, Own.nil _ _, Below.refl _ _⟩
  case round =>
    obtain ⟨k, hk, rfl, hown, hnx⟩ := hrel
    have hsz := hnx.size
    by_cases hlt : k < 8
    · have Hhit := hid (fun hp => range_hit' (p := fun i => s.testBit i) (k := k) hp)
      have Hmiss := hid (fun hp => range_miss' (p := fun i => s.testBit i) (k := k) hp)
      have hfl := range_le' (fun i => s.testBit i) k
      have HO := hid hown
      clear hown
      generalize (List.range k).filter (fun i => s.testBit i) = acc at *
      rcases hq : s.testBit k with _ | _
      · have HQ := hid hq
        clear hq
        go_wp2_with fail
        refine (In_any s k _ hs hlt).mono ?_
        rw [HQ.out]
        rintro e w1 ⟨rfl, rfl⟩
        go_wp2_with fail
        go_roundw
        case rel => exact ⟨k + 1, by omega, by go_num, by rw [Hmiss.out HQ.out]; exact HO.out, hnx⟩
        case measure => simp [intOf]; omega
      · have HQ := hid hq
        clear hq
        go_wp2_with fail
        refine (In_any s k _ hs hlt).mono ?_
        rw [HQ.out]
        rintro e w1 ⟨rfl, rfl⟩
        go_wp2_with (at_builtin; refine wpList_append_own _ rfl _ _ 43 rfl w.heap.size 3 i0 (.int .i64 0) 1 8 Try.underlying43 hi hz0 hz1 hz2 rfl (by decide) _ _ _ rfl (HO.out.alloc _) ⟨w1.heap.size, 0, none⟩ 1 1 [.int .i64 (k : Nat)] rfl rfl ?c1 ?c2 ?c3 ?c4 ?c5 ?_)
        case c1 => exact cell_one_new _ _ _
        case c2 => intro u hu; simp at hu; subst hu; rfl
        case c3 => unfold maxLen; omega
        case c4 => omega
        case c5 => simp; omega
        intro v' w2 hown' hgrow _
        have R1 := hid (Own.snoc hown')
        have R2 := hid (Own.grown HO.out hnx hsz hgrow)
        clear hown' hgrow
        go_wp2_with fail
        go_roundw
        case rel => exact ⟨k + 1, by omega, by go_num, by rw [Hhit.out HQ.out]; exact R1.out, R2.out⟩
        case measure => simp [intOf]; omega
    · have hk' : k = 8 := by omega
      subst hk'
      go_wp2_with fail
      go_ret
      exact ⟨_, rfl, hown, hnx⟩

theorem Own.form {B : Nat} {w : World} {v : Value} {l : List Nat} (h : Own B w v l) : ∃ a cap, v = .slice a l.length cap := by
  rcases Go.Joins.ownsRow_forms h with ⟨rfl, h0⟩ | ⟨g, cap, rfl⟩
  · exact ⟨none, 0, by rw [h0]⟩
  · exact ⟨_, cap, rfl⟩
theorem Size_any (s : Nat) (w : World) (hs : s < 256) :
    Calls Try.prog 8 #[.int .i64 s] w fun e w' => e = .returned (.int .i64 (pop s)) ∧ Below w.heap.size w w' := by
  go_enter Try.func8, Try.ntmps8
  go_wp2_with fail
  refine (Elements_any s _ hs).mono ?_
  rintro e w' ⟨r, rfl, hown, hb⟩
  obtain ⟨a, cap, hr⟩ := hown.form
  rw [hr]
  clear hown
  go_wp2_with fail
  go_ret
  exact ⟨rfl, hb⟩

theorem same_step {zs ys : List Int} {k : Nat} (hl : zs.length = ys.length) (hk : k < zs.length) : decide (zs.drop k = ys.drop k) = (decide (zs.getD k 0 = ys.getD k 0) && decide (zs.drop (k + 1) = ys.drop (k + 1))) := by
  rw [drop_getD hk, drop_getD (by omega : k < ys.length), Bool.eq_iff_iff]
  simp

set_option maxHeartbeats 800000 in
theorem Same_any (u v : Value) (zs ys : List Int) (w : World) (h1 : Ints w u zs) (h2 : Ints w v ys) :
    Calls Try.prog 32 #[u, v] w fun e w' => e = .returned (.bool (decide (zs = ys))) ∧ Below w.heap.size w w' := by
  obtain ⟨a, cap, rfl, hl, hc⟩ := h1
  obtain ⟨a2, cap2, rfl, hl2, hc2⟩ := h2
  by_cases hlen : zs.length = ys.length
  · have hne : ((zs.length : Int) != (ys.length : Int)) = false := by rw [hlen]; simp
    have HL := hid hlen
    rw [← hlen] at hl2 hc2 hne ⊢
    clear hlen
    go_enter Try.func32, Try.ntmps32
    go_wp2_with fail
    go_loopw [13] (fun i wr => ∃ k : Nat, k ≤ zs.length ∧ i = .int .i64 k ∧ Below w.heap.size w wr ∧ Hid (decide (zs = ys) = decide (zs.drop k = ys.drop k))) (fun i _ => zs.length - (intOf i).toNat)
    case atStart => exact ⟨0, Nat.zero_le _, rfl, Below.refl _ _, rfl⟩
    case round =>
      obtain ⟨k, hk, rfl, hnx, R⟩ := hrel
      by_cases hlt : k < zs.length
      · obtain ⟨b, off, rfl, hb, hcell⟩ := hc (by omega)
        obtain ⟨b2, off2, rfl, hb2, hcell2⟩ := hc2 (by omega)
        have hck : wr.cell? ⟨b, off + k, none⟩ = some (.int .i64 (zs.getD k 0)) := (hnx.cell (p := ⟨b, off + k, none⟩) hb).trans (hcell k hlt)
        have hck2 : wr.cell? ⟨b2, off2 + k, none⟩ = some (.int .i64 (ys.getD k 0)) := (hnx.cell (p := ⟨b2, off2 + k, none⟩) hb2).trans (hcell2 k hlt)
        have D := hid (same_step HL.out hlt)
        have hki : (k : Int) < (zs.length : Int) := by omega
        clear hcell hcell2 hc hc2
        generalize zs.getD k 0 = x at *
        generalize ys.getD k 0 = y at *
        by_cases hxy : x = y
        · have hxy' : (x != y) = false := by rw [hxy]; simp
          have HX := hid hxy
          clear hxy
          go_wp2_with fail
          go_quiet (fail)
          go_wp2_with fail
          go_roundw
          case rel => exact ⟨k + 1, by omega, by go_num, below_drewN hnx _, by show decide (zs = ys) = _; rw [R.out, D.out, HX.out]; simp⟩
          case measure => simp [intOf]; omega
        · have hxy' : (x != y) = true := by rw [bne_iff_ne]; exact hxy
          go_wp2_with fail
          go_quiet (fail)
          go_wp2_with fail
          go_ret
          exact ⟨ret_bool (by rw [R.out, D.out]; simp [hxy]), below_drewN hnx _⟩
      · have hz : zs.drop k = [] := List.drop_of_length_le (by omega)
        have hy : ys.drop k = [] := List.drop_of_length_le (by have := HL.out; omega)
        have F : Hid (decide (zs = ys) = true) := by show decide (zs = ys) = true; rw [R.out, hz, hy]; rfl
        clear hz hy
        go_wp2_with fail
        go_ret
        exact ⟨ret_bool F.out.symm, hnx⟩
  · have hne : ((zs.length : Int) != (ys.length : Int)) = true := by rw [bne_iff_ne]; omega
    have F : Hid (decide (zs = ys) = false) := by show decide (zs = ys) = false; simp; intro h; exact hlen (by rw [h])
    go_enter Try.func32, Try.ntmps32
    go_wp2_with fail
    go_ret
    exact ⟨ret_bool F.out.symm, Below.refl _ _⟩
end Go.Proofs.Ytjnifcfcigcngaa
