/- axioms.WithIndependents, for whatever function answers as p does. -/
import Derived.Test.YtgkkemlemnlchaaEqQ
import Derived.Test.YtgkkemlemnlchaaOldNQ
import Derived.Test.YtgkkemlemnlchaaQBelQ
namespace Go.Proofs.Ytgkkemlemnlchaa
open Go.RowKit

def mxTo (l : List Nat) (k : Nat) : Nat := (l.take k).foldl (fun m s => max m (pop s)) 0
theorem mxTo_succ {l : List Nat} {k : Nat} (h : k < l.length) : mxTo l (k + 1) = max (mxTo l k) (pop (l.getD k 0)) := by
  unfold mxTo
  rw [take_snoc h, List.foldl_append]
  rfl
theorem mxTo_le {l : List Nat} (hl : ∀ s ∈ l, s < 256) : ∀ k, mxTo l k ≤ 8 := by
  intro k
  unfold mxTo
  rcases fold_at pop (l.take k) 0 with h | ⟨b, hb, h⟩
  · omega
  · rw [h]; exact pop_le b (hl b (List.mem_of_mem_take hb))
theorem mxTo_all {p : Nat → Bool} {T : Nat} : mxTo ((List.range T).filter p) ((List.range T).filter p).length = maxI p T := by
  unfold mxTo maxI
  rw [List.take_length, List.foldl_filter]
theorem filt_two (p : Nat → Bool) (T m : Nat) : ((List.range T).filter p).filter (fun s => pop s == m) = (List.range T).filter fun s => pop s == m && p s := by
  rw [List.filter_filter]
theorem AnswersTo.mono {w w0 : World} {g : Nat} {cs : Array Value} {T : Nat} {p : Nat → Bool} (h : AnswersTo w.heap.size w g cs T p) (hb : Below w.heap.size w w0) : AnswersTo w0.heap.size w0 g cs T p :=
  fun x hx w1 hb1 hs1 => h x hx w1 (hb.trans (hb1.mono hb.size)) (Nat.le_trans hb.size hs1)

theorem boxR {w w2 : World} (hb2 : Below (w.alloc (.cells #[.int .i64 0, .slice none 0 0] 33)).heap.size (w.alloc (.cells #[.int .i64 0, .slice none 0 0] 33)) w2) : w2.heap[w.heap.size]? = some (.cells #[.int .i64 0, .slice none 0 0] 33 (0, 0)) ∧ w.heap.size < w2.heap.size :=
  ⟨(hb2.block _ (by simp)).trans (World.alloc_heap_new w _), by have := hb2.size; simp at this; omega⟩
theorem below_boxR (w : World) (cs : Array Value) : Below w.heap.size w (w.alloc (.cells cs 33)) := (Below.refl _ _).alloc (Nat.le_refl _) _

set_option maxHeartbeats 1600000 in
theorem ofInd_any (n g : Nat) (cs : Array Value) (p : Nat → Bool) (w : World) (hn : n ≤ 8) (eg : Enters g) (hg : AnswersTo w.heap.size w g cs (2 ^ n) p) :
    Calls Try.prog 21 #[.int .i64 n, .func (.func g) #[] cs] w fun e w' => ∃ r, e = .returned (.agg #[.int .i64 n, r]) ∧ Own w.heap.size w' r ((List.range (2 ^ n)).filter fun s => pop s == maxI p (2 ^ n) && p s) ∧ Below w.heap.size w w' := by
  obtain ⟨i0, hi, hz0, hz1, hz2⟩ := info_parts Try.infoInt
  have HB0 := hid (below_boxR w #[.int .i64 0, .slice none 0 0])
  have HC := hid (Sieve_any n g cs p _ hn eg (hg.mono HB0.out))
  have HL8 := hid (fil_len hn p)
  have HS8 : Hid (∀ s ∈ (List.range (2 ^ n)).filter p, s < 256) := fun s hs => lt256 hn (List.mem_range.1 (List.mem_filter.1 hs).1)
  rw [← filt_two, ← mxTo_all]
  clear hg eg
  generalize (List.range (2 ^ n)).filter p = L at *
  have hL := HL8.out
  go_enter Try.func21, Try.ntmps21
  go_wp2_with fail
  refine HC.out.mono ?_
  rintro e w2 ⟨r, rfl, ho, hb2⟩
  have HX := hid (boxR hb2)
  have HB := hid (HB0.out.trans (hb2.mono HB0.out.size))
  have HO := hid ho
  have hv : Ints w2 r (N L) := ho.ints (by omega)
  obtain ⟨a, cap, rfl, _, hc⟩ := hv.nats
  clear hb2 ho hv
  have HA : Hid (mxTo L 0 = 0) := rfl
  have hM8 := mxTo_le HS8.out
  have HM8 := hid hM8
  clear hM8
  go_wp2_with fail
  go_loopw [6, 17] (fun u i wr => ∃ k : Nat, k ≤ L.length ∧ i = .int .i64 k ∧ u = .int .i64 (mxTo L k : Nat) ∧ Hid (Below w2.heap.size w2 wr)) (fun _ i _ => L.length - (intOf i).toNat)
  case atStart => exact ⟨0, Nat.zero_le _, rfl, by rw [HA.out]; rfl, Below.refl _ _⟩
  case round =>
    obtain ⟨k, hk, rfl, rfl, HW⟩ := hrel
    by_cases hlt : k < L.length
    · obtain ⟨b, off, rfl, hb, hcell⟩ := hc (by omega)
      have hck : wr.cell? ⟨b, off + k, none⟩ = some (.int .i64 (L.getD k 0 : Nat)) := (HW.out.cell (p := ⟨b, off + k, none⟩) hb).trans (hcell k hlt)
      have MS := hid (mxTo_succ hlt)
      have h8 := HM8.out k
      have hx : L.getD k 0 < 256 := getD_lt HS8.out k
      have HS := hid (fun w' => size_any (L.getD k 0) w' hx)
      have hp8 := pop_le _ hx
      have hki : (k : Int) < (L.length : Int) := by omega
      clear hcell hc
      generalize mxTo L k = y at *
      generalize L.getD k 0 = x at *
      generalize pop x = z at *
      go_wp2_with fail
      refine (HS.out _).mono ?_
      rintro e w' ⟨rfl, rfl⟩
      go_wp2_with fail
      rw [show (if y < z then (z : Int) else (y : Int)) = ((max y z : Nat) : Int) by split <;> omega]
      go_roundw
      case rel => exact ⟨k + 1, by omega, by go_num, by rw [MS.out], HW⟩
      case measure => simp [intOf]; omega
    · obtain rfl : k = L.length := by omega
      have hB := HB.out
      have HB2 := hid (HB.out.trans (HW.out.mono hB.size))
      have hX := (HW.out.block _ HX.out.2).trans HX.out.1
      have HX1 := hid hX
      have hsz := Nat.lt_of_lt_of_le HX.out.2 HW.out.size
      have HO1 := hid (HO.out.below HW.out)
      have HC1 : Hid (∀ b off, a = some ⟨b, off, none⟩ → 0 < L.length → b < wr.heap.size ∧ ∀ i, i < L.length → wr.cell? ⟨b, off + i, none⟩ = some (.int .i64 (L.getD i 0 : Nat))) := fun b off e hL0 => by
        obtain ⟨b', off', e', hb', hcell'⟩ := hc hL0
        obtain ⟨rfl, rfl⟩ : b = b' ∧ off = off' := by rw [e] at e'; simpa using e'
        exact ⟨Nat.lt_of_lt_of_le hb' HW.out.size, fun i hi => (HW.out.cell (p := ⟨b, off + i, none⟩) hb').trans (hcell' i hi)⟩
      have hM8 := HM8.out L.length
      generalize hM : mxTo L L.length = M
      rw [hM] at hM8
      have HM := hid hM
      clear hM
      go_wp2_with fail
      go_loopw [9, 28] (fun u i w3 => ∃ k : Nat, k ≤ L.length ∧ i = .int .i64 k ∧ Own wr.heap.size w3 u ((L.take k).filter fun s => pop s == M) ∧ Hid (Below wr.heap.size wr w3)) (fun _ i _ => L.length - (intOf i).toNat)
      case atStart => exact ⟨0, Nat.zero_le _, rfl, Own.nil _ _, Below.refl _ _⟩
      case round =>
        rename World => w3
        obtain ⟨k, hk, rfl, hown, HW3⟩ := hrel
        by_cases hlt : k < L.length
        · obtain ⟨b, off, rfl, _, _⟩ := hc (by omega)
          obtain ⟨hb, hcell⟩ := HC1.out b off rfl (by omega)
          have hck : w3.cell? ⟨b, off + k, none⟩ = some (.int .i64 (L.getD k 0 : Nat)) := (HW3.out.cell (p := ⟨b, off + k, none⟩) hb).trans (hcell k hlt)
          have hx : L.getD k 0 < 256 := getD_lt HS8.out k
          have HS := hid (fun w' => size_any (L.getD k 0) w' hx)
          have hki : (k : Int) < (L.length : Int) := by omega
          have Hhit := hid (fun hp => filter_hit (p := fun s => pop s == M) hlt hp)
          have Hmiss := hid (fun hp => filter_miss (p := fun s => pop s == M) hlt hp)
          have hfl := filter_le (fun s => pop s == M) L k
          have hs3 := HW3.out.size
          clear hcell hc
          generalize (L.take k).filter (fun s => pop s == M) = acc at *
          generalize L.getD k 0 = x at *
          by_cases hq : pop x = M
          · have hq' : ((pop x : Int) == (M : Int)) = true := by rw [hq]; simp
            have HQ : Hid ((pop x == M) = true) := by show _ = _; rw [hq]; simp
            have HO2 := hid hown
            clear hown hq
            generalize pop x = z at *
            go_wp2_with fail
            refine (HS.out _).mono ?_
            rintro e w' ⟨rfl, rfl⟩
            go_wp2_with (at_builtin; refine wpList_append_own _ rfl _ _ 25 rfl wr.heap.size 3 i0 (.int .i64 0) 1 8 Try.underlying25 hi hz0 hz1 hz2 rfl (by decide) _ _ _ rfl (HO2.out.alloc _) ⟨w'.heap.size, 0, none⟩ 1 1 [.int .i64 (x : Nat)] rfl rfl ?c1 ?c2 ?c3 ?c4 ?c5 ?_)
            case c1 => exact cell_one_new _ _ _
            case c2 => intro u hu; simp at hu; subst hu; rfl
            case c3 => unfold maxLen; omega
            case c4 => omega
            case c5 => simp; omega
            intro v' w4 hown' hgrow _
            have R3 := hid (Own.snoc hown')
            have R4 := hid (Own.grown HO2.out HW3.out hs3 hgrow)
            clear hown' hgrow
            go_wp2_with fail
            go_roundw
            case rel => exact ⟨k + 1, by omega, by go_num, by rw [Hhit.out HQ.out]; exact R3.out, R4⟩
            case measure => simp [intOf]; omega
          · have hq' : ((pop x : Int) == (M : Int)) = false := by rw [beq_eq_false_iff_ne]; omega
            have HQ : Hid ((pop x == M) = false) := by show _ = _; rw [beq_eq_false_iff_ne]; exact hq
            have HO2 := hid hown
            clear hown hq
            generalize pop x = z at *
            go_wp2_with fail
            refine (HS.out _).mono ?_
            rintro e w' ⟨rfl, rfl⟩
            go_wp2_with fail
            go_roundw
            case rel => exact ⟨k + 1, by omega, by go_num, by rw [Hmiss.out HQ.out]; exact HO2.out, HW3⟩
            case measure => simp [intOf]; omega
        · have hk' : k = L.length := by omega
          rw [hk', List.take_length] at hown
          obtain ⟨out, HOUT⟩ : ∃ out, Hid (out = L.filter (fun s => pop s == M)) := ⟨_, rfl⟩
          rw [← HOUT.out] at hown
          have hx3 := (HW3.out.block _ hsz).trans HX1.out
          have HD0 := hid (HB2.out.trans (HW3.out.mono HB2.out.size))
          obtain ⟨ra, rc, hr⟩ := ownsRow_form' hown
          subst hr
          have HCC := hid (set_two (x := .int .i64 n) (y := .slice ra out.length rc) hx3)
          have HD := hid (below_two (b := w.heap.size) (x := .int .i64 n) (y := .slice ra out.length rc) HD0.out (Nat.le_refl _))
          have HII := hid ((hown.set2 (b := w.heap.size) (x := .int .i64 n) (y := .slice ra out.length rc) hsz).mono HB2.out.size)
          obtain ⟨y2, y3, g2, g3⟩ := two_cells hx3
          clear hown hx3
          go_wp2_with fail
          obtain ⟨c0, c1⟩ := HCC.out
          refine bodyPost_ret (v := .agg #[.int .i64 n, .slice ra _ rc]) ?_ rfl ⟨_, rfl, by rw [HM.out, ← HOUT.out]; exact HII.out, HD.out⟩
          simp [results, Try.f21, go_sem, c0, c1]
end Go.Proofs.Ytgkkemlemnlchaa
