/- rotaref.biggest, without package kinds: the greatest of some sets. -/
import Derived.Test.YthbldeloocmakaaWithIndQ
import Derived.Test.YthbldeloocmakaaRefQ
import Derived.Test.YthbldeloocmakaaPlainAll
namespace Go.Proofs.Ythbldeloocmakaa
open Go.RowKit

set_option maxHeartbeats 1600000 in
theorem biggest_any (v : Value) (L : List Nat) (w : World) (hl : ∀ s ∈ L, s < 256) (hL : L.length ≤ 256) (h : Ints w v (N L)) :
    Calls Try.prog 78 #[v] w fun e w' => ∃ r, e = .returned r ∧ Own w.heap.size w' r (L.filter fun s => pop s == mxTo L L.length) ∧ Below w.heap.size w w' := by
  obtain ⟨i0, hi, hz0, hz1, hz2⟩ := info_parts Try.infoInt
  obtain ⟨a, cap, rfl, _, hc⟩ := h.nats
  have HS8 := hid hl
  clear h hl
  have HM8 := hid (mxTo_le HS8.out)
  go_enter Try.func78, Try.ntmps78
  go_wp2_with fail
  go_loopw [3, 4] (fun u i wr => ∃ k : Nat, k ≤ L.length ∧ i = .int .i64 k ∧ u = .int .i64 (mxTo L k : Nat) ∧ Hid (Below w.heap.size w wr)) (fun _ i _ => L.length - (intOf i).toNat)
  case atStart => exact ⟨0, Nat.zero_le _, rfl, rfl, Below.refl _ _⟩
  case round =>
    obtain ⟨k, hk, rfl, rfl, HW⟩ := hrel
    by_cases hlt : k < L.length
    · obtain ⟨b, off, rfl, hb, hcell⟩ := hc (by omega)
      have hck : wr.cell? ⟨b, off + k, none⟩ = some (.int .i64 (L.getD k 0 : Nat)) := (HW.out.cell (p := ⟨b, off + k, none⟩) hb).trans (hcell k hlt)
      have MS := hid (mxTo_succ hlt)
      have h8 := HM8.out k
      have hx : L.getD k 0 < 256 := getD_lt HS8.out k
      have HS := hid (Size_any (L.getD k 0) wr hx)
      have hp8 := pop_le _ hx
      have hki : (k : Int) < (L.length : Int) := by omega
      clear hcell hc
      generalize mxTo L k = y at *
      generalize L.getD k 0 = x at *
      generalize pop x = z at *
      go_wp2_with fail
      refine HS.out.mono ?_
      rintro e w' ⟨rfl, hb'⟩
      have R2 := hid (HW.out.trans (hb'.mono HW.out.size))
      clear hb'
      go_wp2_with fail
      rw [show (if y < z then (z : Int) else (y : Int)) = ((max y z : Nat) : Int) by split <;> omega]
      go_roundw
      case rel => exact ⟨k + 1, by omega, by go_num, by rw [MS.out], R2⟩
      case measure => simp [intOf]; omega
    · obtain rfl : k = L.length := by omega
      have hM8 := HM8.out L.length
      generalize hM : mxTo L L.length = M
      rw [hM] at hM8
      have HM := hid hM
      clear hM
      go_wp2_with fail
      go_loopw [5, 6] (fun u i w3 => ∃ k : Nat, k ≤ L.length ∧ i = .int .i64 k ∧ Own w.heap.size w3 u ((L.take k).filter fun s => pop s == M) ∧ Hid (Below w.heap.size w w3)) (fun _ i _ => L.length - (intOf i).toNat)
      case atStart => exact ⟨0, Nat.zero_le _, rfl, Own.nil _ _, HW⟩
      case round =>
        rename World => w3
        obtain ⟨k, hk, rfl, hown, HW3⟩ := hrel
        by_cases hlt : k < L.length
        · obtain ⟨b, off, rfl, hb, hcell⟩ := hc (by omega)
          have hck : w3.cell? ⟨b, off + k, none⟩ = some (.int .i64 (L.getD k 0 : Nat)) := (HW3.out.cell (p := ⟨b, off + k, none⟩) hb).trans (hcell k hlt)
          have hx : L.getD k 0 < 256 := getD_lt HS8.out k
          have HS := hid (Size_any (L.getD k 0) w3 hx)
          have hki : (k : Int) < (L.length : Int) := by omega
          have Hhit := hid (fun hp => filter_hit (p := fun s => pop s == M) hlt hp)
          have Hmiss := hid (fun hp => filter_miss (p := fun s => pop s == M) hlt hp)
          have hfl := filter_le (fun s => pop s == M) L k
          have hs3 := HW3.out.size
          generalize (L.take k).filter (fun s => pop s == M) = acc at *
          have hcx : ∀ W, Below w3.heap.size w3 W → W.cell? ⟨b, off + k, none⟩ = some (.int .i64 (L.getD k 0 : Nat)) := fun W hW => (hW.cell (p := ⟨b, off + k, none⟩) (Nat.lt_of_lt_of_le hb hs3)).trans hck
          clear hcell hc
          generalize L.getD k 0 = x at *
          by_cases hq : pop x = M
          · have hq' : ((pop x : Int) == (M : Int)) = true := by rw [hq]; simp
            have HQ : Hid ((pop x == M) = true) := by show _ = _; rw [hq]; simp
            have HO2 := hid hown
            clear hown hq
            generalize pop x = z at *
            go_wp2_with fail
            refine HS.out.mono ?_
            rintro e w' ⟨rfl, hb'⟩
            have hck' := hcx w' hb'
            have HO3 := hid (HO2.out.below hb')
            have HW4 := HW3.out.trans (hb'.mono hs3)
            have hs4 := HW4.size
            clear hb' hcx
            go_wp2_with (at_builtin; refine wpList_append_own _ rfl _ _ 22 rfl w.heap.size 3 i0 (.int .i64 0) 1 8 Try.underlying22 hi hz0 hz1 hz2 rfl (by decide) _ _ _ rfl (HO3.out.alloc _) ⟨w'.heap.size, 0, none⟩ 1 1 [.int .i64 (x : Nat)] rfl rfl ?c1 ?c2 ?c3 ?c4 ?c5 ?_)
            case c1 => exact cell_one_new _ _ _
            case c2 => intro u hu; simp at hu; subst hu; rfl
            case c3 => unfold maxLen; omega
            case c4 => omega
            case c5 => simp; omega
            intro v' w4 hown' hgrow _
            have R3 := hid (Own.snoc hown')
            have R4 := hid (Own.grown HO3.out HW4 hs4 hgrow)
            clear hown' hgrow
            go_wp2_with fail
            go_roundw
            case rel => exact ⟨k + 1, by omega, by go_num, by rw [Hhit.out HQ.out]; exact R3.out, R4⟩
            case measure => simp [intOf]; omega
          · have hq' : ((pop x : Int) == (M : Int)) = false := by rw [beq_eq_false_iff_ne]; omega
            have HQ : Hid ((pop x == M) = false) := by show _ = _; rw [beq_eq_false_iff_ne]; exact hq
            have HO2 := hid hown
            clear hown hq
            generalize pop x = z at *
            go_wp2_with fail
            refine HS.out.mono ?_
            rintro e w' ⟨rfl, hb'⟩
            have HO3 := hid (HO2.out.below hb')
            have HW4 := hid (HW3.out.trans (hb'.mono hs3))
            clear hb'
            go_wp2_with fail
            go_roundw
            case rel => exact ⟨k + 1, by omega, by go_num, by rw [Hmiss.out HQ.out]; exact HO3.out, HW4⟩
            case measure => simp [intOf]; omega
        · have hk' : k = L.length := by omega
          rw [hk', List.take_length] at hown
          have HO := hid hown
          clear hown
          go_wp2_with fail
          go_ret
          exact ⟨_, rfl, by rw [HM.out]; exact HO.out, HW3.out⟩
theorem mxTo_ge {L : List Nat} : ∀ k, k ≤ L.length → ∀ s ∈ L.take k, pop s ≤ mxTo L k
  | 0, _, s, hs => by simp at hs
  | k + 1, hk, s, hs => by
    rw [mxTo_succ (by omega)]
    rw [List.take_add_one, List.mem_append] at hs
    rcases hs with h | h
    · have := mxTo_ge k (by omega) s h
      omega
    · have e : s = L.getD k 0 := by
        rw [List.getElem?_eq_getElem (by omega)] at h
        simp at h
        simp [List.getD, List.getElem?_eq_getElem (show k < L.length by omega), h]
      subst e
      omega
theorem mxTo_hit {L : List Nat} : ∀ k, k ≤ L.length → mxTo L k ≠ 0 → ∃ s ∈ L, pop s = mxTo L k
  | 0, _, h => absurd rfl h
  | k + 1, hk, h => by
    rw [mxTo_succ (by omega)] at h ⊢
    have hm : L.getD k 0 ∈ L := by
      simp only [List.getD, List.getElem?_eq_getElem (show k < L.length by omega), Option.getD_some]
      exact List.getElem_mem _
    by_cases c : mxTo L k ≤ pop (L.getD k 0)
    · exact ⟨_, hm, by omega⟩
    · obtain ⟨s, h1, h2⟩ := mxTo_hit (L := L) k (by omega) (by omega)
      exact ⟨s, h1, by omega⟩
/-- What the document's 'biggest' tells. -/
theorem big_eq {L : List Nat} : (L.filter fun s => pop s == mxTo L L.length) = bigS L := by
  unfold bigS
  refine List.filter_congr fun s hs => ?_
  have hge : ∀ t ∈ L, pop t ≤ mxTo L L.length := fun t ht => mxTo_ge L.length (Nat.le_refl _) t (by rw [List.take_length]; exact ht)
  rw [Bool.eq_iff_iff]
  simp only [beq_iff_eq, List.all_eq_true, decide_eq_true_eq]
  constructor
  · intro h t ht
    rw [h]
    exact hge t ht
  · intro h
    have h1 := hge s hs
    by_cases c : mxTo L L.length = 0
    · omega
    · obtain ⟨t, h2, h3⟩ := mxTo_hit L.length (Nat.le_refl _) c
      have := h t h2
      omega
end Go.Proofs.Ythbldeloocmakaa
