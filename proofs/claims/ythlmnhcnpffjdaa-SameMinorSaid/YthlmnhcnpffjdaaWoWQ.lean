/- axioms.WithIndependents, for whatever function answers as p does. -/
import Derived.Test.YthlmnhcnpffjdaaEqWQ
import Derived.Test.YthlmnhcnpffjdaaOldNQ
import Derived.Test.YthlmnhcnpffjdaaQBelQ
import Derived.Test.YthlmnhcnpffjdaaWholeQ
import Derived.Test.YthlmnhcnpffjdaaAxQ
namespace Go.Proofs.Ythlmnhcnpffjdaa
open Go.RowKit

def mxTo (l : List Nat) (k : Nat) : Nat := (l.take k).foldl (fun m s => max m (pop s)) 0
theorem mxTo_succ {l : List Nat} {k : Nat} (h : k < l.length) : mxTo l (k + 1) = max (mxTo l k) (pop (l.getD k 0)) := by
  unfold mxTo
  rw [take_snoc h, List.foldl_append]
  rfl
theorem mxTo_le {l : List Nat} (hl : ∀ s ∈ l, s < 256) : ∀ k, mxTo l k ≤ 8 := by
  intro k
  unfold mxTo
  rcases fold_at pop (l.take k) 0 with h | ⟨b, hb, h⟩
  · omega
  · rw [h]; exact pop_le b (hl b (List.mem_of_mem_take hb))
theorem mxTo_all {p : Nat → Bool} {T : Nat} : mxTo ((List.range T).filter p) ((List.range T).filter p).length = maxI p T := by
  unfold mxTo maxI
  rw [List.take_length, List.foldl_filter]
theorem filt_two (p : Nat → Bool) (T m : Nat) : ((List.range T).filter p).filter (fun s => pop s == m) = (List.range T).filter fun s => pop s == m && p s := by
  rw [List.filter_filter]
theorem AnswersTo.mono {w w0 : World} {g : Nat} {cs : Array Value} {T : Nat} {p : Nat → Bool} (h : AnswersTo w.heap.size w g cs T p) (hb : Below w.heap.size w w0) : AnswersTo w0.heap.size w0 g cs T p :=
  fun x hx w1 hb1 hs1 => h x hx w1 (hb.trans (hb1.mono hb.size)) (Nat.le_trans hb.size hs1)

theorem boxR {w w2 : World} (hb2 : Below (w.alloc (.cells #[.int .i64 0, .slice none 0 0] 24)).heap.size (w.alloc (.cells #[.int .i64 0, .slice none 0 0] 24)) w2) : w2.heap[w.heap.size]? = some (.cells #[.int .i64 0, .slice none 0 0] 24 (0, 0)) ∧ w.heap.size < w2.heap.size :=
  ⟨(hb2.block _ (by simp)).trans (World.alloc_heap_new w _), by have := hb2.size; simp at this; omega⟩
theorem below_boxR (w : World) (cs : Array Value) : Below w.heap.size w (w.alloc (.cells cs 24)) := (Below.refl _ _).alloc (Nat.le_refl _) _

set_option maxHeartbeats 1600000 in
theorem ofInd_any (n g : Nat) (cs : Array Value) (p : Nat → Bool) (w : World) (hn : n ≤ 8) (eg : Enters g) (hg : AnswersTo w.heap.size w g cs (2 ^ n) p) :
    Calls Try.prog 85 #[.int .i64 n, .func (.func g) #[] cs] w fun e w' => ∃ r, e = .returned (.agg #[.int .i64 n, r]) ∧ Own w.heap.size w' r ((List.range (2 ^ n)).filter fun s => pop s == maxI p (2 ^ n) && p s) ∧ Below w.heap.size w w' := by
  obtain ⟨i0, hi, hz0, hz1, hz2⟩ := info_parts Try.infoInt
  have HB0 := hid (below_boxR w #[.int .i64 0, .slice none 0 0])
  have HC := hid (Sieve_any n g cs p _ hn eg (hg.mono HB0.out))
  have HL8 := hid (fil_len hn p)
  have HS8 : Hid (∀ s ∈ (List.range (2 ^ n)).filter p, s < 256) := fun s hs => lt256 hn (List.mem_range.1 (List.mem_filter.1 hs).1)
  rw [← filt_two, ← mxTo_all]
  clear hg eg
  generalize (List.range (2 ^ n)).filter p = L at *
  have hL := HL8.out
  go_enter Try.func85, Try.ntmps85
  go_wp2_with fail
  refine HC.out.mono ?_
  rintro e w2 ⟨r, rfl, ho, hb2⟩
  have HX := hid (boxR hb2)
  have HB := hid (HB0.out.trans (hb2.mono HB0.out.size))
  have HO := hid ho
  have hv : Ints w2 r (N L) := ho.ints (by omega)
  obtain ⟨a, cap, rfl, _, hc⟩ := hv.nats
  clear hb2 ho hv
  have HA : Hid (mxTo L 0 = 0) := rfl
  have hM8 := mxTo_le HS8.out
  have HM8 := hid hM8
  clear hM8
  go_wp2_with fail
  go_loopw [6, 17] (fun u i wr => ∃ k : Nat, k ≤ L.length ∧ i = .int .i64 k ∧ u = .int .i64 (mxTo L k : Nat) ∧ Hid (Below w2.heap.size w2 wr)) (fun _ i _ => L.length - (intOf i).toNat)
  case atStart => exact ⟨0, Nat.zero_le _, rfl, by rw [HA.out]; rfl, Below.refl _ _⟩
  case round =>
    obtain ⟨k, hk, rfl, rfl, HW⟩ := hrel
    by_cases hlt : k < L.length
    · obtain ⟨b, off, rfl, hb, hcell⟩ := hc (by omega)
      have hck : wr.cell? ⟨b, off + k, none⟩ = some (.int .i64 (L.getD k 0 : Nat)) := (HW.out.cell (p := ⟨b, off + k, none⟩) hb).trans (hcell k hlt)
      have MS := hid (mxTo_succ hlt)
      have h8 := HM8.out k
      have hx : L.getD k 0 < 256 := getD_lt HS8.out k
      have HS := hid (fun w' => size_any (L.getD k 0) w' hx)
      have hp8 := pop_le _ hx
      have hki : (k : Int) < (L.length : Int) := by omega
      clear hcell hc
      generalize mxTo L k = y at *
      generalize L.getD k 0 = x at *
      generalize pop x = z at *
      go_wp2_with fail
      refine (HS.out _).mono ?_
      rintro e w' ⟨rfl, rfl⟩
      go_wp2_with fail
      rw [show (if y < z then (z : Int) else (y : Int)) = ((max y z : Nat) : Int) by split <;> omega]
      go_roundw
      case rel => exact ⟨k + 1, by omega, by go_num, by rw [MS.out], HW⟩
      case measure => simp [intOf]; omega
    · obtain rfl : k = L.length := by omega
      have hB := HB.out
      have HB2 := hid (HB.out.trans (HW.out.mono hB.size))
      have hX := (HW.out.block _ HX.out.2).trans HX.out.1
      have HX1 := hid hX
      have hsz := Nat.lt_of_lt_of_le HX.out.2 HW.out.size
      have HO1 := hid (HO.out.below HW.out)
      have HC1 : Hid (∀ b off, a = some ⟨b, off, none⟩ → 0 < L.length → b < wr.heap.size ∧ ∀ i, i < L.length → wr.cell? ⟨b, off + i, none⟩ = some (.int .i64 (L.getD i 0 : Nat))) := fun b off e hL0 => by
        obtain ⟨b', off', e', hb', hcell'⟩ := hc hL0
        obtain ⟨rfl, rfl⟩ : b = b' ∧ off = off' := by rw [e] at e'; simpa using e'
        exact ⟨Nat.lt_of_lt_of_le hb' HW.out.size, fun i hi => (HW.out.cell (p := ⟨b, off + i, none⟩) hb').trans (hcell' i hi)⟩
      have hM8 := HM8.out L.length
      generalize hM : mxTo L L.length = M
      rw [hM] at hM8
      have HM := hid hM
      clear hM
      go_wp2_with fail
      go_loopw [9, 28] (fun u i w3 => ∃ k : Nat, k ≤ L.length ∧ i = .int .i64 k ∧ Own wr.heap.size w3 u ((L.take k).filter fun s => pop s == M) ∧ Hid (Below wr.heap.size wr w3)) (fun _ i _ => L.length - (intOf i).toNat)
      case atStart => exact ⟨0, Nat.zero_le _, rfl, Own.nil _ _, Below.refl _ _⟩
      case round =>
        rename World => w3
        obtain ⟨k, hk, rfl, hown, HW3⟩ := hrel
        by_cases hlt : k < L.length
        · obtain ⟨b, off, rfl, _, _⟩ := hc (by omega)
          obtain ⟨hb, hcell⟩ := HC1.out b off rfl (by omega)
          have hck : w3.cell? ⟨b, off + k, none⟩ = some (.int .i64 (L.getD k 0 : Nat)) := (HW3.out.cell (p := ⟨b, off + k, none⟩) hb).trans (hcell k hlt)
          have hx : L.getD k 0 < 256 := getD_lt HS8.out k
          have HS := hid (fun w' => size_any (L.getD k 0) w' hx)
          have hki : (k : Int) < (L.length : Int) := by omega
          have Hhit := hid (fun hp => filter_hit (p := fun s => pop s == M) hlt hp)
          have Hmiss := hid (fun hp => filter_miss (p := fun s => pop s == M) hlt hp)
          have hfl := filter_le (fun s => pop s == M) L k
          have hs3 := HW3.out.size
          clear hcell hc
          generalize (L.take k).filter (fun s => pop s == M) = acc at *
          generalize L.getD k 0 = x at *
          by_cases hq : pop x = M
          · have hq' : ((pop x : Int) == (M : Int)) = true := by rw [hq]; simp
            have HQ : Hid ((pop x == M) = true) := by show _ = _; rw [hq]; simp
            have HO2 := hid hown
            clear hown hq
            generalize pop x = z at *
            go_wp2_with fail
            refine (HS.out _).mono ?_
            rintro e w' ⟨rfl, rfl⟩
            go_wp2_with (at_builtin; refine wpList_append_own _ rfl _ _ 22 rfl wr.heap.size 3 i0 (.int .i64 0) 1 8 Try.underlying22 hi hz0 hz1 hz2 rfl (by decide) _ _ _ rfl (HO2.out.alloc _) ⟨w'.heap.size, 0, none⟩ 1 1 [.int .i64 (x : Nat)] rfl rfl ?c1 ?c2 ?c3 ?c4 ?c5 ?_)
            case c1 => exact cell_one_new _ _ _
            case c2 => intro u hu; simp at hu; subst hu; rfl
            case c3 => unfold maxLen; omega
            case c4 => omega
            case c5 => simp; omega
            intro v' w4 hown' hgrow _
            have R3 := hid (Own.snoc hown')
            have R4 := hid (Own.grown HO2.out HW3.out hs3 hgrow)
            clear hown' hgrow
            go_wp2_with fail
            go_roundw
            case rel => exact ⟨k + 1, by omega, by go_num, by rw [Hhit.out HQ.out]; exact R3.out, R4⟩
            case measure => simp [intOf]; omega
          · have hq' : ((pop x : Int) == (M : Int)) = false := by rw [beq_eq_false_iff_ne]; omega
            have HQ : Hid ((pop x == M) = false) := by show _ = _; rw [beq_eq_false_iff_ne]; exact hq
            have HO2 := hid hown
            clear hown hq
            generalize pop x = z at *
            go_wp2_with fail
            refine (HS.out _).mono ?_
            rintro e w' ⟨rfl, rfl⟩
            go_wp2_with fail
            go_roundw
            case rel => exact ⟨k + 1, by omega, by go_num, by rw [Hmiss.out HQ.out]; exact HO2.out, HW3⟩
            case measure => simp [intOf]; omega
        · have hk' : k = L.length := by omega
          rw [hk', List.take_length] at hown
          obtain ⟨out, HOUT⟩ : ∃ out, Hid (out = L.filter (fun s => pop s == M)) := ⟨_, rfl⟩
          rw [← HOUT.out] at hown
          have hx3 := (HW3.out.block _ hsz).trans HX1.out
          have HD0 := hid (HB2.out.trans (HW3.out.mono HB2.out.size))
          obtain ⟨ra, rc, hr⟩ := ownsRow_form' hown
          subst hr
          have HCC := hid (set_two (x := .int .i64 n) (y := .slice ra out.length rc) hx3)
          have HD := hid (below_two (b := w.heap.size) (x := .int .i64 n) (y := .slice ra out.length rc) HD0.out (Nat.le_refl _))
          have HII := hid ((hown.set2 (b := w.heap.size) (x := .int .i64 n) (y := .slice ra out.length rc) hsz).mono HB2.out.size)
          obtain ⟨y2, y3, g2, g3⟩ := two_cells hx3
          clear hown hx3
          go_wp2_with fail
          obtain ⟨c0, c1⟩ := HCC.out
          refine bodyPost_ret (v := .agg #[.int .i64 n, .slice ra _ rc]) ?_ rfl ⟨_, rfl, by rw [HM.out, ← HOUT.out]; exact HII.out, HD.out⟩
          simp [results, Try.f85, go_sem, c0, c1]
end Go.Proofs.Ythlmnhcnpffjdaa

namespace Go.Proofs.Ythlmnhcnpffjdaa
open Go.RowKit

theorem withoutQ_ok (t bR bK bB T k b : Nat) (v : Value) (r : Nat → Nat) (w : World) (hT : T ≤ 256) (ht : t < 256) (hk : k < 256) (hx : old (els k) t ||| b < T) (hbT : b < T) (hr8 : ∀ i, r i ≤ 8) (hge : r b ≤ r (old (els k) t ||| b))
    (hR : w.cell? ⟨bR, 0, none⟩ = some v) (hK : w.cell? ⟨bK, 0, none⟩ = some (.int .i64 k)) (hB : w.cell? ⟨bB, 0, none⟩ = some (.int .i64 b)) (hv : RkAt w v T r) :
    Calls Try.prog 86 #[.int .i64 t, .pointer (some ⟨bR, 0, none⟩), .pointer (some ⟨bK, 0, none⟩), .pointer (some ⟨bB, 0, none⟩)] w fun e w' => e = .returned (.bool (minR r k b t == pop t)) ∧ Below w.heap.size w w' := by
  obtain ⟨rb, roff, rcap, rfl, h1, h2⟩ := hv
  have hR' : ∀ x : Later w, x.now.cell? ⟨bR, 0, none⟩ = some (.slice (some ⟨rb, roff, none⟩) T rcap) := fun x => (x.kept.cell (p := ⟨bR, 0, none⟩) (World.block_lt_of_cell? w _ hR)).trans hR
  have hK' : ∀ x : Later w, x.now.cell? ⟨bK, 0, none⟩ = some (.int .i64 k) := fun x => (x.kept.cell (p := ⟨bK, 0, none⟩) (World.block_lt_of_cell? w _ hK)).trans hK
  have hB' : ∀ x : Later w, x.now.cell? ⟨bB, 0, none⟩ = some (.int .i64 b) := fun x => (x.kept.cell (p := ⟨bB, 0, none⟩) (World.block_lt_of_cell? w _ hB)).trans hB
  have hc1 : ∀ x : Later w, x.now.cell? ⟨rb, roff + (old (els k) t ||| b), none⟩ = some (.int .i64 (r (old (els k) t ||| b) : Nat)) := fun x => (x.kept.cell (p := ⟨rb, roff + (old (els k) t ||| b), none⟩) h1).trans (h2 _ hx)
  have hc2 : ∀ x : Later w, x.now.cell? ⟨rb, roff + b, none⟩ = some (.int .i64 (r b : Nat)) := fun x => (x.kept.cell (p := ⟨rb, roff + b, none⟩) h1).trans (h2 _ hbT)
  have HS := hid (fun w' => size_any t w' ht)
  have HO := hid (fun w' => oldN_any t k w' ht hk)
  have ho8 : old (els k) t < 256 := old_lt (fun x h => els_8 h) t
  have hor : bits .or .i64 (old (els k) t : Int) (b : Int) = ((old (els k) t ||| b : Nat) : Int) := i64_or_nat _ b (by omega) (by omega)
  unfold minR
  have g1 := hr8 b
  have g2 := hr8 (old (els k) t ||| b)
  have g3 := pop_le t ht
  clear h2 hR hK hB hr8
  generalize old (els k) t = o at *
  generalize o ||| b = z at *
  generalize r z = x at *
  generalize r b = y at *
  generalize pop t = p at *
  go_enter Try.func86, Try.ntmps86
  go_wp2_with fail
  refine region_later (by kernel_rfl) (by kernel_rfl) ?_
  repeat (go_big_quiet_step ((first
    | (go_at_call 66; refine (HS.out _).mono ?_; rintro e w' ⟨rfl, rfl⟩; exact ⟨rfl, Later.on _ (Below.refl _ _)⟩)
    | (go_at_call 68; refine (HO.out _).mono ?_; rintro e w' ⟨rfl, hb9⟩; exact ⟨rfl, Later.on _ hb9⟩))))
  refine wpQuiet_nil ?_
  intro w6 hw'
  obtain ⟨⟨y6, hb6⟩, hw''⟩ := hw'
  dsimp only at hw''
  subst hw''
  have HB := hid hb6
  clear hb6
  go_wp2_with fail
  go_ret
  exact ⟨ret_bool (by rw [Bool.eq_iff_iff, beq_iff_eq, beq_iff_eq]; omega), HB.out⟩
/-- The blocks of without: the matroid, the base, the result. -/
def boxW (w : World) (n : Int) (v : Value) (b : Int) : World := ((w.alloc (.cells #[.int .i64 n, v] 24)).alloc (.cells #[.int .i64 b] 3)).alloc (.cells #[.int .i64 0, .slice none 0 0] 24)
theorem boxW_below (w : World) (n : Int) (v : Value) (b : Int) : Below w.heap.size w (boxW w n v b) := (((Below.refl _ _).alloc (Nat.le_refl _) _).alloc (by simp) _).alloc (by simp; omega) _
theorem boxW_size (w : World) (n : Int) (v : Value) (b : Int) : (boxW w n v b).heap.size = w.heap.size + 3 := by unfold boxW; simp
theorem boxW_blocks {w w2 : World} {n : Int} {v : Value} {b : Int} (hb2 : Below (boxW w n v b).heap.size (boxW w n v b) w2) :
    w2.heap[w.heap.size]? = some (.cells #[.int .i64 n, v] 24 (0, 0)) ∧ Boxed w2 (w.heap.size + 1) 3 (.int .i64 b) ∧ w2.heap[w.heap.size + 1 + 1]? = some (.cells #[.int .i64 0, .slice none 0 0] 24 (0, 0)) := by
  have hs := boxW_size w n v b
  refine ⟨(hb2.block _ (by omega)).trans ?_, (hb2.block _ (by omega)).trans ?_, (hb2.block _ (by omega)).trans ?_⟩
  · unfold boxW
    rw [Below.heap_alloc _ _ _ (by simp; omega), Below.heap_alloc _ _ _ (by simp)]
    exact World.alloc_heap_new w _
  · unfold boxW
    have := Boxed.new (w.alloc (.cells #[.int .i64 n, v] 24)) 3 (.int .i64 b)
    rw [World.size_alloc] at this
    exact this.alloc _
  · unfold boxW
    have := World.alloc_heap_new ((w.alloc (.cells #[.int .i64 n, v] 24)).alloc (.cells #[.int .i64 b] 3)) (.cells #[.int .i64 0, .slice none 0 0] 24)
    rwa [World.size_alloc, World.size_alloc] at this
theorem setR_ok {m s : Nat} (hm : m ≤ 8) (hs : s < 2 ^ m) : setR m s = 0 := by
  unfold setR
  have e : ((2 ^ m : Nat) : Int) = (2 : Int) ^ m := by simp
  rw [if_pos]
  refine ⟨by omega, by omega, by omega, ?_⟩
  rw [Int.toNat_natCast, ← e]
  omega

set_option maxHeartbeats 1600000 in
theorem without_ok (m s b : Nat) (v : Value) (l : List Nat) (w : World) (hm : m ≤ 8) (hf : Fam m l) (hb : Bas l) (h : Ints w v (N l)) (hs : s < 2 ^ m) (hbm : b < 2 ^ m) :
    Calls Try.prog 60 #[.agg #[.int .i64 m, v], .int .i64 s, .int .i64 b] w (GivesO w (pop (dif (2 ^ m - 1) s) : Nat) (minL m l s b)) := by
  have HI := hid h
  obtain ⟨a, cap, hv, _, _⟩ := h.nats
  subst hv
  have HB0 := hid (boxW_below w m (.slice a l.length cap) b)
  have HRK := hid (Ranks_ok m _ l _ hm hf hb (HI.out.below HB0.out))
  have HX : Hid (∀ w2, Below (boxW w m (.slice a l.length cap) b).heap.size (boxW w m (.slice a l.length cap) b) w2 → _) := fun w2 h => boxW_blocks h
  have HSZ := hid (boxW_size w m (.slice a l.length cap) b)
  have HSC := hid (fun w' => setsCheck_any m s w')
  rw [setR_ok hm hs] at HSC
  have HWS := hid (fun w' => wholeSet_any m w' hm)
  have hs8 := lt256 hm hs
  have hfu := lt256 hm (full_lt m)
  have hand : bits .andNot .i64 ((2 ^ m - 1 : Nat) : Int) (s : Int) = ((dif (2 ^ m - 1) s : Nat) : Int) := i64_andNot_nat _ s (by omega) (by omega)
  generalize hfm : 2 ^ m - 1 = fm at *
  have HFM := hid hfm
  clear hfm
  go_enter Try.func60, Try.ntmps60
  go_wp2_with fail
  refine HRK.out.mono ?_
  rintro e w1 ⟨r1, rfl, hr1, hb1⟩
  obtain ⟨hx0, hx1, hx2⟩ := HX.out w1 hb1
  have HR1 := hid hr1
  obtain ⟨rb, roff, rcap, rfl, _, _⟩ := hr1
  obtain ⟨x0, x1, _, _⟩ := two_cells hx0
  have z0 := fun o => cellA (W := w1) o x0
  have HY0 := hid hx0
  have HY1 := hid hx1
  have HY2 := hid hx2
  have HB1 := hid (HB0.out.trans (hb1.mono HB0.out.size))
  have hsz1 : w.heap.size + 3 ≤ w1.heap.size := by have := hb1.size; have := HSZ.out; omega
  clear hb1 hx0 hx1 hx2
  go_wp2_with fail
  refine (HSC.out _).mono ?_
  rintro e w1' ⟨rfl, rfl⟩
  go_wp2_with fail
  refine (HWS.out _).mono ?_
  rintro e w1' ⟨rfl, rfl⟩
  go_wp2_with fail
  have HK8 : Hid (dif fm s < 256) := by
    show _ < _
    rw [← HFM.out]
    exact kept_lt hm s
  have bR := hid ((Boxed.new w1 22 (.slice (some ⟨rb, roff, none⟩) (2 ^ m) rcap)).alloc (.cells #[.int .i64 (dif fm s : Nat)] 3))
  have bK := Boxed.new (w1.alloc (.cells #[.slice (some ⟨rb, roff, none⟩) (2 ^ m) rcap] 22)) 3 (.int .i64 (dif fm s : Nat))
  rw [World.size_alloc] at bK
  have hBK : Below w1.heap.size w1 ((w1.alloc (.cells #[.slice (some ⟨rb, roff, none⟩) (2 ^ m) rcap] 22)).alloc (.cells #[.int .i64 (dif fm s : Nat)] 3)) := ((Below.refl _ _).alloc (Nat.le_refl _) _).alloc (by simp) _
  have HBK := hid hBK
  have HbK := hid bK
  have hszK : ((w1.alloc (.cells #[.slice (some ⟨rb, roff, none⟩) (2 ^ m) rcap] 22)).alloc (.cells #[.int .i64 (dif fm s : Nat)] 3)).heap.size = w1.heap.size + 2 := by simp
  clear bK hBK z0 x0 x1
  revert bR HBK HbK hszK
  generalize ((w1.alloc (.cells #[.slice (some ⟨rb, roff, none⟩) (2 ^ m) rcap] 22)).alloc (.cells #[.int .i64 (dif fm s : Nat)] 3)) = W2
  intro bR HBK HbK hszK
  have HW2 := hid (HB1.out.trans (HBK.out.mono HB1.out.size))
  have bB : Hid (Boxed W2 (w.heap.size + 1) 3 (.int .i64 b)) := (HBK.out.block _ (by omega)).trans HY1.out
  have hZ : Hid (W2.heap[w.heap.size + 1 + 1]? = some (.cells #[.int .i64 0, .slice none 0 0] 24 (0, 0))) := (HBK.out.block _ (by omega)).trans HY2.out
  have HRA := hid (HR1.out.below HBK.out)
  have HKE : Hid (dif (2 ^ m - 1) s = dif fm s) := by show _ = _; rw [HFM.out]
  have HOI := hid (ofInd_any (pop (dif fm s)) 86 #[.pointer (some ⟨w1.heap.size, 0, none⟩), .pointer (some ⟨w1.heap.size + 1, 0, none⟩), .pointer (some ⟨w.heap.size + 1, 0, none⟩)] (fun t => minR (rk l) (dif fm s) b t == pop t) W2 (pop_le _ HK8.out) (fun args w => enters_of Try.func86 (by kernel_rfl) rfl args w)
    (fun x hx w3 hb3 _ => withoutQ_ok x w1.heap.size (w1.heap.size + 1) (w.heap.size + 1) (2 ^ m) (dif fm s) b _ (rk l) w3 (pow_wrap m hm).2 (lt256 (pop_le _ HK8.out) hx) HK8.out (by rw [← HKE.out]; exact Nat.or_lt_two_pow (old_ltn hm s x) hbm) hbm (rk_small hm hf) (min_ge hb.rk _ _)
      ((hb3.cell (p := ⟨w1.heap.size, 0, none⟩) (by show w1.heap.size < _; omega)).trans bR.out.cell) ((hb3.cell (p := ⟨w1.heap.size + 1, 0, none⟩) (by show w1.heap.size + 1 < _; omega)).trans HbK.out.cell) ((hb3.cell (p := ⟨w.heap.size + 1, 0, none⟩) (by show w.heap.size + 1 < _; omega)).trans bB.out.cell) (HRA.out.below hb3)))
  have HLS := hid (ofInd_eq (n := pop (dif fm s)) (r := minR (rk l) (dif fm s) b) (pop_le _ HK8.out) (min_rkOn hb.rk HK8.out b) (p := fun t => minR (rk l) (dif fm s) b t == pop t) (fun _ _ => rfl))
  rw [HLS.out] at HOI
  have HML : Hid (basR (pop (dif fm s)) (minR (rk l) (dif fm s) b) = minL m l s b) := by show _ = _; unfold minL; rw [HKE.out]
  rw [HML.out] at HOI
  have HSK := hid (fun w' => size_any (dif fm s) w' HK8.out)
  generalize dif fm s = kk at *
  generalize pop kk = n2 at *
  refine (HSK.out _).mono ?_
  rintro e w9 ⟨rfl, rfl⟩
  go_wp2_with fail
  refine HOI.out.mono ?_
  rintro e w4 ⟨r4, rfl, hr4, hb4⟩
  have hx1 := (hb4.block (w.heap.size + 1 + 1) (by omega)).trans hZ.out
  have HB4 := hid (HW2.out.trans (hb4.mono HW2.out.size))
  have HF := hid (ownsRow_form' hr4)
  obtain ⟨ra, rc, hr⟩ := HF.out
  subst hr
  have HC := hid (set_two (x := .int .i64 n2) (y := .slice ra (minL m l s b).length rc) hx1)
  have HD := hid (below_two (b := w.heap.size + 1 + 1) (x := .int .i64 n2) (y := .slice ra (minL m l s b).length rc) HB4.out (by omega))
  have HII := hid ((hr4.set2 (b := w.heap.size + 1 + 1) (x := .int .i64 n2) (y := .slice ra (minL m l s b).length rc) (by omega)).mono (by omega : w.heap.size ≤ _))
  obtain ⟨y2, y3, g2, g3⟩ := two_cells hx1
  clear hb4 hr4 hx1
  go_wp2_with fail
  obtain ⟨c0, c1⟩ := HC.out
  refine bodyPost_ret (v := .tuple #[.agg #[.int .i64 n2, .slice ra _ rc], .int .i64 0]) ?_ rfl ⟨_, rfl, HII.out, HD.out⟩
  simp [results, Try.f60, go_sem, c0, c1]

/-- What a call with an error hands back. -/
def BadM (w : World) (q : Int) (e : Ending) (w' : World) : Prop := e = .returned (.tuple #[.agg #[.int .i64 0, .slice none 0 0], .int .i64 q]) ∧ Below w.heap.size w w'
set_option maxHeartbeats 800000 in
theorem without_bad (n s b : Int) (v : Value) (zs : List Int) (w : World) (h : Ints w v zs) (hc : chkR n zs ≠ 0) :
    Calls Try.prog 60 #[.agg #[.int .i64 n, v], .int .i64 s, .int .i64 b] w (BadM w (chkR n zs)) := by
  have HI := hid h
  obtain ⟨a, cap, rfl, _, _⟩ := h
  have HB0 := hid (boxW_below w n (.slice a zs.length cap) b)
  have HRK := hid (Ranks_bad n _ zs _ (HI.out.below HB0.out) hc)
  have HX : Hid (∀ w2, Below (boxW w n (.slice a zs.length cap) b).heap.size (boxW w n (.slice a zs.length cap) b) w2 → _) := fun w2 h => boxW_blocks h
  have HSZ := hid (boxW_size w n (.slice a zs.length cap) b)
  generalize chkR n zs = q at *
  have hc' : (q == 0) = false := by rw [beq_eq_false_iff_ne]; exact hc
  go_enter Try.func60, Try.ntmps60
  go_wp2_with fail
  refine HRK.out.mono ?_
  rintro e w1 ⟨rfl, hb1⟩
  obtain ⟨_, _, hx2⟩ := HX.out w1 hb1
  have hsz1 : w.heap.size + 3 ≤ w1.heap.size := by have := hb1.size; have := HSZ.out; omega
  have hx3 : (w1.alloc (.cells #[.slice none 0 0] 22)).heap[w.heap.size + 1 + 1]? = some (.cells #[.int .i64 0, .slice none 0 0] 24 (0, 0)) := (Below.heap_alloc _ _ _ (by omega)).trans hx2
  have HB1 : Hid (Below w.heap.size w (w1.alloc (.cells #[.slice none 0 0] 22))) := (HB0.out.trans (hb1.mono HB0.out.size)).alloc (by omega) _
  have HC := hid (set_two (x := .int .i64 0) (y := .slice none 0 0) hx3)
  have HD := hid (below_two (b := w.heap.size + 1 + 1) (x := .int .i64 0) (y := .slice none 0 0) HB1.out (by omega))
  obtain ⟨y2, y3, g2, g3⟩ := two_cells hx3
  clear hb1 hx2 hx3
  go_wp2_with fail
  obtain ⟨c0, c1⟩ := HC.out
  refine bodyPost_ret (v := .tuple #[.agg #[.int .i64 0, .slice none 0 0], .int .i64 q]) ?_ rfl ⟨rfl, HD.out⟩
  simp [results, Try.f60, go_sem, c0, c1]
set_option maxHeartbeats 800000 in
theorem without_arg (m : Nat) (s b : Int) (v : Value) (l : List Nat) (w : World) (hm : m ≤ 8) (hf : Fam m l) (hb : Bas l) (h : Ints w v (N l)) (hs : setR m s = 1) :
    Calls Try.prog 60 #[.agg #[.int .i64 m, v], .int .i64 s, .int .i64 b] w (BadM w 1) := by
  have HI := hid h
  obtain ⟨a, cap, hv, _, _⟩ := h.nats
  subst hv
  have HB0 := hid (boxW_below w m (.slice a l.length cap) b)
  have HRK := hid (Ranks_ok m _ l _ hm hf hb (HI.out.below HB0.out))
  have HX : Hid (∀ w2, Below (boxW w m (.slice a l.length cap) b).heap.size (boxW w m (.slice a l.length cap) b) w2 → _) := fun w2 h => boxW_blocks h
  have HSZ := hid (boxW_size w m (.slice a l.length cap) b)
  have HSC := hid (fun w' => setsCheck_any m s w')
  rw [hs] at HSC
  clear hs
  go_enter Try.func60, Try.ntmps60
  go_wp2_with fail
  refine HRK.out.mono ?_
  rintro e w1 ⟨r1, rfl, hr1, hb1⟩
  obtain ⟨hx0, _, hx2⟩ := HX.out w1 hb1
  obtain ⟨rb, roff, rcap, rfl, _, _⟩ := hr1
  obtain ⟨x0, x1, _, _⟩ := two_cells hx0
  have z0 := fun o => cellA (W := w1) o x0
  have hsz1 : w.heap.size + 3 ≤ w1.heap.size := by have := hb1.size; have := HSZ.out; omega
  have hx3 : (w1.alloc (.cells #[.slice (some ⟨rb, roff, none⟩) (2 ^ m) rcap] 22)).heap[w.heap.size + 1 + 1]? = some (.cells #[.int .i64 0, .slice none 0 0] 24 (0, 0)) := (Below.heap_alloc _ _ _ (by omega)).trans hx2
  have HB1 : Hid (Below w.heap.size w (w1.alloc (.cells #[.slice (some ⟨rb, roff, none⟩) (2 ^ m) rcap] 22))) := (HB0.out.trans (hb1.mono HB0.out.size)).alloc (by omega) _
  have HC := hid (set_two (x := .int .i64 0) (y := .slice none 0 0) hx3)
  have HD := hid (below_two (b := w.heap.size + 1 + 1) (x := .int .i64 0) (y := .slice none 0 0) HB1.out (by omega))
  obtain ⟨y2, y3, g2, g3⟩ := two_cells hx3
  clear hb1 hx2 hx3 hx0
  go_wp2_with fail
  refine (HSC.out _).mono ?_
  rintro e w1' ⟨rfl, rfl⟩
  go_wp2_with fail
  obtain ⟨c0, c1⟩ := HC.out
  refine bodyPost_ret (v := .tuple #[.agg #[.int .i64 0, .slice none 0 0], .int .i64 1]) ?_ rfl ⟨rfl, HD.out⟩
  simp [results, Try.f60, go_sem, c0, c1]
end Go.Proofs.Ythlmnhcnpffjdaa
