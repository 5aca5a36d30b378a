/- axioms.WithIndependents, for whatever function answers as p does. -/
import Derived.Test.YtfajbmcdkhgipaaDoorEqQ
import Derived.Test.YtfajbmcdkhgipaaDoorOldNW
import Derived.Test.YtfajbmcdkhgipaaDoorQBelQ
import Derived.Test.YtfajbmcdkhgipaaDoorFamsW
import Derived.Test.YtfajbmcdkhgipaaDoorKLamW
import Derived.Test.YtfajbmcdkhgipaaDoorFrBW
namespace Go.Proofs.YtfajbmcdkhgipaaDoor
open Go.RowKit

def mxTo (l : List Nat) (k : Nat) : Nat := (l.take k).foldl (fun m s => max m (pop s)) 0
theorem mxTo_succ {l : List Nat} {k : Nat} (h : k < l.length) : mxTo l (k + 1) = max (mxTo l k) (pop (l.getD k 0)) := by
  unfold mxTo
  rw [take_snoc h, List.foldl_append]
  rfl
theorem mxTo_le {l : List Nat} (hl : ∀ s ∈ l, s < 256) : ∀ k, mxTo l k ≤ 8 := by
  intro k
  unfold mxTo
  rcases fold_at pop (l.take k) 0 with h | ⟨b, hb, h⟩
  · omega
  · rw [h]; exact pop_le b (hl b (List.mem_of_mem_take hb))
theorem mxTo_all {p : Nat → Bool} {T : Nat} : mxTo ((List.range T).filter p) ((List.range T).filter p).length = maxI p T := by
  unfold mxTo maxI
  rw [List.take_length, List.foldl_filter]
theorem filt_two (p : Nat → Bool) (T m : Nat) : ((List.range T).filter p).filter (fun s => pop s == m) = (List.range T).filter fun s => pop s == m && p s := by
  rw [List.filter_filter]
theorem AnswersTo.mono {w w0 : World} {g : Nat} {cs : Array Value} {T : Nat} {p : Nat → Bool} (h : AnswersTo w.heap.size w g cs T p) (hb : Below w.heap.size w w0) : AnswersTo w0.heap.size w0 g cs T p :=
  fun x hx w1 hb1 hs1 => h x hx w1 (hb.trans (hb1.mono hb.size)) (Nat.le_trans hb.size hs1)

theorem boxR {w w2 : World} (hb2 : Below (w.alloc (.cells #[.int .i64 0, .slice none 0 0] 43)).heap.size (w.alloc (.cells #[.int .i64 0, .slice none 0 0] 43)) w2) : w2.heap[w.heap.size]? = some (.cells #[.int .i64 0, .slice none 0 0] 43 (0, 0)) ∧ w.heap.size < w2.heap.size :=
  ⟨(hb2.block _ (by simp)).trans (World.alloc_heap_new w _), by have := hb2.size; simp at this; omega⟩
theorem below_boxR (w : World) (cs : Array Value) : Below w.heap.size w (w.alloc (.cells cs 43)) := (Below.refl _ _).alloc (Nat.le_refl _) _

set_option maxHeartbeats 1600000 in
theorem ofInd_any (n g : Nat) (cs : Array Value) (p : Nat → Bool) (w : World) (hn : n ≤ 8) (eg : Enters g) (hg : AnswersTo w.heap.size w g cs (2 ^ n) p) :
    Calls Tryd.prog 28 #[.int .i64 n, .func (.func g) #[] cs] w fun e w' => ∃ r, e = .returned (.agg #[.int .i64 n, r]) ∧ Own w.heap.size w' r ((List.range (2 ^ n)).filter fun s => pop s == maxI p (2 ^ n) && p s) ∧ Below w.heap.size w w' := by
  obtain ⟨i0, hi, hz0, hz1, hz2⟩ := info_parts Tryd.infoInt
  have HB0 := hid (below_boxR w #[.int .i64 0, .slice none 0 0])
  have HC := hid (Sieve_any n g cs p _ hn eg (hg.mono HB0.out))
  have HL8 := hid (fil_len hn p)
  have HS8 : Hid (∀ s ∈ (List.range (2 ^ n)).filter p, s < 256) := fun s hs => lt256 hn (List.mem_range.1 (List.mem_filter.1 hs).1)
  rw [← filt_two, ← mxTo_all]
  clear hg eg
  generalize (List.range (2 ^ n)).filter p = L at *
  have hL := HL8.out
  go_enter Tryd.func28, Tryd.ntmps28
  go_wp2_with fail
  refine HC.out.mono ?_
  rintro e w2 ⟨r, rfl, ho, hb2⟩
  have HX := hid (boxR hb2)
  have HB := hid (HB0.out.trans (hb2.mono HB0.out.size))
  have HO := hid ho
  have hv : Ints w2 r (N L) := ho.ints (by omega)
  obtain ⟨a, cap, rfl, _, hc⟩ := hv.nats
  clear hb2 ho hv
  have HA : Hid (mxTo L 0 = 0) := rfl
  have hM8 := mxTo_le HS8.out
  have HM8 := hid hM8
  clear hM8
  go_wp2_with fail
  go_loopw [6, 17] (fun u i wr => ∃ k : Nat, k ≤ L.length ∧ i = .int .i64 k ∧ u = .int .i64 (mxTo L k : Nat) ∧ Hid (Below w2.heap.size w2 wr)) (fun _ i _ => L.length - (intOf i).toNat)
  case atStart => exact ⟨0, Nat.zero_le _, rfl, by rw [HA.out]; rfl, Below.refl _ _⟩
  case round =>
    obtain ⟨k, hk, rfl, rfl, HW⟩ := hrel
    by_cases hlt : k < L.length
    · obtain ⟨b, off, rfl, hb, hcell⟩ := hc (by omega)
      have hck : wr.cell? ⟨b, off + k, none⟩ = some (.int .i64 (L.getD k 0 : Nat)) := (HW.out.cell (p := ⟨b, off + k, none⟩) hb).trans (hcell k hlt)
      have MS := hid (mxTo_succ hlt)
      have h8 := HM8.out k
      have hx : L.getD k 0 < 256 := getD_lt HS8.out k
      have HS := hid (fun w' => size_any (L.getD k 0) w' hx)
      have hp8 := pop_le _ hx
      have hki : (k : Int) < (L.length : Int) := by omega
      clear hcell hc
      generalize mxTo L k = y at *
      generalize L.getD k 0 = x at *
      generalize pop x = z at *
      go_wp2_with fail
      refine (HS.out _).mono ?_
      rintro e w' ⟨rfl, rfl⟩
      go_wp2_with fail
      rw [show (if y < z then (z : Int) else (y : Int)) = ((max y z : Nat) : Int) by split <;> omega]
      go_roundw
      case rel => exact ⟨k + 1, by omega, by go_num, by rw [MS.out], HW⟩
      case measure => simp [intOf]; omega
    · obtain rfl : k = L.length := by omega
      have hB := HB.out
      have HB2 := hid (HB.out.trans (HW.out.mono hB.size))
      have hX := (HW.out.block _ HX.out.2).trans HX.out.1
      have HX1 := hid hX
      have hsz := Nat.lt_of_lt_of_le HX.out.2 HW.out.size
      have HO1 := hid (HO.out.below HW.out)
      have HC1 : Hid (∀ b off, a = some ⟨b, off, none⟩ → 0 < L.length → b < wr.heap.size ∧ ∀ i, i < L.length → wr.cell? ⟨b, off + i, none⟩ = some (.int .i64 (L.getD i 0 : Nat))) := fun b off e hL0 => by
        obtain ⟨b', off', e', hb', hcell'⟩ := hc hL0
        obtain ⟨rfl, rfl⟩ : b = b' ∧ off = off' := by rw [e] at e'; simpa using e'
        exact ⟨Nat.lt_of_lt_of_le hb' HW.out.size, fun i hi => (HW.out.cell (p := ⟨b, off + i, none⟩) hb').trans (hcell' i hi)⟩
      have hM8 := HM8.out L.length
      generalize hM : mxTo L L.length = M
      rw [hM] at hM8
      have HM := hid hM
      clear hM
      go_wp2_with fail
      go_loopw [9, 28] (fun u i w3 => ∃ k : Nat, k ≤ L.length ∧ i = .int .i64 k ∧ Own wr.heap.size w3 u ((L.take k).filter fun s => pop s == M) ∧ Hid (Below wr.heap.size wr w3)) (fun _ i _ => L.length - (intOf i).toNat)
      case atStart => exact ⟨0, Nat.zero_le _, rfl, Own.nil _ _, Below.refl _ _⟩
      case round =>
        rename World => w3
        obtain ⟨k, hk, rfl, hown, HW3⟩ := hrel
        by_cases hlt : k < L.length
        · obtain ⟨b, off, rfl, _, _⟩ := hc (by omega)
          obtain ⟨hb, hcell⟩ := HC1.out b off rfl (by omega)
          have hck : w3.cell? ⟨b, off + k, none⟩ = some (.int .i64 (L.getD k 0 : Nat)) := (HW3.out.cell (p := ⟨b, off + k, none⟩) hb).trans (hcell k hlt)
          have hx : L.getD k 0 < 256 := getD_lt HS8.out k
          have HS := hid (fun w' => size_any (L.getD k 0) w' hx)
          have hki : (k : Int) < (L.length : Int) := by omega
          have Hhit := hid (fun hp => filter_hit (p := fun s => pop s == M) hlt hp)
          have Hmiss := hid (fun hp => filter_miss (p := fun s => pop s == M) hlt hp)
          have hfl := filter_le (fun s => pop s == M) L k
          have hs3 := HW3.out.size
          clear hcell hc
          generalize (L.take k).filter (fun s => pop s == M) = acc at *
          generalize L.getD k 0 = x at *
          by_cases hq : pop x = M
          · have hq' : ((pop x : Int) == (M : Int)) = true := by rw [hq]; simp
            have HQ : Hid ((pop x == M) = true) := by show _ = _; rw [hq]; simp
            have HO2 := hid hown
            clear hown hq
            generalize pop x = z at *
            go_wp2_with fail
            refine (HS.out _).mono ?_
            rintro e w' ⟨rfl, rfl⟩
            go_wp2_with (at_builtin; refine wpList_append_own _ rfl _ _ 41 rfl wr.heap.size 3 i0 (.int .i64 0) 1 8 Tryd.underlying41 hi hz0 hz1 hz2 rfl (by decide) _ _ _ rfl (HO2.out.alloc _) ⟨w'.heap.size, 0, none⟩ 1 1 [.int .i64 (x : Nat)] rfl rfl ?c1 ?c2 ?c3 ?c4 ?c5 ?_)
            case c1 => exact cell_one_new _ _ _
            case c2 => intro u hu; simp at hu; subst hu; rfl
            case c3 => unfold maxLen; omega
            case c4 => omega
            case c5 => simp; omega
            intro v' w4 hown' hgrow _
            have R3 := hid (Own.snoc hown')
            have R4 := hid (Own.grown HO2.out HW3.out hs3 hgrow)
            clear hown' hgrow
            go_wp2_with fail
            go_roundw
            case rel => exact ⟨k + 1, by omega, by go_num, by rw [Hhit.out HQ.out]; exact R3.out, R4⟩
            case measure => simp [intOf]; omega
          · have hq' : ((pop x : Int) == (M : Int)) = false := by rw [beq_eq_false_iff_ne]; omega
            have HQ : Hid ((pop x == M) = false) := by show _ = _; rw [beq_eq_false_iff_ne]; exact hq
            have HO2 := hid hown
            clear hown hq
            generalize pop x = z at *
            go_wp2_with fail
            refine (HS.out _).mono ?_
            rintro e w' ⟨rfl, rfl⟩
            go_wp2_with fail
            go_roundw
            case rel => exact ⟨k + 1, by omega, by go_num, by rw [Hmiss.out HQ.out]; exact HO2.out, HW3⟩
            case measure => simp [intOf]; omega
        · have hk' : k = L.length := by omega
          rw [hk', List.take_length] at hown
          obtain ⟨out, HOUT⟩ : ∃ out, Hid (out = L.filter (fun s => pop s == M)) := ⟨_, rfl⟩
          rw [← HOUT.out] at hown
          have hx3 := (HW3.out.block _ hsz).trans HX1.out
          have HD0 := hid (HB2.out.trans (HW3.out.mono HB2.out.size))
          obtain ⟨ra, rc, hr⟩ := ownsRow_form' hown
          subst hr
          have HCC := hid (set_two (x := .int .i64 n) (y := .slice ra out.length rc) hx3)
          have HD := hid (below_two (b := w.heap.size) (x := .int .i64 n) (y := .slice ra out.length rc) HD0.out (Nat.le_refl _))
          have HII := hid ((hown.set2 (b := w.heap.size) (x := .int .i64 n) (y := .slice ra out.length rc) hsz).mono HB2.out.size)
          obtain ⟨y2, y3, g2, g3⟩ := two_cells hx3
          clear hown hx3
          go_wp2_with fail
          obtain ⟨c0, c1⟩ := HCC.out
          refine bodyPost_ret (v := .agg #[.int .i64 n, .slice ra _ rc]) ?_ rfl ⟨_, rfl, by rw [HM.out, ← HOUT.out]; exact HII.out, HD.out⟩
          simp [results, Tryd.f28, go_sem, c0, c1]
end Go.Proofs.YtfajbmcdkhgipaaDoor

namespace Go.Proofs.YtfajbmcdkhgipaaDoor
open Go.RowKit

theorem rk_small {m : Nat} {l : List Nat} (hm : m ≤ 8) (hf : Fam m l) : ∀ i, rk l i ≤ 8 := rk_le8 l (hf.lt256 hm)
theorem below_box (w : World) (cs : Array Value) : Below w.heap.size w (w.alloc (.cells cs 43)) := (Below.refl _ _).alloc (Nat.le_refl _) _
theorem box_cells {w w2 : World} {n : Int} {u : Value} (hb2 : Below (w.alloc (.cells #[.int .i64 n, u] 43)).heap.size (w.alloc (.cells #[.int .i64 n, u] 43)) w2) :
    w2.cell? ⟨w.heap.size, 0, none⟩ = some (.int .i64 n) ∧ w2.cell? ⟨w.heap.size, 1, none⟩ = some u := by
  have hx : w2.heap[w.heap.size]? = some (.cells #[.int .i64 n, u] 43 (0, 0)) := (hb2.block _ (by simp)).trans (World.alloc_heap_new w _)
  exact ⟨by simp [World.cell?, hx], by simp [World.cell?, hx]⟩

/-- A literal slice. -/
theorem litsAt (w : World) (l : List Nat) (h : l.length ≤ 17592186044416 := by decide) : Ints (w.alloc (.cells (V l).toArray 3)) (.slice (some ⟨w.heap.size, 0, none⟩) l.length l.length) (N l) := by
  refine ⟨_, _, by rw [N_len], by rw [N_len]; exact h, fun _ => ⟨w.heap.size, 0, rfl, by simp, fun i hi => ?_⟩⟩
  rw [N_len] at hi
  rw [World.cell?_alloc_at _ _ _ _ rfl, N_getD, Nat.zero_add]
  simp [V, hi, List.getD]





theorem Ranks_bad (n : Int) (v : Value) (zs : List Int) (w : World) (h : Ints w v zs) (hc : chkR n zs ≠ 0) :
    Calls Tryd.prog 31 #[.agg #[.int .i64 n, v]] w fun e w' => e = .returned (.tuple #[.slice none 0 0, .int .i64 (chkR n zs)]) ∧ Below w.heap.size w w' := by
  have HI := hid h
  obtain ⟨a, cap, rfl, _, _⟩ := h
  have hB0 : Below w.heap.size w (w.alloc (.cells #[.int .i64 n, .slice a zs.length cap] 43)) := (Below.refl _ _).alloc (Nat.le_refl _) _
  have HC := hid (check_any n _ zs _ (HI.out.below hB0))
  have HB0 := hid hB0
  generalize chkR n zs = q at *
  have hc' : (q == 0) = false := by rw [beq_eq_false_iff_ne]; exact hc
  clear hB0
  go_enter Tryd.func31, Tryd.ntmps31
  go_wp2_with fail
  refine HC.out.mono ?_
  rintro e w2 ⟨rfl, hb2⟩
  have HB := hid (HB0.out.trans (hb2.mono HB0.out.size))
  clear hb2
  go_wp2_with fail
  go_ret2
  exact ⟨rfl, HB.out⟩
theorem Ranks_ok (m : Nat) (v : Value) (l : List Nat) (w : World) (hm : m ≤ 8) (hf : Fam m l) (hb : Bas l) (h : Ints w v (N l)) :
    Calls Tryd.prog 31 #[.agg #[.int .i64 m, v]] w fun e w' => ∃ r, e = .returned (.tuple #[r, .int .i64 0]) ∧ RkAt w' r (2 ^ m) (rk l) ∧ Below w.heap.size w w' := by
  have HI := hid h
  obtain ⟨a, cap, hv, _, _⟩ := h
  rw [N_len] at hv
  subst hv
  have hB0 : Below w.heap.size w (w.alloc (.cells #[.int .i64 m, .slice a l.length cap] 43)) := (Below.refl _ _).alloc (Nat.le_refl _) _
  have HC := hid (check_any m _ (N l) _ (HI.out.below hB0))
  have H0 := hid (chk_mk hm hf hb)
  have HR := hid (fun w' (hb' : Below w.heap.size w w') => ranks_any m _ l w' hm (hf.lt256 hm) (HI.out.below hb'))
  have HB0 := hid hB0
  clear hB0
  generalize 2 ^ m = T at *
  go_enter Tryd.func31, Tryd.ntmps31
  go_wp2_with fail
  refine HC.out.mono ?_
  rw [H0.out]
  rintro e w2 ⟨rfl, hb2⟩
  obtain ⟨x0, x1⟩ := box_cells hb2
  have HB2 := hid (HB0.out.trans (hb2.mono HB0.out.size))
  clear hb2
  go_wp2_with fail
  refine (HR.out _ HB2.out).mono ?_
  rintro e w3 ⟨r, rfl, hr, hb3⟩
  have HB3 := hid (HB2.out.trans (hb3.mono HB2.out.size))
  have HRK := hid hr
  obtain ⟨rb, roff, rcap, rfl, _, _⟩ := hr
  clear hb3
  go_wp2_with fail
  go_ret2
  exact ⟨_, rfl, HRK.out, HB3.out⟩


end Go.Proofs.YtfajbmcdkhgipaaDoor

namespace Go.Proofs.YtfajbmcdkhgipaaDoor
open Go.RowKit

/-- The blocks of without: the matroid, the base, the result. -/
def boxW (w : World) (n : Int) (v : Value) (b : Int) : World := ((w.alloc (.cells #[.int .i64 n, v] 43)).alloc (.cells #[.int .i64 b] 3)).alloc (.cells #[.int .i64 0, .slice none 0 0] 43)
theorem boxW_below (w : World) (n : Int) (v : Value) (b : Int) : Below w.heap.size w (boxW w n v b) := (((Below.refl _ _).alloc (Nat.le_refl _) _).alloc (by simp) _).alloc (by simp; omega) _
theorem boxW_size (w : World) (n : Int) (v : Value) (b : Int) : (boxW w n v b).heap.size = w.heap.size + 3 := by unfold boxW; simp
theorem boxW_blocks {w w2 : World} {n : Int} {v : Value} {b : Int} (hb2 : Below (boxW w n v b).heap.size (boxW w n v b) w2) :
    w2.heap[w.heap.size]? = some (.cells #[.int .i64 n, v] 43 (0, 0)) ∧ Boxed w2 (w.heap.size + 1) 3 (.int .i64 b) ∧ w2.heap[w.heap.size + 1 + 1]? = some (.cells #[.int .i64 0, .slice none 0 0] 43 (0, 0)) := by
  have hs := boxW_size w n v b
  refine ⟨(hb2.block _ (by omega)).trans ?_, (hb2.block _ (by omega)).trans ?_, (hb2.block _ (by omega)).trans ?_⟩
  · unfold boxW
    rw [Below.heap_alloc _ _ _ (by simp; omega), Below.heap_alloc _ _ _ (by simp)]
    exact World.alloc_heap_new w _
  · unfold boxW
    have := Boxed.new (w.alloc (.cells #[.int .i64 n, v] 43)) 3 (.int .i64 b)
    rw [World.size_alloc] at this
    exact this.alloc _
  · unfold boxW
    have := World.alloc_heap_new ((w.alloc (.cells #[.int .i64 n, v] 43)).alloc (.cells #[.int .i64 b] 3)) (.cells #[.int .i64 0, .slice none 0 0] 43)
    rwa [World.size_alloc, World.size_alloc] at this
theorem setR_ok {m s : Nat} (hm : m ≤ 8) (hs : s < 2 ^ m) : setR m s = 0 := by
  unfold setR
  have e : ((2 ^ m : Nat) : Int) = (2 : Int) ^ m := by simp
  rw [if_pos]
  refine ⟨by omega, by omega, by omega, ?_⟩
  rw [Int.toNat_natCast, ← e]
  omega

/-- What a call with an error hands back. -/
def BadM (w : World) (q : Int) (e : Ending) (w' : World) : Prop := e = .returned (.tuple #[.agg #[.int .i64 0, .slice none 0 0], .int .i64 q]) ∧ Below w.heap.size w w'
end Go.Proofs.YtfajbmcdkhgipaaDoor

namespace Go.Proofs.YtfajbmcdkhgipaaDoor
open Go.RowKit

/-- The greatest of the sets that p tells, rising. -/
def bigL (n : Nat) (p : Nat → Bool) : List Nat := (List.range (2 ^ n)).filter fun s => pop s == maxI p (2 ^ n) && p s
theorem big_fam (n : Nat) (p : Nat → Bool) : Fam n (bigL n p) := Fam.range n _
/-- What is wrong with a list of sets. -/
def lisR (n : Int) (zs : List Int) : Int := if zs.all (fun s => setR n s == 0) = true ∧ 0 ≤ n ∧ n ≤ 8 then (if 8 < zs.length then 2 else 0) else 1
theorem setR_01 (n s : Int) : setR n s = 0 ∨ setR n s = 1 := by unfold setR; split <;> simp
theorem setR_n {n s : Int} (h : setR n s = 0) : 0 ≤ n ∧ n ≤ 8 ∧ 0 ≤ s ∧ s < 2 ^ n.toNat := by
  unfold setR at h
  split at h
  · assumption
  · cases h
theorem lis_nats {n : Nat} {zs : List Int} (h : zs.all (fun s => setR n s == 0) = true) : ∃ l : List Nat, zs = N l ∧ ∀ s ∈ l, s < 2 ^ n := by
  rw [List.all_eq_true] at h
  refine ⟨zs.map Int.toNat, ?_, ?_⟩
  · unfold N
    rw [List.map_map]
    refine ((List.map_congr_left (g := id) fun z hz => ?_).trans (List.map_id _)).symm
    have := setR_n (beq_iff_eq.1 (h z hz))
    show ((z.toNat : Nat) : Int) = z
    omega
  · intro s hs
    obtain ⟨z, hz, rfl⟩ := List.mem_map.1 hs
    have := setR_n (beq_iff_eq.1 (h z hz))
    rw [Int.toNat_natCast] at this
    have e : ((2 ^ n : Nat) : Int) = (2 : Int) ^ n := by simp
    omega
theorem allI_drop {p : Int → Bool} {zs : List Int} {k : Nat} (hk : k < zs.length) : (zs.drop k).all p = (p (zs.getD k 0) && (zs.drop (k + 1)).all p) := by
  rw [drop_getD hk, List.all_cons]
/-- What a maker hands back: a matroid, or an error. -/
def Makes (w : World) (q : Int) (n : Int) (l : List Nat) (e : Ending) (w' : World) : Prop := (q = 0 → GivesO w n l e w') ∧ (q ≠ 0 → BadM w q e w')
theorem slot_box {w : World} {b : Value} : ((w.alloc (.cells #[b] 41)).alloc (.cells #[.int .i64 0, .slice none 0 0] 43)).heap[w.heap.size]? = some (.cells #[b] 41 (0, 0)) ∧ ((w.alloc (.cells #[b] 41)).alloc (.cells #[.int .i64 0, .slice none 0 0] 43)).heap[w.heap.size + 1]? = some (.cells #[.int .i64 0, .slice none 0 0] 43 (0, 0)) := by
  refine ⟨?_, ?_⟩
  · rw [Below.heap_alloc _ _ _ (by simp)]
    exact World.alloc_heap_new w _
  · have := World.alloc_heap_new (w.alloc (.cells #[b] 41)) (.cells #[.int .i64 0, .slice none 0 0] 43)
    rwa [World.size_alloc] at this

end Go.Proofs.YtfajbmcdkhgipaaDoor

namespace Go.Proofs.YtfajbmcdkhgipaaDoor
open Go.RowKit

/-- v is a slice that holds these edges, whatever their ends. -/
def EdgesI (w : World) (v : Value) (F : List (Int × Int)) : Prop := ∃ a cap, v = .slice a F.length cap ∧ F.length ≤ 17592186044416 ∧ (0 < F.length → ∃ b off, a = some ⟨b, off, none⟩ ∧ b < w.heap.size ∧ ∀ i, i < F.length → w.cell? ⟨b, off + i * 2, none⟩ = some (.int .i64 (F.getD i (0, 0)).1) ∧ w.cell? ⟨b, off + i * 2 + 1, none⟩ = some (.int .i64 (F.getD i (0, 0)).2))
theorem EdgesI.below {w w' : World} {v : Value} {F : List (Int × Int)} (h : EdgesI w v F) (hb : Below w.heap.size w w') : EdgesI w' v F := by
  obtain ⟨a, cap, h1, h2, hc⟩ := h
  refine ⟨a, cap, h1, h2, fun hn => ?_⟩
  obtain ⟨b, off, h3, h4, h5⟩ := hc hn
  exact ⟨b, off, h3, Nat.lt_of_lt_of_le h4 hb.size, fun i hi => ⟨(hb.cell (p := ⟨b, off + i * 2, none⟩) h4).trans (h5 i hi).1, (hb.cell (p := ⟨b, off + i * 2 + 1, none⟩) h4).trans (h5 i hi).2⟩⟩
def inB (v n : Int) : Bool := decide (0 ≤ v) && decide (v < n)
def edgeB (n : Int) (e : Int × Int) : Bool := inB e.1 n && inB e.2 n
/-- What is wrong with a graph. -/
def graphR (n : Int) (F : List (Int × Int)) : Int := if 1 ≤ n ∧ n ≤ 7 ∧ F.length ≤ 8 ∧ F.all (edgeB n) = true then 0 else 1
def natE (F : List (Int × Int)) : List (Nat × Nat) := F.map fun e => (e.1.toNat, e.2.toNat)
theorem natE_len (F : List (Int × Int)) : (natE F).length = F.length := by unfold natE; simp
theorem natE_at {F : List (Int × Int)} {i : Nat} (hi : i < F.length) : (natE F).getD i (0, 0) = ((F.getD i (0, 0)).1.toNat, (F.getD i (0, 0)).2.toNat) := by
  unfold natE
  simp [List.getD, hi]
theorem edge_in {n : Int} {F : List (Int × Int)} (h : F.all (edgeB n) = true) {i : Nat} (hi : i < F.length) : 0 ≤ (F.getD i (0, 0)).1 ∧ (F.getD i (0, 0)).1 < n ∧ 0 ≤ (F.getD i (0, 0)).2 ∧ (F.getD i (0, 0)).2 < n := by
  have := List.all_eq_true.1 h (F.getD i (0, 0)) (by simp only [List.getD, List.getElem?_eq_getElem hi, Option.getD_some]; exact List.getElem_mem _)
  unfold edgeB inB at this
  simp at this
  exact ⟨this.1.1, this.1.2, this.2.1, this.2.2⟩
theorem EdgesI.nat {w : World} {v : Value} {n : Int} {F : List (Int × Int)} (h : EdgesI w v F) (hl : F.length ≤ 8) (hF : F.all (edgeB n) = true) : EdgesAt w v (natE F) := by
  obtain ⟨a, cap, h1, h2, hc⟩ := h
  refine ⟨a, cap, by rw [natE_len]; exact h1, by rw [natE_len]; exact hl, fun hn => ?_⟩
  rw [natE_len] at hn
  obtain ⟨b, off, h3, h4, h5⟩ := hc hn
  refine ⟨b, off, h3, h4, fun i hi => ?_⟩
  rw [natE_len] at hi
  have hb := edge_in hF hi
  unfold ea eb
  rw [natE_at hi, (h5 i hi).1, (h5 i hi).2, Int.toNat_of_nonneg hb.1, Int.toNat_of_nonneg hb.2.2.1]
  exact ⟨rfl, rfl⟩
theorem natE_lt {n : Int} {F : List (Int × Int)} (hn : n ≤ 7) (hF : F.all (edgeB n) = true) : ∀ j, j < (natE F).length → ea (natE F) j < 7 ∧ eb (natE F) j < 7 := fun j hj => by
  rw [natE_len] at hj
  have hb := edge_in hF hj
  unfold ea eb
  rw [natE_at hj]
  show (F.getD j (0, 0)).1.toNat < 7 ∧ (F.getD j (0, 0)).2.toNat < 7
  omega
theorem allE_drop {p : Int × Int → Bool} {F : List (Int × Int)} {k : Nat} (hk : k < F.length) : (F.drop k).all p = (p (F.getD k (0, 0)) && (F.drop (k + 1)).all p) := by
  rw [List.drop_eq_getElem_cons hk, List.all_cons]
  simp [List.getD, hk]
theorem isBelow_any (v n : Int) (w : World) : Calls Tryd.prog 40 #[.int .i64 v, .int .i64 n] w fun e w' => e = .returned (.bool (inB v n)) ∧ w' = w := by
  unfold inB
  by_cases h : 0 ≤ v
  · have h1 : decide (0 ≤ v) = true := by simpa using h
    go_enter Tryd.func40, Tryd.ntmps40
    go_wp2_with fail
    go_ret
    exact ⟨by rw [h1]; rfl, rfl⟩
  · have h1 : decide (0 ≤ v) = false := by simpa using h
    go_enter Tryd.func40, Tryd.ntmps40
    go_wp2_with fail
    go_ret
    exact ⟨rfl, rfl⟩
theorem below_boxGr (w : World) (cs : Array Value) : Below w.heap.size w (w.alloc (.cells cs 24)) := (Below.refl _ _).alloc (Nat.le_refl _) _

set_option maxRecDepth 20000 in
set_option maxHeartbeats 1600000 in
theorem CheckGraph_any (n : Int) (v : Value) (F : List (Int × Int)) (w : World) (h : EdgesI w v F) :
    Calls Tryd.prog 27 #[.agg #[.int .i64 n, v]] w fun e w' => e = .returned (.int .i64 (graphR n F)) ∧ Below w.heap.size w w' := by
  obtain ⟨a, cap, rfl, hlen, hc⟩ := h
  have HB0 := hid (below_boxGr w #[.int .i64 n, .slice a F.length cap])
  have HN := hid (World.alloc_heap_new w (.cells #[.int .i64 n, .slice a F.length cap] 24))
  have IB := hid (fun v w' => isBelow_any v n w')
  by_cases hn1 : n < 1
  · have F1 : Hid (graphR n F = 1) := by show _ = _; unfold graphR; rw [if_neg (by omega)]
    have hd : decide (n < 1) = true := by simpa using hn1
    go_enter Tryd.func27, Tryd.ntmps27
    go_wp2_with fail
    go_ret
    exact ⟨ret_int F1.out.symm, HB0.out⟩
  · have hd : decide (n < 1) = false := by simpa using hn1
    by_cases hn7 : 7 < n
    · have F1 : Hid (graphR n F = 1) := by show _ = _; unfold graphR; rw [if_neg (by omega)]
      have hd7 : decide (7 < n) = true := by simpa using hn7
      go_enter Tryd.func27, Tryd.ntmps27
      go_wp2_with fail
      go_ret
      exact ⟨ret_int F1.out.symm, HB0.out⟩
    · have hd7 : decide (7 < n) = false := by simpa using hn7
      by_cases h8 : 8 < F.length
      · have F1 : Hid (graphR n F = 1) := by show _ = _; unfold graphR; rw [if_neg (by omega)]
        have hd8 : decide ((8 : Int) < (F.length : Int)) = true := by simp; omega
        have hd9 : (8 : Int) < (F.length : Int) := by omega
        go_enter Tryd.func27, Tryd.ntmps27
        go_wp2_with fail
        go_ret
        exact ⟨ret_int F1.out.symm, HB0.out⟩
      · have hd8 : decide ((8 : Int) < (F.length : Int)) = false := by simp; omega
        have hd9 : decide (8 < F.length) = false := by simp; omega
        have GR : Hid (graphR n F = if F.all (edgeB n) = true then 0 else 1) := by
          show _ = _
          unfold graphR
          by_cases c : F.all (edgeB n) = true
          · rw [if_pos c, if_pos ⟨by omega, by omega, by omega, c⟩]
          · rw [if_neg c, if_neg (fun d => c d.2.2.2)]
        go_enter Tryd.func27, Tryd.ntmps27
        go_wp2_with fail
        revert HB0 HN
        generalize (w.alloc (.cells #[.int .i64 n, .slice a F.length cap] 24)) = W0
        intro HB0 HN
        have hW0 : w.heap.size < W0.heap.size := (Array.getElem?_eq_some_iff.1 HN.out).1
        go_loopw [22] (fun i wr => ∃ k : Nat, k ≤ F.length ∧ i = .int .i64 k ∧ Hid (Below W0.heap.size W0 wr) ∧ Hid (F.all (edgeB n) = (F.drop k).all (edgeB n))) (fun i _ => F.length - (intOf i).toNat)
        case atStart => exact ⟨0, Nat.zero_le _, rfl, Below.refl _ _, rfl⟩
        case round =>
          obtain ⟨k, hk, rfl, HW, R⟩ := hrel
          by_cases hlt : k < F.length
          · obtain ⟨b, off, rfl, hb, hcell⟩ := hc (by omega)
            have hbW : b < W0.heap.size := Nat.lt_of_lt_of_le hb HB0.out.size
            have cA := ((HW.out.cell (p := ⟨b, off + k * 2, none⟩) hbW).trans (HB0.out.cell (p := ⟨b, off + k * 2, none⟩) hb)).trans (hcell k hlt).1
            have cB := ((HW.out.cell (p := ⟨b, off + k * 2 + 1, none⟩) hbW).trans (HB0.out.cell (p := ⟨b, off + k * 2 + 1, none⟩) hb)).trans (hcell k hlt).2
            have D := hid (allE_drop (p := edgeB n) hlt)
            have EB : Hid (edgeB n (F.getD k (0, 0)) = (inB (F.getD k (0, 0)).1 n && inB (F.getD k (0, 0)).2 n)) := rfl
            have hki : (k : Int) < (F.length : Int) := by omega
            clear hcell hc
            generalize (F.getD k (0, 0)).1 = A at *
            generalize (F.getD k (0, 0)).2 = B at *
            have hkw := below_alloc wr (.cells #[.int .i64 A, .int .i64 B] 32)
            have hnew := World.alloc_heap_new wr (.cells #[.int .i64 A, .int .i64 B] 32)
            obtain ⟨n0, n1, _, _⟩ := two_cells hnew
            have hwb := (hkw.block w.heap.size (Nat.lt_of_lt_of_le hW0 HW.out.size)).trans ((HW.out.block w.heap.size hW0).trans HN.out)
            obtain ⟨g0, g1, _, _⟩ := two_cells hwb
            have BW1 := hid (HW.out.trans (hkw.mono HW.out.size))
            have IA := hid (IB.out A)
            have IC := hid (IB.out B)
            have HBF := hid (HB0.out.trans (BW1.out.mono HB0.out.size))
            clear hkw hnew hwb
            rcases qA : inB A n with _ | _
            · rw [qA] at IA EB
              have F1 : Hid (graphR n F = 1) := by show _ = _; rw [GR.out, R.out, D.out, EB.out]; rfl
              go_wp2_with fail
              refine (IA.out _).mono ?_
              rintro e w' ⟨rfl, hw'⟩
              subst hw'
              go_wp2_with fail
              go_ret
              exact ⟨ret_int F1.out.symm, HBF.out⟩
            · rw [qA] at IA EB
              rcases qB : inB B n with _ | _
              · rw [qB] at IC EB
                have F1 : Hid (graphR n F = 1) := by show _ = _; rw [GR.out, R.out, D.out, EB.out]; rfl
                go_wp2_with fail
                refine (IA.out _).mono ?_
                rintro e w' ⟨rfl, hw'⟩
                subst hw'
                go_wp2_with fail
                refine (IC.out _).mono ?_
                rintro e w' ⟨rfl, hw'⟩
                subst hw'
                go_wp2_with fail
                go_ret
                exact ⟨ret_int F1.out.symm, HBF.out⟩
              · rw [qB] at IC EB
                have R1 : Hid (F.all (edgeB n) = (F.drop (k + 1)).all (edgeB n)) := by show _ = _; rw [R.out, D.out, EB.out]; rfl
                go_wp2_with fail
                refine (IA.out _).mono ?_
                rintro e w' ⟨rfl, hw'⟩
                subst hw'
                go_wp2_with fail
                refine (IC.out _).mono ?_
                rintro e w' ⟨rfl, hw'⟩
                subst hw'
                go_wp2_with fail
                go_roundw
                case rel => exact ⟨k + 1, by omega, by go_num, BW1, R1⟩
                case measure => simp [intOf]; omega
          · have F1 : Hid (graphR n F = 0) := by show _ = _; rw [GR.out, R.out, List.drop_of_length_le (by omega)]; rfl
            have hki : ¬ (k : Int) < (F.length : Int) := by omega
            have HBF := hid (HB0.out.trans (HW.out.mono HB0.out.size))
            go_wp2_with fail
            go_ret
            exact ⟨ret_int F1.out.symm, HBF.out⟩
end Go.Proofs.YtfajbmcdkhgipaaDoor

namespace Go.Proofs.YtfajbmcdkhgipaaDoor
open Go.RowKit

theorem slotG {w : World} {n : Int} {v : Value} : ((w.alloc (.cells #[.int .i64 n, v] 24)).alloc (.cells #[.int .i64 0, .slice none 0 0] 43)).heap[w.heap.size]? = some (.cells #[.int .i64 n, v] 24 (0, 0)) ∧ ((w.alloc (.cells #[.int .i64 n, v] 24)).alloc (.cells #[.int .i64 0, .slice none 0 0] 43)).heap[w.heap.size + 1]? = some (.cells #[.int .i64 0, .slice none 0 0] 43 (0, 0)) := by
  refine ⟨?_, ?_⟩
  · rw [Below.heap_alloc _ _ _ (by simp)]
    exact World.alloc_heap_new w _
  · have := World.alloc_heap_new (w.alloc (.cells #[.int .i64 n, v] 24)) (.cells #[.int .i64 0, .slice none 0 0] 43)
    rwa [World.size_alloc] at this
set_option maxHeartbeats 800000 in
theorem GraphQ_ok (s b : Nat) (n : Int) (v : Value) (E : List (Nat × Nat)) (w : World) (hs : s < 256) (hE : ∀ j, j < E.length → ea E j < 7 ∧ eb E j < 7) (hb : w.heap[b]? = some (.cells #[.int .i64 n, v] 24 (0, 0))) (h : EdgesAt w v E) :
    Calls Tryd.prog 29 #[.int .i64 s, .pointer (some ⟨b, 0, none⟩)] w fun e w' => e = .returned (.bool (!ringB E s)) ∧ Below w.heap.size w w' := by
  have HR := hid (hasRing_any n v E s w hs hE h)
  obtain ⟨a, cap, rfl, _, _⟩ := h
  obtain ⟨z0, z1, _, _⟩ := two_cells hb
  go_enter Tryd.func29, Tryd.ntmps29
  go_wp2_with fail
  refine HR.out.mono ?_
  rintro e w' ⟨rfl, hb'⟩
  have HB := hid hb'
  clear hb'
  go_wp2_with fail
  go_ret
  exact ⟨rfl, HB.out⟩
set_option maxRecDepth 20000 in
set_option maxHeartbeats 1600000 in
theorem Graphic_any (n : Int) (v : Value) (F : List (Int × Int)) (w : World) (h : EdgesI w v F) :
    Calls Tryd.prog 14 #[.agg #[.int .i64 n, v]] w (Makes w (graphR n F) F.length (bigL F.length fun s => !ringB (natE F) s)) := by
  have HI := hid h
  obtain ⟨a, cap, rfl, hlen, hc⟩ := h
  clear hc
  have hmf : ∀ (fn : Fn) (first cap : Array Value) (w : World), (Instr.makeFunc fn first cap).run Tryd.prog w = .ok (.func fn first cap) w := fun _ _ _ _ => rfl
  have HB0 : Hid (Below w.heap.size w ((w.alloc (.cells #[.int .i64 n, .slice a F.length cap] 24)).alloc (.cells #[.int .i64 0, .slice none 0 0] 43))) := ((Below.refl _ _).alloc (Nat.le_refl _) _).alloc (by simp) _
  have HX := hid (slotG (w := w) (n := n) (v := .slice a F.length cap))
  have HSZ : Hid (((w.alloc (.cells #[.int .i64 n, .slice a F.length cap] 24)).alloc (.cells #[.int .i64 0, .slice none 0 0] 43)).heap.size = w.heap.size + 2) := by show _ = _; simp
  have CG := hid (CheckGraph_any n _ F _ (HI.out.below HB0.out))
  go_enter Tryd.func14, Tryd.ntmps14
  go_wp2_with fail
  refine CG.out.mono ?_
  clear CG
  revert HB0 HX HSZ
  generalize ((w.alloc (.cells #[.int .i64 n, .slice a F.length cap] 24)).alloc (.cells #[.int .i64 0, .slice none 0 0] 43)) = W9
  intro HB9 HX9 HSZ9
  rintro e W0 ⟨rfl, hb1⟩
  have HB0 := hid (HB9.out.trans (hb1.mono HB9.out.size))
  have hsz : w.heap.size + 2 ≤ W0.heap.size := by have := hb1.size; have := HSZ9.out; omega
  have HX : Hid (W0.heap[w.heap.size]? = some (.cells #[.int .i64 n, .slice a F.length cap] 24 (0, 0)) ∧ W0.heap[w.heap.size + 1]? = some (.cells #[.int .i64 0, .slice none 0 0] 43 (0, 0))) :=
    ⟨(hb1.block _ (by have := HSZ9.out; omega)).trans HX9.out.1, (hb1.block _ (by have := HSZ9.out; omega)).trans HX9.out.2⟩
  clear hb1 HB9 HX9 HSZ9
  obtain ⟨x0, x1, _, _⟩ := two_cells HX.out.1
  obtain ⟨y2, y3, g2, g3⟩ := two_cells HX.out.2
  by_cases hg : graphR n F = 0
  · have HGR := hid hg
    rw [hg]
    unfold graphR at hg
    split at hg
    · rename_i hgood
      obtain ⟨hn1, hn7, h8, hall⟩ := hgood
      have HEN := hid (HI.out.nat h8 hall)
      have HNL := hid (natE_lt hn7 hall)
      have OI := hid (ofInd_any F.length 29 #[.pointer (some ⟨w.heap.size, 0, none⟩)] (fun s => !ringB (natE F) s) W0 h8 (fun args w => enters_of Tryd.func29 (by kernel_rfl) rfl args w)
        (fun x hx w3 hb3 _ => GraphQ_ok x w.heap.size n _ (natE F) w3 (lt256 h8 hx) HNL.out ((hb3.block _ (by omega)).trans HX.out.1) ((HEN.out.below HB0.out).below hb3)))
      change Hid (Calls _ _ _ _ fun e w' => ∃ r, e = .returned (.agg #[.int .i64 F.length, r]) ∧ Own _ w' r (bigL F.length (fun s => !ringB (natE F) s)) ∧ _) at OI
      obtain ⟨acc, HACC⟩ : ∃ acc : List Nat, Hid (bigL F.length (fun s => !ringB (natE F) s) = acc) := ⟨_, rfl⟩
      rw [HACC.out] at OI
      clear hg hall hn1 hn7
      go_wp2_with fail
      refine OI.out.mono ?_
      rintro e w4 ⟨r4, rfl, hr4, hb4⟩
      obtain ⟨ra, rc, hr⟩ := ownsRow_form' hr4
      subst hr
      have hxx := (hb4.block (w.heap.size + 1) (by omega)).trans HX.out.2
      obtain ⟨y2, y3, g2, g3⟩ := two_cells hxx
      have HC := hid (set_two (x := .int .i64 F.length) (y := .slice ra acc.length rc) hxx)
      have HB4 := hid (HB0.out.trans (hb4.mono HB0.out.size))
      have HD := hid (below_two (b := w.heap.size + 1) (x := .int .i64 F.length) (y := .slice ra acc.length rc) HB4.out (by omega))
      have HII := hid ((hr4.set2 (b := w.heap.size + 1) (x := .int .i64 F.length) (y := .slice ra acc.length rc) (by omega)).mono (by omega : w.heap.size ≤ _))
      clear hb4 hr4 hxx
      go_wp2_with fail
      obtain ⟨c0, c1⟩ := HC.out
      refine bodyPost_ret (v := .tuple #[.agg #[.int .i64 F.length, .slice ra _ rc], .int .i64 0]) ?_ rfl ⟨fun _ => ⟨_, rfl, by rw [HACC.out]; exact HII.out, HD.out⟩, fun e => absurd HGR.out e⟩
      simp [results, Tryd.f14, go_sem, c0, c1]
    · cases hg
  · have F1 : Hid (graphR n F = 1) := by
      show _ = _
      unfold graphR at hg ⊢
      split at hg
      · exact absurd rfl hg
      · rename_i h; rw [if_neg h]
    have HCC := hid (set_two (x := .int .i64 0) (y := .slice none 0 0) HX.out.2)
    have HD := hid (below_two (b := w.heap.size + 1) (x := .int .i64 0) (y := .slice none 0 0) HB0.out (by omega))
    rw [F1.out]
    go_wp2_with fail
    obtain ⟨c0, c1⟩ := HCC.out
    refine bodyPost_ret (v := .tuple #[.agg #[.int .i64 0, .slice none 0 0], .int .i64 1]) ?_ rfl ⟨fun e => absurd (F1.out.symm.trans e) (by decide), fun _ => ⟨by rw [F1.out], HD.out⟩⟩
    simp [results, Tryd.f14, go_sem, c0, c1]
end Go.Proofs.YtfajbmcdkhgipaaDoor
