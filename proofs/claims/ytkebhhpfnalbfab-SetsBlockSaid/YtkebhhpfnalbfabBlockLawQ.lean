/- The walk of the law SetsBlock. -/
import Derived.Test.YtkebhhpfnalbfabFuncQ
import Derived.Test.YtkebhhpfnalbfabFamQ
import Derived.Test.YtkebhhpfnalbfabOkQ
import Derived.Deep.RegionWith
namespace Go.Proofs.Ytkebhhpfnalbfab
open Go.RowKit

set_option maxHeartbeats 800000 in
theorem closure_any (s t b : Nat) (w : World) (hs : s < 256) (ht : t < 256) (hc : w.cell? ⟨b, 0, none⟩ = some (.int .i64 s)) :
    Calls Try.prog 13 #[.int .i64 t, .pointer (some ⟨b, 0, none⟩)] w fun e w' => e = .returned (.bool (subB s t && pop t == pop s + 1)) ∧ Below w.heap.size w w' := by
  have hb := World.block_lt_of_cell? w _ hc
  have hb' : b < w.heap.size := hb
  clear hb
  rcases hq : subB s t with _ | _
  · have hW : ∀ w, Calls Try.prog 14 #[.int .i64 s, .int .i64 t] w fun e w' => e = .returned (.bool false) ∧ w' = w := fun w => by
      have := Within_any s t w hs ht
      rw [hq] at this; exact this
    have HW := hid hW
    clear hW hq
    go_enter Try.func13, Try.ntmps13
    go_wp2_with fail
    go_quiet ((go_at_call 14; exact Calls.quiet_of_same (HW.out _)))
    go_wp2_with fail
    go_ret
    exact ⟨ret_bool (by simp), below_drewN (Below.refl _ _) _⟩
  · have hW : ∀ w, Calls Try.prog 14 #[.int .i64 s, .int .i64 t] w fun e w' => e = .returned (.bool true) ∧ w' = w := fun w => by
      have := Within_any s t w hs ht
      rw [hq] at this; exact this
    have HW := hid hW
    have p1 := pop_le s hs
    have p2 := pop_le t ht
    have WR := hid (show IntKind.i64.wrap ((pop s : Int) + 1) = (pop s : Int) + 1 from wrap_i64_nat (pop s + 1) (by omega))
    clear hW hq
    go_enter Try.func13, Try.ntmps13
    go_wp2_with fail
    go_region_with (first | (go_at_call 14; refine (HW.out _).mono ?_; rintro e w1 ⟨rfl, rfl⟩) | (go_at_call_of 15 (Value.int IntKind.i64 (t : Int)); refine (Size_any t _ ht).mono ?_; rintro e w1 ⟨rfl, hb1⟩; have hc1 := (hb1.cell (p := ⟨b, 0, none⟩) hb').trans hc) | (go_at_call_of 15 (Value.int IntKind.i64 (s : Int)); refine (Size_any s _ hs).mono ?_; rintro e w2 ⟨rfl, hb2⟩))
    all_goals go_wp2_with fail
    all_goals go_ret
    all_goals exact ⟨ret_bool (by rw [WR.out, Bool.true_and, Bool.eq_iff_iff, beq_iff_eq, beq_iff_eq]; omega), ((Below.refl _ _).drew.trans hb1).trans (hb2.mono (by have := hb1.size; simpa using this))⟩

theorem pair_fam : Fam 2 [3] := ⟨by simp, by simp⟩
theorem pair_blk : N (blk 2 [3]) = [1, 2] := by decide +kernel
theorem block_start {w : World} (hw : Tabbed w) :
    Calls Try.prog 8 #[.int .i64 2, .slice (some ⟨w.heap.size, 0, none⟩) 1 1] (w.alloc (.cells #[.int .i64 3] 3)) fun e w' => ∃ r, e = .returned (.tuple #[r, .int .i64 0]) ∧ Ints w' r [1, 2] ∧ Below w.heap.size w w' :=
  (Blocker_ok (m := 2) (by omega) pair_fam (hw.below (below_alloc w _)) (Ints.lit1 w 3)).mono fun _ _ ⟨r, h1, h2, h3⟩ => ⟨r, h1, pair_blk ▸ h2, (below_alloc w _).trans (h3.mono (by simp))⟩

theorem Blocker_twice {m : Nat} (hm : m ≤ 8) {l : List Nat} (hF : Fam m l) {v : Value} {w : World} (hw : Tabbed w) (h : Ints w v (N (blk m l))) :
    Calls Try.prog 8 #[.int .i64 m, v] w (Gives w (lst l)) := blk_blk hm hF ▸ Blocker_ok hm (Fam.range m _) hw h
theorem Least_twice {m : Nat} (hm : m ≤ 8) {l : List Nat} (hF : Fam m l) {v : Value} {w : World} (h : Ints w v (N (lst l))) :
    Calls Try.prog 10 #[.int .i64 m, v] w (Gives w (lst l)) := by
  have := Least_ok hm (hF.filter fun s => !l.any (otherIn s)) h
  rwa [show lst (l.filter fun s => !l.any (otherIn s)) = lst l from lst_lst l] at this
theorem shadow_in {m : Nat} (hm : m ≤ 8) {l : List Nat} (hF : Fam m l) {s : Nat} (hs : s ∈ shd m l) : l.any (fun t => subB s t && pop t == pop s + 1) = true := by
  simp only [shd, List.mem_filter, List.any_eq_true] at hs
  obtain ⟨_, t, ht, hd⟩ := hs
  rw [List.any_eq_true]
  have := down_one (hF.lt256 hm t ht) hd
  exact ⟨t, ht, by simp [this.1, this.2]⟩

set_option maxHeartbeats 1600000 in
set_option maxRecDepth 100000 in
theorem block_law_bad (n : Int) (v : Value) (zs : List Int) (w : World) (hw : Tabbed w) (h : Ints w v zs) (hf : famR n zs ≠ 0) :
    Calls Try.prog 3 #[.int .i64 n, v] w fun e w' => e = .returned (.bool true) ∧ Below w.heap.size w w' := by
  obtain ⟨a, cap, hv, -⟩ := family_err n v zs w h hf
  have HI := hid h
  have HF := hid hf
  clear h hf
  subst hv
  go_enter Try.func3, Try.ntmps3
  go_wp2_with fail
  refine (block_start hw).mono ?_
  rintro e w1 ⟨r, rfl, hi, hb⟩
  go_wp2_with fail
  refine (Same_any _ _ [1, 2] [1, 2] _ (hi.below (below_alloc _ _)) (Ints.lit2 w1 1 2)).mono ?_
  rw [show decide ([1, 2] = ([1, 2] : List Int)) = true from rfl]
  rintro e w2 ⟨rfl, hb2⟩
  have hb3 : Below w.heap.size w w2 := (hb.trans ((below_alloc w1 _).mono hb.size)).trans (hb2.mono (by have := hb.size; simp; omega))
  clear hb2 hi
  go_wp2_with fail
  refine (Blocker_bad _ _ zs _ (HI.out.below hb3) HF.out).mono ?_
  rintro e w4 ⟨rfl, hb4⟩
  have hb5 : Below w.heap.size w w4 := hb3.trans (hb4.mono hb3.size)
  clear hb4
  go_wp2_with fail
  refine (Least_bad _ _ zs _ (HI.out.below hb5) HF.out).mono ?_
  rintro e w3 ⟨rfl, rfl⟩
  go_wp2_with fail
  refine (Shadow_bad _ _ zs _ (HI.out.below hb5) HF.out).mono ?_
  rintro e w3 ⟨rfl, rfl⟩
  go_wp2_with fail
  go_ret
  exact ⟨rfl, hb5⟩

theorem answers_lit (wr : World) {l : List Nat} (hl : ∀ s ∈ l, s < 256) {x : Nat} (hx : x < 256) :
    Answers (wr.alloc (.cells #[.int .i64 x] 3)).heap.size (wr.alloc (.cells #[.int .i64 x] 3)) (.pointer (some ⟨wr.heap.size, 0, none⟩)) l (fun t => subB x t && pop t == pop x + 1) :=
  fun t ht w1 hb1 _ => closure_any x t wr.heap.size w1 hx (hl t ht) ((hb1.cell (p := ⟨wr.heap.size, 0, none⟩) (by simp)).trans (by rw [World.cell?_alloc_at _ _ _ _ rfl]; rfl))

set_option maxHeartbeats 3200000 in
set_option maxRecDepth 100000 in
theorem block_law_good {m : Nat} (hm : m ≤ 8) {l : List Nat} (hF : Fam m l) (v : Value) (w : World) (hw : Tabbed w) (h : Ints w v (N l)) :
    Calls Try.prog 3 #[.int .i64 m, v] w fun e w' => e = .returned (.bool true) ∧ Below w.heap.size w w' := by
  obtain ⟨a, cap, hv, -⟩ := h.nats
  have HI := hid h
  have HF := hid hF
  clear h hF
  subst hv
  go_enter Try.func3, Try.ntmps3
  go_wp2_with fail
  refine (block_start hw).mono ?_
  rintro e w1 ⟨r, rfl, hi, hb⟩
  go_wp2_with fail
  refine (Same_any _ _ [1, 2] [1, 2] _ (hi.below (below_alloc _ _)) (Ints.lit2 w1 1 2)).mono ?_
  rw [show decide ([1, 2] = ([1, 2] : List Int)) = true from rfl]
  rintro e w2 ⟨rfl, hb2⟩
  have hb3 : Below w.heap.size w w2 := (hb.trans ((below_alloc w1 _).mono hb.size)).trans (hb2.mono (by have := hb.size; simp; omega))
  clear hb2 hi hb
  go_wp2_with fail
  refine (Blocker_ok hm HF.out (hw.below hb3) (HI.out.below hb3)).mono ?_
  rintro e w3 hg
  obtain ⟨xa, xc, rfl, I3, hb4⟩ := hg.go
  have I3' := hid I3
  have b3 := hb3.trans (hb4.mono hb3.size)
  clear hg I3 hb4 hb3
  go_wp2_with fail
  refine (Least_ok hm HF.out (HI.out.below b3)).mono ?_
  rintro e w4 hg
  obtain ⟨ya, yc, rfl, I4, hb4⟩ := hg.go
  have I4' := hid I4
  have I3 := hid (I3'.out.below hb4)
  have b4 := b3.trans (hb4.mono b3.size)
  clear hg I4 hb4 b3 I3'
  go_wp2_with fail
  refine (Shadow_ok hm HF.out (hw.below b4) (HI.out.below b4)).mono ?_
  rintro e w5 hg
  obtain ⟨za, zc, rfl, I5, hb4⟩ := hg.go
  have I5' := hid I5
  have I3' := hid (I3.out.below hb4)
  have I4 := hid (I4'.out.below hb4)
  have b5 := b4.trans (hb4.mono b4.size)
  clear hg I5 hb4 b4 I3 I4'
  go_wp2_with fail
  refine (Blocker_twice hm HF.out (hw.below b5) I3'.out).mono ?_
  rintro e w6 hg
  obtain ⟨ua, uc, rfl, I6, hb4⟩ := hg.go
  have I6' := hid I6
  have I5 := hid (I5'.out.below hb4)
  have I4' := hid (I4.out.below hb4)
  have b6 := b5.trans (hb4.mono b5.size)
  clear hg I6 hb4 b5 I3' I4 I5'
  go_wp2_with fail
  refine (Least_twice hm HF.out I4'.out).mono ?_
  rintro e w7 hg
  obtain ⟨va, vc, rfl, I7, hb4⟩ := hg.go
  have I7' := hid I7
  have I6 := hid (I6'.out.below hb4)
  have I5' := hid (I5.out.below hb4)
  have I4 := hid (I4'.out.below hb4)
  have b7 := b6.trans (hb4.mono b6.size)
  clear hg I7 hb4 b6 I6' I5 I4'
  go_wp2_with fail
  refine (Same_any _ _ _ _ _ I6.out I4.out).mono ?_
  rw [decide_eq_true rfl]
  rintro e w8 ⟨rfl, hb4⟩
  have I7 := hid (I7'.out.below hb4)
  have I5 := hid (I5'.out.below hb4)
  have I4' := hid (I4.out.below hb4)
  have b8 := b7.trans (hb4.mono b7.size)
  clear hb4 b7 I7' I6 I5' I4
  go_wp2_with fail
  refine (Same_any _ _ _ _ _ I7.out I4'.out).mono ?_
  rw [decide_eq_true rfl]
  rintro e w9 ⟨rfl, hb4⟩
  have I5' := hid (I5.out.below hb4)
  have b9 := b8.trans (hb4.mono b8.size)
  clear hb4 b8 I7 I5 I4'
  obtain ⟨za', zc', hz, hlen, hc⟩ := I5'.out.nats
  obtain ⟨rfl, -, rfl⟩ : za = za' ∧ True ∧ zc = zc' := by simpa using hz
  have SIN := hid (fun s hs => shadow_in (s := s) hm HF.out hs)
  have S256 := hid (fun s hs => (Fam.range m (fun s => l.any fun t => downB t s)).lt256 hm s hs)
  clear hz
  go_wp2_with fail
  go_loopw [110] (fun i wr => ∃ k : Nat, k ≤ (shd m l).length ∧ i = .int .i64 k ∧ Below w9.heap.size w9 wr) (fun i _ => (shd m l).length - (intOf i).toNat)
  case atStart => exact ⟨0, Nat.zero_le _, rfl, Below.refl _ _⟩
  case round =>
    obtain ⟨k, hk, rfl, hnx⟩ := hrel
    by_cases hlt : k < (shd m l).length
    · obtain ⟨b, off, rfl, hb, hcell⟩ := hc (by omega)
      have hck : wr.cell? ⟨b, off + k, none⟩ = some (.int .i64 ((shd m l).getD k 0 : Nat)) := (hnx.cell (p := ⟨b, off + k, none⟩) hb).trans (hcell k hlt)
      have hmem : (shd m l).getD k 0 ∈ shd m l := by simp [List.getD, hlt]
      have A := hid (SIN.out _ hmem)
      have hx := S256.out _ hmem
      clear hcell hc hmem
      generalize (shd m l).getD k 0 = x at *
      have bx : Below w.heap.size w wr := b9.trans (hnx.mono b9.size)
      have hmf : ∀ (fn : Fn) (first cap : Array Value) (w : World), (Instr.makeFunc fn first cap).run Try.prog w = .ok (.func fn first cap) w := fun _ _ _ _ => rfl
      have hsz := hnx.size
      have by' : Below w.heap.size w (wr.alloc (.cells #[.int .i64 x] 3)) := bx.alloc bx.size _
      have C := hid (ContainsFunc_any (.pointer (some ⟨wr.heap.size, 0, none⟩)) _ l (fun t => subB x t && pop t == pop x + 1) _ (HI.out.below by') (answers_lit wr (HF.out.lt256 hm) hx))
      rw [A.out] at C
      go_wp2_with fail
      refine C.out.mono ?_
      rintro e w10 ⟨rfl, hb4⟩
      have b10 : Below w9.heap.size w9 w10 := (hnx.alloc hsz _).trans (hb4.mono (by simp; omega))
      clear hb4 C
      go_wp2_with fail
      go_roundw
      case rel => exact ⟨k + 1, by omega, by go_num, b10⟩
      case measure => simp [intOf]; omega
    · go_wp2_with fail
      go_ret
      exact ⟨rfl, b9.trans (hnx.mono b9.size)⟩

theorem block_law_plain (n : Int) (v : Value) (zs : List Int) (w : World) (h : Ints w v zs) :
    Calls Try.prog 3 #[.int .i64 n, v] w fun e w' => e = .returned (.bool true) ∧ Below w.heap.size w w' := by
  by_cases hf : famR n zs = 0
  · obtain ⟨m, l, rfl, hm, rfl, hF⟩ := fam_of hf
    exact block_law_good hm hF v w trivial h
  · exact block_law_bad n v zs w trivial h hf
theorem block_law (n : Int) (v : Value) (zs : List Int) (w : World) (hw : Tabbed w) (h : Ints w v zs) :
    Calls Try.prog 3 #[.int .i64 n, v] w fun e w' => e = .returned (.bool true) ∧ Below w.heap.size w w' := by
  by_cases hf : famR n zs = 0
  · obtain ⟨m, l, rfl, hm, rfl, hF⟩ := fam_of hf
    exact block_law_good hm hF v w hw h
  · exact block_law_bad n v zs w hw h hf
end Go.Proofs.Ytkebhhpfnalbfab
