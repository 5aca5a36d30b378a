/- The contract of sets.Shadow. -/
import Derived.Test.YtbjijdjffefafabDoorBlock
namespace Go.Proofs.YtbjijdjffefafabDoor
open Go.RowKit

theorem Shadow_bad (n : Int) (v : Value) (zs : List Int) (w : World) (h : Ints w v zs) (hf : famR n zs ≠ 0) :
    Calls Tryd.prog 4 #[.int .i64 n, v] w fun e w' => e = .returned (.tuple #[.slice none 0 0, .int .i64 1]) ∧ w' = w := by
  obtain ⟨a, cap, hv, h1⟩ := family_err n v zs w h hf
  have HI := hid h
  have H1 := hid h1
  clear h h1 hf
  subst hv
  go_enter Tryd.func4, Tryd.ntmps4
  go_wp2_with fail
  refine (family_any _ _ zs _ HI.out).mono ?_
  rw [H1.out]
  rintro e w' ⟨rfl, rfl⟩
  go_wp2_with fail
  go_ret2
  exact ⟨rfl, rfl⟩

/-- The marks: a block of 256 truths. -/
structure Marks (B : Nat) (w : World) (m : Nat → Bool) : Prop where
  cell : ∀ i, i < 256 → w.cell? ⟨B, i, none⟩ = some (.bool (m i))
  frozen : ∀ i, w.frozen? ⟨B, i, none⟩ = false
  size : B < w.heap.size
theorem Marks.set {B : Nat} {w : World} {m : Nat → Bool} (h : Marks B w m) (j : Nat) (hj : j < 256) : Marks B (w.setCell ⟨B, j, none⟩ (.bool true)) (fun i => m i || j == i) := by
  refine ⟨fun i hi => ?_, fun i => (World.frozen?_setCell _ _ _ _).trans (h.frozen i), by simpa using h.size⟩
  by_cases e : j = i
  · subst e
    rw [World.cell?_setCell_same _ _ _ (h.cell j hj)]; simp
  · rw [World.cell?_setCell_other _ _ _ _ (by simp), h.cell i hi]
    simp [e]
theorem Marks.kept {B : Nat} {w w' : World} {m : Nat → Bool} (h : Marks B w m) (hb : ∀ k, k ≤ B → w'.heap[k]? = w.heap[k]?) (hs : w.heap.size ≤ w'.heap.size) : Marks B w' m :=
  ⟨fun i hi => (World.cell?_of_block (w := w) (hb B (Nat.le_refl _))).trans (h.cell i hi), fun i => (World.frozen?_of_block (w := w) (hb B (Nat.le_refl _))).trans (h.frozen i), Nat.lt_of_lt_of_le h.size hs⟩

/-- 256 times false: a letter to the walk. -/
def Z256 : Array Value := Array.replicate 256 (.bool false)
theorem Z256_size : Z256.size = 256 := by unfold Z256; simp
theorem Z256_ne : ¬ Z256 = #[] := fun h => by have := Z256_size; rw [h] at this; simp at this
theorem zero256 (w : World) : (zeroValue 34).run Tryd.prog w = .ok (.agg Z256) w := by kernel_rfl
theorem Marks.new (w : World) (Z : Array Value) (hZ : Z = Array.replicate 256 (.bool false)) : Marks w.heap.size (w.alloc (.cells Z 34)) (fun _ => false) := by
  subst hZ
  refine ⟨fun i hi => ?_, fun i => World.frozen?_alloc_at _ _ _ _ rfl, by simp⟩
  rw [World.cell?_alloc_at _ _ _ _ rfl]
  simp [hi]
/-- What is marked, and what is still to come. -/
def Due (l : List Nat) (m rest : Nat → Bool) : Prop := ∀ s, (l.any fun t => downB t s) = (m s || rest s)

theorem due_open {l : List Nat} {m : Nat → Bool} {k : Nat} (hlt : k < l.length) (h : Due l m fun s => (l.drop k).any fun t => downB t s) :
    Due l m fun s => downB (l.getD k 0) s || (l.drop (k + 1)).any fun t => downB t s := fun s => by
  have := h s
  simp only [any_drop (p := fun t => downB t s) hlt] at this
  exact this
theorem due_step {l : List Nat} {m R : Nat → Bool} {r x T : Nat} (hT : T = 2 ^ tz r) (E : els r = tz r :: els (wl r)) (h : Due l m fun s => ((els r).any fun i => x ^^^ (x &&& 2 ^ i) == s) || R s) :
    Due l (fun i => m i || (x ^^^ (x &&& T)) == i) fun s => ((els (wl r)).any fun i => x ^^^ (x &&& 2 ^ i) == s) || R s := fun s => by
  have := h s
  simp only [E, List.any_cons, ← hT] at this
  rw [this]
  simp only [Bool.or_assoc]
theorem due_done {l : List Nat} {m R : Nat → Bool} {x : Nat} (h : Due l m fun s => ((els 0).any fun i => x ^^^ (x &&& 2 ^ i) == s) || R s) : Due l m R := fun s => by
  have := h s
  simpa only [els_zero, List.any_nil, Bool.false_or] using this
theorem due_all {l : List Nat} {m : Nat → Bool} {k : Nat} (hk : l.length ≤ k) (h : Due l m fun s => (l.drop k).any fun t => downB t s) (s : Nat) : (l.any fun t => downB t s) = m s := by
  have := h s
  simpa only [List.drop_of_length_le hk, List.any_nil, Bool.or_false] using this

set_option maxHeartbeats 1600000 in
set_option maxRecDepth 100000 in
theorem Shadow_good (n : Nat) (v : Value) (l : List Nat) (w : World) (hw : Tabbed w) (hn : n ≤ 8) (hl : ∀ s ∈ l, s < 256) (h : Ints w v (N l)) (hf : famR n (N l) = 0) :
    Calls Tryd.prog 4 #[.int .i64 n, v] w fun e w' => ∃ r, e = .returned (.tuple #[r, .int .i64 0]) ∧ Own w.heap.size w' r ((List.range (2 ^ n)).filter fun s => l.any fun t => downB t s) ∧ Below w.heap.size w w' := by
  obtain ⟨i0, hi, hz0, hz1, hz2⟩ := info_parts Tryd.infoInt
  obtain ⟨a, cap, hv, hlen, hc⟩ := h.nats
  obtain ⟨T, hT, HT, hT2⟩ := pow_T n hn
  have HI := hid h
  have H1 := hid hf
  clear h hf
  subst hv
  have z1 := zero256
  have z2 := Z256_size
  have z3 := Z256_ne
  go_enter Tryd.func4, Tryd.ntmps4
  go_wp2_with fail
  refine (family_any _ _ (N l) _ HI.out).mono ?_
  rw [H1.out]
  rintro e w' ⟨rfl, rfl⟩
  go_wp2_with fail
  clear z1 z2 z3
  go_loopw [21] (fun i wr => ∃ (k : Nat) (m : Nat → Bool), k ≤ l.length ∧ i = .int .i64 k ∧ Hid (Marks w'.heap.size wr m) ∧ Below w'.heap.size w' wr ∧ Hid (Due l m fun s => (l.drop k).any fun t => downB t s)) (fun i _ => l.length - (intOf i).toNat)
  case atStart => exact ⟨0, fun _ => false, Nat.zero_le _, rfl, Marks.new _ _ (by kernel_rfl), (Below.refl _ _).alloc (Nat.le_refl _) _, fun s => by simp⟩
  case round =>
    obtain ⟨k, m, hk, rfl, HM, hnx, HD⟩ := hrel
    by_cases hlt : k < l.length
    · obtain ⟨b, off, rfl, hb, hcell⟩ := hc (by omega)
      have hck : wr.cell? ⟨b, off + k, none⟩ = some (.int .i64 (l.getD k 0 : Nat)) := (hnx.cell (p := ⟨b, off + k, none⟩) hb).trans (hcell k hlt)
      have hx := getD_lt hl k
      have HD2 := hid (due_open hlt HD.out)
      clear hcell HD
      generalize l.getD k 0 = x at *
      go_wp2_with fail
      go_loopw [10] (fun i wi => ∃ (r : Nat) (m' : Nat → Bool), r < 256 ∧ i = .int .i64 r ∧ Hid (Marks w'.heap.size wi m') ∧ Below w'.heap.size w' wi ∧ Hid (Due l m' fun s => ((els r).any fun i => x ^^^ (x &&& 2 ^ i) == s) || (l.drop (k + 1)).any fun t => downB t s)) (fun i _ => (intOf i).toNat)
      case atStart => exact ⟨x, m, hx, rfl, HM, hnx, HD2⟩
      case round =>
        obtain ⟨r, m', hr, rfl, HM', hnx', HD'⟩ := hrel
        by_cases hz : r = 0
        · subst hz
          go_wp2_with fail
          go_roundw
          case rel => exact ⟨k + 1, m', by omega, by go_num, HM', hnx', due_done HD'.out⟩
          case measure => simp [intOf]; omega
        · have hr0 : 0 < r := by omega
          have hnz : ((r : Int) != 0) = true := by rw [bne_iff_ne]; omega
          have E := hid (els_step r hr hr0)
          have l1 := wl_lt r hr hr0
          have t1 := tz_lt r hr hr0
          obtain ⟨S, hS, HS, hS3⟩ := pow_T (tz r) (by omega)
          have hand : bits .andNot .i64 (x : Int) (S : Int) = ((x ^^^ (x &&& S) : Nat) : Int) := i64_andNot_nat x S (by omega) (by omega)
          have hlt2 : x ^^^ (x &&& S) < 2 ^ 8 := Nat.xor_lt_two_pow (by omega) (Nat.lt_of_le_of_lt Nat.and_le_left (by omega))
          have D2 := hid (due_step HS.out E.out HD'.out)
          have M2 := hid (HM'.out.set (x ^^^ (x &&& S)) (by omega))
          have hcl := HM'.out.cell (x ^^^ (x &&& S)) (by omega)
          have hfz := HM'.out.frozen (x ^^^ (x &&& S))
          have tb := hid (hw.below hnx')
          clear HM' HD'
          generalize x ^^^ (x &&& S) = y at *
          have hy : (y : Int) < 256 := by omega
          go_wp2_with fail
          refine (least_any r _ tb.out hr0 hr).mono ?_
          rintro e w1 ⟨rfl, rfl⟩
          go_wp2_with fail
          refine (without_any r _ hr0 hr).mono ?_
          rintro e w2 ⟨rfl, rfl⟩
          go_wp2_with fail
          go_roundw
          case rel => exact ⟨wl r, _, by omega, rfl, M2.out, hnx'.setCell (Nat.le_refl _) _, D2.out⟩
          case measure => simp [intOf]; omega
    · have DA := hid (due_all (by omega) HD.out)
      clear HD
      go_wp2_with fail
      rw [hT]
      go_loopw [11, 39] (fun u i wi => ∃ k : Nat, k ≤ T ∧ i = .int .i64 k ∧ Own (w'.heap.size + 1) wi u ((List.range k).filter fun s => l.any fun t => downB t s) ∧ Below w'.heap.size w' wi ∧ Hid (Marks w'.heap.size wi m)) (fun _ i _ => T - (intOf i).toNat)
      case atStart => exact ⟨0, Nat.zero_le _, rfl, Own.nil _ _, hnx, HM⟩
      case round =>
        obtain ⟨j, hj, rfl, hown, hnx', HM'⟩ := hrel
        have hsz := HM'.out.size
        by_cases hlt2 : j < T
        · have Hhit := hid (fun hp => range_hit (p := fun s => l.any fun t => downB t s) (k := j) hp)
          have Hmiss := hid (fun hp => range_miss (p := fun s => l.any fun t => downB t s) (k := j) hp)
          have hfl := range_le (fun s => l.any fun t => downB t s) j
          have HO := hid hown
          have hcl := HM'.out.cell j (by omega)
          have HJ := hid (DA.out j)
          have hj3 : (j : Int) < 256 := by omega
          clear hown
          generalize (List.range j).filter (fun s => l.any fun t => downB t s) = acc at *
          rcases hq : m j with _ | _
          · rw [hq] at hcl
            have HQ := hid hq
            clear hq
            go_wp2_with fail
            go_roundw
            case rel => exact ⟨j + 1, by omega, by go_num, by rw [Hmiss.out (by rw [HJ.out, HQ.out])]; exact HO.out, hnx', HM'⟩
            case measure => simp [intOf]; omega
          · rw [hq] at hcl
            have HQ := hid hq
            clear hq
            go_wp2_with (at_builtin; refine wpList_append_own _ rfl _ _ 22 rfl (w'.heap.size + 1) 3 i0 (.int .i64 0) 1 8 Tryd.underlying22 hi hz0 hz1 hz2 rfl (by decide) _ _ _ rfl (HO.out.alloc _) ⟨wr.heap.size, 0, none⟩ 1 1 [.int .i64 (j : Nat)] rfl rfl ?c1 ?c2 ?c3 ?c4 ?c5 ?_)
            case c1 => exact cell_one_new _ _ _
            case c2 => intro u hu; simp at hu; subst hu; rfl
            case c3 => unfold maxLen; omega
            case c4 => omega
            case c5 => simp; omega
            intro v' w2 hown' hgrow _
            have R1 := hid (Own.snoc hown')
            have R2 : Hid (Below w'.heap.size w' w2) := (hnx'.alloc (by omega) _).grown hgrow (by simp; omega) (fun j hj => by have := (World.ownsRow.lt HO.out j hj).1; omega)
            have R3 : Hid (Marks w'.heap.size w2 m) := HM'.out.kept (fun k hk => (hgrow.block k (by simp; omega) (fun h => by have := (World.ownsRow.lt HO.out k h.symm).1; omega)).trans (Below.heap_alloc _ _ _ (by omega))) (by have := hgrow.size; simp at this; omega)
            clear hown' hgrow
            go_wp2_with fail
            go_roundw
            case rel => exact ⟨j + 1, by omega, by go_num, by rw [Hhit.out (by rw [HJ.out, HQ.out])]; exact R1.out, R2.out, R3⟩
            case measure => simp [intOf]; omega
        · have hk' : j = T := by omega
          go_wp2_with fail
          go_ret2
          exact ⟨_, rfl, by rw [hk', HT.out] at hown; exact hown.mono (by omega), hnx'⟩
end Go.Proofs.YtbjijdjffefafabDoor
