/- kinds.columns. -/
import Derived.Test.YtlmpeacgjafcjaaKLmQ
import Derived.Deep.OwnRows
namespace Go.Proofs.Ytlmpeacgjafcjaa
open Go.RowKit

theorem info_col : ∃ i0, Try.prog.info? 62 = some i0 ∧ i0.zero = some (.agg #[.int .i64 0, .int .i64 0, .int .i64 0, .int .i64 0, .int .i64 0, .int .i64 0]) ∧ i0.size = 6 ∧ i0.bytes = 48 := by
  have := Try.infoCol
  revert this
  cases Try.prog.info? 62 with
  | none => intro h; cases h
  | some i => intro h; simp at h; exact ⟨i, rfl, h.1, h.2.1, h.2.2⟩
theorem run_make_col (c : Nat) (hc : c ≤ 8) (w : World) : (Instr.makeSlice 49 (.int .i64 (c : Int)) (.int .i64 (c : Int))).run Try.prog w = .ok (.slice (some ⟨w.heap.size, 0, none⟩) c c) (w.alloc (.cells (madeCells #[.int .i64 0, .int .i64 0, .int .i64 0, .int .i64 0, .int .i64 0, .int .i64 0] (c * 6)) 62)) := by
  obtain ⟨i0, hi, hz0, hz1, hz2⟩ := info_col
  have h := run_make (P := Try.prog) w 49 62 i0 (.agg #[.int .i64 0, .int .i64 0, .int .i64 0, .int .i64 0, .int .i64 0, .int .i64 0]) Try.undCol hi hz0 .i64 .i64 c c (by omega) (by omega) (by rw [hz2]; omega) (by omega)
  simp only [Int.toNat_natCast, hz1] at h
  exact h
theorem ColsAt.made (w : World) (c : Nat) : ColsAt (w.alloc (.cells (madeCells #[.int .i64 0, .int .i64 0, .int .i64 0, .int .i64 0, .int .i64 0, .int .i64 0] (c * 6)) 62)) w.heap.size c fun _ _ => 0 := by
  refine ⟨_, World.alloc_heap_new w _, fun k hk r hr => ?_⟩
  unfold madeCells
  rw [Array.getElem?_map, Array.getElem?_range, if_pos (by omega)]
  have : r = 0 ∨ r = 1 ∨ r = 2 ∨ r = 3 ∨ r = 4 ∨ r = 5 := by omega
  have e : (k * 6 + r) % 6 = r := by omega
  show some (#[Value.int .i64 0, .int .i64 0, .int .i64 0, .int .i64 0, .int .i64 0, .int .i64 0][(k * 6 + r) % 6]!) = _
  rw [e]
  rcases this with rfl | rfl | rfl | rfl | rfl | rfl <;> rfl
/-- The columns, as they are when k rows and m entries of the next are laid. -/
def mtC (R : List (List Int)) (k m j i : Nat) : Int := if i < k ∨ (i = k ∧ j < m) then (R.getD i []).getD j 0 else 0
/-- The columns of a matrix. -/
def mtF (R : List (List Int)) (j i : Nat) : Int := (R.getD i []).getD j 0
set_option maxRecDepth 20000 in
set_option maxHeartbeats 4000000 in
theorem columns_any (p : Int) (c : Nat) (v : Value) (R : List (List Int)) (w : World) (h : RowsI w v R) (hc8 : c ≤ 8) (hR : R.length ≤ 6) (hr : ∀ k, k < R.length → (R.getD k []).length = c) :
    Calls Try.prog 19 #[.agg #[.int .i64 p, .int .i64 c, v]] w fun e w' => ∃ g, e = .returned (.slice (some ⟨g, 0, none⟩) c c) ∧ w.heap.size ≤ g ∧ ColsAt w' g c (mtF R) ∧ Below w.heap.size w w' := by
  obtain ⟨a, cap, rfl, hlen, hc⟩ := h
  have HB0 := hid (below_boxMx w #[.int .i64 p, .int .i64 c, .slice a R.length cap])
  have HN := hid (World.alloc_heap_new w (.cells #[.int .i64 p, .int .i64 c, .slice a R.length cap] 27))
  have HC : Hid (∀ k, k < R.length → ∃ b off, a = some ⟨b, off, none⟩ ∧ ∃ u, ∀ wr, Below w.heap.size w wr → wr.cell? ⟨b, off + k, none⟩ = some u ∧ Ints wr u (R.getD k [])) := fun k hk => by
    obtain ⟨b, off, h1, h2, h3⟩ := hc (by omega)
    obtain ⟨u, h4, h5⟩ := h3 k hk
    exact ⟨b, off, h1, u, fun wr hbw => ⟨(hbw.cell (p := ⟨b, off + k, none⟩) h2).trans h4, h5.below hbw⟩⟩
  have HR := hid hr
  have HM : Hid (ColsAt ((w.alloc (.cells #[.int .i64 p, .int .i64 c, .slice a R.length cap] 27)).alloc (.cells (madeCells #[.int .i64 0, .int .i64 0, .int .i64 0, .int .i64 0, .int .i64 0, .int .i64 0] (c * 6)) 62)) (w.heap.size + 1) c fun _ _ => 0) := by
    have := ColsAt.made (w.alloc (.cells #[.int .i64 p, .int .i64 c, .slice a R.length cap] 27)) c
    rw [World.size_alloc] at this
    exact this
  have HB1 : Hid (Below w.heap.size w ((w.alloc (.cells #[.int .i64 p, .int .i64 c, .slice a R.length cap] 27)).alloc (.cells (madeCells #[.int .i64 0, .int .i64 0, .int .i64 0, .int .i64 0, .int .i64 0, .int .i64 0] (c * 6)) 62))) := HB0.out.alloc (by simp) _
  clear hc hr HB0 HN
  have mk := fun w => run_make_col c hc8 w
  go_enter Try.func19, Try.ntmps19
  go_wp2_with fail
  clear mk
  revert HM HB1
  generalize (w.alloc (.cells #[.int .i64 p, .int .i64 c, .slice a R.length cap] 27)).alloc (.cells (madeCells #[.int .i64 0, .int .i64 0, .int .i64 0, .int .i64 0, .int .i64 0, .int .i64 0] (c * 6)) 62) = W1
  intro HM HB1
  go_loopw [4, 5, 14] (fun _ _ i wr => ∃ k : Nat, k ≤ R.length ∧ i = .int .i64 k ∧ Hid (ColsAt wr (w.heap.size + 1) c (mtC R k 0)) ∧ Hid (Below w.heap.size w wr)) (fun _ _ i _ => R.length - (intOf i).toNat)
  case atStart => exact ⟨0, Nat.zero_le _, rfl, HM.out.congr fun j _ i _ => by unfold mtC; rw [if_neg (by omega)], HB1.out⟩
  case round =>
    obtain ⟨k, hk, rfl, HJ, HW⟩ := hrel
    clear HM HB1
    by_cases hlt : k < R.length
    · obtain ⟨b, off, rfl, u, hu⟩ := HC.out k hlt
      have HU := hid hu
      have hcu := (hu _ HW.out).1
      have hki : (k : Int) < (R.length : Int) := by omega
      have hk6 : k < 6 := by omega
      have hrl := HR.out k hlt
      have HE1 : Hid (∀ j i, mtC R k c j i = if j < c then mtC R (k + 1) 0 j i else mtC R k c j i) := fun j i => by
        by_cases hj : j < c
        · rw [if_pos hj]
          unfold mtC
          by_cases h1 : i < k + 1
          · rw [if_pos (by omega), if_pos (by omega)]
          · rw [if_neg (by omega), if_neg (by omega)]
        · rw [if_neg hj]
      have HE2 : Hid (∀ m j i, mtC R k (m + 1) j i = if j = m ∧ i = k then (R.getD k []).getD m 0 else mtC R k m j i) := fun m j i => by
        unfold mtC
        by_cases h1 : j = m ∧ i = k
        · obtain ⟨rfl, rfl⟩ := h1
          rw [if_pos (by omega), if_pos ⟨rfl, rfl⟩]
        · rw [if_neg h1]
          by_cases h2 : i < k ∨ (i = k ∧ j < m)
          · rw [if_pos h2, if_pos (by omega)]
          · rw [if_neg h2, if_neg (by omega)]
      clear hu HC
      generalize R.getD k [] = r at *
      obtain ⟨ra, rcap, rfl, -, -⟩ := (HU.out _ HW.out).2
      have HRC : Hid (∀ m, m < c → ∃ rb ro, ra = some ⟨rb, ro, none⟩ ∧ ∀ wr, Below w.heap.size w wr → wr.cell? ⟨rb, ro + m, none⟩ = some (.int .i64 (r.getD m 0))) := fun m hm => by
        obtain ⟨a1, c1, e1, -, h1⟩ := (HU.out _ (Below.refl _ _)).2
        cases e1
        obtain ⟨rb, ro, rfl, hb2, h2⟩ := h1 (by omega)
        exact ⟨rb, ro, rfl, fun wr hbw => (hbw.cell (p := ⟨rb, ro + m, none⟩) hb2).trans (h2 m (by omega))⟩
      clear HU
      rw [hrl] at hcu
      go_wp2_with fail
      go_loopw [6, 7, 21] (fun _ _ i wr2 => ∃ m : Nat, m ≤ c ∧ i = .int .i64 m ∧ Hid (ColsAt wr2 (w.heap.size + 1) c (mtC R k m)) ∧ Hid (Below w.heap.size w wr2)) (fun _ _ i _ => c - (intOf i).toNat)
      case atStart => exact ⟨0, Nat.zero_le _, rfl, HJ.out, HW.out⟩
      case round =>
        obtain ⟨m, hm, rfl, HJ2, HW2⟩ := hrel
        clear HJ HW hcu
        by_cases hlm : m < c
        · obtain ⟨rb, ro, rfl, hx⟩ := HRC.out m hlm
          have hcx := hx _ HW2.out
          have hmi : (m : Int) < (c : Int) := by omega
          have HS := hid (fun x => HJ2.out.set hlm hk6 x)
          have e2 := HJ2.out.cell hlm hk6
          have e3 := HJ2.out.frozen (m * 6 + k)
          have HW3 := hid (fun x => HW2.out.setCell (p := ⟨w.heap.size + 1, m * 6 + k, none⟩) (by simp) x)
          have HE3 := hid (HE2.out m)
          clear hx HRC HJ2 HW2 HE2
          generalize r.getD m 0 = x at *
          go_wp2_with fail
          exact ⟨⟨m + 1, by omega, by go_num, (HS.out x).congr fun j _ i _ => (HE3.out j i).symm, HW3.out _⟩, by simp [intOf]; omega⟩
        · obtain rfl : m = c := by omega
          have HJ5 : Hid (ColsAt wr (w.heap.size + 1) m (mtC R (k + 1) 0)) := HJ2.out.congr fun j hj i _ => by rw [HE1.out j i, if_pos hj]
          clear HJ2
          go_wp2_with fail
          exact ⟨⟨k + 1, by omega, by go_num, HJ5.out, HW2.out⟩, by simp [intOf]; omega⟩
    · obtain rfl : k = R.length := by omega
      have HJ5 : Hid (ColsAt wr (w.heap.size + 1) c (mtF R)) := HJ.out.congr fun j _ i _ => by
        unfold mtC mtF
        by_cases hi : i < R.length
        · rw [if_pos (by omega)]
        · rw [if_neg (by omega)]
          simp [List.getD, hi]
      go_wp2_with fail
      go_ret
      exact ⟨w.heap.size + 1, rfl, by omega, HJ5.out, HW.out⟩
end Go.Proofs.Ytlmpeacgjafcjaa
