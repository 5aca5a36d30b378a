/- field.inverse, field.add. -/
import Derived.Test.YtdabkgbbalooiaaDoorPlainAll1
import Derived.Test.YtdabkgbbalooiaaDoorTZW
import Derived.Test.YtdabkgbbalooiaaDoorOwnPW
import Derived.Test.YtdabkgbbalooiaaDoorKLmQ
import Derived.Test.YtdabkgbbalooiaaDoorOwnW
import Derived.Deep.OwnRows
namespace Go.Proofs.YtdabkgbbalooiaaDoor
open Go.RowKit

theorem TblZ.save {g : Nat} {w w' : World} {T : Nat} {f : Nat → Int} {X : Nat → Prop} (h : TblZ g w T f) (hs : Save X w w') (hg : ¬ X g) : TblZ g w' T f :=
  ⟨fun i hi => (World.cell?_of_block (hs.block g h.size hg)).trans (h.cell i hi), fun i => (World.frozen?_of_block (hs.block g h.size hg)).trans (h.frozen i), Nat.lt_of_lt_of_le h.size hs.size⟩
set_option maxRecDepth 20000 in
theorem inverse_ok (p v : Int) (w : World) (hp : isP p) (h0 : 0 < v) (h1 : v < p) : Calls Tryd.prog 67 #[.int .i64 p, .int .i64 v] w fun e w' => e = .returned (.int .i64 (invN p v : Nat)) ∧ w' = w := by
  obtain ⟨a1, a2, a3, a4⟩ := invN_spec hp h0 h1
  have hp2 := isP_pos hp
  obtain ⟨n, hn⟩ : ∃ n, invN p v = n := ⟨_, rfl⟩
  rw [hn] at a1 a2 a3 a4 ⊢
  have A3 := hid a3
  have A4 := hid a4
  clear hn a3 a4 hp
  have hp0 : (p == 0) = false := by rw [beq_eq_false_iff_ne]; omega
  go_enter Tryd.func67, Tryd.ntmps67
  go_wp2_with fail
  go_loop [5] (fun i => ∃ k : Nat, 1 ≤ k ∧ k ≤ n ∧ i = .int .i64 k) (fun i => n - (intOf i).toNat)
  case atStart => exact ⟨1, by omega, by omega, rfl⟩
  case round =>
    obtain ⟨k, hk1, hk2, rfl⟩ := hrel
    obtain ⟨y, hy, HY⟩ : ∃ y, v * (k : Int) = y ∧ Hid (v * (k : Int) = y) := ⟨_, rfl, rfl⟩
    have b1 : 0 ≤ y ∧ y ≤ 49 := by
      rw [← HY.out]
      refine ⟨Int.mul_nonneg (by omega) (by omega), ?_⟩
      have := Int.mul_le_mul (show v ≤ 7 by omega) (show (k : Int) ≤ 7 by omega) (by omega) (by omega)
      omega
    obtain ⟨q, hq, HQ⟩ : ∃ q, Int.tmod y p = q ∧ Hid ((v * (k : Int)) % p = q) := ⟨_, rfl, by
      show _ = Int.tmod y p
      rw [Int.tmod_eq_emod_of_nonneg b1.1, HY.out]⟩
    have b4 : 0 ≤ q ∧ q < p := by rw [← hq, Int.tmod_eq_emod_of_nonneg b1.1]; exact ⟨Int.emod_nonneg _ (by omega), Int.emod_lt_of_pos _ (by omega)⟩
    have hw1 : IntKind.i64.wrap y = y := IntWalk.i64_in _ (by omega)
    have hw4 : IntKind.i64.wrap q = q := IntWalk.i64_in _ (by omega)
    by_cases hlt : k < n
    · have hne : (q != 1) = true := by
        have := A4.out k hlt hk1
        rw [HQ.out] at this
        simpa using this
      have hne2 : ¬ q = 1 := by simpa using hne
      clear HY HQ
      go_wp2_with fail
      go_round
      case rel => exact ⟨k + 1, by omega, by omega, by go_num⟩
      case measure => simp [intOf]; omega
    · obtain rfl : k = n := by omega
      have he : q = 1 := HQ.out.symm.trans A3.out
      subst he
      clear HY HQ
      go_wp2_with fail
      go_ret
      exact ⟨rfl, rfl⟩
/-- v reads as c numbers in a block of which X holds. -/
def RdZ (w : World) (v : Value) (c : Nat) (o : Nat → Int) (X : Nat → Prop) : Prop := ∃ a cap, v = .slice a c cap ∧ (0 < c → ∃ b off, a = some ⟨b, off, none⟩ ∧ X b ∧ b < w.heap.size ∧ ∀ i, i < c → w.cell? ⟨b, off + i, none⟩ = some (.int .i64 (o i)))
set_option maxRecDepth 20000 in
set_option maxHeartbeats 1000000 in
theorem add_ok (p t : Int) (rb cp c : Nat) (f o : Nat → Int) (u : Value) (w : World) (hp : isP p) (ht : 0 ≤ t ∧ t ≤ p) (hc : c ≤ 256) (hf : TblZ rb w c f) (hr : ∀ i, i < c → 0 ≤ f i ∧ f i < p) (ho : RdZ w u c o fun b => b ≠ rb) (hor : ∀ i, i < c → 0 ≤ o i ∧ o i < p) :
    Calls Tryd.prog 68 #[.int .i64 p, .slice (some ⟨rb, 0, none⟩) c cp, u, .int .i64 t] w fun e w' => e = .returned (.tuple #[]) ∧ TblZ rb w' c (fun i => (f i + t * o i) % p) ∧ Save (fun b => b = rb) w w' := by
  obtain ⟨a, cap, rfl, hx⟩ := ho
  have hp2 := isP_pos hp
  have HF := hid hf
  have HR := hid hr
  have HX := hid hx
  have HO := hid hor
  clear hf hr hx hor hp
  have hp0 : (p == 0) = false := by rw [beq_eq_false_iff_ne]; omega
  go_enter Tryd.func68, Tryd.ntmps68
  go_wp2_with fail
  go_loopw [8, 9, 12] (fun _ _ i wr => ∃ k : Nat, k ≤ c ∧ i = .int .i64 k ∧ Hid (TblZ rb wr c (fun i => if i < k then (f i + t * o i) % p else f i)) ∧ Hid (Save (fun b => b = rb) w wr)) (fun _ _ i _ => c - (intOf i).toNat)
  case atStart => exact ⟨0, Nat.zero_le _, rfl, HF.out.congr fun i _ => by rw [if_neg (by omega)], Save.refl _ _⟩
  case round =>
    obtain ⟨k, hk, rfl, HT, HS⟩ := hrel
    by_cases hlt : k < c
    · obtain ⟨b, off, rfl, hb, hbs, hcell⟩ := HX.out (by omega)
      have c0 : wr.cell? ⟨b, off + k, none⟩ = some (.int .i64 (o k)) := (World.cell?_of_block (HS.out.block b hbs hb)).trans (hcell k hlt)
      have c1 := HT.out.cell k hlt
      rw [if_neg (by omega)] at c1
      have c2 := HT.out.frozen k
      have r1 := HR.out k hlt
      have r2 := HO.out k hlt
      have hki : (k : Int) < (c : Int) := by omega
      obtain ⟨m1, hm1, HM1⟩ : ∃ m1, t * o k = m1 ∧ Hid (t * o k = m1) := ⟨_, rfl, rfl⟩
      have b1 : 0 ≤ m1 ∧ m1 ≤ 49 := by
        rw [← HM1.out]
        refine ⟨Int.mul_nonneg (by omega) (by omega), ?_⟩
        have := Int.mul_le_mul (show t ≤ 7 by omega) (show o k ≤ 7 by omega) (by omega) (by omega)
        omega
      obtain ⟨m3, hm3, HM3⟩ : ∃ m3, f k + m1 = m3 ∧ Hid (f k + m1 = m3) := ⟨_, rfl, rfl⟩
      have b3 : 0 ≤ m3 ∧ m3 ≤ 98 := by omega
      obtain ⟨q, hq, HQ⟩ : ∃ q, Int.tmod m3 p = q ∧ Hid ((f k + t * o k) % p = q) := ⟨_, rfl, by
        show _ = Int.tmod m3 p
        rw [Int.tmod_eq_emod_of_nonneg b3.1, HM1.out, HM3.out]⟩
      have b4 : 0 ≤ q ∧ q < p := by rw [← hq, Int.tmod_eq_emod_of_nonneg b3.1]; exact ⟨Int.emod_nonneg _ (by omega), Int.emod_lt_of_pos _ (by omega)⟩
      have hw1 : IntKind.i64.wrap m1 = m1 := IntWalk.i64_in _ (by omega)
      have hw3 : IntKind.i64.wrap m3 = m3 := IntWalk.i64_in _ (by omega)
      have hw4 : IntKind.i64.wrap q = q := IntWalk.i64_in _ (by omega)
      have G1 : Hid (TblZ rb (wr.setCell ⟨rb, k, none⟩ (.int .i64 q)) c (fun i => if i < k + 1 then (f i + t * o i) % p else f i)) := HT.out.set k q hlt fun i hi => by
        by_cases e : k = i
        · subst e; rw [if_pos rfl, if_pos (by omega), HQ.out]
        · rw [if_neg e]
          by_cases e2 : i < k
          · rw [if_pos e2, if_pos (by omega)]
          · rw [if_neg e2, if_neg (by omega)]
      have G2 : Hid (Save (fun b => b = rb) w (wr.setCell ⟨rb, k, none⟩ (.int .i64 q))) := HS.out.setCell (p := ⟨rb, k, none⟩) (.inl rfl) _
      clear HT HS HM1 HM3 HQ HX hcell
      generalize f k = fk at *
      generalize o k = ok at *
      go_wp2_with fail
      exact ⟨⟨k + 1, by omega, by go_num, G1.out, G2.out⟩, by simp [intOf]; omega⟩
    · obtain rfl : k = c := by omega
      have G1 : Hid (TblZ rb wr k (fun i => (f i + t * o i) % p)) := HT.out.congr fun i hi => by rw [if_pos hi]
      clear HT
      go_wp2_with fail
      exact bodyPost_end (results_none rfl _ _ _) rfl ⟨rfl, G1.out, HS.out⟩
end Go.Proofs.YtdabkgbbalooiaaDoor

namespace Go.Proofs.YtdabkgbbalooiaaDoor
open Go.RowKit

theorem run_make_to (l c : Nat) (hlc : l ≤ c) (hc : c ≤ 256) (w : World) : (Instr.makeSlice 28 (.int .i64 (l : Int)) (.int .i64 (c : Int))).run Tryd.prog w = .ok (.slice (some ⟨w.heap.size, 0, none⟩) l c) (w.alloc (.cells (madeCells #[.int .i64 0] c) 3)) := by
  obtain ⟨i0, hi, hz0, hz1, hz2⟩ := info_parts Tryd.infoInt
  have h := run_make (P := Tryd.prog) w 28 3 i0 (.int .i64 0) Tryd.underlying28 hi hz0 .i64 .i64 l c (by omega) (by omega) (by rw [hz2]; omega) (by omega)
  simp only [Int.toNat_natCast, hz1, Nat.mul_one] at h
  exact h
theorem own_made {B b c : Nat} {w : World} (h : w.heap[b]? = some (.cells (madeCells #[.int .i64 0] c) 3 (0, 0))) (hB : B ≤ b) (hc : c ≤ 256) (l : List Nat) (hl : l = [] ∨ (l = [0] ∧ 1 ≤ c)) : Own B w (.slice (some ⟨b, 0, none⟩) l.length c) l := by
  refine ⟨by rw [V_len, Nat.mul_one], .inr ⟨b, c, _, rfl, hB, h, ?_, by unfold maxLen; omega, by rw [size_madeCells, Nat.mul_one], ?_⟩⟩
  · rcases hl with rfl | ⟨rfl, h1⟩
    · exact Nat.zero_le _
    · exact h1
  · rcases hl with rfl | ⟨rfl, h1⟩
    · rfl
    · obtain ⟨c, rfl⟩ : ∃ c', c = c' + 1 := ⟨c - 1, by omega⟩
      simp only [madeCells, Array.toList_map, Array.toList_range, List.range_succ_eq_map]
      rfl
end Go.Proofs.YtdabkgbbalooiaaDoor

namespace Go.Proofs.YtdabkgbbalooiaaDoor
open Go.RowKit

theorem info_col : ∃ i0, Tryd.prog.info? 77 = some i0 ∧ i0.zero = some (.agg #[.int .i64 0, .int .i64 0, .int .i64 0, .int .i64 0, .int .i64 0, .int .i64 0]) ∧ i0.size = 6 ∧ i0.bytes = 48 := by
  have := Tryd.infoCol
  revert this
  cases Tryd.prog.info? 77 with
  | none => intro h; cases h
  | some i => intro h; simp at h; exact ⟨i, rfl, h.1, h.2.1, h.2.2⟩
theorem run_make_col (c : Nat) (hc : c ≤ 8) (w : World) : (Instr.makeSlice 51 (.int .i64 (c : Int)) (.int .i64 (c : Int))).run Tryd.prog w = .ok (.slice (some ⟨w.heap.size, 0, none⟩) c c) (w.alloc (.cells (madeCells #[.int .i64 0, .int .i64 0, .int .i64 0, .int .i64 0, .int .i64 0, .int .i64 0] (c * 6)) 77)) := by
  obtain ⟨i0, hi, hz0, hz1, hz2⟩ := info_col
  have h := run_make (P := Tryd.prog) w 51 77 i0 (.agg #[.int .i64 0, .int .i64 0, .int .i64 0, .int .i64 0, .int .i64 0, .int .i64 0]) Tryd.undCol hi hz0 .i64 .i64 c c (by omega) (by omega) (by rw [hz2]; omega) (by omega)
  simp only [Int.toNat_natCast, hz1] at h
  exact h
theorem ColsAt.made (w : World) (c : Nat) : ColsAt (w.alloc (.cells (madeCells #[.int .i64 0, .int .i64 0, .int .i64 0, .int .i64 0, .int .i64 0, .int .i64 0] (c * 6)) 77)) w.heap.size c fun _ _ => 0 := by
  refine ⟨_, World.alloc_heap_new w _, fun k hk r hr => ?_⟩
  unfold madeCells
  rw [Array.getElem?_map, Array.getElem?_range, if_pos (by omega)]
  have : r = 0 ∨ r = 1 ∨ r = 2 ∨ r = 3 ∨ r = 4 ∨ r = 5 := by omega
  have e : (k * 6 + r) % 6 = r := by omega
  show some (#[Value.int .i64 0, .int .i64 0, .int .i64 0, .int .i64 0, .int .i64 0, .int .i64 0][(k * 6 + r) % 6]!) = _
  rw [e]
  rcases this with rfl | rfl | rfl | rfl | rfl | rfl <;> rfl
/-- The columns, as they are when k rows and m entries of the next are laid. -/
def mtC (R : List (List Int)) (k m j i : Nat) : Int := if i < k ∨ (i = k ∧ j < m) then (R.getD i []).getD j 0 else 0
/-- The columns of a matrix. -/
def mtF (R : List (List Int)) (j i : Nat) : Int := (R.getD i []).getD j 0
set_option maxRecDepth 20000 in
set_option maxHeartbeats 4000000 in
theorem columns_any (p : Int) (c : Nat) (v : Value) (R : List (List Int)) (w : World) (h : RowsI w v R) (hc8 : c ≤ 8) (hR : R.length ≤ 6) (hr : ∀ k, k < R.length → (R.getD k []).length = c) :
    Calls Tryd.prog 17 #[.agg #[.int .i64 p, .int .i64 c, v]] w fun e w' => ∃ g, e = .returned (.slice (some ⟨g, 0, none⟩) c c) ∧ w.heap.size ≤ g ∧ ColsAt w' g c (mtF R) ∧ Below w.heap.size w w' := by
  obtain ⟨a, cap, rfl, hlen, hc⟩ := h
  have HB0 := hid (below_boxMx w #[.int .i64 p, .int .i64 c, .slice a R.length cap])
  have HN := hid (World.alloc_heap_new w (.cells #[.int .i64 p, .int .i64 c, .slice a R.length cap] 24))
  have HC : Hid (∀ k, k < R.length → ∃ b off, a = some ⟨b, off, none⟩ ∧ ∃ u, ∀ wr, Below w.heap.size w wr → wr.cell? ⟨b, off + k, none⟩ = some u ∧ Ints wr u (R.getD k [])) := fun k hk => by
    obtain ⟨b, off, h1, h2, h3⟩ := hc (by omega)
    obtain ⟨u, h4, h5⟩ := h3 k hk
    exact ⟨b, off, h1, u, fun wr hbw => ⟨(hbw.cell (p := ⟨b, off + k, none⟩) h2).trans h4, h5.below hbw⟩⟩
  have HR := hid hr
  have HM : Hid (ColsAt ((w.alloc (.cells #[.int .i64 p, .int .i64 c, .slice a R.length cap] 24)).alloc (.cells (madeCells #[.int .i64 0, .int .i64 0, .int .i64 0, .int .i64 0, .int .i64 0, .int .i64 0] (c * 6)) 77)) (w.heap.size + 1) c fun _ _ => 0) := by
    have := ColsAt.made (w.alloc (.cells #[.int .i64 p, .int .i64 c, .slice a R.length cap] 24)) c
    rw [World.size_alloc] at this
    exact this
  have HB1 : Hid (Below w.heap.size w ((w.alloc (.cells #[.int .i64 p, .int .i64 c, .slice a R.length cap] 24)).alloc (.cells (madeCells #[.int .i64 0, .int .i64 0, .int .i64 0, .int .i64 0, .int .i64 0, .int .i64 0] (c * 6)) 77))) := HB0.out.alloc (by simp) _
  clear hc hr HB0 HN
  have mk := fun w => run_make_col c hc8 w
  go_enter Tryd.func17, Tryd.ntmps17
  go_wp2_with fail
  clear mk
  revert HM HB1
  generalize (w.alloc (.cells #[.int .i64 p, .int .i64 c, .slice a R.length cap] 24)).alloc (.cells (madeCells #[.int .i64 0, .int .i64 0, .int .i64 0, .int .i64 0, .int .i64 0, .int .i64 0] (c * 6)) 77) = W1
  intro HM HB1
  go_loopw [4, 5, 14] (fun _ _ i wr => ∃ k : Nat, k ≤ R.length ∧ i = .int .i64 k ∧ Hid (ColsAt wr (w.heap.size + 1) c (mtC R k 0)) ∧ Hid (Below w.heap.size w wr)) (fun _ _ i _ => R.length - (intOf i).toNat)
  case atStart => exact ⟨0, Nat.zero_le _, rfl, HM.out.congr fun j _ i _ => by unfold mtC; rw [if_neg (by omega)], HB1.out⟩
  case round =>
    obtain ⟨k, hk, rfl, HJ, HW⟩ := hrel
    clear HM HB1
    by_cases hlt : k < R.length
    · obtain ⟨b, off, rfl, u, hu⟩ := HC.out k hlt
      have HU := hid hu
      have hcu := (hu _ HW.out).1
      have hki : (k : Int) < (R.length : Int) := by omega
      have hk6 : k < 6 := by omega
      have hrl := HR.out k hlt
      have HE1 : Hid (∀ j i, mtC R k c j i = if j < c then mtC R (k + 1) 0 j i else mtC R k c j i) := fun j i => by
        by_cases hj : j < c
        · rw [if_pos hj]
          unfold mtC
          by_cases h1 : i < k + 1
          · rw [if_pos (by omega), if_pos (by omega)]
          · rw [if_neg (by omega), if_neg (by omega)]
        · rw [if_neg hj]
      have HE2 : Hid (∀ m j i, mtC R k (m + 1) j i = if j = m ∧ i = k then (R.getD k []).getD m 0 else mtC R k m j i) := fun m j i => by
        unfold mtC
        by_cases h1 : j = m ∧ i = k
        · obtain ⟨rfl, rfl⟩ := h1
          rw [if_pos (by omega), if_pos ⟨rfl, rfl⟩]
        · rw [if_neg h1]
          by_cases h2 : i < k ∨ (i = k ∧ j < m)
          · rw [if_pos h2, if_pos (by omega)]
          · rw [if_neg h2, if_neg (by omega)]
      clear hu HC
      generalize R.getD k [] = r at *
      obtain ⟨ra, rcap, rfl, -, -⟩ := (HU.out _ HW.out).2
      have HRC : Hid (∀ m, m < c → ∃ rb ro, ra = some ⟨rb, ro, none⟩ ∧ ∀ wr, Below w.heap.size w wr → wr.cell? ⟨rb, ro + m, none⟩ = some (.int .i64 (r.getD m 0))) := fun m hm => by
        obtain ⟨a1, c1, e1, -, h1⟩ := (HU.out _ (Below.refl _ _)).2
        cases e1
        obtain ⟨rb, ro, rfl, hb2, h2⟩ := h1 (by omega)
        exact ⟨rb, ro, rfl, fun wr hbw => (hbw.cell (p := ⟨rb, ro + m, none⟩) hb2).trans (h2 m (by omega))⟩
      clear HU
      rw [hrl] at hcu
      go_wp2_with fail
      go_loopw [6, 7, 21] (fun _ _ i wr2 => ∃ m : Nat, m ≤ c ∧ i = .int .i64 m ∧ Hid (ColsAt wr2 (w.heap.size + 1) c (mtC R k m)) ∧ Hid (Below w.heap.size w wr2)) (fun _ _ i _ => c - (intOf i).toNat)
      case atStart => exact ⟨0, Nat.zero_le _, rfl, HJ.out, HW.out⟩
      case round =>
        obtain ⟨m, hm, rfl, HJ2, HW2⟩ := hrel
        clear HJ HW hcu
        by_cases hlm : m < c
        · obtain ⟨rb, ro, rfl, hx⟩ := HRC.out m hlm
          have hcx := hx _ HW2.out
          have hmi : (m : Int) < (c : Int) := by omega
          have HS := hid (fun x => HJ2.out.set hlm hk6 x)
          have e2 := HJ2.out.cell hlm hk6
          have e3 := HJ2.out.frozen (m * 6 + k)
          have HW3 := hid (fun x => HW2.out.setCell (p := ⟨w.heap.size + 1, m * 6 + k, none⟩) (by simp) x)
          have HE3 := hid (HE2.out m)
          clear hx HRC HJ2 HW2 HE2
          generalize r.getD m 0 = x at *
          go_wp2_with fail
          exact ⟨⟨m + 1, by omega, by go_num, (HS.out x).congr fun j _ i _ => (HE3.out j i).symm, HW3.out _⟩, by simp [intOf]; omega⟩
        · obtain rfl : m = c := by omega
          have HJ5 : Hid (ColsAt wr (w.heap.size + 1) m (mtC R (k + 1) 0)) := HJ2.out.congr fun j hj i _ => by rw [HE1.out j i, if_pos hj]
          clear HJ2
          go_wp2_with fail
          exact ⟨⟨k + 1, by omega, by go_num, HJ5.out, HW2.out⟩, by simp [intOf]; omega⟩
    · obtain rfl : k = R.length := by omega
      have HJ5 : Hid (ColsAt wr (w.heap.size + 1) c (mtF R)) := HJ.out.congr fun j _ i _ => by
        unfold mtC mtF
        by_cases hi : i < R.length
        · rw [if_pos (by omega)]
        · rw [if_neg (by omega)]
          simp [List.getD, hi]
      go_wp2_with fail
      go_ret
      exact ⟨w.heap.size + 1, rfl, by omega, HJ5.out, HW.out⟩
end Go.Proofs.YtdabkgbbalooiaaDoor
