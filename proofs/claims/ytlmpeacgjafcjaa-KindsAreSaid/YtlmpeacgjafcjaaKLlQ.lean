/- kinds.Linear. -/
import Derived.Test.YtlmpeacgjafcjaaKLcQ
import Derived.Test.YtlmpeacgjafcjaaKGraph2Q
namespace Go.Proofs.Ytlmpeacgjafcjaa
open Go.RowKit

theorem OwnC.mono {B B' : Nat} {w : World} {v : Value} {l : List (Nat → Int)} (h : OwnC B w v l) (hb : B' ≤ B) : OwnC B' w v l := Go.Joins.ownsRow_le h hb
/-- Are these columns free? -/
def freeC (p : Int) (l : List (Nat → Int)) : Bool := freeTo p (fun k => l.getD k fun _ => 0) l.length
theorem areFree_own {p : Int} (hp : isP p) (B : Nat) (l : List (Nat → Int)) (hl : l.length ≤ 8) (hin : ∀ f ∈ l, ∀ r, 0 ≤ f r ∧ f r < p) (v : Value) (w : World) (h : OwnC B w v l) :
    Calls Try.prog 21 #[.int .i64 p, v] w fun e w' => e = .returned (.bool (freeC p l)) ∧ Below B w w' := by
  rcases h.cases with ⟨rfl, rfl⟩ | ⟨g, cap, rfl, hB, hC⟩
  · refine (areFree_nil p w).mono ?_
    rintro e w' ⟨rfl, h2⟩
    obtain rfl := h2.symm
    exact ⟨rfl, Below.refl _ _⟩
  · refine areFree_any hp B g l.length cap (fun k r => ?_) w hC hB hl
    by_cases hk : k < l.length
    · refine hin _ ?_ r
      simp only [List.getD, List.getElem?_eq_getElem hk, Option.getD_some]
      exact List.getElem_mem _
    · have := hp.pos
      simp [List.getD, hk]
      omega
def linB (p : Int) (R : List (List Int)) (c s : Nat) : Bool := freeC p (pickL (mtF R) s c)
set_option maxRecDepth 20000 in
set_option maxHeartbeats 2000000 in
theorem LinQ_ok (s b b2 g c : Nat) (p x : Int) (v : Value) (R : List (List Int)) (w : World) (hp : isP p) (hs : s < 256) (hc8 : c ≤ 8) (hin : ∀ j i, 0 ≤ mtF R j i ∧ mtF R j i < p)
    (hb : w.heap[b]? = some (.cells #[.int .i64 p, .int .i64 x, v] 27 (0, 0))) (hb2 : w.heap[b2]? = some (.cells #[.slice (some ⟨g, 0, none⟩) c c] 49 (0, 0))) (h : ColsAt w g c (mtF R)) :
    Calls Try.prog 20 #[.int .i64 s, .pointer (some ⟨b, 0, none⟩), .pointer (some ⟨b2, 0, none⟩)] w fun e w' => e = .returned (.bool (linB p R c s)) ∧ Below w.heap.size w w' := by
  have hbl : b < w.heap.size := (Array.getElem?_eq_some_iff.1 hb).1
  have hbl2 : b2 < w.heap.size := (Array.getElem?_eq_some_iff.1 hb2).1
  obtain ⟨z0, _, _⟩ := three_cells hb
  have y0 : w.cell? ⟨b2, 0, none⟩ = some (.slice (some ⟨g, 0, none⟩) c c) := by simp [World.cell?, hb2]
  have PK : Hid (∀ w2, Below w.heap.size w w2 → Calls Try.prog 22 #[.slice (some ⟨g, 0, none⟩) c c, .int .i64 s] w2 fun e w' => ∃ v, e = .returned v ∧ OwnC w.heap.size w' v (pickL (mtF R) s c) ∧ Below w.heap.size w w' ∧ w'.cell? ⟨b, 0, none⟩ = some (.int .i64 p)) := fun w2 h2 => (picked_any g c c s (mtF R) w2 (h.below h2) hc8 hs).mono fun e w' ⟨v, h3, h4, h5⟩ =>
    have h6 := h2.trans (h5.mono h2.size)
    ⟨v, h3, h4.mono h2.size, h6, (h6.cell (p := ⟨b, 0, none⟩) hbl).trans z0⟩
  have AF : Hid (∀ w2 v, OwnC w.heap.size w2 v (pickL (mtF R) s c) → Calls Try.prog 21 #[.int .i64 p, v] w2 fun e w' => e = .returned (.bool (linB p R c s)) ∧ Below w.heap.size w2 w') := fun w2 v h2 => areFree_own hp _ _ (Nat.le_trans (pickL_len _ _ _) hc8) (fun f hf r => by
    obtain ⟨j, _, rfl⟩ := List.mem_map.1 hf
    exact hin j r) v w2 h2
  clear hb hb2 h hin hp
  generalize pickL (mtF R) s c = l at *
  generalize linB p R c s = ans at *
  go_enter Try.func20, Try.ntmps20
  go_wp2_with fail
  go_region_with (first | (go_at_call 22; refine (PK.out _ (Below.refl _ w).drew).mono ?_; rintro e w4 ⟨v4, rfl, ho4, hb4, hz4⟩; have HO4 := hid ho4; have HB4 := hid hb4; clear ho4 hb4) | (go_at_call 21; refine (AF.out _ _ HO4.out).mono ?_; rintro e w5 ⟨rfl, hb5⟩; have HB5 := hid hb5; clear hb5))
  all_goals go_wp2_with fail
  all_goals go_ret
  all_goals exact ⟨rfl, HB4.out.trans HB5.out⟩
theorem slotM {w : World} {p c : Int} {v : Value} : ((w.alloc (.cells #[.int .i64 p, .int .i64 c, v] 27)).alloc (.cells #[.int .i64 0, .slice none 0 0] 30)).heap[w.heap.size]? = some (.cells #[.int .i64 p, .int .i64 c, v] 27 (0, 0)) ∧ ((w.alloc (.cells #[.int .i64 p, .int .i64 c, v] 27)).alloc (.cells #[.int .i64 0, .slice none 0 0] 30)).heap[w.heap.size + 1]? = some (.cells #[.int .i64 0, .slice none 0 0] 30 (0, 0)) := by
  refine ⟨?_, ?_⟩
  · rw [Below.heap_alloc _ _ _ (by simp)]
    exact World.alloc_heap_new w _
  · have := World.alloc_heap_new (w.alloc (.cells #[.int .i64 p, .int .i64 c, v] 27)) (.cells #[.int .i64 0, .slice none 0 0] 30)
    rwa [World.size_alloc] at this
theorem row_len {p c : Int} {R : List (List Int)} (h : R.all (rowB p c) = true) {k : Nat} (hk : k < R.length) : ((R.getD k []).length : Int) = c ∧ ∀ x ∈ R.getD k [], 0 ≤ x ∧ x < p := by
  have := List.all_eq_true.1 h (R.getD k []) (by simp only [List.getD, List.getElem?_eq_getElem hk, Option.getD_some]; exact List.getElem_mem _)
  unfold rowB inB at this
  rw [Bool.and_eq_true, beq_iff_eq, List.all_eq_true] at this
  exact ⟨this.1, fun x hx => by simpa using this.2 x hx⟩
theorem mtF_in {p c : Int} {R : List (List Int)} (hp : 0 < p) (h : R.all (rowB p c) = true) (j i : Nat) : 0 ≤ mtF R j i ∧ mtF R j i < p := by
  unfold mtF
  by_cases hi : i < R.length
  · by_cases hj : j < (R.getD i []).length
    · refine (row_len h hi).2 _ ?_
      generalize R.getD i [] = r at *
      simp only [List.getD, List.getElem?_eq_getElem hj, Option.getD_some]
      exact List.getElem_mem _
    · have : (R.getD i []).getD j 0 = 0 := by
        generalize R.getD i [] = r at *
        simp [List.getD, hj]
      rw [this]
      omega
  · have : R.getD i [] = [] := by simp [List.getD, hi]
    rw [this]
    simp
    omega
end Go.Proofs.Ytlmpeacgjafcjaa
