/- rotaref.Column. -/
import Derived.Test.YtboiciflkihlgaaFdTQ
import Derived.Test.YtboiciflkihlgaaFdDbQ
import Derived.Test.YtboiciflkihlgaaFdSQ
import Derived.Test.YtboiciflkihlgaaFdLQ
namespace Go.Proofs.Ytboiciflkihlgaa
open Go.RowKit

set_option maxRecDepth 20000 in
set_option maxHeartbeats 2000000 in
theorem Column_ok (p : Int) (c : Nat) (v : Value) (R : List (List Int)) (k : Nat) (w : World) (h : RowsI w v R) (hm : MatOK p c R) (hk : k < c) :
    Calls Try.prog 23 #[.agg #[.int .i64 p, .int .i64 c, v], .int .i64 k] w fun e w' => ∃ r, e = .returned r ∧ Ints w' r ((List.range R.length).map fun i => rowF R i k) ∧ Below w.heap.size w w' := by
  obtain ⟨j0, hj0, hy0, hy1, hy2⟩ := info_parts Try.infoInt
  have B0 := hid (below_boxMx w #[.int .i64 p, .int .i64 c, v])
  have X0 := hid (World.alloc_heap_new w (.cells #[.int .i64 p, .int .i64 c, v] 24))
  have hlen6 := hm.rl
  have hc8 := hm.c8'
  have hki : (k : Int) < (c : Int) := by omega
  obtain ⟨a, cap, rfl, hc⟩ := h.reads hm.lens
  have HC := hid hc
  clear hc h hm
  go_enter Try.func23, Try.ntmps23
  go_wp2_with fail
  obtain ⟨W0, hW0⟩ : ∃ W0, w.alloc (.cells #[.int .i64 p, .int .i64 c, .slice a R.length cap] 24) = W0 := ⟨_, rfl⟩
  rw [hW0] at B0 X0 ⊢
  clear hW0
  obtain ⟨D, HD⟩ : ∃ D, Hid (W0.heap.size = D) := ⟨_, rfl⟩
  go_loopw [5, 6] (fun vl i wr => ∃ (u : Nat) (la : Option Addr) (lc : Nat), u ≤ R.length ∧ i = .int .i64 u ∧ vl = .slice la u lc ∧ Hid (wr.ownsRow D 3 1 (.slice la u lc) u (VZ ((List.range u).map fun i => rowF R i k))) ∧ Hid (Below D W0 wr)) (fun _ i _ => R.length - (intOf i).toNat)
  case atStart => exact ⟨0, none, 0, Nat.zero_le _, rfl, rfl, World.ownsRow_nil _ _ _ _, by rw [← HD.out]; exact Below.refl _ _⟩
  case round =>
    obtain ⟨u, la, lc, hu, rfl, rfl, HO, HB⟩ := hrel
    have hDw : D ≤ wr.heap.size := by rw [← HD.out]; exact (show W0.heap.size ≤ wr.heap.size from HB.out.size)
    have HB2 : Hid (Below W0.heap.size W0 wr) := by rw [HD.out]; exact HB.out
    have BW := hid (B0.out.trans (HB2.out.mono B0.out.size))
    obtain ⟨x0, x1, x2⟩ := three_cells (box_keep X0.out HB2.out)
    by_cases hun : u < R.length
    · have hui : (u : Int) < (R.length : Int) := by omega
      obtain ⟨lb, lo, rfl, ra, rc, hh⟩ := HC.out u hun
      obtain ⟨c0, -, hh2⟩ := hh wr BW.out
      obtain ⟨rb, ro, rfl, c1⟩ := hh2 k hk
      obtain ⟨x, hx⟩ : ∃ x, rowF R u k = x := ⟨_, rfl⟩
      have XE := hid hx
      rw [hx] at c1
      clear hh hh2 hx
      go_wp2_with (at_builtin; refine wpList_append_own _ rfl _ _ 37 rfl D 3 j0 (.int .i64 0) 1 8 Try.underlying37 hj0 hy0 hy1 hy2 rfl (by decide) _ _ _ rfl (HO.out.alloc _) ⟨wr.heap.size, 0, none⟩ 1 1 [.int .i64 x] rfl rfl ?d1 ?d2 ?d3 ?d4 ?d5 ?_)
      all_goals first | exact cell_one_new _ _ _ | rfl | (intro u hu; simp at hu; subst hu; rfl) | (unfold maxLen; omega) | omega | (simp; omega) | skip
      intro v' w7 hown' hgrow _
      obtain ⟨gv, cv', rfl⟩ : ∃ gv cv, v' = .slice (some ⟨gv, 0, none⟩) (u + 1) cv := by
        rcases Go.Joins.ownsRow_forms hown' with ⟨rfl, h0⟩ | ⟨g', cap', rfl⟩
        · omega
        · exact ⟨_, _, rfl⟩
      have HO7 : Hid (w7.ownsRow D 3 1 (.slice (some ⟨gv, 0, none⟩) (u + 1) cv') (u + 1) (VZ ((List.range (u + 1)).map fun i => rowF R i k))) := by
        show World.ownsRow _ _ _ _ _ _ _
        rw [List.range_succ, List.map_append, List.map_singleton, XE.out, VZ_snoc]
        exact hown'
      have HB7 : Hid (Below D W0 w7) := (HB.out.alloc hDw _).grown hgrow (by simp; omega) (fun j hj => (World.ownsRow.lt HO.out j hj).1)
      clear hown' hgrow
      go_wp2_with fail
      exact ⟨⟨u + 1, _, _, by omega, by go_num, rfl, HO7.out, HB7.out⟩, by simp [intOf]; omega⟩
    · obtain rfl : u = R.length := by omega
      have hnu : ¬ (R.length : Int) < (R.length : Int) := by omega
      have OZ : OwnZ 3 D wr (.slice la R.length lc) ((List.range R.length).map fun i => rowF R i k) := by
        unfold OwnZ
        rw [List.length_map, List.length_range]
        exact HO.out
      have RI := hid (OZ.ints (by simp; omega))
      clear OZ HO
      go_wp2_with fail
      go_ret
      exact ⟨_, rfl, RI.out, BW.out⟩
end Go.Proofs.Ytboiciflkihlgaa

namespace Go.Proofs.Ytboiciflkihlgaa
open Go.RowKit

def dtE (c : Nat) (R : List (List Int)) : Int := if R.length = c then 0 else 3
def dtN (p : Int) (c : Nat) (R : List (List Int)) : Int := if R.length = c then detL p c R (2 ^ c - 1) else 0
theorem Det_u (p : Int) (c : Nat) (v : Value) (R : List (List Int)) (w : World) (h : RowsI w v R) (hcp : ∀ a L c, v = .slice a L c → L ≤ c) (hm : MatOK p c R) :
    Calls Try.prog 16 #[.agg #[.int .i64 p, .int .i64 c, v]] w fun e w' => e = .returned (.tuple #[.int .i64 (dtN p c R), .int .i64 (dtE c R)]) ∧ Below w.heap.size w w' := by
  unfold dtN dtE
  by_cases hl : R.length = c
  · rw [if_pos hl, if_pos hl]; exact Determinant_ok p c v R w h hcp hm hl
  · rw [if_neg hl, if_neg hl]; exact Determinant_shape p c v R w h hm hl
/-- Times' error, the first matrix being one. -/
def tmE (p : Int) (c : Nat) (p2 c2 : Int) (R2 : List (List Int)) : Int := if matR p2 c2 R2 = 0 then (if p = p2 ∧ c = R2.length then 0 else 3) else 1
/-- The three cells of a product. -/
structure TmU (w : World) (q p c2 : Int) (T : List (List Int)) (tp tc : Int) (u : Value) : Prop where
  ok : q = 0 → tp = p ∧ tc = c2 ∧ RowsI w u T
  no : q ≠ 0 → tp = 0 ∧ tc = 0 ∧ u = .slice none 0 0
  fm : ∃ a n cap, u = .slice a n cap
theorem TmU.below {w w' : World} {q p c2 : Int} {T : List (List Int)} {tp tc : Int} {u : Value} (h : TmU w q p c2 T tp tc u) (hb : Below w.heap.size w w') : TmU w' q p c2 T tp tc u := ⟨fun h0 => ⟨(h.ok h0).1, (h.ok h0).2.1, (h.ok h0).2.2.below hb⟩, h.no, h.fm⟩
theorem Times_u (p : Int) (c : Nat) (p2 c2 : Int) (v v2 : Value) (R R2 : List (List Int)) (w : World) (h : RowsI w v R) (h2 : RowsI w v2 R2) (hm : MatOK p c R) :
    Calls Try.prog 17 #[.agg #[.int .i64 p, .int .i64 c, v], .agg #[.int .i64 p2, .int .i64 c2, v2]] w fun e w' => ∃ tp tc u, e = .returned (.tuple #[.agg #[.int .i64 tp, .int .i64 tc, u], .int .i64 (tmE p c p2 c2 R2)]) ∧ TmU w' (tmE p c p2 c2 R2) p c2 (timL p c c2.toNat R R2) tp tc u ∧ Below w.heap.size w w' := by
  unfold tmE
  rcases matR_01 p2 c2 R2 with h0 | h0
  · have hm2 := MatOK.of h0
    obtain ⟨k, rfl⟩ : ∃ k : Nat, c2 = k := ⟨c2.toNat, by have := hm2.c0; omega⟩
    rw [if_pos h0]
    by_cases hp : p = p2
    · by_cases hc : c = R2.length
      · rw [if_pos ⟨hp, hc⟩]
        refine (Times_ok p c p2 k v v2 R R2 w h h2 hm hm2 hp hc).mono ?_
        rintro e w' ⟨u, rfl, hr, hb⟩
        exact ⟨_, _, _, rfl, ⟨fun _ => ⟨rfl, rfl, hr.rows⟩, fun h => absurd rfl h, by obtain ⟨a, n, e⟩ := hr.form; exact ⟨a, _, n, e⟩⟩, hb⟩
      · rw [if_neg fun h => hc h.2]
        refine (Times_shape2 p c p2 k v v2 R R2 w h h2 hm hm2 hp hc).mono ?_
        rintro e w' ⟨rfl, hb⟩
        exact ⟨_, _, _, rfl, ⟨fun h => absurd h (by decide), fun _ => ⟨rfl, rfl, rfl⟩, _, _, _, rfl⟩, hb⟩
    · rw [if_neg fun h => hp h.1]
      refine (Times_shape1 p c p2 k v v2 R R2 w h h2 hm hm2 hp).mono ?_
      rintro e w' ⟨rfl, hb⟩
      exact ⟨_, _, _, rfl, ⟨fun h => absurd h (by decide), fun _ => ⟨rfl, rfl, rfl⟩, _, _, _, rfl⟩, hb⟩
  · rw [if_neg (by rw [h0]; decide)]
    refine (Times_bad2 p c p2 c2 v v2 R R2 w h h2 (MatOK.iff.2 hm) h0).mono ?_
    rintro e w' ⟨rfl, hb⟩
    exact ⟨_, _, _, rfl, ⟨fun h => absurd h (by decide), fun _ => ⟨rfl, rfl, rfl⟩, _, _, _, rfl⟩, hb⟩
def trE (c : Nat) : Int := if c ≤ 6 then 0 else 2
theorem Turned_u (p : Int) (c : Nat) (v : Value) (R : List (List Int)) (w : World) (h : RowsI w v R) (hm : MatOK p c R) :
    Calls Try.prog 18 #[.agg #[.int .i64 p, .int .i64 c, v]] w fun e w' => ∃ tp tc u, e = .returned (.tuple #[.agg #[.int .i64 tp, .int .i64 tc, u], .int .i64 (trE c)]) ∧ TmU w' (trE c) p R.length (turL c R) tp tc u ∧ Below w.heap.size w w' := by
  unfold trE
  by_cases hc : c ≤ 6
  · rw [if_pos hc]
    refine (Turned_ok p c v R w h hm hc).mono ?_
    rintro e w' ⟨u, rfl, hr, hb⟩
    exact ⟨_, _, _, rfl, ⟨fun _ => ⟨rfl, rfl, hr.rows⟩, fun h => absurd rfl h, by obtain ⟨a, n, e⟩ := hr.form; exact ⟨a, _, n, e⟩⟩, hb⟩
  · rw [if_neg hc]
    refine (Turned_large p c v R w h hm (by omega)).mono ?_
    rintro e w' ⟨rfl, hb⟩
    exact ⟨_, _, _, rfl, ⟨fun h => absurd h (by decide), fun _ => ⟨rfl, rfl, rfl⟩, _, _, _, rfl⟩, hb⟩
theorem bad_t (q : Int) (w : World) : Calls Try.prog 19 #[.bool true, .int .i64 q] w fun e w' => e = .returned (.int .i64 0) ∧ w' = w := by
  go_enter Try.func19, Try.ntmps19
  go_wp2_with fail
  go_ret
  exact ⟨rfl, rfl⟩
theorem bad_f (q : Int) (w : World) : Calls Try.prog 19 #[.bool false, .int .i64 q] w fun e w' => e = .returned (.int .i64 q) ∧ w' = w := by
  go_enter Try.func19, Try.ntmps19
  go_wp2_with fail
  go_ret
  exact ⟨rfl, rfl⟩
theorem bad_any (b : Bool) (q : Int) (w : World) : Calls Try.prog 19 #[.bool b, .int .i64 q] w fun e w' => e = .returned (.int .i64 (if b = true then 0 else q)) ∧ w' = w := by
  cases b
  · exact bad_f q w
  · exact bad_t q w
theorem one_same (n q : Int) (w : World) (h0 : q ≠ 0 → n = 0) : Calls Try.prog 21 #[.int .i64 n, .int .i64 q, .int .i64 n, .int .i64 q] w fun e w' => e = .returned (.bool true) ∧ w' = w := by
  by_cases hq : q = 0
  · subst hq
    clear h0
    have h1 : (n == n) = true := by simp
    go_enter Try.func21, Try.ntmps21
    go_wp2_with fail
    go_ret
    exact ⟨rfl, rfl⟩
  · obtain rfl := h0 hq
    have h1 : (q != 0) = true := by rw [bne_iff_ne]; exact hq
    have h2 : (q == q) = true := by simp
    clear h0
    go_enter Try.func21, Try.ntmps21
    go_wp2_with fail
    go_ret
    exact ⟨rfl, rfl⟩
end Go.Proofs.Ytboiciflkihlgaa
