/- hall.Rado, hall.RadoBar, hall.Stand, hall.Bar. -/
import Derived.Test.YtjajloefplbkgaaHaFQ
namespace Go.Proofs.Ytjajloefplbkgaa
open Go.RowKit

theorem StaE.from {w w1 w' : World} {o : Option (List Nat)} {e : Ending} (h : StaE w1 o e w') (hb : Below w.heap.size w w1) : StaE w o e w' := by
  obtain ⟨⟨h1, h2⟩, h3⟩ := h
  refine ⟨⟨fun L hL => ?_, h2⟩, hb.trans (h3.mono hb.size)⟩
  obtain ⟨v, e1, h4⟩ := h1 L hL
  exact ⟨v, e1, h4.mono hb.size⟩
theorem rk8 {m : Nat} {l : List Nat} (hb : Bas l) : ∀ i, i < 2 ^ m → rk l i ≤ 8 := fun i _ => rk_le8 l hb.lt i
theorem Rado_ok (m : Nat) (v : Value) (a : Option Addr) (cap : Nat) (l q : List Nat) (w : World) (hm : m ≤ 8) (hf : Fam m l) (hb : Bas l) (hk : q.length ≤ 8) (hl : ∀ x ∈ q, x < 2 ^ m) (hcap : q.length ≤ cap) (h : Ints w v (N l)) (hu : Ints w (.slice a q.length cap) (N q)) :
    Calls Try.prog 21 #[.agg #[.int .i64 m, v], .slice a q.length cap] w (StaE w (staF (rk l) 0 q)) := by
  have HB0 := hid (below_box w #[.int .i64 m, v])
  have R1 := hid (ranksOf_ok m v _ l (N q) _ hm hf hb (lis_ok hm hk hl) (h.below HB0.out) (hu.below HB0.out))
  have HU := hid (hu.below HB0.out)
  have HS := hid (fun u w hu h => sta_any m (rk l) u a cap q w hcap hm (rk8 hb) hk hl hu h)
  obtain ⟨ca, cc, rfl, -, -⟩ := h.nats
  clear h hu hl
  generalize staF (rk l) 0 q = S at *
  go_enter Try.func21, Try.ntmps21
  go_wp2_with fail
  refine R1.out.mono ?_
  rintro e w1 ⟨r1, rfl, hr1, hb1⟩
  have S1 := hid (HS.out r1 w1 hr1 (HU.out.below hb1))
  have HB1 := hid (HB0.out.trans (hb1.mono HB0.out.size))
  clear hb1 hr1
  go_wp2_with fail
  refine S1.out.mono ?_
  intro e w2 h2
  have h3 := StaE.from h2 HB1.out
  have H3 := hid h3
  obtain ⟨⟨h4, h5⟩, h6⟩ := h3
  clear h2
  rcases S with _ | L
  · obtain rfl := h5 rfl
    clear h4 h5 h6
    go_wp2_with fail
    go_ret2
    exact H3.out
  · obtain ⟨vL, rfl, _⟩ := h4 L rfl
    clear h4 h5 h6
    go_wp2_with fail
    go_ret2
    exact H3.out
theorem Rado_bad (n : Int) (v u : Value) (zs q : List Int) (w : World) (hq : radE n zs q ≠ 0) (h : Ints w v zs) (hu : Ints w u q) :
    Calls Try.prog 21 #[.agg #[.int .i64 n, v], u] w fun e w' => e = .returned (.tuple #[.slice none 0 0, .int .i64 (radE n zs q)]) ∧ Below w.heap.size w w' := by
  have HB0 := hid (below_box w #[.int .i64 n, v])
  have R1 := hid (ranksOf_bad n v u zs q _ hq (h.below HB0.out) (hu.below HB0.out))
  generalize radE n zs q = Q at *
  obtain ⟨ca, cc, rfl, -, -⟩ := h
  go_enter Try.func21, Try.ntmps21
  go_wp2_with fail
  refine R1.out.mono ?_
  rintro e w1 ⟨rfl, hb1⟩
  have HB1 := hid (HB0.out.trans (hb1.mono HB0.out.size))
  clear hb1
  go_wp2_with fail
  go_ret2
  exact ⟨rfl, HB1.out⟩
theorem RadoBar_ok (m : Nat) (v u : Value) (l q : List Nat) (w : World) (hm : m ≤ 8) (hf : Fam m l) (hb : Bas l) (hk : q.length ≤ 8) (hl : ∀ x ∈ q, x < 2 ^ m) (h : Ints w v (N l)) (hu : Ints w u (N q)) :
    Calls Try.prog 23 #[.agg #[.int .i64 m, v], u] w fun e w' => e = barE (barF (rk l) 0 q) ∧ Below w.heap.size w w' := by
  have HB0 := hid (below_box w #[.int .i64 m, v])
  have R1 := hid (ranksOf_ok m v _ l (N q) _ hm hf hb (lis_ok hm hk hl) (h.below HB0.out) (hu.below HB0.out))
  have HU := hid (hu.below HB0.out)
  have HS := hid (fun r w hr h => bar_any m 0 (rk l) r u q w hm (Nat.two_pow_pos m) (rk8 hb) hk hl hr h)
  obtain ⟨ca, cc, rfl, -, -⟩ := h.nats
  clear h hu hl
  generalize barF (rk l) 0 q = S at *
  go_enter Try.func23, Try.ntmps23
  go_wp2_with fail
  refine R1.out.mono ?_
  rintro e w1 ⟨r1, rfl, hr1, hb1⟩
  have S1 := hid (HS.out r1 w1 hr1 (HU.out.below hb1))
  have HB1 := hid (HB0.out.trans (hb1.mono HB0.out.size))
  clear hb1 hr1
  go_wp2_with fail
  refine S1.out.mono ?_
  rintro e w2 ⟨he, hb2⟩
  have HB2 := hid (HB1.out.trans (hb2.mono HB1.out.size))
  clear hb2
  rcases S with _ | k
  · have he' : e = .returned (.tuple #[.int .i64 0, .int .i64 5]) := he
    subst he'
    clear he
    go_wp2_with fail
    go_ret2
    exact ⟨rfl, HB2.out⟩
  · have he' : e = .returned (.tuple #[.int .i64 k, .int .i64 0]) := he
    subst he'
    clear he
    go_wp2_with fail
    go_ret2
    exact ⟨rfl, HB2.out⟩
theorem RadoBar_bad (n : Int) (v u : Value) (zs q : List Int) (w : World) (hq : radE n zs q ≠ 0) (h : Ints w v zs) (hu : Ints w u q) :
    Calls Try.prog 23 #[.agg #[.int .i64 n, v], u] w fun e w' => e = .returned (.tuple #[.int .i64 0, .int .i64 (radE n zs q)]) ∧ Below w.heap.size w w' := by
  have HB0 := hid (below_box w #[.int .i64 n, v])
  have R1 := hid (ranksOf_bad n v u zs q _ hq (h.below HB0.out) (hu.below HB0.out))
  generalize radE n zs q = Q at *
  obtain ⟨ca, cc, rfl, -, -⟩ := h
  go_enter Try.func23, Try.ntmps23
  go_wp2_with fail
  refine R1.out.mono ?_
  rintro e w1 ⟨rfl, hb1⟩
  have HB1 := hid (HB0.out.trans (hb1.mono HB0.out.size))
  clear hb1
  go_wp2_with fail
  go_ret2
  exact ⟨rfl, HB1.out⟩
theorem HStand_ok (m : Nat) (a : Option Addr) (cap : Nat) (q : List Nat) (w : World) (hm : m ≤ 8) (hk : q.length ≤ 8) (hl : ∀ x ∈ q, x < 2 ^ m) (hcap : q.length ≤ cap) (hu : Ints w (.slice a q.length cap) (N q)) :
    Calls Try.prog 6 #[.int .i64 m, .slice a q.length cap] w (StaE w (staF (rk [2 ^ m - 1]) 0 q)) := by
  have HC := hid (hcheck_any m _ (N q) w hu)
  rw [lis_ok hm hk hl] at HC
  have FR := hid (free_any m w hm)
  have HU := hid hu
  have HS := hid (fun v w h hu => Rado_ok m v a cap [2 ^ m - 1] q w hm (full_bas m hm).1 (full_bas m hm).2 hk hl hcap h hu)
  clear hu hl
  generalize staF (rk [2 ^ m - 1]) 0 q = S at *
  go_enter Try.func6, Try.ntmps6
  go_wp2_with fail
  refine HC.out.mono ?_
  rintro e w' ⟨rfl, hw'⟩
  obtain rfl := hw'.symm
  go_wp2_with fail
  refine FR.out.mono ?_
  rintro e w1 ⟨g, rfl, hi1, hb1⟩
  have S1 := hid (HS.out _ w1 hi1 (HU.out.below hb1))
  have HB1 := hid hb1
  clear hb1 hi1
  go_wp2_with fail
  refine S1.out.mono ?_
  intro e w2 h2
  have h3 := StaE.from h2 HB1.out
  have H3 := hid h3
  obtain ⟨⟨h4, h5⟩, h6⟩ := h3
  clear h2
  rcases S with _ | L
  · obtain rfl := h5 rfl
    clear h4 h5 h6
    go_wp2_with fail
    go_ret2
    exact H3.out
  · obtain ⟨vL, rfl, _⟩ := h4 L rfl
    clear h4 h5 h6
    go_wp2_with fail
    go_ret2
    exact H3.out
theorem HStand_bad (n : Int) (u : Value) (q : List Int) (w : World) (hq : lisR n q ≠ 0) (hu : Ints w u q) :
    Calls Try.prog 6 #[.int .i64 n, u] w fun e w' => e = .returned (.tuple #[.slice none 0 0, .int .i64 (lisR n q)]) ∧ w' = w := by
  have HC := hid (hcheck_any n _ q w hu)
  generalize lisR n q = Q at *
  go_enter Try.func6, Try.ntmps6
  go_wp2_with fail
  refine HC.out.mono ?_
  rintro e w' ⟨rfl, hw'⟩
  obtain rfl := hw'.symm
  go_wp2_with fail
  go_ret2
  exact ⟨rfl, rfl⟩
theorem HBar_ok (m : Nat) (u : Value) (q : List Nat) (w : World) (hm : m ≤ 8) (hk : q.length ≤ 8) (hl : ∀ x ∈ q, x < 2 ^ m) (hu : Ints w u (N q)) :
    Calls Try.prog 7 #[.int .i64 m, u] w fun e w' => e = barE (barF (rk [2 ^ m - 1]) 0 q) ∧ Below w.heap.size w w' := by
  have HC := hid (hcheck_any m _ (N q) w hu)
  rw [lis_ok hm hk hl] at HC
  have FR := hid (free_any m w hm)
  have HU := hid hu
  have HS := hid (fun v w h hu => RadoBar_ok m v u [2 ^ m - 1] q w hm (full_bas m hm).1 (full_bas m hm).2 hk hl h hu)
  clear hu hl
  generalize barF (rk [2 ^ m - 1]) 0 q = S at *
  go_enter Try.func7, Try.ntmps7
  go_wp2_with fail
  refine HC.out.mono ?_
  rintro e w' ⟨rfl, hw'⟩
  obtain rfl := hw'.symm
  go_wp2_with fail
  refine FR.out.mono ?_
  rintro e w1 ⟨g, rfl, hi1, hb1⟩
  have S1 := hid (HS.out _ w1 hi1 (HU.out.below hb1))
  have HB1 := hid hb1
  clear hb1 hi1
  go_wp2_with fail
  refine S1.out.mono ?_
  rintro e w2 ⟨he, hb2⟩
  have HB2 := hid (HB1.out.trans (hb2.mono HB1.out.size))
  clear hb2
  rcases S with _ | k
  · have he' : e = .returned (.tuple #[.int .i64 0, .int .i64 5]) := he
    subst he'
    clear he
    go_wp2_with fail
    go_ret2
    exact ⟨rfl, HB2.out⟩
  · have he' : e = .returned (.tuple #[.int .i64 k, .int .i64 0]) := he
    subst he'
    clear he
    go_wp2_with fail
    go_ret2
    exact ⟨rfl, HB2.out⟩
theorem HBar_bad (n : Int) (u : Value) (q : List Int) (w : World) (hq : lisR n q ≠ 0) (hu : Ints w u q) :
    Calls Try.prog 7 #[.int .i64 n, u] w fun e w' => e = .returned (.tuple #[.int .i64 0, .int .i64 (lisR n q)]) ∧ w' = w := by
  have HC := hid (hcheck_any n _ q w hu)
  generalize lisR n q = Q at *
  go_enter Try.func7, Try.ntmps7
  go_wp2_with fail
  refine HC.out.mono ?_
  rintro e w' ⟨rfl, hw'⟩
  obtain rfl := hw'.symm
  go_wp2_with fail
  go_ret2
  exact ⟨rfl, rfl⟩
end Go.Proofs.Ytjajloefplbkgaa
