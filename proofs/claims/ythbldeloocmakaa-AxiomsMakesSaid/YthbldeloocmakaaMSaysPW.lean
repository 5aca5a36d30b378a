/- rotalaw.told. -/
import Derived.Test.YthbldeloocmakaaTruncQ
import Derived.Test.YthbldeloocmakaaDualQ
import Derived.Test.YthbldeloocmakaaDelConQ
import Derived.Test.YthbldeloocmakaaRefMin4W
import Derived.Test.YthbldeloocmakaaRefAxEQ
namespace Go.Proofs.Ythbldeloocmakaa
open Go.RowKit

theorem told_bad (q : Int) (w : World) (hq : q ≠ 0) :
    Calls Try.prog 36 #[.agg #[.int .i64 0, .slice none 0 0], .int .i64 q, .agg #[.int .i64 0, .slice none 0 0], .int .i64 q] w fun e w' => e = .returned (.bool true) ∧ Below w.heap.size w w' := by
  have hq' : (q == 0) = false := by rw [beq_eq_false_iff_ne]; exact hq
  have hqq : (q == q) = true := by simp
  have HB0 : Hid (Below w.heap.size w ((w.alloc (.cells #[.int .i64 0, .slice none 0 0] 24)).alloc (.cells #[.int .i64 0, .slice none 0 0] 24))) := ((Below.refl _ _).alloc (Nat.le_refl _) _).alloc (by simp) _
  go_enter Try.func36, Try.ntmps36
  go_wp2_with fail
  go_ret
  exact ⟨rfl, HB0.out⟩
theorem told_good (n : Int) (u v : Value) (zs : List Int) (w : World) (h1 : Ints w u zs) (h2 : Ints w v zs) :
    Calls Try.prog 36 #[.agg #[.int .i64 n, u], .int .i64 0, .agg #[.int .i64 n, v], .int .i64 0] w fun e w' => e = .returned (.bool true) ∧ Below w.heap.size w w' := by
  have hB0 : Below w.heap.size w ((w.alloc (.cells #[.int .i64 n, u] 24)).alloc (.cells #[.int .i64 n, v] 24)) := ((Below.refl _ _).alloc (Nat.le_refl _) _).alloc (by simp) _
  have SM := hid (SameMatroid_any n n u v zs zs _ (h1.below hB0) (h2.below hB0))
  rw [show (decide (n = n) && decide (zs = zs)) = true by simp] at SM
  have HB0 := hid hB0
  obtain ⟨a, cap, rfl, _, _⟩ := h1
  obtain ⟨a2, cap2, rfl, _, _⟩ := h2
  clear hB0
  go_enter Try.func36, Try.ntmps36
  go_wp2_with fail
  refine SM.out.mono ?_
  rintro e w2 ⟨rfl, hb2⟩
  have HB := hid (HB0.out.trans (hb2.mono HB0.out.size))
  clear hb2
  go_wp2_with fail
  go_ret
  exact ⟨rfl, HB.out⟩
end Go.Proofs.Ythbldeloocmakaa

namespace Go.Proofs.Ythbldeloocmakaa
open Go.RowKit

/-- A matroid, or nothing where there is an error. -/
def GoodM (B : Nat) (W : World) (q n : Int) (l : List Nat) (nn : Int) (vv : Value) : Prop := (q = 0 ∧ nn = n ∧ l.length ≤ 17592186044416 ∧ Own B W vv l) ∨ (q ≠ 0 ∧ nn = 0 ∧ vv = .slice none 0 0)
theorem GoodM.below {B : Nat} {W W' : World} {q n : Int} {l : List Nat} {nn : Int} {vv : Value} (h : GoodM B W q n l nn vv) (hb : Below W.heap.size W W') : GoodM B W' q n l nn vv :=
  h.imp (fun ⟨h1, h2, h3, h4⟩ => ⟨h1, h2, h3, h4.below hb⟩) id
theorem GoodM.set2 {B : Nat} {W : World} {q n : Int} {l : List Nat} {nn : Int} {vv : Value} (h : GoodM B W q n l nn vv) {b : Nat} {x y : Value} (hb : b < B) : GoodM B ((W.setCell ⟨b, 0, none⟩ x).setCell ⟨b, 1, none⟩ y) q n l nn vv :=
  h.imp (fun ⟨h1, h2, h3, h4⟩ => ⟨h1, h2, h3, h4.set2 hb⟩) id
theorem GoodM.mono {B B' : Nat} {W : World} {q n : Int} {l : List Nat} {nn : Int} {vv : Value} (h : GoodM B W q n l nn vv) (hb : B' ≤ B) : GoodM B' W q n l nn vv :=
  h.imp (fun ⟨h1, h2, h3, h4⟩ => ⟨h1, h2, h3, h4.mono hb⟩) id
theorem GoodM.form {B : Nat} {W : World} {q n : Int} {l : List Nat} {nn : Int} {vv : Value} (h : GoodM B W q n l nn vv) : ∃ a L c, vv = .slice a L c := by
  rcases h with ⟨_, _, _, h4⟩ | ⟨_, _, rfl⟩
  · obtain ⟨a, c, e⟩ := ownsRow_form' h4
    exact ⟨a, _, c, e⟩
  · exact ⟨_, _, _, rfl⟩
/-- What a call hands back. -/
def ResM (w : World) (q n : Int) (l : List Nat) (e : Ending) (w' : World) : Prop := ∃ nn vv, e = .returned (.tuple #[.agg #[.int .i64 nn, vv], .int .i64 q]) ∧ GoodM w.heap.size w' q n l nn vv ∧ Below w.heap.size w w'
theorem GivesO.res {w w' : World} {n : Int} {l : List Nat} {e : Ending} (h : GivesO w n l e w') (hl : l.length ≤ 17592186044416) : ResM w 0 n l e w' := by
  obtain ⟨r, h1, h2, h3⟩ := h
  exact ⟨n, r, h1, .inl ⟨rfl, rfl, hl, h2⟩, h3⟩
theorem BadM.res {w w' : World} {q n : Int} {l : List Nat} {e : Ending} (h : BadM w q e w') (hq : q ≠ 0) : ResM w q n l e w' := ⟨0, _, h.1, .inr ⟨hq, rfl, rfl⟩, h.2⟩
theorem told_any {B B' : Nat} {q n : Int} {l : List Nat} {n1 n2 : Int} {v1 v2 : Value} {w : World} (h1 : GoodM B w q n l n1 v1) (h2 : GoodM B' w q n l n2 v2) :
    Calls Try.prog 36 #[.agg #[.int .i64 n1, v1], .int .i64 q, .agg #[.int .i64 n2, v2], .int .i64 q] w fun e w' => e = .returned (.bool true) ∧ Below w.heap.size w w' := by
  rcases h1 with ⟨rfl, rfl, hl, ho⟩ | ⟨hq, rfl, rfl⟩
  · rcases h2 with ⟨_, rfl, _, ho2⟩ | ⟨hq, _, _⟩
    · exact told_good _ _ _ _ w (ho.ints hl) (ho2.ints hl)
    · exact absurd rfl hq
  · rcases h2 with ⟨rfl, _, _, _⟩ | ⟨_, rfl, rfl⟩
    · exact absurd rfl hq
    · exact told_bad q w hq
theorem len_of {n : Nat} {l : List Nat} (hn : n ≤ 8) (hf : Fam n l) : l.length ≤ 17592186044416 := Nat.le_trans (fam_len hn hf) (by decide)
theorem setR_cases (m : Nat) (s : Int) : setR m s = 1 ∨ ∃ k : Nat, s = k ∧ k < 2 ^ m := by
  unfold setR
  have e : ((2 ^ m : Nat) : Int) = (2 : Int) ^ m := by simp
  by_cases h : 0 ≤ s ∧ s < (2 : Int) ^ m
  · obtain ⟨k, rfl⟩ := Int.eq_ofNat_of_zero_le h.1
    exact .inr ⟨k, rfl, by omega⟩
  · refine .inl (if_neg fun h2 => h ?_)
    rw [Int.toNat_natCast] at h2
    exact ⟨h2.2.2.1, h2.2.2.2⟩
/-- How a matroid and a set, a number come. -/
def Cfg (n s k : Int) (zs : List Int) (qe qf qg n1 : Int) (ld : List Nat) (n2 : Int) (l1 l2 l3 : List Nat) : Prop :=
  (chkR n zs = qe ∧ qe ≠ 0 ∧ qf = qe ∧ qg = qe) ∨ (qe = 0 ∧ ∃ (m : Nat) (l : List Nat), n = m ∧ zs = N l ∧ m ≤ 8 ∧ Fam m l ∧ Bas l ∧ n1 = m ∧ ld = cmp m l ∧
    ((qf = 1 ∧ setR m s = 1) ∨ (qf = 0 ∧ ∃ sn : Nat, s = sn ∧ sn < 2 ^ m ∧ n2 = (pop (dif (2 ^ m - 1) sn) : Nat) ∧ l1 = minL m l sn 0 ∧ l2 = minL m l sn sn)) ∧
    ((qg = 1 ∧ (k < 0 ∨ (rk l (2 ^ m - 1) : Int) < k)) ∨ (qg = 0 ∧ ∃ kn : Nat, k = kn ∧ kn ≤ rk l (2 ^ m - 1) ∧ l3 = cutL m l kn)))
theorem cfg_of (n s k : Int) (zs : List Int) : ∃ qe qf qg n1 ld n2 l1 l2 l3, Cfg n s k zs qe qf qg n1 ld n2 l1 l2 l3 := by
  by_cases hc : chkR n zs = 0
  · obtain ⟨m, l, hn, hm, hz, hf, hb⟩ := chk_of hc
    have hK : ∃ qg l3, (qg = (1 : Int) ∧ (k < 0 ∨ (rk l (2 ^ m - 1) : Int) < k)) ∨ (qg = 0 ∧ ∃ kn : Nat, k = kn ∧ kn ≤ rk l (2 ^ m - 1) ∧ l3 = cutL m l kn) := by
      by_cases h : k < 0 ∨ (rk l (2 ^ m - 1) : Int) < k
      · exact ⟨1, [], .inl ⟨rfl, h⟩⟩
      · obtain ⟨kn, rfl⟩ := Int.eq_ofNat_of_zero_le (show 0 ≤ k by omega)
        exact ⟨0, _, .inr ⟨rfl, kn, rfl, by omega, rfl⟩⟩
    obtain ⟨qg, l3, hK⟩ := hK
    rcases setR_cases m s with hs | ⟨sn, hs1, hs2⟩
    · exact ⟨0, 1, qg, m, cmp m l, 0, [], [], l3, .inr ⟨rfl, m, l, hn, hz, hm, hf, hb, rfl, rfl, .inl ⟨rfl, hs⟩, hK⟩⟩
    · exact ⟨0, 0, qg, m, cmp m l, _, _, _, l3, .inr ⟨rfl, m, l, hn, hz, hm, hf, hb, rfl, rfl, .inr ⟨rfl, sn, hs1, hs2, rfl, rfl, rfl⟩, hK⟩⟩
  · exact ⟨_, _, _, 0, [], 0, [], [], [], .inl ⟨rfl, hc, rfl, rfl⟩⟩
variable {n s k : Int} {zs : List Int} {qe qf qg n1 n2 : Int} {ld l1 l2 l3 : List Nat}
theorem Cfg.chk (c : Cfg n s k zs qe qf qg n1 ld n2 l1 l2 l3) : chkR n zs = qe := by
  rcases c with ⟨h, _⟩ | ⟨rfl, m, l, rfl, rfl, hm, hf, hb, _⟩
  · exact h
  · exact chk_mk hm hf hb
theorem Cfg.dual (c : Cfg n s k zs qe qf qg n1 ld n2 l1 l2 l3) {v : Value} {w : World} (h : Ints w v zs) : Calls Try.prog 45 #[.agg #[.int .i64 n, v]] w (ResM w qe n1 ld) := by
  rcases c with ⟨rfl, hq, _, _⟩ | ⟨rfl, m, l, rfl, rfl, hm, hf, hb, rfl, rfl, _⟩
  · exact (Dual_bad n v zs w h hq).mono fun _ _ h => h.res hq
  · exact (Dual_ok m v l w hm hf hb h).mono fun _ _ h => h.res (len_of hm (cmp_fam hf))
theorem Cfg.del (c : Cfg n s k zs qe qf qg n1 ld n2 l1 l2 l3) {v : Value} {w : World} (h : Ints w v zs) : Calls Try.prog 46 #[.agg #[.int .i64 n, v], .int .i64 s] w (ResM w qf n2 l1) := by
  rcases c with ⟨rfl, hq, rfl, _⟩ | ⟨rfl, m, l, rfl, rfl, hm, hf, hb, rfl, rfl, hs, _⟩
  · exact (Delete_bad n s v zs w h hq).mono fun _ _ h => h.res hq
  · rcases hs with ⟨rfl, hs⟩ | ⟨rfl, sn, rfl, hs, rfl, rfl, rfl⟩
    · exact (Delete_arg m s v l w hm hf hb h hs).mono fun _ _ h => h.res (by decide)
    · exact (Delete_ok m sn v l w hm hf hb h hs).mono fun _ _ h => h.res (len_of (kept_le hm sn) (min_fam _ _ _ _))
theorem Cfg.con (c : Cfg n s k zs qe qf qg n1 ld n2 l1 l2 l3) {v : Value} {w : World} (h : Ints w v zs) : Calls Try.prog 47 #[.agg #[.int .i64 n, v], .int .i64 s] w (ResM w qf n2 l2) := by
  rcases c with ⟨rfl, hq, rfl, _⟩ | ⟨rfl, m, l, rfl, rfl, hm, hf, hb, rfl, rfl, hs, _⟩
  · exact (Contract_bad n s v zs w h hq).mono fun _ _ h => h.res hq
  · rcases hs with ⟨rfl, hs⟩ | ⟨rfl, sn, rfl, hs, rfl, rfl, rfl⟩
    · exact (Contract_arg m s v l w hm hf hb h hs).mono fun _ _ h => h.res (by decide)
    · exact (Contract_ok m sn v l w hm hf hb h hs).mono fun _ _ h => h.res (len_of (kept_le hm sn) (min_fam _ _ _ _))
theorem Cfg.tru (c : Cfg n s k zs qe qf qg n1 ld n2 l1 l2 l3) {v : Value} {w : World} (h : Ints w v zs) : Calls Try.prog 50 #[.agg #[.int .i64 n, v], .int .i64 k] w (ResM w qg n1 l3) := by
  rcases c with ⟨rfl, hq, _, rfl⟩ | ⟨rfl, m, l, rfl, rfl, hm, hf, hb, rfl, rfl, _, hk⟩
  · exact (Truncate_bad n k v zs w h hq).mono fun _ _ h => h.res hq
  · rcases hk with ⟨rfl, hk⟩ | ⟨rfl, kn, rfl, hk, rfl⟩
    · exact (Truncate_arg m k v l w hm hf hb h hk).mono fun _ _ h => h.res (by decide)
    · exact (Truncate_ok m kn v l w hm hf hb h hk).mono fun _ _ h => h.res (len_of hm (cut_fam _ _ _))
end Go.Proofs.Ythbldeloocmakaa
