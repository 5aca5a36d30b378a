/- Slices with room: what is put behind them lies in the same block. -/
import Derived.Test.YtjnifcfcigcngaaEqQ
import Derived.Test.YtjnifcfcigcngaaPlainAll1
import Derived.Laws.OwnMore
namespace Go.Proofs.Ytjnifcfcigcngaa
open Go.RowKit

theorem Own.front {B : Nat} {W : World} {g c : Nat} {p q : List Nat} (h : Own B W (.slice (some ⟨g, 0, none⟩) (p ++ q).length c) (p ++ q)) : Own B W (.slice (some ⟨g, 0, none⟩) p.length c) p := by
  obtain ⟨h0, h1⟩ := h
  refine ⟨by rw [V_len, Nat.mul_one], .inr ?_⟩
  rcases h1 with ⟨hv, _⟩ | ⟨g', cap, cur, hv, hg, hh, hn, hm, hs, ht⟩
  · cases hv
  · simp only [Value.slice.injEq, Option.some.injEq, Addr.mk.injEq, and_true, true_and] at hv
    obtain ⟨rfl, rfl⟩ := hv
    rw [List.length_append] at hn
    refine ⟨g, c, cur, rfl, hg, hh, by omega, hm, hs, ?_⟩
    rw [Nat.mul_one] at ht ⊢
    have e : cur.toList.take p.length = (cur.toList.take (p ++ q).length).take p.length := by
      rw [List.take_take, List.length_append, Nat.min_eq_left (by omega)]
    rw [e, ht]
    unfold V
    rw [List.map_append]
    exact List.take_left' (by simp)
theorem Own.cap {B : Nat} {W : World} {g c : Nat} {p : List Nat} (h : Own B W (.slice (some ⟨g, 0, none⟩) p.length c) p) : p.length ≤ c := by
  obtain ⟨_, h1⟩ := h
  rcases h1 with ⟨hv, _⟩ | ⟨g', cap, cur, hv, hg, hh, hn, hm, hs, ht⟩
  · cases hv
  · simp only [Value.slice.injEq, Option.some.injEq, Addr.mk.injEq, and_true, true_and] at hv
    obtain ⟨rfl, rfl⟩ := hv
    exact hn
/-- append of one number, in place. -/
theorem run_room {B : Nat} {w : World} {l : List Nat} {g c b : Nat} {ad : Addr} (ty : TypeId) (h : Own B w (.slice (some ⟨g, 0, none⟩) l.length c) l) (hc : w.cell? ad = some (.int .i64 b)) (hr : l.length + 1 ≤ c) :
    ∃ w', (Builtin.append_ #[43, 43] ty #[.slice (some ⟨g, 0, none⟩) l.length c, .slice (some ad) 1 1]).run Try.prog w = .ok (.slice (some ⟨g, 0, none⟩) (l.length + 1) c) w' ∧ Own B w' (.slice (some ⟨g, 0, none⟩) (l.length + 1) c) (l ++ [b]) ∧ w.grownBy w' (some g) := by
  obtain ⟨i0, hi, hz0, hz1, hz2⟩ := info_parts Try.infoInt
  obtain ⟨w', h1, h2, h3⟩ := run_append_fits (P := Try.prog) w B 43 ty 3 i0 1 Try.underlying43 hi hz1 g l.length c (V l) h ad 1 1 [.int .i64 b] rfl
    (fun j u hu => by
      have hj : j < 1 := (List.getElem?_eq_some_iff.1 hu).1
      obtain rfl : j = 0 := by omega
      simp only [List.getElem?_cons_zero] at hu
      rw [← hu, ← hc]
      simp [Addr.add])
    (by intro u hu; simp at hu; subst hu; rfl) hr
  exact ⟨w', h1, Own.snoc h2, h3⟩
theorem wpList_room {B : Nat} {w : World} {l : List Nat} {g c b k : Nat} {ad : Addr} {ops : Array Oper} {rest : List Oper} {o : Oper} {a : Act} {Q : Exit → Act → World → Prop} (hgd : o.guard = none) (s x : Operand) (hk : l.length = k)
    (ho : o.op = .call { callee := .builtin .append, args := #[s, x], argTypes := #[43, 43] }) (hs : a.eval s = .slice (some ⟨g, 0, none⟩) k c) (hx : a.eval x = .slice (some ad) 1 1) (h : Own B w (.slice (some ⟨g, 0, none⟩) k c) l) (hc : w.cell? ad = some (.int .i64 b)) (hr : k + 1 ≤ c)
    (hK : ∀ w', Own B w' (.slice (some ⟨g, 0, none⟩) (k + 1) c) (l ++ [b]) → w.grownBy w' (some g) → wpList Try.prog ops Q rest (a.put o.dst (.slice (some ⟨g, 0, none⟩) (k + 1) c)) w') : wpList Try.prog ops Q (o :: rest) a w := by
  subst hk
  refine wpList_plain hgd fun K hk => ?_
  obtain ⟨w', hrun, h1, h2⟩ := run_room o.type h hc hr
  unfold Oper.wp
  simp [execOp, ho, resolve, invoke, builtin, hs, hx, hrun, Result.andThen]
  exact hk _ _ (hK w' h1 h2)
theorem step_room {B : Nat} {w : World} {l : List Nat} {g c b k : Nat} {ad : Addr} {ops : Array Oper} {o : Oper} {a : Act} {K : Act → World → Prop} {Q : Exit → Act → World → Prop} {E : Prop} (hg : o.guard = none) (s x : Operand) (hk : l.length = k)
    (ho : o.op = .call { callee := .builtin .append, args := #[s, x], argTypes := #[43, 43] }) (hs : a.eval s = .slice (some ⟨g, 0, none⟩) k c) (hx : a.eval x = .slice (some ad) 1 1) (h : Own B w (.slice (some ⟨g, 0, none⟩) k c) l) (hc : w.cell? ad = some (.int .i64 b)) (hr : k + 1 ≤ c)
    (hK : ∀ w', Own B w' (.slice (some ⟨g, 0, none⟩) (k + 1) c) (l ++ [b]) → w.grownBy w' (some g) → K (a.put o.dst (.slice (some ⟨g, 0, none⟩) (k + 1) c)) w') :
    if Region.wanted o (yielded ops a.tmps) = true then Oper.wp Try.prog o a w K Q else E := by
  subst hk
  have hw : Region.wanted o (yielded ops a.tmps) = true := by simp [Region.wanted, hg]
  rw [if_pos hw]
  obtain ⟨w', hrun, h1, h2⟩ := run_room o.type h hc hr
  unfold Oper.wp
  simp [execOp, ho, resolve, invoke, builtin, hs, hx, hrun, Result.andThen]
  exact hK w' h1 h2
end Go.Proofs.Ytjnifcfcigcngaa
