/- rotakeep.MeetMatches's functions: the ends of an edge; one side's matroid. -/
import Derived.Test.YtomajfpincehnaaHaEW
import Derived.Test.YtomajfpincehnaaKLamMQ
import Derived.Test.YtomajfpincehnaaSortOwnQ
import Derived.Test.YtomajfpincehnaaKGraphQ
import Derived.Test.YtomajfpincehnaaPlainAll1
import Derived.Maps.AppendAt
namespace Go.Proofs.Ytomajfpincehnaa
open Go.RowKit

/-- append of one number: where the new list lies. -/
theorem run_snocAt {B : Nat} {w : World} {l : List Nat} {v : Value} {b : Nat} {ad : Addr} (ty : TypeId) (h : Own B w v l) (hc : w.cell? ad = some (.int .i64 b)) (hl : l.length ≤ 256) (hB : B ≤ w.heap.size) :
    ∃ v' w', (Builtin.append_ #[28, 28] ty #[v, .slice (some ad) 1 1]).run Try.prog w = .ok v' w' ∧ Own B w' v' (l ++ [b]) ∧ w.grownBy w' v.ownBlock ∧ (v'.ownBlock = v.ownBlock ∨ v'.ownBlock = some w.heap.size) := by
  obtain ⟨i0, hi, hz0, hz1, hz2⟩ := info_parts Try.infoInt
  obtain ⟨v', w', hrun, r1, r2, r3, r4⟩ := run_append_own_at (P := Try.prog) w B 28 ty 3 i0 (.int .i64 0) 1 8 Try.underlying28 hi hz0 hz1 hz2 rfl (by decide) v l.length (V l) h ad 1 1 [.int .i64 b] rfl
      (fun j u hu => by
        have hj : j < 1 := (List.getElem?_eq_some_iff.1 hu).1
        obtain rfl : j = 0 := by omega
        simp only [List.getElem?_cons_zero] at hu
        rw [← hu, ← hc]
        simp [Addr.add])
      (by intro u hu; simp at hu; subst hu; rfl) (by unfold maxLen; omega) (by omega) hB
  exact ⟨v', w', hrun, Own.snoc r1, r2, r4⟩
theorem wpList_snocAt {B : Nat} {w : World} {l : List Nat} {v : Value} {b : Nat} {ad : Addr} {ops : Array Oper} {rest : List Oper} {o : Oper} {a : Act} {Q : Exit → Act → World → Prop} (hgd : o.guard = none) (s x : Operand)
    (ho : o.op = .call { callee := .builtin .append, args := #[s, x], argTypes := #[28, 28] }) (hs : a.eval s = v) (hx : a.eval x = .slice (some ad) 1 1) (h : Own B w v l) (hc : w.cell? ad = some (.int .i64 b)) (hl : l.length ≤ 256) (hB : B ≤ w.heap.size)
    (hK : ∀ v' w', Own B w' v' (l ++ [b]) → w.grownBy w' v.ownBlock → (v'.ownBlock = v.ownBlock ∨ v'.ownBlock = some w.heap.size) → wpList Try.prog ops Q rest (a.put o.dst v') w') : wpList Try.prog ops Q (o :: rest) a w := by
  refine wpList_plain hgd fun K hk => ?_
  obtain ⟨v', w', hrun, r1, r2, r3⟩ := run_snocAt o.type h hc hl hB
  unfold Oper.wp
  simp [execOp, ho, resolve, invoke, builtin, hs, hx, hrun, Result.andThen]
  exact hk _ _ (hK v' w' r1 r2 r3)
/-- Two lists of one's own, in blocks of their own. -/
structure Two (B : Nat) (w : World) (u v : Value) (l m : List Nat) : Prop where
  fst : Own B w u l
  snd : Own B w v m
  apart : ∀ g, u.ownBlock = some g → v.ownBlock ≠ some g
theorem Own.keep {B : Nat} {w w' : World} {v : Value} {l : List Nat} {row : Option Nat} (h : Own B w v l) (hg : w.grownBy w' row) (hr : ∀ g, v.ownBlock = some g → row ≠ some g) : Own B w' v l := by
  have hlt := fun j hj => (World.ownsRow.lt h j hj).2
  obtain ⟨h0, h1⟩ := h
  refine ⟨h0, h1.imp_right ?_⟩
  rintro ⟨g, cap, cur, hv, hgB, hheap, hrest⟩
  have hob : v.ownBlock = some g := by rw [hv]; rfl
  exact ⟨g, cap, cur, hv, hgB, (hg.block g (hlt g hob) (fun e => hr g hob e.symm)).trans hheap, hrest⟩
theorem Two.nil (B : Nat) (w : World) : Two B w (.slice none 0 0) (.slice none 0 0) [] [] := ⟨Own.nil _ _, Own.nil _ _, fun g h => by cases h⟩
theorem Two.below {B : Nat} {w w' : World} {u v : Value} {l m : List Nat} (h : Two B w u v l m) (hb : Below w.heap.size w w') : Two B w' u v l m := ⟨h.fst.below hb, h.snd.below hb, h.apart⟩
theorem Two.one {B : Nat} {w w' : World} {u u' v : Value} {l l' m : List Nat} (h : Two B w u v l m) (h1 : Own B w' u' l') (h2 : w.grownBy w' u.ownBlock) (h3 : u'.ownBlock = u.ownBlock ∨ u'.ownBlock = some w.heap.size) : Two B w' u' v l' m := by
  refine ⟨h1, h.snd.keep h2 fun g hg e => h.apart g e hg, fun g hg => ?_⟩
  rcases h3 with e | e
  · exact h.apart g (e ▸ hg)
  · rw [e] at hg
    obtain rfl := Option.some.inj hg
    intro hv
    have := (World.ownsRow.lt h.snd _ hv).2
    omega
theorem Two.swap {B : Nat} {w : World} {u v : Value} {l m : List Nat} (h : Two B w u v l m) : Two B w v u m l := ⟨h.snd, h.fst, fun g hv hu => h.apart g hu hv⟩
theorem mtm2_ok (a b : Int) (w : World) : Calls Try.prog 9 #[.agg #[.int .i64 a, .int .i64 b]] w fun e w' => e = .returned (.int .i64 a) ∧ Below w.heap.size w w' := by
  go_enter Try.func9, Try.ntmps9
  go_wp2_with fail
  go_ret
  exact ⟨rfl, (Below.refl _ _).alloc (Nat.le_refl _) _⟩
theorem mtm3_ok (a b : Int) (w : World) : Calls Try.prog 10 #[.agg #[.int .i64 a, .int .i64 b]] w fun e w' => e = .returned (.int .i64 b) ∧ Below w.heap.size w w' := by
  go_enter Try.func10, Try.ntmps10
  go_wp2_with fail
  go_ret
  exact ⟨rfl, (Below.refl _ _).alloc (Nat.le_refl _) _⟩
end Go.Proofs.Ytomajfpincehnaa
