/- What the program makes of a family and what the document makes of it: one form for all five. -/
import Derived.Test.YthbldeloocmakaaRefOfCQ
import Derived.Test.YthbldeloocmakaaRefOfHQ
import Derived.Test.YthbldeloocmakaaRefOfFQ
namespace Go.Proofs.Ythbldeloocmakaa
open Go.RowKit

/-- A matroid whose list is there, or nothing where there is an error. -/
def GoodI (W : World) (q n : Int) (l : List Nat) (nn : Int) (vv : Value) : Prop := (q = 0 ∧ nn = n ∧ Ints W vv (N l)) ∨ (q ≠ 0 ∧ nn = 0 ∧ vv = .slice none 0 0)
theorem GoodI.below {W W' : World} {q n : Int} {l : List Nat} {nn : Int} {vv : Value} (h : GoodI W q n l nn vv) (hb : Below W.heap.size W W') : GoodI W' q n l nn vv := h.imp (fun ⟨a, b, c⟩ => ⟨a, b, c.below hb⟩) id
def ResI (w : World) (q n : Int) (l : List Nat) (e : Ending) (w' : World) : Prop := ∃ nn a L c, e = .returned (.tuple #[.agg #[.int .i64 nn, .slice a L c], .int .i64 q]) ∧ GoodI w' q n l nn (.slice a L c) ∧ Below w.heap.size w w'
theorem MakesI.res {w w' : World} {q n : Int} {l : List Nat} {e : Ending} (h : MakesI w q n l e w') : ResI w q n l e w' := by
  by_cases hq : q = 0
  · obtain ⟨r, h1, h2, h3⟩ := h.1 hq
    obtain ⟨a, c, rfl, _, _⟩ := h2
    exact ⟨n, a, _, c, by rw [h1, hq], .inl ⟨hq, rfl, ⟨a, c, rfl, by assumption, by assumption⟩⟩, h3⟩
  · obtain ⟨h1, h2⟩ := h.2 hq
    exact ⟨0, none, 0, 0, h1, .inr ⟨hq, rfl, rfl⟩, h2⟩
theorem told_both {q n : Int} {l : List Nat} {B : Nat} {n1 n2 : Int} {v1 v2 : Value} {w : World} (h1 : GoodI w q n l n1 v1) (h2 : GoodM B w q n l n2 v2) :
    Calls Try.prog 36 #[.agg #[.int .i64 n1, v1], .int .i64 q, .agg #[.int .i64 n2, v2], .int .i64 q] w fun e w' => e = .returned (.bool true) ∧ Below w.heap.size w w' := by
  rcases h1 with ⟨rfl, rfl, ho⟩ | ⟨hq, rfl, rfl⟩
  · rcases h2 with ⟨_, rfl, hl, ho2⟩ | ⟨hq, _, _⟩
    · exact told_good _ _ _ _ w ho (ho2.ints hl)
    · exact absurd rfl hq
  · rcases h2 with ⟨rfl, _, _, _⟩ | ⟨_, rfl, rfl⟩
    · exact absurd rfl hq
    · exact told_bad q w hq
/-- Two calls that answer alike: the program's and the document's. -/
def Pair (F G : Nat) (n : Int) (zs : List Int) (v : Value) : Prop := ∃ q L, (∀ w, Ints w v zs → Calls Try.prog F #[.int .i64 n, v] w (ResI w q n L)) ∧ (famR n zs ≠ 0 → q = 1) ∧ (famR n zs = 0 → (q = 0 ∨ q = 3) ∧ ∀ w, Ints w v zs → Calls Try.prog G #[.int .i64 n, v] w (BoolM w q n L))
theorem qOf_two (P : Prop) : qOf P = 0 ∨ qOf P = 3 := by
  by_cases h : P
  · exact .inl (qOf_pos h)
  · exact .inr (qOf_neg h)
theorem BoolM.list {w w' : World} {q n : Int} {l l' : List Nat} {e : Ending} (h : BoolM w q n l e w') (hl : q = 0 → l = l') : BoolM w q n l' e w' := by
  obtain ⟨nn, a, L, c, h1, h2, h3⟩ := h
  refine ⟨nn, a, L, c, h1, ?_, h3⟩
  rcases h2 with ⟨hq, h4, h5, h6⟩ | h2
  · rw [hl hq] at h5 h6
    exact .inl ⟨hq, h4, h5, h6⟩
  · exact .inr h2
theorem pair_ind (n : Int) (zs : List Int) (v : Value) : Pair 28 32 n zs v := by
  by_cases hf : famR n zs = 0
  · obtain ⟨m, l, rfl, hm, rfl, hfam⟩ := fam_of hf
    have K := ind_link hm hfam
    refine ⟨qOf (IndAx l), mstL l, fun w h => ?_, fun h => absurd hf h, fun _ => ⟨qOf_two _, fun w h => ?_⟩⟩
    · have := OfInd_any m v l w hm hfam h
      by_cases hx : IndAx l
      · rw [(K.1 hx).1] at this; rw [qOf_pos hx]; exact this.mono fun e w' h9 => h9.res
      · rw [K.2 hx] at this; rw [qOf_neg hx]; exact this.mono fun e w' h9 => h9.res
    · exact (OfFree_ref m v l w hm hfam h).mono fun e w' h9 => h9.list fun hq => by
        by_cases hx : IndAx l
        · exact (K.1 hx).2.symm
        · rw [qOf_neg hx] at hq; cases hq
  · exact ⟨1, [], fun w h => (OfInd_arg n v zs w h hf).mono fun e w' h9 => h9.res, fun _ => rfl, fun h => absurd h hf⟩
theorem pair_cir (n : Int) (zs : List Int) (v : Value) : Pair 29 33 n zs v := by
  by_cases hf : famR n zs = 0
  · obtain ⟨m, l, rfl, hm, rfl, hfam⟩ := fam_of hf
    have K := cir_link hm hfam
    refine ⟨qOf (CirAx l), cmp m (blk m l), fun w h => ?_, fun h => absurd hf h, fun _ => ⟨qOf_two _, fun w h => ?_⟩⟩
    · have := OfCir_any m v l w hm hfam h
      by_cases hx : CirAx l
      · rw [(K.1 hx).1] at this; rw [qOf_pos hx]; exact this.mono fun e w' h9 => h9.res
      · rw [K.2 hx] at this; rw [qOf_neg hx]; exact this.mono fun e w' h9 => h9.res
    · exact (OfCircuits_ref m v l w hm hfam h).mono fun e w' h9 => h9.list fun hq => by
        by_cases hx : CirAx l
        · exact (K.1 hx).2.symm
        · rw [qOf_neg hx] at hq; cases hq
  · exact ⟨1, [], fun w h => (OfCir_arg n v zs w h hf).mono fun e w' h9 => h9.res, fun _ => rfl, fun h => absurd h hf⟩
theorem pair_hyp (n : Int) (zs : List Int) (v : Value) : Pair 31 35 n zs v := by
  by_cases hf : famR n zs = 0
  · obtain ⟨m, l, rfl, hm, rfl, hfam⟩ := fam_of hf
    have K := hyp_link hm hfam
    refine ⟨qOf (HypAx m l), blk m (cmp m l), fun w h => ?_, fun h => absurd hf h, fun _ => ⟨qOf_two _, fun w h => OfHyperplanes_ref m v l w hm hfam h⟩⟩
    have := OfHyp_any m v l w hm hfam h
    by_cases hx : HypAx m l
    · rw [K.1 hx] at this; rw [qOf_pos hx]; exact this.mono fun e w' h9 => h9.res
    · rw [K.2 hx] at this; rw [qOf_neg hx]; exact this.mono fun e w' h9 => h9.res
  · exact ⟨1, [], fun w h => (OfHyp_arg n v zs w h hf).mono fun e w' h9 => h9.res, fun _ => rfl, fun h => absurd h hf⟩
theorem pair_flat (n : Int) (zs : List Int) (v : Value) (hcap : ∀ a L cap, v = .slice a L cap → L ≤ cap) : Pair 30 34 n zs v := by
  by_cases hf : famR n zs = 0
  · obtain ⟨m, l, rfl, hm, rfl, hfam⟩ := fam_of hf
    have K := flat_link hm hfam
    refine ⟨qOf (FlatAx m l), basFl m l, fun w h => ?_, fun h => absurd hf h, fun _ => ⟨qOf_two _, fun w h => OfFlats_ref m v l w hm hfam h⟩⟩
    have := OfFlat_any m v l w hm hfam h hcap
    by_cases hx : FlatAx m l
    · rw [K.1 hx] at this; rw [qOf_pos hx]; exact this.mono fun e w' h9 => h9.res
    · rw [K.2 hx] at this; rw [qOf_neg hx]; exact this.mono fun e w' h9 => h9.res
  · exact ⟨1, [], fun w h => (OfFlat_arg n v zs w h hf).mono fun e w' h9 => h9.res, fun _ => rfl, fun h => absurd h hf⟩
/-- Ranks: the program's and the document's. -/
theorem pair_rk (m : Nat) (zs : List Int) (v : Value) (hm : m ≤ 8) (hl : zs.length = 2 ^ m) : ∃ q L, (q = 0 ∨ q = 3) ∧ (∀ w, Ints w v zs → Calls Try.prog 37 #[.int .i64 m, v] w (ResI w q m L)) ∧ (∀ w, Ints w v zs → Calls Try.prog 38 #[.int .i64 m, v] w (BoolM w q m L)) := by
  have K := rk_link hm hl
  refine ⟨qOf (RkZ m (zs.getD · 0)), basZ m zs, qOf_two _, fun w h => ?_, fun w h => ?_⟩
  · have := OfRk_any m v zs w hm hl h
    by_cases hx : RkZ m (zs.getD · 0)
    · rw [(K.1 hx).1] at this; rw [qOf_pos hx]; exact this.mono fun e w' h9 => h9.res
    · rw [K.2 hx] at this; rw [qOf_neg hx]; exact this.mono fun e w' h9 => h9.res
  · exact (OfRanks_ref m v zs w hm hl h).mono fun e w' h9 => h9.list fun hq => by
      by_cases hx : RkZ m (zs.getD · 0)
      · exact (K.1 hx).2.symm
      · rw [qOf_neg hx] at hq; cases hq
end Go.Proofs.Ythbldeloocmakaa
