/- From what Check answers to matroids. -/
import Derived.Test.YtdabkgbbalooiaaDoorCheckW
import Derived.Test.YtdabkgbbalooiaaDoorOwnW
import Derived.Deep.QuietTactic
import Derived.BigQuiet
import Derived.Test.YtdabkgbbalooiaaDoorGiveQ
import Derived.Deep.RegionWith
import Derived.Deep.OwnRows
namespace Go.Proofs.YtdabkgbbalooiaaDoor
open Go.RowKit

theorem give_iff {p : Nat → Bool} {a b : Nat} (ha : a < 256) (hb : b < 256) : giveB p a b = true ↔ ∀ x, a.testBit x = true → b.testBit x = false → ∃ y, b.testBit y = true ∧ a.testBit y = false ∧ p (rm a x ||| 2 ^ y) = true := by
  unfold giveB takeB
  simp only [List.all_eq_true, List.any_eq_true, mem_els (dif_lt ha), mem_els (dif_lt hb), dif_bit, Bool.and_eq_true, Bool.not_eq_true']
  constructor
  · intro h x h1 h2
    obtain ⟨y, h3, h4⟩ := h x ⟨h1, h2⟩
    exact ⟨y, h3.1, h3.2, h4⟩
  · intro h x h1
    obtain ⟨y, h3, h4, h5⟩ := h x h1.1 h1.2
    exact ⟨y, ⟨h3, h4⟩, h5⟩
theorem one_iff {l : List Nat} : oneB l = true ↔ ∀ a ∈ l, ∀ b ∈ l, pop a = pop b := by
  unfold oneB
  simp only [List.all_eq_true, beq_iff_eq]
  constructor
  · intro h a ha b hb
    rw [h a ha, h b hb]
  · intro h a ha
    cases l with
    | nil => cases ha
    | cons x l => exact h a ha x (by simp)
theorem bas_iff {l : List Nat} (hl : ∀ s ∈ l, s < 256) : Bas l ↔ l ≠ [] ∧ oneB l = true ∧ exchB l = true := by
  have hx : exchB l = true ↔ ∀ a ∈ l, ∀ b ∈ l, ∀ x, a.testBit x = true → b.testBit x = false → ∃ y, b.testBit y = true ∧ a.testBit y = false ∧ rm a x ||| 2 ^ y ∈ l := by
    unfold exchB
    simp only [List.all_eq_true]
    constructor
    · intro h a ha b hb
      have := (give_iff (hl a ha) (hl b hb)).1 (h a ha b hb)
      simpa only [memB, decide_eq_true_eq] using this
    · intro h a ha b hb
      refine (give_iff (hl a ha) (hl b hb)).2 ?_
      simpa only [memB, decide_eq_true_eq] using h a ha b hb
  rw [hx, one_iff]
  exact ⟨fun h => ⟨h.ne, h.size, h.exch⟩, fun h => ⟨hl, h.2.1, h.2.2, h.1⟩⟩
theorem chk_of {n : Int} {zs : List Int} (h : chkR n zs = 0) : ∃ (m : Nat) (l : List Nat), n = m ∧ m ≤ 8 ∧ zs = N l ∧ Fam m l ∧ Bas l := by
  unfold chkR at h
  split at h
  · cases h
  · rename_i hf
    have hf' : famR n zs = 0 := Classical.byContradiction fun e => hf e
    obtain ⟨m, l, rfl, hm, rfl, hfam⟩ := fam_of hf'
    refine ⟨m, l, rfl, hm, rfl, hfam, ?_⟩
    rw [N_back] at h
    split at h
    · cases h
    · rename_i h1
      split at h
      · rename_i h2
        refine (bas_iff (hfam.lt256 hm)).2 ⟨fun e => h1 (.inl (by subst e; rfl)), ?_, h2⟩
        cases ho : oneB l
        · exact absurd (.inr ho) h1
        · rfl
      · cases h
theorem chk_mk {m : Nat} {l : List Nat} (hm : m ≤ 8) (hf : Fam m l) (hb : Bas l) : chkR m (N l) = 0 := by
  obtain ⟨h1, h2, h3⟩ := (bas_iff (hf.lt256 hm)).1 hb
  unfold chkR
  rw [fam_mk hm hf, N_back, h2, h3]
  have : N l ≠ [] := fun e => h1 (by unfold N at e; simpa using e)
  simp [this]
end Go.Proofs.YtdabkgbbalooiaaDoor

namespace Go.Proofs.YtdabkgbbalooiaaDoor
open Go.RowKit

/-- A function value that answers as p does below T, wherever nothing below B has turned. -/
def AnswersTo (B : Nat) (w : World) (g : Nat) (cs : Array Value) (T : Nat) (p : Nat → Bool) : Prop :=
  ∀ x, x < T → ∀ w1, Below B w w1 → B ≤ w1.heap.size → Calls Tryd.prog g (#[.int .i64 (x : Nat)] ++ cs) w1 fun e w2 => e = .returned (.bool (p x)) ∧ Below w1.heap.size w1 w2
/-- The function can be entered. -/
def Enters (g : Nat) : Prop := ∀ (args : Array Value) (w : World), (callFunc g args).run Tryd.prog w = .ok (.enter g args) w
theorem rg_hit {p : Nat → Bool} {k : Nat} (hp : p k = true) : (List.range (k + 1)).filter p = (List.range k).filter p ++ [k] := by
  rw [List.range_succ, List.filter_append]; simp [hp]
theorem rg_miss {p : Nat → Bool} {k : Nat} (hp : p k = false) : (List.range (k + 1)).filter p = (List.range k).filter p := by
  rw [List.range_succ, List.filter_append]; simp [hp]
theorem rg_le (p : Nat → Bool) (k : Nat) : ((List.range k).filter p).length ≤ k := by
  have := List.length_filter_le p (List.range k)
  rwa [List.length_range] at this

set_option maxHeartbeats 1600000 in
theorem Sieve_any (n g : Nat) (cs : Array Value) (p : Nat → Bool) (w : World) (hn : n ≤ 8) (eg : Enters g) (hg : AnswersTo w.heap.size w g cs (2 ^ n) p) :
    Calls Tryd.prog 41 #[.int .i64 n, .func (.func g) #[] cs] w fun e w' => ∃ r, e = .returned r ∧ Own w.heap.size w' r ((List.range (2 ^ n)).filter p) ∧ Below w.heap.size w w' := by
  obtain ⟨i0, hi, hz0, hz1, hz2⟩ := info_parts Tryd.infoInt
  have HG := hid hg
  clear hg
  unfold Enters at eg
  obtain ⟨T, HT, hT2, hT⟩ : ∃ T : Nat, Hid (T = 2 ^ n) ∧ T ≤ 256 ∧ wrap64 (2 ^ n) = (T : Int) := ⟨2 ^ n, rfl, (pow_wrap _ hn).2, (pow_wrap _ hn).1⟩
  rw [← HT.out] at HG ⊢
  go_enter Tryd.func41, Tryd.ntmps41
  go_wp2_with fail
  try rw [hT]
  go_loopw [5, 9] (fun u i wr => ∃ k : Nat, k ≤ T ∧ i = .int .i64 k ∧ Own w.heap.size wr u ((List.range k).filter p) ∧ Below w.heap.size w wr) (fun _ i _ => T - (intOf i).toNat)
  case atStart => exact ⟨0, Nat.zero_le _, rfl, Own.nil _ _, Below.refl _ _⟩
  case round =>
    obtain ⟨k, hk, rfl, hown, hnx⟩ := hrel
    have hsz := hnx.size
    by_cases hlt : k < T
    · have Hhit := hid (fun hp => rg_hit (p := p) (k := k) hp)
      have Hmiss := hid (fun hp => rg_miss (p := p) (k := k) hp)
      have hfl := rg_le p k
      have HO := hid hown
      have G := hid (HG.out k hlt wr hnx hsz)
      clear hown
      generalize (List.range k).filter p = acc at *
      rcases hq : p k with _ | _
      · have HQ := hid hq
        clear hq
        go_wp2_with fail
        refine G.out.mono ?_
        rw [HQ.out]
        rintro e w2 ⟨rfl, hb2⟩
        have R1 := hid (HO.out.below hb2)
        have R2 := hid (hnx.trans (hb2.mono hsz))
        clear hb2
        go_wp2_with fail
        go_roundw
        case rel => exact ⟨k + 1, by omega, by go_num, by rw [Hmiss.out HQ.out]; exact R1.out, R2.out⟩
        case measure => simp [intOf]; omega
      · have HQ := hid hq
        clear hq
        go_wp2_with fail
        refine G.out.mono ?_
        rw [HQ.out]
        rintro e w2 ⟨rfl, hb2⟩
        have R1 := hid (HO.out.below hb2)
        have R2 := hnx.trans (hb2.mono hsz)
        have hs2 := hb2.size
        clear hb2
        go_wp2_with (at_builtin; refine wpList_append_own _ rfl _ _ 28 rfl w.heap.size 3 i0 (.int .i64 0) 1 8 Tryd.underlying28 hi hz0 hz1 hz2 rfl (by decide) _ _ _ rfl (R1.out.alloc _) ⟨w2.heap.size, 0, none⟩ 1 1 [.int .i64 (k : Nat)] rfl rfl ?c1 ?c2 ?c3 ?c4 ?c5 ?_)
        case c1 => exact cell_one_new _ _ _
        case c2 => intro u hu; simp at hu; subst hu; rfl
        case c3 => unfold maxLen; omega
        case c4 => omega
        case c5 => simp; omega
        intro v' w3 hown' hgrow _
        have R3 := hid (Own.snoc hown')
        have R4 := hid (Own.grown R1.out R2 (by omega) hgrow)
        clear hown' hgrow
        go_wp2_with fail
        go_roundw
        case rel => exact ⟨k + 1, by omega, by go_num, by rw [Hhit.out HQ.out]; exact R3.out, R4.out⟩
        case measure => simp [intOf]; omega
    · have hk' : k = T := by omega
      subst hk'
      go_wp2_with fail
      go_ret
      exact ⟨_, rfl, hown, hnx⟩
end Go.Proofs.YtdabkgbbalooiaaDoor

namespace Go.Proofs.YtdabkgbbalooiaaDoor
open Go.RowKit Go.Shelf
attribute [local go_sem] Oper.semAt_some

/-- v is a slice that holds r's numbers of 0 to T - 1. -/
def RkAt (w : World) (v : Value) (T : Nat) (r : Nat → Nat) : Prop := ∃ b off cap, v = .slice (some ⟨b, off, none⟩) T cap ∧ b < w.heap.size ∧ ∀ i, i < T → w.cell? ⟨b, off + i, none⟩ = some (.int .i64 (r i : Nat))
theorem RkAt.below {w w' : World} {v : Value} {T : Nat} {r : Nat → Nat} (h : RkAt w v T r) (hb : Below w.heap.size w w') : RkAt w' v T r := by
  obtain ⟨b, off, cap, rfl, h1, h2⟩ := h
  exact ⟨b, off, cap, rfl, Nat.lt_of_lt_of_le h1 hb.size, fun i hi => (hb.cell (p := ⟨b, off + i, none⟩) h1).trans (h2 i hi)⟩

end Go.Proofs.YtdabkgbbalooiaaDoor

namespace Go.Proofs.YtdabkgbbalooiaaDoor
open Go.RowKit

/-- m is a matroid's value: n and a slice that holds bs. -/
def Mat (w : World) (m : Value) (n : Int) (zs : List Int) : Prop := ∃ v, m = .agg #[.int .i64 n, v] ∧ Ints w v zs
theorem Mat.below {w w' : World} {m : Value} {n : Int} {zs : List Int} (h : Mat w m n zs) (hb : Below w.heap.size w w') : Mat w' m n zs := by
  obtain ⟨v, rfl, hv⟩ := h
  exact ⟨v, rfl, hv.below hb⟩

/-- A block of T numbers. -/
structure Tbl (g : Nat) (w : World) (T : Nat) (f : Nat → Nat) : Prop where
  cell : ∀ i, i < T → w.cell? ⟨g, i, none⟩ = some (.int .i64 (f i : Nat))
  frozen : ∀ i, w.frozen? ⟨g, i, none⟩ = false
  size : g < w.heap.size
theorem Tbl.set {g : Nat} {w : World} {T : Nat} {f f' : Nat → Nat} (h : Tbl g w T f) (j x : Nat) (hj : j < T) (hf : ∀ i, i < T → f' i = if j = i then x else f i) : Tbl g (w.setCell ⟨g, j, none⟩ (.int .i64 (x : Nat))) T f' := by
  refine ⟨fun i hi => ?_, fun i => (World.frozen?_setCell _ _ _ _).trans (h.frozen i), by simpa using h.size⟩
  rw [hf i hi]
  by_cases e : j = i
  · subst e
    rw [World.cell?_setCell_same _ _ _ (h.cell j hj)]; simp
  · rw [World.cell?_setCell_other _ _ _ _ (by simp), h.cell i hi]
    simp [e]
theorem Tbl.congr {g : Nat} {w : World} {T : Nat} {f f' : Nat → Nat} (h : Tbl g w T f) (hf : ∀ i, i < T → f' i = f i) : Tbl g w T f' := ⟨fun i hi => by rw [hf i hi]; exact h.cell i hi, h.frozen, h.size⟩
theorem Tbl.drewN {g : Nat} {w : World} {T : Nat} {f : Nat → Nat} (h : Tbl g w T f) (n : Nat) : Tbl g (w.drewN n) T f := ⟨h.cell, h.frozen, h.size⟩
theorem Tbl.drew {g : Nat} {w : World} {T : Nat} {f : Nat → Nat} (h : Tbl g w T f) : Tbl g w.drew T f := ⟨h.cell, h.frozen, h.size⟩
theorem Tbl.new (w : World) (T : Nat) : Tbl w.heap.size (w.alloc (.cells (madeCells #[.int .i64 0] T) 3)) T (fun _ => 0) := by
  refine ⟨fun i hi => ?_, fun i => World.frozen?_alloc_at _ _ _ _ rfl, by simp⟩
  rw [World.cell?_alloc_at _ _ _ _ rfl]
  simp [madeCells, hi, Nat.mod_one]
theorem Tbl.rkAt {g : Nat} {w : World} {T cap : Nat} {f : Nat → Nat} (h : Tbl g w T f) : RkAt w (.slice (some ⟨g, 0, none⟩) T cap) T f := ⟨g, 0, cap, rfl, h.size, fun i hi => by rw [Nat.zero_add]; exact h.cell i hi⟩
/-- The rank by the first k bases. -/
def rkTo (l : List Nat) (k s : Nat) : Nat := rk (l.take k) s
theorem rkTo_succ {l : List Nat} {k : Nat} (h : k < l.length) (s : Nat) : rkTo l (k + 1) s = max (rkTo l k s) (pop (s &&& l.getD k 0)) := by
  unfold rkTo rk
  rw [take_snoc h, List.foldl_append]
  rfl
theorem rk_le8 (l : List Nat) (hl : ∀ s ∈ l, s < 256) (s : Nat) : rk l s ≤ 8 := by
  rcases fold_at (fun b => pop (s &&& b)) l 0 with g | ⟨b, hb, g⟩
  · unfold rk; omega
  · have := pop_le (s &&& b) (by rw [Nat.and_comm]; exact and_lt (hl b hb))
    unfold rk
    omega

end Go.Proofs.YtdabkgbbalooiaaDoor

namespace Go.Proofs.YtdabkgbbalooiaaDoor
open Go.RowKit

/-- What sets.Check answers. -/
def setR (n s : Int) : Int := if 0 ≤ n ∧ n ≤ 8 ∧ 0 ≤ s ∧ s < 2 ^ n.toNat then 0 else 1

/-- A function of package axioms that answers as p does by r. -/
def ByRank (g T : Nat) (r : Nat → Nat) (p : Nat → Bool) : Prop := ∀ (v : Value) (s : Nat) (w : World), s < T → RkAt w v T r → Calls Tryd.prog g #[v, .int .i64 s] w fun e w' => e = .returned (.bool (p s)) ∧ Below w.heap.size w w'
theorem Sieve_at (n T g : Nat) (hT : T = 2 ^ n) (cs : Array Value) (p : Nat → Bool) (w : World) (hn : n ≤ 8) (eg : Enters g) (hg : AnswersTo w.heap.size w g cs T p) :
    Calls Tryd.prog 41 #[.int .i64 n, .func (.func g) #[] cs] w fun e w' => ∃ r, e = .returned r ∧ Own w.heap.size w' r ((List.range T).filter p) ∧ Below w.heap.size w w' := by
  subst hT
  exact Sieve_any n g cs p w hn eg hg
end Go.Proofs.YtdabkgbbalooiaaDoor

namespace Go.Proofs.YtdabkgbbalooiaaDoor
open Go.RowKit

theorem in_fact : ∀ s : Nat, s < 256 → ∀ i : Nat, i < 8 → ((s : Int) / 2 ^ i % 2 == 1) = s.testBit i := by decide +kernel

theorem range_hit' {p : Nat → Bool} {k : Nat} (hp : p k = true) : (List.range (k + 1)).filter p = (List.range k).filter p ++ [k] := by
  rw [List.range_succ, List.filter_append, List.filter_cons, hp]; simp
theorem range_miss' {p : Nat → Bool} {k : Nat} (hp : p k = false) : (List.range (k + 1)).filter p = (List.range k).filter p := by
  rw [List.range_succ, List.filter_append, List.filter_cons, hp]; simp
theorem range_le' (p : Nat → Bool) (k : Nat) : ((List.range k).filter p).length ≤ k := by
  have := List.length_filter_le p (List.range k); simpa using this

theorem Own.form {B : Nat} {w : World} {v : Value} {l : List Nat} (h : Own B w v l) : ∃ a cap, v = .slice a l.length cap := by
  rcases Go.Joins.ownsRow_forms h with ⟨rfl, h0⟩ | ⟨g, cap, rfl⟩
  · exact ⟨none, 0, by rw [h0]⟩
  · exact ⟨_, cap, rfl⟩

theorem same_step {zs ys : List Int} {k : Nat} (hl : zs.length = ys.length) (hk : k < zs.length) : decide (zs.drop k = ys.drop k) = (decide (zs.getD k 0 = ys.getD k 0) && decide (zs.drop (k + 1) = ys.drop (k + 1))) := by
  rw [drop_getD hk, drop_getD (by omega : k < ys.length), Bool.eq_iff_iff]
  simp

end Go.Proofs.YtdabkgbbalooiaaDoor
