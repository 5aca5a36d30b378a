/- A slice of numbers that a call has made; what an append makes of it. -/
import Derived.Test.YtgdcfogikchjeaaIntsW
import Derived.Test.YtgdcfogikchjeaaPlainAll
namespace Go.Proofs.Ytgdcfogikchjeaa
open Go.RowKit

theorem Try.infoInt : (Try.prog.info? 3).map (fun i => (i.zero, i.size, i.bytes)) = some (some (.int .i64 0), 1, 8) := by kernel_rfl
def V (l : List Nat) : List Value := l.map fun s : Nat => Value.int .i64 (s : Int)
theorem V_len (l : List Nat) : (V l).length = l.length := by simp [V]
theorem V_snoc (l : List Nat) (s : Nat) : V (l ++ [s]) = V l ++ [.int .i64 s] := by simp [V]
/-- v is a slice of the call's own that holds l. -/
def Own (B : Nat) (w : World) (v : Value) (l : List Nat) : Prop := w.ownsRow B 3 1 v l.length (V l)
theorem Own.nil (B : Nat) (w : World) : Own B w (.slice none 0 0) [] := World.ownsRow_nil _ _ _ _
theorem Own.snoc {B : Nat} {w : World} {v : Value} {l : List Nat} {s : Nat} (h : w.ownsRow B 3 1 v (l.length + 1) (V l ++ [.int .i64 s])) : Own B w v (l ++ [s]) := by
  unfold Own; rw [V_snoc]; simpa using h
theorem Own.grown {B : Nat} {w wr w1 : World} {u : Value} {l : List Nat} {o : Obj} (hown : Own B wr u l) (hnx : Below B w wr) (hB : B ≤ wr.heap.size) (hg : (wr.alloc o).grownBy w1 u.ownBlock) : Below B w w1 :=
  (hnx.alloc hB o).grown hg (by simp; omega) (fun j hj => (World.ownsRow.lt hown j hj).1)
theorem Own.below {B : Nat} {w w' : World} {v : Value} {l : List Nat} (h : Own B w v l) (hb : Below w.heap.size w w') : Own B w' v l := by
  obtain ⟨h0, h1⟩ := h
  refine ⟨h0, h1.imp_right ?_⟩
  rintro ⟨g, cap, cur, hv, hg, hheap, hr⟩
  have hlt : g < w.heap.size := by
    rcases Nat.lt_or_ge g w.heap.size with h | h
    · exact h
    · rw [Array.getElem?_eq_none h] at hheap; cases hheap
  exact ⟨g, cap, cur, hv, hg, (hb.block g hlt).trans hheap, hr⟩
theorem Own.mono {B B' : Nat} {w : World} {v : Value} {l : List Nat} (h : Own B w v l) (hb : B' ≤ B) : Own B' w v l := Go.Joins.ownsRow_le h hb
theorem Own.ints {B : Nat} {w : World} {v : Value} {l : List Nat} (h : Own B w v l) (hl : l.length ≤ 17592186044416) : Ints w v (N l) := by
  rcases Go.Joins.ownsRow_forms h with ⟨rfl, h0⟩ | ⟨g, cap, rfl⟩
  · have : l = [] := List.length_eq_zero_iff.1 h0
    subst this
    exact ⟨none, 0, rfl, by simp [N], fun h => by simp [N] at h⟩
  · refine ⟨_, cap, by rw [N_len], by rw [N_len]; exact hl, fun hn => ⟨g, 0, rfl, ?_, fun i hi => ?_⟩⟩
    · exact (World.ownsRow.lt h g rfl).2
    · rw [N_len] at hi
      rw [Nat.zero_add, World.ownsRow.cellAt h i (by omega), N_getD]
      simp [V, List.getD, hi]

theorem Tabbed.below {w w' : World} (_ : Tabbed w) (_ : Below w.heap.size w w') : Tabbed w' := trivial

theorem take_snoc {l : List Nat} {k : Nat} (h : k < l.length) : l.take (k + 1) = l.take k ++ [l.getD k 0] := by
  rw [List.take_add_one]; simp [List.getD, h]
theorem filter_hit {p : Nat → Bool} {l : List Nat} {k : Nat} (h : k < l.length) (hp : p (l.getD k 0) = true) : (l.take (k + 1)).filter p = (l.take k).filter p ++ [l.getD k 0] := by
  rw [take_snoc h, List.filter_append, List.filter_cons, hp]; simp
theorem filter_miss {p : Nat → Bool} {l : List Nat} {k : Nat} (h : k < l.length) (hp : p (l.getD k 0) = false) : (l.take (k + 1)).filter p = (l.take k).filter p := by
  rw [take_snoc h, List.filter_append, List.filter_cons, hp]; simp
theorem filter_le (p : Nat → Bool) (l : List Nat) (k : Nat) : ((l.take k).filter p).length ≤ k := Nat.le_trans (List.length_filter_le _ _) (List.length_take_le _ _)
theorem family_err (n : Int) (v : Value) (zs : List Int) (w : World) (h : Ints w v zs) (hf : famR n zs ≠ 0) : ∃ a cap, v = .slice a zs.length cap ∧ famR n zs = 1 := by
  obtain ⟨a, cap, hv, _⟩ := h
  refine ⟨a, cap, hv, ?_⟩
  unfold famR at *
  split at hf
  · exact absurd rfl hf
  · rename_i h; rw [if_neg h]
end Go.Proofs.Ytgdcfogikchjeaa

namespace Go.Proofs.Ytgdcfogikchjeaa
open Go.RowKit

theorem rises_fam {T : Int} : ∀ (zs : List Int) (last : Int), risesB T last zs = true → -1 ≤ last → ∃ l : List Nat, zs = N l ∧ l.Pairwise (· < ·) ∧ ∀ s ∈ l, last < (s : Int) ∧ (s : Int) < T
  | [], _, _, _ => ⟨[], rfl, List.Pairwise.nil, by simp⟩
  | z :: zs, last, h, hl => by
    simp only [risesB, Bool.and_eq_true, decide_eq_true_eq] at h
    obtain ⟨l, rfl, h2, h3⟩ := rises_fam zs z h.2 (by omega)
    refine ⟨z.toNat :: l, ?_, ?_, ?_⟩
    · simp only [N, List.map_cons]; congr 1; omega
    · rw [List.pairwise_cons]; exact ⟨fun s hs => by have := h3 s hs; omega, h2⟩
    · intro s hs
      rw [List.mem_cons] at hs
      rcases hs with rfl | hs
      · omega
      · have := h3 s hs; omega
theorem fam_rises {T : Int} : ∀ (l : List Nat) (last : Int), l.Pairwise (· < ·) → (∀ s ∈ l, last < (s : Int) ∧ (s : Int) < T) → risesB T last (N l) = true
  | [], _, _, _ => rfl
  | s :: l, last, hp, h => by
    rw [List.pairwise_cons] at hp
    have h1 := h s (by simp)
    show (decide (last < (s : Int)) && decide ((s : Int) < T) && risesB T s (N l)) = true
    rw [fam_rises l s hp.2 fun t ht => ⟨by have := hp.1 t ht; omega, (h t (by simp [ht])).2⟩]
    simp [h1.1, h1.2]
theorem fam_of {n : Int} {zs : List Int} (h : famR n zs = 0) : ∃ (m : Nat) (l : List Nat), n = m ∧ m ≤ 8 ∧ zs = N l ∧ Fam m l := by
  unfold famR at h
  split at h
  · rename_i g
    obtain ⟨l, h1, h2, h3⟩ := rises_fam zs (-1) g.2.2 (by omega)
    refine ⟨n.toNat, l, by omega, by omega, h1, h2, fun s hs => ?_⟩
    have := (h3 s hs).2
    have e : ((2 ^ n.toNat : Nat) : Int) = (2 : Int) ^ n.toNat := by simp
    omega
  · simp at h
theorem fam_mk {m : Nat} {l : List Nat} (hm : m ≤ 8) (h : Fam m l) : famR m (N l) = 0 := by
  unfold famR
  rw [if_pos]
  refine ⟨by omega, by omega, fam_rises l _ h.up fun s hs => ⟨by omega, ?_⟩⟩
  have := h.lt s hs
  have e : ((2 ^ m : Nat) : Int) = (2 : Int) ^ m := by simp
  simp only [Int.toNat_natCast]
  omega

theorem Ints.lit1 (w : World) (a : Int) : Ints (w.alloc (.cells #[.int .i64 a] 3)) (.slice (some ⟨w.heap.size, 0, none⟩) 1 1) [a] :=
  ⟨_, 1, rfl, by simp, fun _ => ⟨w.heap.size, 0, rfl, by simp, fun i hi => by
    have : i = 0 := by simpa using hi
    subst this
    rw [World.cell?_alloc_at _ _ _ _ rfl]; rfl⟩⟩
theorem Ints.lit2 (w : World) (a b : Int) : Ints (w.alloc (.cells #[.int .i64 a, .int .i64 b] 3)) (.slice (some ⟨w.heap.size, 0, none⟩) 2 2) [a, b] :=
  ⟨_, 2, rfl, by simp, fun _ => ⟨w.heap.size, 0, rfl, by simp, fun i hi => by
    rw [World.cell?_alloc_at _ _ _ _ rfl]
    match i, hi with
    | 0, _ => rfl
    | 1, _ => rfl⟩⟩
theorem Ints.lit3 (w : World) (a b c : Int) : Ints (w.alloc (.cells #[.int .i64 a, .int .i64 b, .int .i64 c] 3)) (.slice (some ⟨w.heap.size, 0, none⟩) 3 3) [a, b, c] :=
  ⟨_, 3, rfl, by simp, fun _ => ⟨w.heap.size, 0, rfl, by simp, fun i hi => by
    rw [World.cell?_alloc_at _ _ _ _ rfl]
    match i, hi with
    | 0, _ => rfl
    | 1, _ => rfl
    | 2, _ => rfl⟩⟩
theorem below_alloc (w : World) (o : Obj) : Below w.heap.size w (w.alloc o) := (Below.refl _ _).alloc (Nat.le_refl _) o
end Go.Proofs.Ytgdcfogikchjeaa

namespace Go.Proofs.Ytgdcfogikchjeaa
open Go.RowKit

/-- A function value that answers as p does below T, wherever nothing below B has turned. -/
def AnswersTo (B : Nat) (w : World) (g : Nat) (cs : Array Value) (T : Nat) (p : Nat → Bool) : Prop :=
  ∀ x, x < T → ∀ w1, Below B w w1 → B ≤ w1.heap.size → Calls Try.prog g (#[.int .i64 (x : Nat)] ++ cs) w1 fun e w2 => e = .returned (.bool (p x)) ∧ Below w1.heap.size w1 w2
/-- The function can be entered. -/
def Enters (g : Nat) : Prop := ∀ (args : Array Value) (w : World), (callFunc g args).run Try.prog w = .ok (.enter g args) w
theorem rg_hit {p : Nat → Bool} {k : Nat} (hp : p k = true) : (List.range (k + 1)).filter p = (List.range k).filter p ++ [k] := by
  rw [List.range_succ, List.filter_append]; simp [hp]
theorem rg_miss {p : Nat → Bool} {k : Nat} (hp : p k = false) : (List.range (k + 1)).filter p = (List.range k).filter p := by
  rw [List.range_succ, List.filter_append]; simp [hp]
theorem rg_le (p : Nat → Bool) (k : Nat) : ((List.range k).filter p).length ≤ k := by
  have := List.length_filter_le p (List.range k)
  rwa [List.length_range] at this

set_option maxHeartbeats 1600000 in
theorem Sieve_any (n g : Nat) (cs : Array Value) (p : Nat → Bool) (w : World) (hn : n ≤ 8) (eg : Enters g) (hg : AnswersTo w.heap.size w g cs (2 ^ n) p) :
    Calls Try.prog 33 #[.int .i64 n, .func (.func g) #[] cs] w fun e w' => ∃ r, e = .returned r ∧ Own w.heap.size w' r ((List.range (2 ^ n)).filter p) ∧ Below w.heap.size w w' := by
  obtain ⟨i0, hi, hz0, hz1, hz2⟩ := info_parts Try.infoInt
  have HG := hid hg
  clear hg
  unfold Enters at eg
  obtain ⟨T, HT, hT2, hT⟩ : ∃ T : Nat, Hid (T = 2 ^ n) ∧ T ≤ 256 ∧ wrap64 (2 ^ n) = (T : Int) := ⟨2 ^ n, rfl, (pow_wrap _ hn).2, (pow_wrap _ hn).1⟩
  rw [← HT.out] at HG ⊢
  go_enter Try.func33, Try.ntmps33
  go_wp2_with fail
  try rw [hT]
  go_loopw [5, 9] (fun u i wr => ∃ k : Nat, k ≤ T ∧ i = .int .i64 k ∧ Own w.heap.size wr u ((List.range k).filter p) ∧ Below w.heap.size w wr) (fun _ i _ => T - (intOf i).toNat)
  case atStart => exact ⟨0, Nat.zero_le _, rfl, Own.nil _ _, Below.refl _ _⟩
  case round =>
    obtain ⟨k, hk, rfl, hown, hnx⟩ := hrel
    have hsz := hnx.size
    by_cases hlt : k < T
    · have Hhit := hid (fun hp => rg_hit (p := p) (k := k) hp)
      have Hmiss := hid (fun hp => rg_miss (p := p) (k := k) hp)
      have hfl := rg_le p k
      have HO := hid hown
      have G := hid (HG.out k hlt wr hnx hsz)
      clear hown
      generalize (List.range k).filter p = acc at *
      rcases hq : p k with _ | _
      · have HQ := hid hq
        clear hq
        go_wp2_with fail
        refine G.out.mono ?_
        rw [HQ.out]
        rintro e w2 ⟨rfl, hb2⟩
        have R1 := hid (HO.out.below hb2)
        have R2 := hid (hnx.trans (hb2.mono hsz))
        clear hb2
        go_wp2_with fail
        go_roundw
        case rel => exact ⟨k + 1, by omega, by go_num, by rw [Hmiss.out HQ.out]; exact R1.out, R2.out⟩
        case measure => simp [intOf]; omega
      · have HQ := hid hq
        clear hq
        go_wp2_with fail
        refine G.out.mono ?_
        rw [HQ.out]
        rintro e w2 ⟨rfl, hb2⟩
        have R1 := hid (HO.out.below hb2)
        have R2 := hnx.trans (hb2.mono hsz)
        have hs2 := hb2.size
        clear hb2
        go_wp2_with (at_builtin; refine wpList_append_own _ rfl _ _ 31 rfl w.heap.size 3 i0 (.int .i64 0) 1 8 Try.underlying31 hi hz0 hz1 hz2 rfl (by decide) _ _ _ rfl (R1.out.alloc _) ⟨w2.heap.size, 0, none⟩ 1 1 [.int .i64 (k : Nat)] rfl rfl ?c1 ?c2 ?c3 ?c4 ?c5 ?_)
        case c1 => exact cell_one_new _ _ _
        case c2 => intro u hu; simp at hu; subst hu; rfl
        case c3 => unfold maxLen; omega
        case c4 => omega
        case c5 => simp; omega
        intro v' w3 hown' hgrow _
        have R3 := hid (Own.snoc hown')
        have R4 := hid (Own.grown R1.out R2 (by omega) hgrow)
        clear hown' hgrow
        go_wp2_with fail
        go_roundw
        case rel => exact ⟨k + 1, by omega, by go_num, by rw [Hhit.out HQ.out]; exact R3.out, R4.out⟩
        case measure => simp [intOf]; omega
    · have hk' : k = T := by omega
      subst hk'
      go_wp2_with fail
      go_ret
      exact ⟨_, rfl, hown, hnx⟩
end Go.Proofs.Ytgdcfogikchjeaa
