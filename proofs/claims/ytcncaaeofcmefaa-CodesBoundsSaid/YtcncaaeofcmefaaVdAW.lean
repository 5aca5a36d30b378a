/- rotaref.Hang. -/
import Derived.Test.YtcncaaeofcmefaaFdQQ
import Derived.Test.YtcncaaeofcmefaaFdNQ
import Derived.Test.YtcncaaeofcmefaaFdSW
import Derived.Test.YtcncaaeofcmefaaPlainAll2
import Derived.Test.YtcncaaeofcmefaaOldNW
namespace Go.Proofs.Ytcncaaeofcmefaa
open Go.RowKit

end Go.Proofs.Ytcncaaeofcmefaa

namespace Go.Proofs.Ytcncaaeofcmefaa
open Go.RowKit

variable {p : Int} {c : Nat} {R : List (List Int)}
theorem red_congr {m N : Nat} {f0 g : Nat → Nat → Int} (hp : isP p) (h0 : ∀ i, i < N → ∀ r, r < m → 0 ≤ f0 i r ∧ f0 i r < p) (e : ∀ i, i < N → ∀ r, r < m → g i r = f0 i r) : redN p m N g = redN p m N f0 ∧ ∀ i, i < redN p m N g → ∀ r, r < m → redF p m N g i r = redF p m N f0 i r :=
  red_uniq hp (fun i hi r hr => by rw [e i hi r hr]; exact h0 i hi r hr) h0 (fun i hi => (InS.of hi).cg fun r hr => Em.of (e i hi r hr)) fun i hi => (InS.of hi).cg fun r hr => Em.of (e i hi r hr).symm
theorem redL_mat {N : Nat} {f : Nat → Nat → Int} (hp : isP p) (h0 : ∀ i, i < N → ∀ r, r < c → 0 ≤ f i r ∧ f i r < p) : redL p c (matL N c f) = matL (redN p c N f) c (redF p c N f) := by
  obtain ⟨e1, e2⟩ := red_congr (m := c) (g := rowF (matL N c f)) hp h0 fun i hi r hr => rowF_matL hi hr f
  show matL (redN p c (matL N c f).length (rowF (matL N c f))) c (redF p c (matL N c f).length (rowF (matL N c f))) = _
  rw [matL_len, ← e1]
  exact matL_congr e2
theorem bgN_congr {m : Nat} {q q' : Nat → Int} (h : ∀ r, r < m → q r = q' r) : bgN m q = bgN m q' := by
  unfold bgN
  have : (List.range m).find? (fun r => q r == 1) = (List.range m).find? (fun r => q' r == 1) := by
    have hm : ∀ l : List Nat, (∀ r ∈ l, r < m) → l.find? (fun r => q r == 1) = l.find? (fun r => q' r == 1) := fun l => by
      induction l with
      | nil => intro _; rfl
      | cons a l ih =>
        intro hl
        rw [List.find?_cons, List.find?_cons, h a (hl a (List.mem_cons_self ..)), ih fun r hr => hl r (List.mem_cons_of_mem _ hr)]
    exact hm _ fun r hr => List.mem_range.1 hr
  rw [this]
theorem nbB_congr {k : Nat} {b b' : Nat → Nat} (h : ∀ i, i < k → b i = b' i) : nbB k b = nbB k b' := funext fun a => by
  rw [Bool.eq_iff_iff, nbB_iff, nbB_iff]
  exact ⟨fun h1 i hi => by rw [← h i hi]; exact h1 i hi, fun h1 i hi => by rw [h i hi]; exact h1 i hi⟩
theorem acF_congr {k m a r : Nat} {f f' : Nat → Nat → Int} {b b' : Nat → Nat} (ha : a < m) (hf : ∀ i, i < k → ∀ r, r < m → f i r = f' i r) (h : ∀ i, i < k → b i = b' i) : acF p k f b a r = acF p k f' b' a r := by
  unfold acF
  have : (List.range k).find? (fun i => b i == r) = (List.range k).find? (fun i => b' i == r) := by
    have hm : ∀ l : List Nat, (∀ i ∈ l, i < k) → l.find? (fun i => b i == r) = l.find? (fun i => b' i == r) := fun l => by
      induction l with
      | nil => intro _; rfl
      | cons a l ih =>
        intro hl
        rw [List.find?_cons, List.find?_cons, h a (hl a (List.mem_cons_self ..)), ih fun r hr => hl r (List.mem_cons_of_mem _ hr)]
    exact hm _ fun r hr => List.mem_range.1 hr
  rw [this]
  split
  · rfl
  · split
    · rename_i i hi
      rw [hf i (List.mem_range.1 (List.mem_of_find?_eq_some hi)) a ha]
    · rfl
theorem Rref.congr {m k : Nat} {f f' : Nat → Nat → Int} {b : Nat → Nat} (h : Rref p m k f b) (e : ∀ i, i < k → ∀ r, r < m → f' i r = f i r) : Rref p m k f' b :=
  ⟨h.lt, h.mono, fun i hi => by rw [e i hi _ (h.lt i hi)]; exact h.one i hi, fun i hi j hj hne => by rw [e j hj _ (h.lt i hi)]; exact h.oth i hi j hj hne, fun i hi r hr => by rw [e i hi r (Nat.lt_trans hr (h.lt i hi))]; exact h.fst i hi r hr, fun i hi r hr => by rw [e i hi r hr]; exact h.rng i hi r hr⟩
theorem red_rref (hm : MatOK p c R) : Rref p c (redL p c R).length (rowF (redL p c R)) fun i => bgN c (rowF (redL p c R) i) := by
  obtain ⟨-, b, r1, -, -⟩ := red_ok hm.pr hm.rowc
  rw [← redL_len] at r1
  exact (r1.congr fun i hi r hr => redL_rowF hi hr).begs
/-- The kernel's rows. -/
def kerL (p : Int) (c : Nat) (R : List (List Int)) : List (List Int) := redL p c (acL p c (redL p c R))
theorem ac_is : acL p c (redL p c R) = matL (kerC p c R.length (rowF R)) c (kerA p c R.length (rowF R)) := by
  have hb : ∀ i, i < redN p c R.length (rowF R) → bgN c (rowF (redL p c R) i) = bgN c (redF p c R.length (rowF R) i) := fun i hi => bgN_congr fun r hr => rowF_matL hi hr _
  have hn : nbL c (redN p c R.length (rowF R)) (fun i => bgN c (rowF (redL p c R) i)) = nbL c (redN p c R.length (rowF R)) fun i => bgN c (redF p c R.length (rowF R) i) := by
    unfold nbL
    rw [nbB_congr hb]
  unfold acL kerC kerA
  rw [redL_len, hn]
  refine matL_congr fun j hj r hr => ?_
  unfold acG
  rw [hn]
  exact acF_congr (nb_at hj).1 (fun i hi r hr => rowF_matL hi hr _) hb
theorem kerL_is (hm : MatOK p c R) : kerL p c R = matL (kerC p c R.length (rowF R)) c (kerF p c R.length (rowF R)) := by
  unfold kerL
  rw [ac_is, redL_mat hm.pr fun i _ r _ => kerA_in hm.pr i r, ker_red hm.pr]
  rfl
theorem kerL_len (hm : MatOK p c R) : (kerL p c R).length + (redL p c R).length = c := by
  rw [kerL_is hm, matL_len, redL_len]
  exact ker_len hm.pr hm.rowc
theorem acL_ok (hm : MatOK p c R) (hk : c ≤ (redL p c R).length + 6) : MatOK p c (acL p c (redL p c R)) := by
  rw [ac_is]
  have := ker_len hm.pr hm.rowc
  rw [redL_len] at hk
  exact MatOK.mat hm.pr hm.c8' (by omega) fun i _ r _ => kerA_in hm.pr i r
theorem kerL_ok (hm : MatOK p c R) (hk : c ≤ (redL p c R).length + 6) : MatOK p c (kerL p c R) := redL_ok (acL_ok hm hk)
theorem kerL_rowF (hm : MatOK p c R) {j r : Nat} (hj : j < (kerL p c R).length) (hr : r < c) : rowF (kerL p c R) j r = kerF p c R.length (rowF R) j r := by
  rw [kerL_is hm] at hj ⊢
  rw [matL_len] at hj
  exact rowF_matL hj hr _

end Go.Proofs.Ytcncaaeofcmefaa

namespace Go.Proofs.Ytcncaaeofcmefaa
open Go.RowKit

theorem RowsI.reads {w : World} {v : Value} {Q : List (List Int)} {c : Nat} (h : RowsI w v Q) (hl : ∀ k, k < Q.length → (Q.getD k []).length = c) : ∃ a cap, v = .slice a Q.length cap ∧ ∀ k, k < Q.length → ∃ b off, a = some ⟨b, off, none⟩ ∧ ∃ ra rc, ∀ wr, Below w.heap.size w wr → wr.cell? ⟨b, off + k, none⟩ = some (.slice ra c rc) ∧ Ints wr (.slice ra c rc) ((List.range c).map (rowF Q k)) ∧ ∀ m, m < c → ∃ rb ro, ra = some ⟨rb, ro, none⟩ ∧ wr.cell? ⟨rb, ro + m, none⟩ = some (.int .i64 (rowF Q k m)) := by
  obtain ⟨a, cap, rfl, -, hcc⟩ := h
  refine ⟨a, cap, rfl, fun k hk => ?_⟩
  obtain ⟨b, off, h1, h2, h3⟩ := hcc (by omega)
  obtain ⟨u, h4, h5⟩ := h3 k hk
  have hl2 := hl k hk
  have e : (List.range c).map (rowF Q k) = Q.getD k [] := by
    refine List.ext_getElem (by rw [List.length_map, List.length_range, hl2]) fun r g1 g2 => ?_
    rw [List.getElem_map, List.getElem_range]
    show (Q.getD k []).getD r 0 = _
    generalize Q.getD k [] = l at *
    simp [List.getD, g2]
  have h5' := h5
  obtain ⟨ra, rc, rfl, -, -⟩ := h5
  rw [hl2] at h4 h5'
  refine ⟨b, off, h1, ra, rc, fun wr hbw => ⟨?_, by rw [e]; exact h5'.below hbw, fun m hmc => ?_⟩⟩
  · rw [hbw.cell (p := ⟨b, off + k, none⟩) h2, h4]
  · obtain ⟨ra2, rc2, e1, -, e3⟩ := h5'.below hbw
    have e1' := e1
    cases e1'
    obtain ⟨rb, ro, e4, -, e6⟩ := e3 (by omega)
    exact ⟨rb, ro, e4, e6 m (by omega)⟩
theorem MatOK.lens {p : Int} {c : Nat} {Q : List (List Int)} (hm : MatOK p c Q) : ∀ k, k < Q.length → (Q.getD k []).length = c := fun k hk => by have := hm.len k hk; omega
/-- Where the row ahead begins. -/
def lastI (b : Nat → Nat) : Nat → Int
  | 0 => -1
  | i + 1 => b i
theorem sm_le {n : Nat} {f : Nat → Int} {m : Int} (h : ∀ i, i < n → 0 ≤ f i ∧ f i ≤ m) : ∀ j, j ≤ n → 0 ≤ sm j f ∧ sm j f ≤ j * m
  | 0, _ => ⟨Int.le_refl 0, by show (0 : Int) ≤ 0 * m; rw [Int.zero_mul]; exact Int.le_refl 0⟩
  | j + 1, hj => by
    have ih := sm_le h j (by omega)
    have h1 := h j (by omega)
    have e : ((j + 1 : Nat) : Int) * m = j * m + m := by rw [Int.natCast_add, Int.add_mul]; simp
    show 0 ≤ sm j f + f j ∧ sm j f + f j ≤ _
    rw [e]
    omega
end Go.Proofs.Ytcncaaeofcmefaa

namespace Go.Proofs.Ytcncaaeofcmefaa
open Go.RowKit

theorem bit_fact : ∀ s : Nat, s < 256 → ∀ j : Nat, j < 8 → (bits BinOp.and IntKind.i64 ((s : Int) / 2 ^ j) 1 == 0) = !s.testBit j := by decide +kernel
theorem pow_wV : ∀ j : Nat, j < 8 → IntKind.i64.wrap (2 ^ j) = ((2 ^ j : Nat) : Int) := by decide +kernel
theorem rm_fact : ∀ s : Nat, s < 256 → ∀ j : Nat, j < 8 → rm s j < 256 := by decide +kernel
theorem RowsI.tail {w : World} {b off n cap : Nat} {r : List Int} {R : List (List Int)} (h : RowsI w (.slice (some ⟨b, off, none⟩) (n + 1) cap) (r :: R)) (hn : R.length = n) (cap' : Nat) : RowsI w (.slice (some ⟨b, off + 1, none⟩) n cap') R := by
  obtain ⟨a, c, e, h1, h2⟩ := h
  cases e
  obtain ⟨b', off', e2, h3, h4⟩ := h2 (by simp)
  cases e2
  refine ⟨_, cap', by rw [hn], by simp at h1; omega, fun h0 => ⟨b, off + 1, rfl, h3, fun i hi => ?_⟩⟩
  obtain ⟨u, h5, h6⟩ := h4 (i + 1) (by simp; omega)
  exact ⟨u, by rw [← h5]; congr 2; omega, by simpa using h6⟩
theorem RowsI.empty (w : World) (a : Option Addr) (cap : Nat) : RowsI w (.slice a 0 cap) [] := ⟨a, cap, rfl, by simp, fun h => absurd h (Nat.lt_irrefl 0)⟩
end Go.Proofs.Ytcncaaeofcmefaa

namespace Go.Proofs.Ytcncaaeofcmefaa
open Go.RowKit

end Go.Proofs.Ytcncaaeofcmefaa
