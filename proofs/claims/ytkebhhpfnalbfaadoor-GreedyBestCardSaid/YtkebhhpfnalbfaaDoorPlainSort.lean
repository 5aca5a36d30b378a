/- Plain mathematics: a list of elements sorted by weights, the greatest first, of the same weight the lesser first; insertion sort makes it. -/
import Derived.Sort.LotA
import Derived.Sort.Lot0
import Derived.Test.YtkebhhpfnalbfaaDoorPlainGr
namespace Go.Proofs.YtkebhhpfnalbfaaDoor
open Go.Sort

/-- By the weights, the greatest first; of the same weight the lesser element first. -/
def Hvy (w : Nat → Int) (x y : Nat) : Prop := w y < w x ∨ (w x = w y ∧ x < y)
/-- An order by the weights. -/
structure ByW (n : Nat) (w : Nat → Int) (o : List Nat) : Prop where
  beg : Beg n o
  all : ∀ i, i < n → i ∈ o
  up : o.Pairwise (Hvy w)
theorem Hvy.irr {w : Nat → Int} {x : Nat} (h : Hvy w x x) : False := by rcases h with h | h <;> omega
theorem Hvy.asym {w : Nat → Int} {x y : Nat} (h : Hvy w x y) (k : Hvy w y x) : False := by rcases h with h | h <;> rcases k with k | k <;> omega
theorem Hvy.trans {w : Nat → Int} {x y z : Nat} (h : Hvy w x y) (k : Hvy w y z) : Hvy w x z := by
  unfold Hvy at *
  rcases h with h | h <;> rcases k with k | k <;> omega
/-- There is one such order. -/
theorem hvy_unique {w : Nat → Int} : ∀ {l m : List Nat}, l.Pairwise (Hvy w) → m.Pairwise (Hvy w) → (∀ x, x ∈ l ↔ x ∈ m) → l = m
  | [], [], _, _, _ => rfl
  | [], y :: m, _, _, h => by have := (h y).2 (by simp); simp at this
  | x :: l, [], _, _, h => by have := (h x).1 (by simp); simp at this
  | x :: l, y :: m, hl, hm, h => by
    rw [List.pairwise_cons] at hl hm
    have e : x = y := by
      apply Classical.byContradiction
      intro hne
      have h1 := (h x).1 (by simp)
      have h2 := (h y).2 (by simp)
      rw [List.mem_cons] at h1 h2
      rcases h1 with h1 | h1
      · exact hne h1
      · rcases h2 with h2 | h2
        · exact hne h2.symm
        · exact Hvy.asym (hm.1 x h1) (hl.1 y h2)
    subst e
    congr 1
    refine hvy_unique hl.2 hm.2 fun z => ?_
    constructor
    · intro hz
      have := (h z).1 (by simp [hz])
      rw [List.mem_cons] at this
      rcases this with rfl | this
      · exact absurd (hl.1 z hz) (fun k => k.irr)
      · exact this
    · intro hz
      have := (h z).2 (by simp [hz])
      rw [List.mem_cons] at this
      rcases this with rfl | this
      · exact absurd (hm.1 z hz) (fun k => k.irr)
      · exact this
theorem ByW.unique {n : Nat} {w : Nat → Int} {o o' : List Nat} (h : ByW n w o) (h' : ByW n w o') : o = o' :=
  hvy_unique h.up h'.up fun x => ⟨fun hx => h'.all x (h.beg.lt x hx), fun hx => h.all x (h'.beg.lt x hx)⟩
theorem ByW.desc {n : Nat} {w : Nat → Int} {o : List Nat} (h : ByW n w o) : o.Pairwise (fun x y => w y ≤ w x) := h.up.imp fun h => by rcases h with h | h <;> omega

theorem extract_all {α : Type} (D : Array α) {n : Nat} (h : D.size = n) : (D.extract 0 n).toList = D.toList := by subst h; simp
section
variable {k : Nat} (w : Nat → Int)
/-- What the program asks of two elements; what it comes to. -/
def ltW (x y : Fin (k + 1)) : Bool := decide (w y.1 < w x.1)
def ltS (x y : Fin (k + 1)) : Bool := decide (w y.1 < w x.1 ∨ (w x.1 = w y.1 ∧ x.1 < y.1))
theorem ltS_swo : SWO (ltS (k := k) w) := by
  refine ⟨fun x => ?_, fun x y z h1 h2 => ?_, fun x y z h1 h2 => ?_⟩
  · unfold ltS; rw [decide_eq_false_iff_not]; omega
  · unfold ltS at *; rw [decide_eq_true_eq] at *; omega
  · unfold ltS at *; rw [decide_eq_false_iff_not] at *; omega
theorem ins_same : ∀ (j : Nat) (d : Array (Fin (k + 1))), j < d.size → (∀ t, t < j → d[t]!.1 < d[j]!.1) → insInner (ltW w) 0 j d = insInner (ltS w) 0 j d
  | 0, d, _, _ => rfl
  | j + 1, d, hj, h => by
    have e : ltW w d[j + 1]! d[j]! = ltS w d[j + 1]! d[j]! := by
      have := h j (by omega)
      unfold ltW ltS
      rw [decide_eq_decide]
      omega
    unfold insInner
    rw [e]
    split
    · refine ins_same j _ (by rw [size_swp]; omega) fun t ht => ?_
      have a1 := swp_get d (i := j + 1) (j := j) hj (by omega) t
      have a2 := swp_get d (i := j + 1) (j := j) hj (by omega) j
      rw [if_neg (by omega), if_neg (by omega)] at a1
      rw [if_pos rfl] at a2
      rw [a1, a2]
      exact h t (by omega)
    · rfl
theorem ins_perm (lt : Fin (k + 1) → Fin (k + 1) → Bool) (b : Nat) : ∀ (j : Nat) (d : Array (Fin (k + 1))), j < b → b ≤ d.size → PermIn 0 b d (insInner lt 0 j d)
  | 0, d, _, _ => permIn_refl d 0 b
  | j + 1, d, hj, hb => by
    unfold insInner
    split
    · exact permIn_trans _ _ _ 0 b (swp_permIn d 0 b (j + 1) j (by omega) hj (by omega) (by omega) hb) (ins_perm lt b j _ (by omega) (by rw [size_swp]; exact hb))
    · exact permIn_refl d 0 b
theorem insO_same (n : Nat) : ∀ (f i : Nat) (d : Array (Fin (k + 1))), n - i ≤ f → d.size = n → (∀ t, t < i → d[t]!.1 < i) → (∀ t, i ≤ t → t < n → d[t]!.1 = t) → insOuter (ltW w) 0 n i d = insOuter (ltS w) 0 n i d
  | 0, i, d, hf, hs, h1, h2 => by
    have hn : ¬ i < n := by omega
    have a1 : insOuter (ltW w) 0 n i d = d := by rw [insOuter, if_neg hn]
    have a2 : insOuter (ltS w) 0 n i d = d := by rw [insOuter, if_neg hn]
    rw [a1, a2]
  | f + 1, i, d, hf, hs, h1, h2 => by
    by_cases hi : i < n
    · have a1 : insOuter (ltW w) 0 n i d = insOuter (ltW w) 0 n (i + 1) (insInner (ltW w) 0 i d) := by rw [insOuter, if_pos hi]
      have a2 : insOuter (ltS w) 0 n i d = insOuter (ltS w) 0 n (i + 1) (insInner (ltS w) 0 i d) := by rw [insOuter, if_pos hi]
      rw [a1, a2, ins_same w i d (by omega) (fun t ht => by rw [h2 i (Nat.le_refl _) hi]; exact h1 t ht)]
      have hP := ins_perm (ltS w) (i + 1) i d (by omega) (by omega)
      refine insO_same n f (i + 1) _ (by omega) (by rw [hP.1]; exact hs) (fun t ht => ?_) (fun t ht hn => ?_)
      · refine permIn_all d _ 0 (i + 1) (fun x => x.1 < i + 1) (by omega) hP (fun s _ hs' => ?_) t (by omega) ht
        by_cases e : s = i
        · subst e; rw [h2 s (Nat.le_refl _) hi]; omega
        · have := h1 s (by omega); omega
      · rw [hP.2.1 t (Or.inr ht)]
        exact h2 t (by omega) hn
    · have a1 : insOuter (ltW w) 0 n i d = d := by rw [insOuter, if_neg hi]
      have a2 : insOuter (ltS w) 0 n i d = d := by rw [insOuter, if_neg hi]
      rw [a1, a2]
/-- What the program's sort makes of all elements, rising. -/
def sortW : Array (Fin (k + 1)) := insertionSort (ltW w) (List.finRange (k + 1)).toArray 0 (k + 1)
theorem fin_at {t : Nat} (ht : t < k + 1) : ((List.finRange (k + 1)).toArray)[t]!.1 = t := by
  rw [getElem!_pos _ t (by simpa using ht)]
  simp
theorem sortW_size : (sortW (k := k) w).size = k + 1 := by
  have h := insertionSort_holds (lt := ltS (k := k) w) (ltS_swo w) (List.finRange (k + 1)).toArray 0 (k + 1) (by omega) (by simp)
  have e : sortW (k := k) w = insertionSort (ltS w) (List.finRange (k + 1)).toArray 0 (k + 1) := by
    unfold sortW insertionSort
    exact insO_same w (k + 1) (k + 1) 1 _ (by omega) (by simp) (fun t ht => by rw [fin_at (by omega)]; omega) (fun t _ ht => fin_at ht)
  rw [e, h.1.1]
  simp
theorem sortW_by : ByW (k + 1) w ((sortW (k := k) w).toList.map (·.1)) := by
  have h := insertionSort_holds (lt := ltS (k := k) w) (ltS_swo w) (List.finRange (k + 1)).toArray 0 (k + 1) (by omega) (by simp)
  have e : sortW (k := k) w = insertionSort (ltS w) (List.finRange (k + 1)).toArray 0 (k + 1) := by
    unfold sortW insertionSort
    exact insO_same w (k + 1) (k + 1) 1 _ (by omega) (by simp) (fun t ht => by rw [fin_at (by omega)]; omega) (fun t _ ht => fin_at ht)
  have hsz := sortW_size (k := k) w
  rw [← e] at h
  generalize sortW (k := k) w = D at *
  obtain ⟨⟨p1, p2, p3⟩, p4⟩ := h
  have hex := extract_all D hsz
  have hex2 := extract_all (List.finRange (k + 1)).toArray (n := k + 1) (by simp)
  rw [hex, hex2] at p3
  have hall : ∀ x : Fin (k + 1), x ∈ D.toList := fun x => p3.mem_iff.2 (List.mem_finRange x)
  have hpw : (D.toList.map (·.1)).Pairwise (Hvy w) := by
    rw [List.pairwise_map, List.pairwise_iff_getElem]
    intro i j hi hj hij
    have h1 := p4 i j (by omega) hij (by simpa [hsz] using hj)
    rw [getElem!_pos D i (by simpa using hi), getElem!_pos D j (by simpa using hj)] at h1
    unfold ltS at h1
    rw [decide_eq_false_iff_not] at h1
    have hne : D[i].1 ≠ D[j].1 := fun e => by
      have hnd : D.toList.Nodup := p3.nodup_iff.2 (List.nodup_finRange _)
      have := (List.pairwise_iff_getElem.1 hnd) i j hi hj hij
      exact this (Fin.ext e)
    show Hvy w D[i].1 D[j].1
    unfold Hvy
    omega
  refine ⟨⟨fun x hx => ?_, ?_⟩, fun i hi => ?_, hpw⟩
  · rw [List.mem_map] at hx
    obtain ⟨y, _, rfl⟩ := hx
    exact y.2
  · exact hpw.imp fun h e => by subst e; exact h.irr
  · rw [List.mem_map]
    exact ⟨⟨i, hi⟩, hall _, rfl⟩
end
end Go.Proofs.YtkebhhpfnalbfaaDoor
