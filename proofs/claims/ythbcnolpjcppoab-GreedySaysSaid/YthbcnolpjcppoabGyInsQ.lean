/- slices.Insert of one number into an own list. -/
import Derived.Shelf.Spec.SlicesInsertGrow
import Derived.Lib.LazyBuf
import Derived.Test.YthbcnolpjcppoabGrFirstQ
import Derived.Test.YthbcnolpjcppoabPlainAll
namespace Go.Proofs.Ythbcnolpjcppoab
open Go.RowKit Go.Shelf

def Try.lays21_ren : Go.Shelf.Ren := ⟨fun | 21 => 71 | 27 => 108 | 28 => 109 | 35 => 123 | 39 => 130 | n => n, fun | 0 => 0 | 3 => 3 | 4 => 4 | 22 => 22 | n => n, fun n => n⟩
theorem Try.lays21 : Lays2.n21 Try.prog Try.lays21_ren := {
  mixed := by kernel_rfl
  f21 := Try.func71.trans (congrArg some (by kernel_rfl))
  f27 := Try.func108.trans (congrArg some (by kernel_rfl))
  f28 := Try.func109.trans (congrArg some (by kernel_rfl))
  f35 := Try.func123.trans (congrArg some (by kernel_rfl))
  f39 := Try.func130.trans (congrArg some (by kernel_rfl))
  t0 := Try.underlying0
  a0 := Try.isAgg0
  z0 := Try.sizeOf0
  v0 := Try.zeroValue0
  t3 := Try.underlying3
  a3 := Try.isAgg3
  z3 := Try.sizeOf3
  v3 := Try.zeroValue3
  t4 := Try.underlying4
  a4 := Try.isAgg4
  z4 := Try.sizeOf4
  v4 := Try.zeroValue4
  t22 := Try.underlying22
  a22 := Try.isAgg22
  z22 := Try.sizeOf22
  v22 := Try.zeroValue22
  i3 := Try.infoInt }

theorem own_rowI {B g n cap : Nat} {w : World} {l : List Nat} (h : Own B w (.slice (some ⟨g, 0, none⟩) n cap) l) : n = l.length ∧ B ≤ g ∧ n ≤ cap ∧ cap ≤ maxLen ∧ ∃ f : Nat → Value, w.rowIs g 3 cap f ∧ ∀ i, i < n → f i = .int .i64 (l.getD i 0 : Nat) := by
  rcases h.2 with ⟨e, _⟩ | ⟨g', cap', cur, e, hb, hh, hn, hm, hs, ht⟩
  · cases e
  · injection e with e1 e2 e3
    injection e1 with e1
    injection e1 with e1
    subst e1; subst e2; subst e3
    rw [Nat.mul_one] at hs ht
    refine ⟨rfl, hb, hn, hm, fun i => cur[i]?.getD default, ⟨cur, hh, hs, fun i hi => ?_⟩, fun i hi => ?_⟩
    · simp [show i < cur.size by omega]
    · have h1 : cur.toList[i]? = (V l)[i]? := by rw [← ht, List.getElem?_take_of_lt hi]
      simp only
      rw [← Array.getElem?_toList, h1]
      simp [V, List.getD, hi]
theorem row_own {B g n cap : Nat} {w : World} {l : List Nat} {f : Nat → Value} (hn : n = l.length) (hb : B ≤ g) (hc : n ≤ cap) (hm : cap ≤ maxLen) (hr : w.rowIs g 3 cap f) (hf : ∀ i, i < n → f i = .int .i64 (l.getD i 0 : Nat)) : Own B w (.slice (some ⟨g, 0, none⟩) n cap) l := by
  subst hn
  obtain ⟨cur, h1, h2, h3⟩ := hr
  refine ⟨by simp [V], .inr ⟨g, cap, cur, rfl, hb, h1, hc, hm, by omega, ?_⟩⟩
  rw [Nat.mul_one]
  apply List.ext_getElem?
  intro i
  by_cases hi : i < l.length
  · rw [List.getElem?_take_of_lt hi, Array.getElem?_toList, h3 i (by omega), hf i hi]
    simp [V, List.getD, hi]
  · rw [List.getElem?_take_eq_none (by omega), List.getElem?_eq_none (by simp [V]; omega)]
theorem insV_len {l : List Nat} {k x : Nat} (hk : k ≤ l.length) : (insV l k x).length = l.length + 1 := by simp [insV]; omega
theorem insV_getD {l : List Nat} {k x : Nat} (hk : k ≤ l.length) (i : Nat) : (insV l k x).getD i 0 = if i < k then l.getD i 0 else if i = k then x else l.getD (i - 1) 0 := by
  have hl : (l.take k).length = k := by simp; omega
  unfold insV
  simp only [List.getD]
  by_cases h1 : i < k
  · rw [if_pos h1, List.getElem?_append_left (by omega), List.getElem?_take_of_lt h1]
  · rw [if_neg h1, List.getElem?_append_right (by omega), hl]
    by_cases h2 : i = k
    · subst h2; simp
    · rw [if_neg h2, show i - k = (i - k - 1) + 1 by omega, List.getElem?_cons_succ, List.getElem?_drop]
      congr 2; omega
theorem rowIs_cell {w : World} {g n : Nat} {t : TypeId} {f : Nat → Value} (h : w.rowIs g t n f) {i : Nat} (hi : i < n) : w.cell? ⟨g, i, none⟩ = some (f i) ∧ w.frozen? ⟨g, i, none⟩ = false := by
  obtain ⟨cur, h1, h2, h3⟩ := h
  exact ⟨by simp [World.cell?, h1, h3 i hi], by simp [World.frozen?, h1]⟩
theorem ins_row {l : List Nat} {k x n cap : Nat} {f : Nat → Value} {g : Nat} {w : World} (hk : k ≤ l.length) (hn : n = l.length) (hr : w.rowIs g 3 cap f) (hf : ∀ i, i < k → f i = .int .i64 (l.getD i 0 : Nat)) (vs : List Value) (hv : vs = (V l).drop k) :
    ∃ f', ((w.setCells g (k + 1) vs).setCells g k [.int .i64 (x : Nat)]).rowIs g 3 cap f' ∧ ∀ i, i < n + 1 → f' i = .int .i64 ((insV l k x).getD i 0 : Nat) := by
  refine ⟨_, Go.rowIs_setCells _ _ _ _ (Go.rowIs_setCells _ _ _ _ hr), fun i hi => ?_⟩
  have hvl : vs.length = n - k := by rw [hv]; simp [V]; omega
  rw [insV_getD hk]
  simp only [List.length_singleton]
  by_cases h1 : i < k
  · rw [if_neg (by omega), if_neg (by omega), if_pos h1, hf i h1]
  · rw [if_neg h1]
    by_cases h2 : i = k
    · subst h2; simp
    · rw [if_neg (by omega), if_pos (by omega), if_neg h2, hv]
      have : k + (i - (k + 1)) = i - 1 := by omega
      rw [List.getElem?_drop, this]
      simp [V, List.getD, show i - 1 < l.length by omega]
theorem ins_row2 {l : List Nat} {k x n cap : Nat} {f : Nat → Value} {g : Nat} {w : World} (hk : k ≤ l.length) (hn : n = l.length) (hr : w.rowIs g 3 cap f) (hf : ∀ i, i < k → f i = .int .i64 (l.getD i 0 : Nat)) (vs : List Value) (hv : vs = (V l).drop k) (q : World → World) (hq : ∀ w g f, World.rowIs w g 3 cap f → (q w).rowIs g 3 cap f) :
    ∃ f', ((q (w.setCells g k [.int .i64 (x : Nat)])).setCells g (k + 1) vs).rowIs g 3 cap f' ∧ ∀ i, i < n + 1 → f' i = .int .i64 ((insV l k x).getD i 0 : Nat) := by
  refine ⟨_, Go.rowIs_setCells _ _ _ _ (hq _ _ _ (Go.rowIs_setCells _ _ _ _ hr)), fun i hi => ?_⟩
  have hvl : vs.length = n - k := by rw [hv]; simp [V]; omega
  rw [insV_getD hk]
  simp only [List.length_singleton]
  by_cases h1 : i < k
  · rw [if_neg (by omega), if_neg (by omega), if_pos h1, hf i h1]
  · rw [if_neg h1]
    by_cases h2 : i = k
    · subst h2
      rw [if_neg (by omega)]; simp
    · rw [if_pos (by omega), if_neg h2, hv]
      have : k + (i - (k + 1)) = i - 1 := by omega
      rw [List.getElem?_drop, this]
      simp [V, List.getD, show i - 1 < l.length by omega]
theorem V_cells {l : List Nat} {n cap g : Nat} {w : World} {f : Nat → Value} (hn : n = l.length) (hc : n ≤ cap) (hr : w.rowIs g 3 cap f) (hf : ∀ i, i < n → f i = .int .i64 (l.getD i 0 : Nat)) : ∀ j v, (V l)[j]? = some v → w.cell? ⟨g, 0 + j, none⟩ = some v := by
  intro j v hj
  have hlt : j < l.length := by
    have := (List.getElem?_eq_some_iff.1 hj).1
    simpa [V] using this
  rw [Nat.zero_add, (rowIs_cell hr (by omega)).1, hf j (by omega)]
  simp [V, hlt] at hj
  rw [← hj]
  simp [List.getD, hlt]
theorem V_one (l : List Nat) : ∀ v ∈ V l, v.oneCell' = true := by
  intro v hv
  unfold V at hv
  rw [List.mem_map] at hv
  obtain ⟨s, _, rfl⟩ := hv
  rfl
set_option maxHeartbeats 1000000 in
theorem insert_any (B : Nat) (v : Value) (l : List Nat) (k x vb : Nat) (w : World) (ho : Own B w v l) (hB : B ≤ w.heap.size) (hk : k ≤ l.length) (hl : l.length ≤ 255) (t : TypeId) (hvb : w.heap[vb]? = some (.cells #[.int .i64 (x : Nat)] t (0, 0))) (hne : v.ownBlock ≠ some vb) :
    Calls Try.prog 71 #[v, .int .i64 k, .slice (some ⟨vb, 0, none⟩) 1 1] w fun e w' => ∃ r, e = .returned r ∧ Own B w' r (insV l k x) ∧ Below B w w' := by
  have hvs : ∀ j u, ([.int .i64 (x : Nat)] : List Value)[j]? = some u → w.cell? ⟨vb, 0 + j, none⟩ = some u := by
    intro j u hj
    rcases j with _ | j
    · simp at hj; subst hj; simp [World.cell?, hvb]
    · simp at hj
  have h1v : ∀ u ∈ ([.int .i64 (x : Nat)] : List Value), u.oneCell' = true := by intro u hu; simp at hu; subst hu; rfl
  have hsh : w.shape? vb = some (t, 1) := by simp [World.shape?, hvb]
  have hfa : ∀ o, w.frozen? ⟨vb, o, none⟩ = false := fun o => by simp [World.frozen?, hvb]
  have hml : ∀ old, grownCap w (l.length + 1) old 3 ≤ maxLen := fun old => grownCap_le_maxLen w _ _ _ (by unfold maxLen; omega)
  have hge : ∀ old, l.length + 1 ≤ grownCap w (l.length + 1) old 3 := fun old => grownCap_ge w _ _ _
  have hlen : ([.int .i64 (x : Nat)] : List Value).length = 1 := rfl
  have hend : ∀ a c cur, k = l.length → v = .slice a l.length c → cur = ((V l ++ [Value.int .i64 (x : Nat)]).toArray ++ Builtin.zeroCells (Value.int .i64 0).cells (grownCap w (l.length + 1) c 3 - (l.length + 1))) →
      Own B (w.drew.alloc (.cells cur 3)) (.slice (some ⟨w.heap.size, 0, none⟩) (l.length + 1) (grownCap w (l.length + 1) c 3)) (insV l k x) ∧ Below B w (w.drew.alloc (.cells cur 3)) := by
    intro a c cur hkl _ hcur
    refine ⟨⟨by simp [V, insV_len hk], .inr ⟨w.heap.size, _, cur, by rw [insV_len hk], hB, ?_, by rw [insV_len hk]; exact hge c, hml c, ?_, ?_⟩⟩, ((Below.refl B w).drew).alloc hB _⟩
    · exact World.alloc_heap_new w.drew _
    · have := hge c
      rw [hcur]
      simp [Builtin.zeroCells, Value.cells, V]
      omega
    · rw [hcur, insV_len hk, Nat.mul_one, hkl]
      simp [insV, V, List.take_append, List.take_of_length_le]
  rcases Go.Joins.ownsRow_forms ho with ⟨rfl, h0⟩ | ⟨g, cap, rfl⟩
  · have hl0 : l = [] := List.length_eq_zero_iff.1 h0
    subst hl0
    obtain rfl : k = 0 := by simpa using hk
    refine (Any2.slices_Insert_int_end_grow Try.lays21 none 0 0 vb 0 1 1 (V []) [.int .i64 (x : Nat)] w (by omega) (by omega) (by omega) (by omega) rfl rfl (fun _ => rfl) (fun a h => by cases h) hvs h1v).mono ?_
    rintro e w' ⟨rfl, rfl⟩
    have := hend none 0 _ rfl rfl rfl
    exact ⟨_, rfl, this.1, this.2⟩
  · obtain ⟨_, hg, hnc, hcm, f, hr, hf⟩ := own_rowI ho
    have hcs := V_cells rfl hnc hr hf
    have hgv : vb ≠ g := fun e => hne (by rw [e]; rfl)
    have hc63 : cap ≤ 9223372036854775807 := by unfold maxLen at hcm; omega
    by_cases hroom : l.length + 1 ≤ cap
    · by_cases hlt : k < l.length
      · have hfz : w.shape? g = some (3, cap) := by
          obtain ⟨cur, h1, h2, _⟩ := hr
          simp [World.shape?, h1, h2]
        refine (Any2.slices_Insert_int_shift Try.lays21 g 0 l.length cap k vb 0 1 1 (V l) [.int .i64 (x : Nat)] w hlt (by omega) hroom hc63 hgv (by simp [V]) rfl hcs (fun j hj => by rw [Nat.zero_add, (rowIs_cell hr (by omega)).1]; rfl) (fun j hj => by rw [Nat.zero_add]; exact (rowIs_cell hr (by omega)).2) hvs (V_one l) h1v t 3 1 cap hsh hfz (by omega) (hfa _) (hfa _)).mono ?_
        rintro e w' ⟨rfl, rfl⟩
        rw [Nat.zero_add, Nat.zero_add]
        obtain ⟨f', hr', hf'⟩ := ins_row (x := x) (w := w.drew) hk rfl (by exact hr) (fun i hi => hf i (by omega)) ((V l).drop k) rfl
        exact ⟨_, rfl, row_own (by rw [insV_len hk]) hg hroom hcm hr' hf', Go.below_setCells hg _ _ _ (Go.below_setCells hg _ _ _ (Below.refl B w).drew)⟩
      · obtain rfl : k = l.length := by omega
        refine (Any2.slices_Insert_int_end_room Try.lays21 g 0 l.length cap vb 0 1 1 [.int .i64 (x : Nat)] w (by omega) hroom hc63 rfl (fun j hj => by rw [(rowIs_cell hr (by omega)).1]; rfl) (fun j hj => (rowIs_cell hr (by omega)).2) hvs h1v).mono ?_
        rintro e w' ⟨rfl, rfl⟩
        rw [Nat.zero_add]
        refine ⟨_, rfl, row_own (by rw [insV_len hk]) hg hroom hcm (Go.rowIs_setCells _ _ _ _ hr) fun i hi => ?_, Go.below_setCells hg _ _ _ (Below.refl B w)⟩
        rw [insV_getD hk]
        by_cases h1 : i < l.length
        · rw [if_pos h1, if_neg (by omega), hf i h1]
        · obtain rfl : i = l.length := by omega
          simp
    · by_cases hlt : k < l.length
      · refine (Any2.slices_Insert_int_grow Try.lays21 g 0 l.length cap k vb 0 1 1 (V l) [.int .i64 (x : Nat)] w hlt (by omega) hnc (by omega) (by omega) (by simp [V]) rfl hcs hvs (V_one l) h1v).mono ?_
        rintro e w' ⟨rfl, rfl⟩
        have hgc := hge cap
        have hz : ∀ n, Builtin.zeroCells (Value.int .i64 0).cells n = Array.replicate n (.int .i64 0) := fun n => by
          apply Array.ext
          · simp [Builtin.zeroCells, Value.cells]
          · intro i h1 h2; simp [Builtin.zeroCells, Value.cells, Nat.mod_one]
        have hrow : World.rowIs ((w.alloc (.cells (((V l).take k).toArray ++ Builtin.zeroCells (Value.int .i64 0).cells (l.length + 1 - k) ++ Builtin.zeroCells (Value.int .i64 0).cells (grownCap w (l.length + 1) cap 3 - (l.length + 1))) 3)).drew) w.heap.size 3 (grownCap w (l.length + 1) cap 3) (fun i => if i < k then .int .i64 (l.getD i 0 : Nat) else .int .i64 0) := by
          refine ⟨_, World.alloc_heap_new w _, ?_, fun i hi => ?_⟩
          · rw [hz, hz]; simp [V]; omega
          · rw [hz, hz]
            show _ = some (if i < k then Value.int .i64 (l.getD i 0 : Nat) else .int .i64 0)
            have hkl : ((V l).take k).length = k := by simp [V]; omega
            by_cases h1 : i < k
            · rw [if_pos h1, Array.append_assoc, Array.getElem?_append_left (by simp [V]; omega)]
              simp [V, List.getD, h1, show i < l.length by omega]
            · rw [if_neg h1, Array.append_assoc, Array.getElem?_append_right (by simp [V]; omega), Array.replicate_append_replicate, Array.getElem?_replicate, if_pos (by simp [V]; omega)]
        obtain ⟨f', hr', hf'⟩ := ins_row2 (x := x) hk rfl hrow (fun i hi => by rw [if_pos hi]) ((V l).drop k) rfl (fun w => w.drew) (fun _ _ _ h => h)
        exact ⟨_, rfl, row_own (by rw [insV_len hk]) hB hgc (hml cap) hr' hf', Go.below_setCells hB _ _ _ (Go.below_setCells hB _ _ _ (((Below.refl B w).alloc hB _).drew)).drew⟩
      · obtain rfl : k = l.length := by omega
        refine (Any2.slices_Insert_int_end_grow Try.lays21 (some ⟨g, 0, none⟩) l.length cap vb 0 1 1 (V l) [.int .i64 (x : Nat)] w (by omega) hnc (by omega) (by omega) (by simp [V]) rfl (fun h => by cases h) (fun a h j u hj => by cases h; rw [Addr.add_lit]; exact hcs j u hj) hvs h1v).mono ?_
        rintro e w' ⟨rfl, rfl⟩
        have := hend _ cap _ rfl rfl rfl
        exact ⟨_, rfl, this.1, this.2⟩
end Go.Proofs.Ythbcnolpjcppoab
