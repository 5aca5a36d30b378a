/- slices.SortStableFunc at few elements; greedy.heaviestFirst. -/
import Derived.Shelf.SlSortCmp.Insertion
import Derived.Lib.SlKeysI
import Derived.Test.YthbcnolpjcppoabDoorGrBQ
import Derived.Test.YthbcnolpjcppoabDoorCmpIQ
import Derived.Test.YthbcnolpjcppoabDoorPlainAll
namespace Go.Proofs.YthbcnolpjcppoabDoor
open Go.RowKit Go.Shelf

def Tryd.lays20_ren : Go.Shelf.Ren := ⟨fun | 20 => 51 | n => n, fun | 0 => 0 | 3 => 3 | 4 => 4 | 22 => 22 | 24 => 3 | 25 => 52 | n => n, fun n => n⟩
theorem Tryd.lays20 : Go.Proofs.SlLaysF.n20 Tryd.prog Tryd.lays20_ren := {
  mixed := by kernel_rfl
  f20 := ⟨Tryd.f51.name, by kernel_rfl, Tryd.func51.trans (congrArg some (by kernel_rfl))⟩
  t0 := Tryd.underlying0
  a0 := Tryd.isAgg0
  z0 := Tryd.sizeOf0
  v0 := Tryd.zeroValue0
  t3 := Tryd.underlying3
  a3 := Tryd.isAgg3
  z3 := Tryd.sizeOf3
  v3 := Tryd.zeroValue3
  t4 := Tryd.underlying4
  a4 := Tryd.isAgg4
  z4 := Tryd.sizeOf4
  v4 := Tryd.zeroValue4
  t22 := Tryd.underlying22
  a22 := Tryd.isAgg22
  z22 := Tryd.sizeOf22
  v22 := Tryd.zeroValue22
  a24 := Tryd.isAgg3
  z24 := Tryd.sizeOf3
  t25 := Tryd.underlying52
  a25 := Tryd.isAgg52
  z25 := Tryd.sizeOf52
  v25 := Tryd.zeroValue52 }

set_option maxHeartbeats 1000000 in
theorem hfQ_any (x y pw : Nat) (wv : Value) (ws : List Int) (w : World) (hx : x < ws.length) (hy : y < ws.length) (hp : w.cell? ⟨pw, 0, none⟩ = some wv) (h : Ints w wv ws) :
    Calls Tryd.prog 33 #[.int .i64 x, .int .i64 y, .pointer (some ⟨pw, 0, none⟩)] w fun e w' => e = .returned (.int .i64 (cmpI (ws.getD y 0) (ws.getD x 0))) ∧ ∃ q, w' = w.drewN q := by
  obtain ⟨a, cap, rfl, _, hc⟩ := h
  obtain ⟨b, off, rfl, _, hcell⟩ := hc (by omega)
  have cx := hcell x hx
  have cy := hcell y hy
  have CM := hid (fun w => compare_any (ws.getD y 0) (ws.getD x 0) w)
  generalize ws.getD x 0 = wx at *
  generalize ws.getD y 0 = wy at *
  generalize cmpI wy wx = q at *
  have hxi : (x : Int) < (ws.length : Int) := by omega
  have hyi : (y : Int) < (ws.length : Int) := by omega
  clear hcell hc
  go_enter Tryd.func33, Tryd.ntmps33
  go_wp2_with fail
  go_quiet ((go_at_call 34; refine (CM.out _).mono ?_; rintro e w' ⟨rfl, rfl⟩; exact ⟨rfl, _, rfl⟩))
  go_wp2_with fail
  go_ret
  exact ⟨rfl, _, rfl⟩

/-- The elements as values. -/
def encF {k : Nat} (x : Fin (k + 1)) : Value := .int .i64 (x.1 : Nat)
def cfW {k : Nat} (ws : List Int) (x y : Fin (k + 1)) : Int := cmpI (ws.getD y.1 0) (ws.getD x.1 0)
theorem cmpI_neg (a b : Int) : cmpI a b < 0 ↔ a < b := by
  unfold cmpI
  by_cases h1 : a < b
  · rw [if_pos h1]; exact ⟨fun _ => h1, fun _ => by decide⟩
  · rw [if_neg h1]
    by_cases h2 : b < a
    · rw [if_pos h2]; exact ⟨fun h => absurd h (by decide), fun h => absurd h h1⟩
    · rw [if_neg h2]; exact ⟨fun h => absurd h (by decide), fun h => absurd h h1⟩
theorem cfW_lt {k : Nat} (ws : List Int) : ltOf (cfW (k := k) ws) = ltW (fun i => ws.getD i 0) := by
  funext x y
  unfold ltOf ltW
  rw [decide_eq_decide]
  exact cmpI_neg _ _
theorem putRow_fin {k : Nat} (w : World) (g : Nat) (D : Array (Fin (k + 1))) : Go.Sort.putRow encF w g 0 D = Go.Sort.putRow encZ w g 0 (D.toList.map fun x => ((x.1 : Nat) : Int)).toArray := by
  unfold Go.Sort.putRow
  congr 1
  funext c
  unfold Go.Sort.putCells
  apply Array.ext (by simp)
  intro i h1 h2
  simp only [Array.getElem_mapIdx, Nat.zero_add, Nat.zero_le, true_and, Nat.sub_zero, List.size_toArray, List.length_map, Array.length_toList]
  by_cases hi : i < D.size
  · rw [if_pos hi, if_pos hi, getElem!_pos D i hi, getElem!_pos _ i (by simpa using hi)]
    simp [encF, encZ]
  · rw [if_neg hi, if_neg hi]
theorem sortW_other {k : Nat} (w : World) (g m : Nat) (D : Array (Fin (k + 1))) (os : Array Obj) {b : Nat} (hb : b < w.heap.size) (hne : b ≠ g) : (sortWorld encF w g 0 m D os).heap[b]? = w.heap[b]? := by
  unfold sortWorld
  rw [Go.Sort.heap_grow_old _ _ (by simpa using hb)]
  simp [Go.Sort.putRow, Go.Sort.mapBlock, Go.Sort.ahead, Array.getElem?_modify, Ne.symm hne]
set_option maxHeartbeats 1000000 in
theorem insert_own {B k pw : Nat} {w : World} {v wv : Value} {ws : List Int} (h : Own B w v (List.range (k + 1))) (hk : k < 8) (hl : ws.length = k + 1) (hp : w.cell? ⟨pw, 0, none⟩ = some wv) (hi : Ints w wv ws) (hpB : pw < B) (hiB : ∀ b off L cap, wv = .slice (some ⟨b, off, none⟩) L cap → b < B) :
    Calls Tryd.prog 51 #[v, .int .i64 0, .int .i64 ((k + 1 : Nat) : Int), .func (.func 33) #[] #[.pointer (some ⟨pw, 0, none⟩)]] w fun e w' => e = .returned (.tuple #[]) ∧ Own B w' v ((sortW (k := k) fun i => ws.getD i 0).toList.map (·.1)) ∧ w.grownBy w' v.ownBlock := by
  obtain ⟨h0, h1⟩ := id h
  rcases h1 with ⟨rfl, hn⟩ | ⟨g, cap, cur, rfl, hbase, hheap, hc1, hc2, hc3, htake⟩
  · simp at hn
  · have hg : g < w.heap.size := (Array.getElem?_eq_some_iff.1 hheap).1
    have hlenR : (List.range (k + 1)).length = k + 1 := by simp
    have hdz : (List.finRange (k + 1)).toArray.size = k + 1 := by simp
    rw [hlenR] at hc1 htake
    rw [Nat.mul_one] at htake
    have hH : Go.Sort.Holds encF w g 0 (List.finRange (k + 1)).toArray := fun j hj => by
      rw [hdz] at hj
      refine ⟨?_, by simp [World.frozen?, hheap]⟩
      have h1 : (cur.toList.take (k + 1))[j]? = (V (List.range (k + 1)))[j]? := by rw [htake]
      rw [List.getElem?_take_of_lt hj] at h1
      simp only [World.cell?, hheap, Nat.zero_add]
      simp only [Option.isSome_none, Bool.false_eq_true, if_false]
      rw [← Array.getElem?_toList, h1]
      have := fin_at (k := k) hj
      unfold encF
      rw [this]
      simp [V, hj]
    have hcmp : CmpReads Tryd.prog 33 #[.pointer (some ⟨pw, 0, none⟩)] encF (cfW (k := k) ws) g 0 (List.finRange (k + 1)).toArray.size w := fun m os dk _ x y => by
      have hpw : pw < w.heap.size := World.block_lt_of_cell? w _ hp
      have hI2 : Ints (sortWorld encF w g 0 m dk os) wv ws := by
        obtain ⟨a, cp, rfl, hl1, hcl⟩ := hi
        refine ⟨a, cp, rfl, hl1, fun hn => ?_⟩
        obtain ⟨b, off, rfl, hb, hcell⟩ := hcl hn
        have hbB := hiB b off _ _ rfl
        refine ⟨b, off, rfl, ?_, fun i hi' => ?_⟩
        · unfold sortWorld
          simp
          omega
        · have := sortW_other w g m dk os hb (by omega)
          have h2 := hcell i hi'
          simp only [World.cell?] at h2 ⊢
          rw [this]
          exact h2
      refine (hfQ_any x.1 y.1 pw wv ws _ (by rw [hl]; exact x.2) (by rw [hl]; exact y.2) ?_ hI2)
      have := sortW_other w g m dk os hpw (by omega)
      simp only [World.cell?] at hp ⊢
      rw [this]
      exact hp
    have H := Any.insertionSortCmpFunc_one Tryd.lays20 (encF (k := k)) (fun x => rfl) (cfW (k := k) ws) 33 #[.pointer (some ⟨pw, 0, none⟩)] g 0 cap 0 (k + 1) (List.finRange (k + 1)).toArray w
      (enters_of Tryd.func33 (by kernel_rfl) rfl) hcmp hH (by omega) (by rw [hdz]; exact Nat.le_refl _) (by rw [hdz]; omega)
    rw [hdz] at H
    rw [hlenR]
    refine H.mono ?_
    rintro e w' ⟨rfl, n, rfl⟩
    rw [cfW_lt]
    have hs := sortW_size (k := k) (fun i => ws.getD i 0)
    have he : Go.Sort.insertionSort (ltW fun i => ws.getD i 0) (List.finRange (k + 1)).toArray 0 (k + 1) = sortW (k := k) fun i => ws.getD i 0 := rfl
    rw [he]
    generalize sortW (k := k) (fun i => ws.getD i 0) = D at *
    have hw : (Go.Sort.putRow encF w g 0 D).drewN n = Go.Sort.grow (Go.Sort.putRow encZ (Go.Sort.ahead w n) g 0 (D.toList.map fun x => ((x.1 : Nat) : Int)).toArray) #[] := by
      rw [← sortWorld_none, ← putRow_fin]
      rfl
    rw [hw]
    refine ⟨rfl, ?_, Go.Proofs.grownBy_sorted_i _⟩
    have hlD : (D.toList.map fun x => ((x.1 : Nat) : Int)).length = (N (List.range (k + 1))).length := by simp [N, hs]
    have := Go.Proofs.ownsRow_sorted_i (n := n) (os := #[]) hlD hbase hheap (by simp [N]; omega) hc2 hc3
    unfold Own
    have e2 : V (D.toList.map (·.1)) = (D.toList.map fun x => ((x.1 : Nat) : Int)).map encZ := by
      simp [V, encZ, Function.comp_def]
    rw [e2]
    have hN : (N (List.range (k + 1))).length = k + 1 := by simp [N]
    have hM : (D.toList.map (·.1)).length = k + 1 := by simp [hs]
    rw [hN] at this
    rw [hM]
    exact this

/-- The rest of stableCmpFunc: few elements are one block. -/
theorem insert_none (v : Value) (cs : Array Value) (g : Nat) (w : World) :
    Calls Tryd.prog 51 #[v, .int .i64 0, .int .i64 0, .func (.func g) #[] cs] w fun e w' => e = .returned (.tuple #[]) ∧ w' = w := by
  go_enter Tryd.func51, Tryd.ntmps51
  go_wp2_with fail
  go_loop [8] (fun i => i = .int .i64 1) (fun _ => 0)
  case atStart => rfl
  case round =>
    subst hrel
    go_wp2_with fail
    go_end0
    exact ⟨rfl, rfl⟩
set_option maxRecDepth 20000 in
set_option maxHeartbeats 1000000 in
theorem stable_any (v : Value) (n g : Nat) (cs : Array Value) (w : World) (hn : n ≤ 8) (R : World → Prop)
    (h : Calls Tryd.prog 51 #[v, .int .i64 0, .int .i64 n, .func (.func g) #[] cs] w fun e w' => e = .returned (.tuple #[]) ∧ R w') :
    Calls Tryd.prog 43 #[v, .int .i64 n, .func (.func g) #[] cs] w fun e w' => e = .returned (.tuple #[]) ∧ R w' := by
  have H := hid h
  clear h
  have h20 : ¬ (20 : Int) ≤ (n : Int) := by omega
  have h20' : ¬ (20 : Int) < (n : Int) := by omega
  go_enter Tryd.func43, Tryd.ntmps43
  go_wp2_with fail
  go_loop [7, 8] (fun i j => i = .int .i64 0 ∧ j = .int .i64 20) (fun _ _ => 0)
  case atStart => exact ⟨rfl, rfl⟩
  case round =>
    obtain ⟨rfl, rfl⟩ := hrel
    go_wp2_with fail
    refine H.out.mono ?_
    rintro e w1 ⟨rfl, hr⟩
    have HR := hid hr
    clear hr
    go_wp2_with fail
    go_loop [6] (fun i => i = .int .i64 20) (fun _ => 0)
    case atStart => rfl
    case round =>
      subst hrel
      go_wp2_with fail
      go_end0
      exact ⟨rfl, HR.out⟩
theorem sortStable_any (a : Option Addr) (n cap g : Nat) (cs : Array Value) (w : World) (hn : n ≤ 8) (R : World → Prop)
    (h : Calls Tryd.prog 51 #[.slice a n cap, .int .i64 0, .int .i64 n, .func (.func g) #[] cs] w fun e w' => e = .returned (.tuple #[]) ∧ R w') :
    Calls Tryd.prog 32 #[.slice a n cap, .func (.func g) #[] cs] w fun e w' => e = .returned (.tuple #[]) ∧ R w' := by
  have H := hid (stable_any _ n g cs w hn R h)
  clear h
  go_enter Tryd.func32, Tryd.ntmps32
  go_wp2_with fail
  refine H.out.mono ?_
  rintro e w1 ⟨rfl, hr⟩
  have HR := hid hr
  clear hr
  go_wp2_with fail
  go_end0
  exact ⟨rfl, HR.out⟩
/-- A row of n numbers, whole. -/
def Row (g : Nat) (w : World) (n : Nat) (f : Nat → Nat) : Prop := ∃ cur : Array Value, w.heap[g]? = some (.cells cur 3 (0, 0)) ∧ cur.size = n ∧ ∀ i, i < n → cur[i]? = some (.int .i64 (f i : Nat))
theorem Row.cell {g : Nat} {w : World} {n : Nat} {f : Nat → Nat} (h : Row g w n f) {i : Nat} (hi : i < n) : w.cell? ⟨g, i, none⟩ = some (.int .i64 (f i : Nat)) := by
  obtain ⟨cur, h1, h2, h3⟩ := h
  simp [World.cell?, h1, h3 i hi]
theorem Row.frozen {g : Nat} {w : World} {n : Nat} {f : Nat → Nat} (h : Row g w n f) (i : Nat) : w.frozen? ⟨g, i, none⟩ = false := by
  obtain ⟨cur, h1, h2, h3⟩ := h
  simp [World.frozen?, h1]
theorem Row.new (w : World) (n : Nat) : Row w.heap.size (w.alloc (.cells (madeCells #[.int .i64 0] n) 3)) n (fun _ => 0) :=
  ⟨_, World.alloc_heap_new w _, by simp [madeCells], fun i hi => by simp [madeCells, hi, Nat.mod_one]⟩
theorem Row.set {g : Nat} {w : World} {n : Nat} {f f' : Nat → Nat} (h : Row g w n f) (j x : Nat) (hj : j < n) (hf : ∀ i, i < n → f' i = if j = i then x else f i) : Row g (w.setCell ⟨g, j, none⟩ (.int .i64 (x : Nat))) n f' := by
  obtain ⟨cur, h1, h2, h3⟩ := h
  refine ⟨cur.setIfInBounds j (.int .i64 (x : Nat)), ?_, by simp [h2], fun i hi => ?_⟩
  · simp [World.setCell, Array.getElem?_modify, h1]
  · rw [hf i hi, Array.getElem?_setIfInBounds]
    by_cases e : j = i
    · subst e; simp [h2, hj]
    · simp [e, h3 i hi]
theorem Row.own {B g : Nat} {w : World} {n : Nat} (h : Row g w n (fun i => i)) (hB : B ≤ g) (hn : n ≤ 256) : Own B w (.slice (some ⟨g, 0, none⟩) n n) (List.range n) := by
  obtain ⟨cur, h1, h2, h3⟩ := h
  have e : (List.range n).length = n := by simp
  refine ⟨by simp [V], .inr ⟨g, n, cur, by rw [e], hB, h1, by rw [e]; exact Nat.le_refl _, by unfold maxLen; omega, by rw [h2, Nat.mul_one], ?_⟩⟩
  rw [e, Nat.mul_one]
  apply List.ext_getElem?
  intro i
  by_cases hi : i < n
  · rw [List.getElem?_take_of_lt hi, Array.getElem?_toList, h3 i hi]
    simp [V, hi]
  · rw [List.getElem?_take_eq_none (by omega), List.getElem?_eq_none (by simp [V]; omega)]

/-- The order by the weights. -/
def hvO (ws : List Int) : List Nat := match ws.length with
  | 0 => []
  | k + 1 => (sortW (k := k) fun i => ws.getD i 0).toList.map (·.1)
theorem hvO_by (ws : List Int) : ByW ws.length (fun i => ws.getD i 0) (hvO ws) := by
  unfold hvO
  split
  · rename_i h
    rw [h]
    exact ⟨⟨by simp, List.nodup_nil⟩, fun i hi => by omega, List.Pairwise.nil⟩
  · rename_i k h
    rw [h]
    exact sortW_by _
set_option maxRecDepth 20000 in
set_option maxHeartbeats 2000000 in
theorem heaviest_any (wv : Value) (ws : List Int) (w : World) (h : Ints w wv ws) (hn : ws.length ≤ 8) :
    Calls Tryd.prog 19 #[wv] w fun e w' => ∃ r, e = .returned r ∧ Own w.heap.size w' r (hvO ws) ∧ Below w.heap.size w w' := by
  have HI := hid h
  obtain ⟨a, cap, rfl, _, hca⟩ := h
  have HCA := hid hca
  clear hca
  have hmk := fun w => run_make_row' (P := Tryd.prog) 22 3 (.int .i64 0) 8 Tryd.underlying22 Tryd.infoInt rfl .i64 .i64 ws.length (by omega) (by omega) w
  go_enter Tryd.func19, Tryd.ntmps19
  go_wp2_with fail
  have kW := (cellN w (.slice a ws.length cap) 22).1
  have kW1 := cellA (.cells (madeCells #[.int .i64 0] ws.length) 3) kW
  have kR := Row.new (w.alloc (.cells #[.slice a ws.length cap] 22)) ws.length
  have kB : Below w.heap.size w ((w.alloc (.cells #[.slice a ws.length cap] 22)).alloc (.cells (madeCells #[.int .i64 0] ws.length) 3)) := ((Below.refl _ w).alloc (Nat.le_refl _) _).alloc (by simp) _
  have kS : ((w.alloc (.cells #[.slice a ws.length cap] 22)).alloc (.cells (madeCells #[.int .i64 0] ws.length) 3)).heap.size = w.heap.size + 2 := by simp
  rw [World.size_alloc] at kR
  clear kW hmk
  revert kW1 kR kB kS
  generalize (w.alloc (.cells #[.slice a ws.length cap] 22)).alloc (.cells (madeCells #[.int .i64 0] ws.length) 3) = W1
  intro kW1 kR kB kS
  go_loopw [10] (fun i wr => ∃ k : Nat, k ≤ ws.length ∧ i = .int .i64 k ∧ Hid (Row (w.heap.size + 1) wr ws.length (fun i => if i < k then i else 0)) ∧ Hid (Below (w.heap.size + 1) W1 wr)) (fun i _ => ws.length - (intOf i).toNat)
  case atStart => exact ⟨0, Nat.zero_le _, rfl, (show Row (w.heap.size + 1) W1 ws.length (fun i => if i < 0 then i else 0) by simpa using kR), Below.refl _ _⟩
  case round =>
    obtain ⟨k, hk, rfl, HR, HW⟩ := hrel
    by_cases hlt : k < ws.length
    · have hki : (k : Int) < (ws.length : Int) := by omega
      have hc := HR.out.cell hlt
      have hfz := HR.out.frozen k
      have R2 := hid (HR.out.set (f' := fun i => if i < k + 1 then i else 0) k k hlt fun i hi => by
        by_cases e : k = i
        · subst e; simp
        · have : (i < k + 1) = (i < k) := by rw [eq_iff_iff]; omega
          simp [this, e])
      have B2 := hid (HW.out.setCell (p := ⟨w.heap.size + 1, k, none⟩) (Nat.le_refl _) (.int .i64 k))
      go_wp2_with fail
      go_roundw
      case rel => exact ⟨k + 1, by omega, by go_num, R2, B2⟩
      case measure => simp [intOf]; omega
    · obtain rfl : k = ws.length := by omega
      have hRow : Row (w.heap.size + 1) wr ws.length (fun i => i) := by
        obtain ⟨cur, h1, h2, h3⟩ := HR.out
        exact ⟨cur, h1, h2, fun i hi => by rw [h3 i hi]; simp [hi]⟩
      have hO := hRow.own (B := w.heap.size + 1) (Nat.le_refl _) (by omega)
      have hBw := kB.trans (HW.out.mono (by omega : w.heap.size ≤ w.heap.size + 1))
      have hI : Ints wr (.slice a ws.length cap) ws := HI.out.below hBw
      have hcW := (HW.out.cell (p := ⟨w.heap.size, 0, none⟩) (by show w.heap.size < _; omega)).trans kW1
      have SRT : Hid (Calls Tryd.prog 32 #[.slice (some ⟨w.heap.size + 1, 0, none⟩) ws.length ws.length, .func (.func 33) #[] #[.pointer (some ⟨w.heap.size, 0, none⟩)]] wr fun e w' => e = .returned (.tuple #[]) ∧ (Own (w.heap.size + 1) w' (.slice (some ⟨w.heap.size + 1, 0, none⟩) ws.length ws.length) (hvO ws) ∧ wr.grownBy w' (some (w.heap.size + 1)))) := by
        refine sortStable_any _ _ _ _ _ _ hn _ ?_
        cases hl : ws.length with
        | zero =>
          refine (insert_none _ _ _ _).mono ?_
          rintro e w' ⟨rfl, rfl⟩
          refine ⟨rfl, ?_, World.grownBy.refl _ _⟩
          rw [hl] at hO
          unfold hvO
          rw [hl]
          exact hO
        | succ k =>
          rw [hl] at hO hI hcW
          refine (insert_own (pw := w.heap.size) (ws := ws) hO (by omega) hl hcW (by rw [← hl] at hI ⊢; exact hI) (by omega) ?_).mono ?_
          · intro b off L cp e
            obtain ⟨b', off', e', hb', _⟩ := HCA.out (by omega)
            cases e
            cases e'
            omega
          · rintro e w' ⟨rfl, h1, h2⟩
            refine ⟨rfl, ?_, h2⟩
            unfold hvO
            rw [hl]
            exact h1
      have HB := hid hBw
      clear hRow hO hI hBw
      go_wp2_with fail
      refine SRT.out.mono ?_
      rintro e w2 ⟨rfl, ho2, hg2⟩
      have HB2 := hid (HB.out.grown hg2 HB.out.size (fun k e => by cases e; omega))
      have HO2 := hid (ho2.mono (by omega : w.heap.size ≤ w.heap.size + 1))
      clear ho2 hg2
      go_wp2_with fail
      go_ret
      exact ⟨_, rfl, HO2.out, HB2.out⟩
end Go.Proofs.YthbcnolpjcppoabDoor
