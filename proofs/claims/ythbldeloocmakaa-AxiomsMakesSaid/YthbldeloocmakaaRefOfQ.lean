/- rotaref.OfFree. -/
import Derived.Test.YthbldeloocmakaaWholeW
import Derived.Test.YthbldeloocmakaaMSaysPW
import Derived.Test.YthbldeloocmakaaMadeRkW
namespace Go.Proofs.Ythbldeloocmakaa
open Go.RowKit

open Classical in
/-- 0, if it is so, else 3. -/
noncomputable def qOf (P : Prop) : Int := if P then 0 else 3
theorem qOf_pos {P : Prop} (h : P) : qOf P = 0 := by unfold qOf; exact if_pos h
theorem qOf_neg {P : Prop} (h : ¬ P) : qOf P = 3 := by unfold qOf; exact if_neg h
/-- A matroid, or nothing, and whether there is one. -/
def BoolM (w : World) (q n : Int) (l : List Nat) (e : Ending) (w' : World) : Prop := ∃ nn a L c, e = .returned (.tuple #[.agg #[.int .i64 nn, .slice a L c], .bool (q == 0)]) ∧ GoodM w.heap.size w' q n l nn (.slice a L c) ∧ Below w.heap.size w w'
theorem BoolM.no {w w' : World} {q n : Int} {l : List Nat} (hq : q = 3) (hb : Below w.heap.size w w') : BoolM w q n l (.returned (.tuple #[.agg #[.int .i64 0, .slice none 0 0], .bool false])) w' := ⟨0, none, 0, 0, by rw [hq]; rfl, .inr ⟨by rw [hq]; decide, rfl, rfl⟩, hb⟩
theorem getD_mem {l : List Nat} {k : Nat} (hk : k < l.length) : l.getD k 0 ∈ l := by
  simp only [List.getD, List.getElem?_eq_getElem hk, Option.getD_some]
  exact List.getElem_mem _
theorem mem_getD {l : List Nat} {x : Nat} (h : x ∈ l) : ∃ k, k < l.length ∧ l.getD k 0 = x := by
  obtain ⟨k, hk, e⟩ := List.getElem_of_mem h
  exact ⟨k, hk, by simp [List.getD, hk, e]⟩
theorem less_bit {s k : Nat} (hs : s < 256) (h : s.testBit k = true) : (s : Int) - (2 ^ k : Nat) = (rm s k : Nat) := by
  have h8 : k < 8 := bit_lt (n := 8) hs h
  have := (rm_up s hs k h8 h).1
  omega
/-- Some element of b, not of a, goes to a. -/
def augTo (l : List Nat) (a b n : Nat) : Bool := (List.range n).any fun k => (b ^^^ (b &&& a)).testBit k && memB (a ||| bt k) l
theorem augTo_succ (l : List Nat) (a b n : Nat) : augTo l a b (n + 1) = (augTo l a b n || ((b ^^^ (b &&& a)).testBit n && memB (a ||| bt n) l)) := by
  unfold augTo
  rw [List.range_succ, List.any_append]
  simp
theorem aug_iff {l : List Nat} {a b n : Nat} (hb : b < 2 ^ n) : augTo l a b n = true ↔ ∃ k, b.testBit k = true ∧ a.testBit k = false ∧ a ||| 2 ^ k ∈ l := by
  unfold augTo memB bt
  simp only [List.any_eq_true, List.mem_range, Bool.and_eq_true, decide_eq_true_eq, Nat.testBit_xor, Nat.testBit_and]
  constructor
  · rintro ⟨k, hk, h1, h2⟩
    cases hx : b.testBit k <;> cases hy : a.testBit k <;> simp [hx, hy] at h1
    exact ⟨k, hx, hy, h2⟩
  · rintro ⟨k, h1, h2, h3⟩
    exact ⟨k, bit_lt hb h1, by simp [h1, h2], h3⟩
theorem ind_no1 {l : List Nat} {i k : Nat} (hi : i < l.length) (h1 : (l.getD i 0).testBit k = true) (h2 : memB (rm (l.getD i 0) k) l = false) : ¬ IndAx l := fun h => by
  have := h.down _ (getD_mem hi) k h1
  unfold memB at h2
  exact (decide_eq_false_iff_not.1 h2) this
theorem ind_no2 {n : Nat} {l : List Nat} (hf : Fam n l) {i j : Nat} (hi : i < l.length) (hj : j < l.length) (h1 : pop (l.getD j 0) = pop (l.getD i 0) + 1) (h2 : augTo l (l.getD i 0) (l.getD j 0) n = false) : ¬ IndAx l := fun h => by
  have := (aug_iff (hf.lt _ (getD_mem hj))).2 (h.aug _ (getD_mem hi) _ (getD_mem hj) h1)
  rw [h2] at this
  cases this
theorem ind_yes {n : Nat} {l : List Nat} (hf : Fam n l) (h0 : memB 0 l = true) (h1 : ∀ i, i < l.length → (∀ k, k < n → (l.getD i 0).testBit k = true → memB (rm (l.getD i 0) k) l = true) ∧ ∀ j, j < l.length → pop (l.getD j 0) = pop (l.getD i 0) + 1 → augTo l (l.getD i 0) (l.getD j 0) n = true) : IndAx l where
  zero := by simpa [memB] using h0
  down := fun s hs k hk => by
    obtain ⟨i, hi, rfl⟩ := mem_getD hs
    have := (h1 i hi).1 k (bit_lt (hf.lt _ hs) hk) hk
    simpa [memB] using this
  aug := fun a ha b hb hp => by
    obtain ⟨i, hi, rfl⟩ := mem_getD ha
    obtain ⟨j, hj, rfl⟩ := mem_getD hb
    exact (aug_iff (hf.lt _ hb)).1 ((h1 i hi).2 j hj hp)

/-- The result's block lies there, as it was laid. -/
def At1 (w W : World) : Prop := Below w.heap.size w W ∧ W.heap[w.heap.size]? = some (.cells #[.int .i64 0, .slice none 0 0] 24 (0, 0)) ∧ w.heap.size + 1 ≤ W.heap.size
theorem At1.new (w : World) : At1 w (w.alloc (.cells #[.int .i64 0, .slice none 0 0] 24)) := ⟨(Below.refl _ _).alloc (Nat.le_refl _) _, World.alloc_heap_new w _, by simp⟩
theorem At1.on {w W W' : World} (h : At1 w W) (hb : Below W.heap.size W W') : At1 w W' := ⟨h.1.trans (hb.mono h.1.size), (hb.block _ (by have := h.2.2; omega)).trans h.2.1, Nat.le_trans h.2.2 hb.size⟩
theorem At1.ints {w W : World} (h : At1 w W) {v : Value} {zs : List Int} (hv : Ints w v zs) : Ints W v zs := hv.below h.1
theorem At1.cell {w W : World} (h : At1 w W) {b off : Nat} {x : Value} (hb : b < w.heap.size) (hx : w.cell? ⟨b, off, none⟩ = some x) : W.cell? ⟨b, off, none⟩ = some x := (h.1.cell (p := ⟨b, off, none⟩) hb).trans hx
theorem At1.cells {w W : World} (h : At1 w W) : W.cell? ⟨w.heap.size, 0, none⟩ = some (.int .i64 0) ∧ W.cell? ⟨w.heap.size, 1, none⟩ = some (.slice none 0 0) ∧ W.frozen? ⟨w.heap.size, 0, none⟩ = false ∧ W.frozen? ⟨w.heap.size, 1, none⟩ = false := two_cells h.2.1
theorem At1.end {w W : World} (h : At1 w W) (x y : Value) : (((W.setCell ⟨w.heap.size, 0, none⟩ x).setCell ⟨w.heap.size, 1, none⟩ y).cell? ⟨w.heap.size, 0, none⟩ = some x ∧ ((W.setCell ⟨w.heap.size, 0, none⟩ x).setCell ⟨w.heap.size, 1, none⟩ y).cell? ⟨w.heap.size, 1, none⟩ = some y) ∧ Below w.heap.size w ((W.setCell ⟨w.heap.size, 0, none⟩ x).setCell ⟨w.heap.size, 1, none⟩ y) := ⟨set_two h.2.1, below_two h.1 (Nat.le_refl _)⟩
theorem big_len (l : List Nat) : (bigS l).length ≤ l.length := List.length_filter_le _ _
theorem BoolM.yes {w W : World} {q n : Int} {l : List Nat} {ra : Option Addr} {rc : Nat} (hq : q = 0) (hl : l.length ≤ 17592186044416) (ho : Own (w.heap.size + 1) W (.slice ra l.length rc) l) (h : At1 w W) :
    BoolM w q n l (.returned (.tuple #[.agg #[.int .i64 n, .slice ra l.length rc], .bool true])) ((W.setCell ⟨w.heap.size, 0, none⟩ (.int .i64 n)).setCell ⟨w.heap.size, 1, none⟩ (.slice ra l.length rc)) :=
  ⟨n, ra, l.length, rc, by rw [hq]; rfl, .inl ⟨hq, rfl, hl, (ho.set2 (b := w.heap.size) (by omega)).mono (by omega)⟩, below_two h.1 (Nat.le_refl _)⟩

set_option maxRecDepth 100000 in
set_option maxHeartbeats 4000000 in
theorem OfFree_ref (m : Nat) (v : Value) (l : List Nat) (w : World) (hm : m ≤ 8) (hf : Fam m l) (h : Ints w v (N l)) :
    Calls Try.prog 32 #[.int .i64 m, v] w (BoolM w (qOf (IndAx l)) m (bigS l)) := by
  have HI := hid h
  have HL := hid (hf.lt256 hm)
  have HF := hid hf
  obtain ⟨a, cap, rfl, hlen, hc⟩ := h.nats
  have HAS := hid (fun (x : Nat) (w' : World) (hb : At1 w w') => Has_any (.slice a l.length cap) l x w' (hb.ints HI.out))
  obtain ⟨q, HQ⟩ : ∃ q, Hid (qOf (IndAx l) = q) := ⟨_, rfl⟩
  rw [HQ.out]
  clear h hf
  have A0 := hid (At1.new w)
  rcases h0 : memB 0 l with _ | _
  · have Q3 : Hid (q = 3) := by
      show _ = _
      rw [← HQ.out]
      exact qOf_neg fun h => by simp [memB, h.zero] at h0
    have H0 := hid h0
    clear h0
    go_enter Try.func32, Try.ntmps32
    go_wp2_with fail
    refine (HAS.out 0 _ A0.out).mono ?_
    rw [H0.out]
    rintro e w' ⟨rfl, rfl⟩
    generalize w.alloc _ = w1 at *
    obtain ⟨y0, y1, g0, g1⟩ := A0.out.cells
    go_wp2_with fail
    obtain ⟨⟨c0, c1⟩, hD⟩ := A0.out.end (.int .i64 0) (.slice none 0 0)
    refine bodyPost_ret (v := .tuple #[.agg #[.int .i64 0, .slice none 0 0], .bool false]) ?_ rfl (BoolM.no Q3.out hD)
    simp [results, Try.f32, go_sem, c0, c1]
  · have H0 := hid h0
    clear h0
    go_enter Try.func32, Try.ntmps32
    go_wp2_with fail
    refine (HAS.out 0 _ A0.out).mono ?_
    rw [H0.out]
    rintro e w' ⟨rfl, rfl⟩
    generalize w.alloc _ = w1 at *
    go_wp2_with fail
    go_loopw [6] (fun i wr => ∃ k : Nat, k ≤ l.length ∧ i = .int .i64 k ∧ Hid (∀ i, i < k → (∀ k, k < m → (l.getD i 0).testBit k = true → memB (rm (l.getD i 0) k) l = true) ∧ ∀ j, j < l.length → pop (l.getD j 0) = pop (l.getD i 0) + 1 → augTo l (l.getD i 0) (l.getD j 0) m = true) ∧ Hid (At1 w wr)) (fun i _ => l.length - (intOf i).toNat)
    case atStart => exact ⟨0, Nat.zero_le _, rfl, fun i h => absurd h (by omega), A0⟩
    case round =>
      obtain ⟨i, hi, rfl, G1, A1⟩ := hrel
      by_cases hlt1 : i < l.length
      · obtain ⟨b, off, rfl, hb, hcell⟩ := hc (by omega)
        have hci := hcell i hlt1
        have hxi := getD_lt HL.out i
        have hpi := pop_le _ hxi
        have N1 := hid (fun k => ind_no1 (k := k) hlt1)
        have N2 := hid (fun j hj => ind_no2 HF.out (j := j) hlt1 hj)
        obtain ⟨x, HX⟩ : ∃ x, Hid (l.getD i 0 = x) := ⟨_, rfl⟩
        rw [HX.out] at hci hxi hpi N1 N2
        go_wp2_with fail
        go_loopw [7] (fun k wr => ∃ j : Nat, j ≤ m ∧ k = .int .i64 j ∧ Hid (∀ k, k < j → x.testBit k = true → memB (rm x k) l = true) ∧ Hid (At1 w wr)) (fun k _ => m - (intOf k).toNat)
        case atStart => exact ⟨0, Nat.zero_le _, rfl, fun k h => absurd h (by omega), A1⟩
        case round =>
          rename World => wr2
          obtain ⟨k, hk, rfl, G2, A2⟩ := hrel
          by_cases hlt2 : k < m
          · have ck : ∀ x9 : Later wr2, x9.now.cell? ⟨b, off + i, none⟩ = some (.int .i64 (x : Nat)) := fun x9 => (A2.out.on x9.kept).cell hb hci
            have IN := hid (fun w => In_any x k w hxi (by omega))
            have HSK : wrap64 (2 ^ k) = (bt k : Int) := (pow_wrap k (by omega)).1
            cases hbk : x.testBit k with
            | false =>
              have HB := hid hbk
              rw [hbk] at IN
              clear hbk
              go_wp2_with fail
              refine region_later (by kernel_rfl) (by kernel_rfl) ?_
              repeat (go_big_quiet_step (((go_at_call 60; refine (IN.out _).mono ?_; rintro e w' ⟨rfl, hb9⟩; exact ⟨rfl, Later.on _ (by rw [hb9]; exact Below.refl _ _)⟩))))
              refine wpQuiet_nil ?_
              intro w6 hw'
              obtain ⟨⟨y6, hb6⟩, hw''⟩ := hw'
              dsimp only at hw''
              subst hw''
              have A9 := hid (A2.out.on hb6)
              clear hb6 ck
              go_wp2_with fail
              go_roundw
              case rel => exact ⟨k + 1, by omega, by go_num, fun k' hk' hb' => (Nat.lt_succ_iff_lt_or_eq.1 hk').elim (fun h => G2.out k' h hb') (fun e => by subst e; rw [HB.out] at hb'; cases hb'), A9⟩
              case measure => simp [intOf]; omega
            | true =>
              have HB := hid hbk
              rw [hbk] at IN
              have LB : (x : Int) - (bt k : Int) = (rm x k : Nat) := less_bit hxi hbk
              have HH := hid (fun x9 : Later wr2 => HAS.out (rm x k) x9.now (A2.out.on x9.kept))
              have hrm := rm_lt hxi hbk
              have NN := hid (N1.out k hbk)
              clear hbk
              cases hme : memB (rm x k) l with
              | true =>
                have HM := hid hme
                rw [hme] at HH
                clear hme NN
                go_wp2_with fail
                refine region_later (by kernel_rfl) (by kernel_rfl) ?_
                repeat (go_big_quiet_step ((first | (go_at_call 60; refine (IN.out _).mono ?_; rintro e w' ⟨rfl, hb9⟩; exact ⟨rfl, Later.on _ (by rw [hb9]; exact Below.refl _ _)⟩) | (go_at_call 56; refine (HH.out _).mono ?_; rintro e w' ⟨rfl, hb9⟩; exact ⟨rfl, Later.on _ (by rw [hb9]; exact Below.refl _ _)⟩))))
                refine wpQuiet_nil ?_
                intro w6 hw'
                obtain ⟨⟨y6, hb6⟩, hw''⟩ := hw'
                dsimp only at hw''
                subst hw''
                have A9 := hid (A2.out.on hb6)
                clear hb6 ck
                go_wp2_with fail
                go_roundw
                case rel => exact ⟨k + 1, by omega, by go_num, fun k' hk' hb' => (Nat.lt_succ_iff_lt_or_eq.1 hk').elim (fun h => G2.out k' h hb') (fun e => by subst e; exact HM.out), A9⟩
                case measure => simp [intOf]; omega
              | false =>
                have Q3 : Hid (q = 3) := HQ.out.symm.trans (qOf_neg (NN.out hme))
                rw [hme] at HH
                clear hme NN
                go_wp2_with fail
                refine region_later (by kernel_rfl) (by kernel_rfl) ?_
                repeat (go_big_quiet_step ((first | (go_at_call 60; refine (IN.out _).mono ?_; rintro e w' ⟨rfl, hb9⟩; exact ⟨rfl, Later.on _ (by rw [hb9]; exact Below.refl _ _)⟩) | (go_at_call 56; refine (HH.out _).mono ?_; rintro e w' ⟨rfl, hb9⟩; exact ⟨rfl, Later.on _ (by rw [hb9]; exact Below.refl _ _)⟩))))
                refine wpQuiet_nil ?_
                intro w6 hw'
                obtain ⟨⟨y6, hb6⟩, hw''⟩ := hw'
                dsimp only at hw''
                subst hw''
                have A9 := hid (A2.out.on hb6)
                clear hb6 ck
                obtain ⟨y0, y1, g0, g1⟩ := A9.out.cells
                go_wp2_with fail
                obtain ⟨⟨c0, c1⟩, hD⟩ := A9.out.end (.int .i64 0) (.slice none 0 0)
                refine bodyPost_ret (v := .tuple #[.agg #[.int .i64 0, .slice none 0 0], .bool false]) ?_ rfl (BoolM.no Q3.out hD)
                simp [results, Try.f32, go_sem, c0, c1]
          · have G2' : Hid (∀ k, k < m → x.testBit k = true → memB (rm x k) l = true) := fun k' hk' => G2.out k' (by omega)
            clear G2
            go_wp2_with fail
            go_loopw [8] (fun j wr => ∃ k : Nat, k ≤ l.length ∧ j = .int .i64 k ∧ Hid (∀ j, j < k → pop (l.getD j 0) = pop x + 1 → augTo l x (l.getD j 0) m = true) ∧ Hid (At1 w wr)) (fun j _ => l.length - (intOf j).toNat)
            case atStart => exact ⟨0, Nat.zero_le _, rfl, fun k h => absurd h (by omega), A2⟩
            case round =>
              rename World => wr3
              obtain ⟨j, hj, rfl, G3, A3⟩ := hrel
              by_cases hlt3 : j < l.length
              · have hyj := getD_lt HL.out j
                have hpj := pop_le _ hyj
                have NN := hid (N2.out j hlt3)
                have hcj := hcell j hlt3
                obtain ⟨y, HY⟩ : ∃ y, Hid (l.getD j 0 = y) := ⟨_, rfl⟩
                rw [HY.out] at hyj hpj NN hcj
                have ci : ∀ x9 : Later wr3, x9.now.cell? ⟨b, off + i, none⟩ = some (.int .i64 (x : Nat)) := fun x9 => (A3.out.on x9.kept).cell hb hci
                have cj : ∀ x9 : Later wr3, x9.now.cell? ⟨b, off + j, none⟩ = some (.int .i64 (y : Nat)) := fun x9 => (A3.out.on x9.kept).cell hb hcj
                by_cases hp : pop y = pop x + 1
                · have hp' : ((pop y : Int) != (pop x : Int) + 1) = false := by rw [hp]; simp
                  have HP := hid hp
                  clear hp
                  go_wp2_with fail
                  refine region_later (by kernel_rfl) (by kernel_rfl) ?_
                  repeat (go_big_quiet_step (((go_at_call 49; refine (Size_any _ _ (by assumption)).mono ?_; rintro e w' ⟨rfl, hb9⟩; exact ⟨rfl, Later.on _ hb9⟩))))
                  refine wpQuiet_nil ?_
                  intro w6 hw'
                  obtain ⟨⟨y6, hb6⟩, hw''⟩ := hw'
                  dsimp only at hw''
                  subst hw''
                  have A9 := hid (A3.out.on hb6)
                  clear hb6 ci cj
                  go_wp2_with fail
                  go_loopw [9, 10] (fun u k wr => ∃ z : Nat, z ≤ m ∧ k = .int .i64 z ∧ u = .bool (augTo l x y z) ∧ Hid (At1 w wr)) (fun _ k _ => m - (intOf k).toNat)
                  case atStart => exact ⟨0, Nat.zero_le _, rfl, rfl, A9⟩
                  case round =>
                    rename World => wr4
                    obtain ⟨k, hk4, rfl, rfl, A4⟩ := hrel
                    by_cases hlt4 : k < m
                    · have ci : ∀ x9 : Later wr4, x9.now.cell? ⟨b, off + i, none⟩ = some (.int .i64 (x : Nat)) := fun x9 => (A4.out.on x9.kept).cell hb hci
                      have cj : ∀ x9 : Later wr4, x9.now.cell? ⟨b, off + j, none⟩ = some (.int .i64 (y : Nat)) := fun x9 => (A4.out.on x9.kept).cell hb hcj
                      have hz8 : y ^^^ (y &&& x) < 256 := Nat.xor_lt_two_pow (n := 8) hyj (Nat.lt_of_le_of_lt Nat.and_le_left hyj)
                      have hbk8 : bt k < 256 := bt_lt (by omega)
                      have AN : bits .andNot .i64 (y : Int) (x : Int) = ((y ^^^ (y &&& x) : Nat) : Int) := i64_andNot_nat _ _ (by omega) (by omega)
                      have OR : bits .or .i64 (x : Int) (bt k : Int) = ((x ||| bt k : Nat) : Int) := i64_or_nat _ _ (by omega) (by omega)
                      have HSK : wrap64 (2 ^ k) = (bt k : Int) := (pow_wrap k (by omega)).1
                      have AS := hid (augTo_succ l x y k)
                      have IN := hid (fun w => In_any (y ^^^ (y &&& x)) k w hz8 (by omega))
                      have HH := hid (fun x9 : Later wr4 => HAS.out (x ||| bt k) x9.now (A4.out.on x9.kept))
                      generalize x ||| bt k = xo at *
                      generalize y ^^^ (y &&& x) = z at *
                      cases hau : augTo l x y k with
                      | true =>
                        rw [hau] at AS
                        clear hau
                        go_wp2_with fail
                        refine region_later (by kernel_rfl) (by kernel_rfl) ?_
                        repeat (go_big_quiet_step (fail))
                        refine wpQuiet_nil ?_
                        intro w6 hw'
                        obtain ⟨⟨y6, hb6⟩, hw''⟩ := hw'
                        dsimp only at hw''
                        subst hw''
                        have A9 := hid (A4.out.on hb6)
                        clear hb6 ci cj
                        go_wp2_with fail
                        go_roundw
                        case rel => exact ⟨k + 1, by omega, by go_num, by rw [AS.out]; rfl, A9⟩
                        case measure => simp [intOf]; omega
                      | false =>
                        rw [hau] at AS
                        clear hau
                        cases hbk : z.testBit k with
                        | false =>
                          rw [hbk] at AS IN
                          clear hbk
                          go_wp2_with fail
                          refine region_later (by kernel_rfl) (by kernel_rfl) ?_
                          repeat (go_big_quiet_step (((go_at_call 60; refine (IN.out _).mono ?_; rintro e w' ⟨rfl, hb9⟩; exact ⟨rfl, Later.on _ (by rw [hb9]; exact Below.refl _ _)⟩))))
                          refine wpQuiet_nil ?_
                          intro w6 hw'
                          obtain ⟨⟨y6, hb6⟩, hw''⟩ := hw'
                          dsimp only at hw''
                          subst hw''
                          have A9 := hid (A4.out.on hb6)
                          clear hb6 ci cj
                          go_wp2_with fail
                          go_roundw
                          case rel => exact ⟨k + 1, by omega, by go_num, by rw [AS.out]; rfl, A9⟩
                          case measure => simp [intOf]; omega
                        | true =>
                          rw [hbk] at AS IN
                          clear hbk
                          generalize memB xo l = me at *
                          go_wp2_with fail
                          refine region_later (by kernel_rfl) (by kernel_rfl) ?_
                          repeat (go_big_quiet_step ((first | (go_at_call 60; refine (IN.out _).mono ?_; rintro e w' ⟨rfl, hb9⟩; exact ⟨rfl, Later.on _ (by rw [hb9]; exact Below.refl _ _)⟩) | (go_at_call 56; refine (HH.out _).mono ?_; rintro e w' ⟨rfl, hb9⟩; exact ⟨rfl, Later.on _ (by rw [hb9]; exact Below.refl _ _)⟩))))
                          refine wpQuiet_nil ?_
                          intro w6 hw'
                          obtain ⟨⟨y6, hb6⟩, hw''⟩ := hw'
                          dsimp only at hw''
                          subst hw''
                          have A9 := hid (A4.out.on hb6)
                          clear hb6 ci cj
                          go_wp2_with fail
                          go_roundw
                          case rel => exact ⟨k + 1, by omega, by go_num, by rw [AS.out]; simp, A9⟩
                          case measure => simp [intOf]; omega
                    · obtain rfl : k = m := by omega
                      cases hau : augTo l x y k with
                      | true =>
                        have HA := hid hau
                        clear hau
                        go_wp2_with fail
                        go_roundw
                        case rel => exact ⟨j + 1, by omega, by go_num, fun j' hj' hp9 => (Nat.lt_succ_iff_lt_or_eq.1 hj').elim (fun h => G3.out j' h hp9) (fun e => by subst e; rw [HY.out]; exact HA.out), A4⟩
                        case measure => simp [intOf]; omega
                      | false =>
                        have Q3 : Hid (q = 3) := HQ.out.symm.trans (qOf_neg (NN.out HP.out hau))
                        clear hau
                        obtain ⟨y0, y1, g0, g1⟩ := A4.out.cells
                        go_wp2_with fail
                        obtain ⟨⟨c0, c1⟩, hD⟩ := A4.out.end (.int .i64 0) (.slice none 0 0)
                        refine bodyPost_ret (v := .tuple #[.agg #[.int .i64 0, .slice none 0 0], .bool false]) ?_ rfl (BoolM.no Q3.out hD)
                        simp [results, Try.f32, go_sem, c0, c1]
                · have hp' : ((pop y : Int) != (pop x : Int) + 1) = true := by rw [bne_iff_ne]; omega
                  have HP := hid hp
                  clear hp
                  go_wp2_with fail
                  refine region_later (by kernel_rfl) (by kernel_rfl) ?_
                  repeat (go_big_quiet_step (((go_at_call 49; refine (Size_any _ _ (by assumption)).mono ?_; rintro e w' ⟨rfl, hb9⟩; exact ⟨rfl, Later.on _ hb9⟩))))
                  refine wpQuiet_nil ?_
                  intro w6 hw'
                  obtain ⟨⟨y6, hb6⟩, hw''⟩ := hw'
                  dsimp only at hw''
                  subst hw''
                  have A9 := hid (A3.out.on hb6)
                  clear hb6 ci cj
                  go_wp2_with fail
                  go_roundw
                  case rel => exact ⟨j + 1, by omega, by go_num, fun j' hj' hp9 => (Nat.lt_succ_iff_lt_or_eq.1 hj').elim (fun h => G3.out j' h hp9) (fun e => by subst e; rw [HY.out] at hp9; exact absurd hp9 HP.out), A9⟩
                  case measure => simp [intOf]; omega
              · go_wp2_with fail
                go_roundw
                case rel => exact ⟨i + 1, by omega, by go_num, fun i' hi' => (Nat.lt_succ_iff_lt_or_eq.1 hi').elim (fun h => G1.out i' h) (fun e => by subst e; rw [HX.out]; exact ⟨G2'.out, fun j' hj' => G3.out j' (by omega)⟩), A3⟩
                case measure => simp [intOf]; omega
      · have HLN : Hid (l.length ≤ 256) := Nat.le_trans (fam_len hm HF.out) (by decide)
        have Q0 : Hid (q = 0) := HQ.out.symm.trans (qOf_pos (ind_yes HF.out H0.out fun i' hi' => G1.out i' (by omega)))
        have BG := hid (biggest_any _ l wr HL.out HLN.out (A1.out.ints HI.out))
        rw [big_eq] at BG
        go_wp2_with fail
        refine BG.out.mono ?_
        rintro e w4 ⟨r4, rfl, hr4, hb4⟩
        obtain ⟨ra, rc, hr⟩ := ownsRow_form' hr4
        subst hr
        have A4 := hid (A1.out.on hb4)
        have HO := hid (hr4.mono A1.out.2.2)
        have HE := hid (BoolM.yes (n := m) Q0.out (Nat.le_trans (big_len l) (Nat.le_trans HLN.out (by decide))) HO.out A4.out)
        obtain ⟨y0, y1, g0, g1⟩ := A4.out.cells
        clear hb4 hr4
        go_wp2_with fail
        obtain ⟨⟨c0, c1⟩, hD⟩ := A4.out.end (.int .i64 m) (.slice ra (bigS l).length rc)
        refine bodyPost_ret (v := .tuple #[.agg #[.int .i64 m, .slice ra (bigS l).length rc], .bool true]) ?_ rfl HE.out
        simp [results, Try.f32, go_sem, c0, c1]
end Go.Proofs.Ythbldeloocmakaa
