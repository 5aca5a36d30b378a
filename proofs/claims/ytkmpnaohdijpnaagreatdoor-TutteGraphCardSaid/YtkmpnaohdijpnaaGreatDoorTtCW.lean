/- greedy.isBasis, greedy.checkBases; slices.Index and slices.Contains of whatever number. -/
import Derived.Test.YtkmpnaohdijpnaaGreatDoorBasW
import Derived.Test.YtkmpnaohdijpnaaGreatDoorKGraph2W
import Derived.Test.YtkmpnaohdijpnaaGreatDoorQBelQ
import Derived.Test.YtkmpnaohdijpnaaGreatDoorEqQ
import Derived.Test.YtkmpnaohdijpnaaGreatDoorPlainAll1
import Derived.Test.YtkmpnaohdijpnaaGreatDoorOldNW
import Derived.Test.YtkmpnaohdijpnaaGreatDoorPlainAll
import Derived.Test.YtkmpnaohdijpnaaGreatDoorTZW
import Derived.Test.YtkmpnaohdijpnaaGreatDoorFgAW
import Derived.Deep.OwnRows
namespace Go.Proofs.YtkmpnaohdijpnaaGreatDoor
open Go.RowKit

/-- Is x one of zs? -/
def memZ (x : Int) (zs : List Int) : Bool := decide (x ∈ zs)
theorem memZ_N (x : Nat) (l : List Nat) : memZ x (N l) = memB x l := by
  unfold memZ memB N
  rw [Bool.eq_iff_iff, decide_eq_true_eq, decide_eq_true_eq, List.mem_map]
  constructor
  · rintro ⟨y, h1, h2⟩
    have : y = x := Int.ofNat.inj h2
    exact this ▸ h1
  · exact fun h => ⟨x, h, rfl⟩
set_option maxRecDepth 20000 in
set_option maxHeartbeats 800000 in
theorem IndexZ_any (v : Value) (zs : List Int) (x : Int) (w : World) (h : Ints w v zs) :
    Calls Tryz.prog 102 #[v, .int .i64 x] w fun e w' => ∃ r : Int, e = .returned (.int .i64 r) ∧ decide (0 ≤ r) = memZ x zs ∧ w' = w := by
  obtain ⟨a, cap, rfl, hlen, hc⟩ := h
  go_enter Tryz.func102, Tryz.ntmps102
  go_wp2_with fail
  go_loop [8] (fun i => ∃ k : Nat, k ≤ zs.length ∧ i = .int .i64 k ∧ Hid (x ∈ zs ↔ x ∈ zs.drop k)) (fun i => zs.length - (intOf i).toNat)
  case atStart => exact ⟨0, Nat.zero_le _, rfl, Iff.rfl⟩
  case round =>
    obtain ⟨k, hk, rfl, R⟩ := hrel
    by_cases hlt : k < zs.length
    · obtain ⟨b, off, rfl, hb, hcell⟩ := hc (by omega)
      have hck := hcell k hlt
      have D : Hid (zs.drop k = zs.getD k 0 :: zs.drop (k + 1)) := by
        show zs.drop k = _
        rw [List.drop_eq_getElem_cons hlt]; simp [List.getD, hlt]
      have hki : (k : Int) < (zs.length : Int) := by omega
      clear hcell hc
      generalize zs.getD k 0 = y at *
      by_cases hxy : x = y
      · have hxy' : (x == y) = true := by rw [hxy]; simp
        have F : Hid (memZ x zs = true) := by
          show decide (x ∈ zs) = true
          rw [decide_eq_true_iff, R.out, D.out, hxy]; simp
        clear hxy
        go_wp2_with fail
        go_ret
        exact ⟨_, rfl, by rw [F.out]; simp, rfl⟩
      · have hxy' : (x == y) = false := by rw [beq_eq_false_iff_ne]; exact hxy
        have HX := hid hxy
        clear hxy
        go_wp2_with fail
        go_round
        case rel => exact ⟨k + 1, by omega, by go_num, by show x ∈ zs ↔ _; rw [R.out, D.out]; simp [HX.out]⟩
        case measure => simp [intOf]; omega
    · have F : Hid (memZ x zs = false) := by
        show decide (x ∈ zs) = false
        rw [decide_eq_false_iff_not, R.out, List.drop_of_length_le (by omega)]; simp
      go_wp2_with fail
      go_ret
      exact ⟨_, rfl, by rw [F.out]; simp, rfl⟩
theorem ContainsZ_any (v : Value) (zs : List Int) (x : Int) (w : World) (h : Ints w v zs) :
    Calls Tryz.prog 99 #[v, .int .i64 x] w fun e w' => e = .returned (.bool (memZ x zs)) ∧ w' = w := by
  have HI := hid (IndexZ_any v zs x w h)
  clear h
  go_enter Tryz.func99, Tryz.ntmps99
  go_wp2_with fail
  refine HI.out.mono ?_
  rintro e w1 ⟨r, rfl, hr, rfl⟩
  have HR := hid hr
  clear hr
  go_wp2_with fail
  go_ret
  exact ⟨ret_bool HR.out, rfl⟩
theorem isBasis_any (n : Int) (v : Value) (zs : List Int) (x : Int) (w : World) (h : Ints w v zs) :
    Calls Tryz.prog 89 #[.agg #[.int .i64 n, v], .int .i64 x] w fun e w' => e = .returned (.bool (memZ x zs)) ∧ Below w.heap.size w w' := by
  have hB0 := below_box w #[.int .i64 n, v]
  have HC := hid (ContainsZ_any v zs x _ (h.below hB0))
  have HB := hid hB0
  obtain ⟨a, cap, rfl, _, _⟩ := h
  clear hB0
  go_enter Tryz.func89, Tryz.ntmps89
  go_wp2_with fail
  refine HC.out.mono ?_
  rintro e w1 ⟨rfl, rfl⟩
  go_wp2_with fail
  go_ret
  exact ⟨rfl, HB.out⟩
/-- What checkBases tells. -/
def cbR (n : Int) (zs ys : List Int) : Int := if chkR n zs ≠ 0 then chkR n zs else if ys.all fun y => memZ y zs then 0 else 1
end Go.Proofs.YtkmpnaohdijpnaaGreatDoor

namespace Go.Proofs.YtkmpnaohdijpnaaGreatDoor
open Go.RowKit Go.Shelf
attribute [local go_sem] Oper.semAt_some
theorem newBox (W : World) (x y : Value) (t : TypeId) : Below W.heap.size W ((W.alloc (.cells #[x] t)).setCell ⟨W.heap.size, 0, none⟩ y) ∧ ((W.alloc (.cells #[x] t)).setCell ⟨W.heap.size, 0, none⟩ y).cell? ⟨W.heap.size, 0, none⟩ = some y ∧ ((W.alloc (.cells #[x] t)).setCell ⟨W.heap.size, 0, none⟩ y).frozen? ⟨W.heap.size, 0, none⟩ = false ∧ ((W.alloc (.cells #[x] t)).setCell ⟨W.heap.size, 0, none⟩ y).heap.size = W.heap.size + 1 := by
  have h := cellN W x t
  refine ⟨((Below.refl _ _).alloc (Nat.le_refl _) _).setCell (p := ⟨W.heap.size, 0, none⟩) (Nat.le_refl _) _, World.cell?_setCell_same' _ _ _ (by rw [h.1]; rfl), (World.frozen?_setCell _ _ _ _).trans h.2, by simp⟩
theorem asked_wide (P : Program) (o : Oper) (a : Act) (C : World → Prop) : Oper.askedIn Fence.wide P o a C = True := eq_true fun _ _ _ _ => trivial
attribute [local go_sem] asked_wide
theorem region_quiet_wide {P : Program} {n id : Nat} {Q : Exit → Act → World → Prop} {a : Act} {w : World} {l : List Oper} (hm : P.follows .mixedOrders = true) (hB : Region.lexB .any l.toArray = true)
    (h : wpQuietIn Fence.wide n P l.toArray (fun w' => ∃ n, w' = w.drewN n) (fun a' => ∀ w', (∃ n, w' = w.drewN n) → Q .normal a' w') l a) : (Code.region id l.toArray true).wpIn Fence.wide n P Q a w := by
  simp only [Region.lexB, Bool.and_eq_true] at hB
  refine wpIn_region_any hm (wpAnyIn_of_quiet (C := fun w' => ∃ n, w' = w.drewN n) (Q := fun a' => ∀ w', (∃ n, w' = w.drewN n) → Q .normal a' w') rfl (fun _ w' hw' h => h w' hw') _ _ _ _ ⟨1, rfl⟩ ?_)
  have := wpAnyQIn_lex (F := Fence.wide) (n := n) (C := fun w' => ∃ n, w' = w.drewN n) (md := .any) hB.1 l 0 (Array.replicate l.toArray.size false) a (by simp) (by simpa using hB.2) h
  simpa using this
theorem region_later_round {P : Program} {n l0 id : Nat} {Q : Exit → Act → World → Prop} {a : Act} {w : World} {l : List Oper} (hd : noDefer l = true) (hm : P.follows .mixedOrders = true) (hB : Region.lexB .any l.toArray = true)
    (h : wpQuietIn Fence.wide n P l.toArray (fun w' => ∃ x : Later w, w' = x.now) (fun a' => ∀ w', (∃ x : Later w, w' = x.now) → Q .normal a' w') l a) : (Code.region id l.toArray true).wpIn (Fence.wide.inRound l0) n P Q a w := by
  simp only [Region.lexB, Bool.and_eq_true] at hB
  refine wpIn_region_any hm (any_round hd _ _ _ _ (wpAnyIn_of_quiet (C := fun w' => ∃ x : Later w, w' = x.now) (Q := fun a' => ∀ w', (∃ x : Later w, w' = x.now) → Q .normal a' w') rfl (fun _ w' hw' h => h w' hw') _ _ _ _ ⟨⟨_, (Below.refl _ _).drew⟩, rfl⟩ ?_))
  have := wpAnyQIn_lex (F := Fence.wide) (n := n) (C := fun w' => ∃ x : Later w, w' = x.now) (md := .any) hB.1 l 0 (Array.replicate l.toArray.size false) a (by simp) (by simpa using hB.2) h
  simpa using this
theorem cb_mk {m : Nat} {l ys : List Nat} (hm : m ≤ 8) (hf : Fam m l) (hb : Bas l) (hy : ∀ y ∈ ys, y ∈ l) : cbR m (N l) (N ys) = 0 := by
  unfold cbR
  rw [if_neg (by rw [chk_mk hm hf hb]; simp), if_pos]
  rw [List.all_eq_true]
  intro y h
  unfold N at h
  rw [List.mem_map] at h
  obtain ⟨x, hx, rfl⟩ := h
  rw [memZ_N]
  unfold memB
  simpa using hy x hx
end Go.Proofs.YtkmpnaohdijpnaaGreatDoor

namespace Go.Proofs.YtkmpnaohdijpnaaGreatDoor
open Go.RowKit Go.Shelf
attribute [local go_sem] Oper.semAt_some

def boxT (w : World) (n : Int) (v : Value) : World := ((w.alloc (.cells #[.int .i64 n, v] 36)).alloc (.cells #[.slice none 0 0] 34)).alloc (.cells #[.int .i64 0] 26)
theorem boxT_blocks {w w2 : World} {n : Int} {v : Value} (hb2 : Below (boxT w n v).heap.size (boxT w n v) w2) :
    w2.heap[w.heap.size]? = some (.cells #[.int .i64 n, v] 36 (0, 0)) ∧ w2.heap[w.heap.size + 1]? = some (.cells #[.slice none 0 0] 34 (0, 0)) ∧ w2.heap[w.heap.size + 1 + 1]? = some (.cells #[.int .i64 0] 26 (0, 0)) ∧ w.heap.size + 3 ≤ w2.heap.size := by
  have hs : (boxT w n v).heap.size = w.heap.size + 3 := by unfold boxT; simp
  refine ⟨(hb2.block _ (by omega)).trans ?_, (hb2.block _ (by omega)).trans ?_, (hb2.block _ (by omega)).trans ?_, by have := hb2.size; omega⟩
  · unfold boxT
    rw [Below.heap_alloc _ _ _ (by simp; omega), Below.heap_alloc _ _ _ (by simp)]
    exact World.alloc_heap_new w _
  · unfold boxT
    rw [Below.heap_alloc _ _ _ (by simp)]
    have := World.alloc_heap_new (w.alloc (.cells #[.int .i64 n, v] 36)) (.cells #[.slice none 0 0] 34)
    simpa using this
  · unfold boxT
    have := World.alloc_heap_new ((w.alloc (.cells #[.int .i64 n, v] 36)).alloc (.cells #[.slice none 0 0] 34)) (.cells #[.int .i64 0] 26)
    simpa using this
theorem two_cellsT {w : World} {b : Nat} {x y : Value} {t : TypeId} (h : w.heap[b]? = some (.cells #[x, y] t (0, 0))) : w.cell? ⟨b, 0, none⟩ = some x := by simp [World.cell?, h]
theorem one_cellT {w : World} {b : Nat} {x : Value} {t : TypeId} (h : w.heap[b]? = some (.cells #[x] t (0, 0))) : w.cell? ⟨b, 0, none⟩ = some x ∧ w.frozen? ⟨b, 0, none⟩ = false := by simp [World.cell?, World.frozen?, h]
/-- Is there a loop? -/
def loopB (m : Nat) (r : Nat → Nat) : Bool := (els (2 ^ m - 1)).any fun i => r (bt i) == 0
theorem el_full {m : Nat} (hm : m ≤ 8) (x : El (2 ^ m - 1)) : bt x.1 < 2 ^ m := by
  have := (mem_els (lt256 hm (full_lt m))).1 x.2
  rw [full_bit] at this
  unfold bt
  exact Nat.pow_lt_pow_right (by omega) (by simpa using this)
def RwlEnds (w : World) (m : Nat) (l : List Nat) (e : Ending) (w' : World) : Prop := ((loopB m (rk l) = false ∧ ∃ r, e = .returned (.tuple #[r, .int .i64 0]) ∧ RkAt w' r (2 ^ m) (rk l)) ∨ (loopB m (rk l) = true ∧ e = .returned (.tuple #[.slice none 0 0, .int .i64 5]))) ∧ Below w.heap.size w w'
theorem loop_free {m : Nat} {l : List Nat} (hm : m ≤ 8) (hb : Bas l) : loopB m (rk l) = false → NoLoop m (rk l) := fun h => by
  refine noLoop_of (hb.rkOn m) fun i hi e => ?_
  have hin : i ∈ els (2 ^ m - 1) := (mem_els (lt256 hm (full_lt m))).2 (by rw [full_bit]; simpa using hi)
  have : loopB m (rk l) = true := List.any_eq_true.2 ⟨i, hin, by unfold bt; rw [e]; rfl⟩
  rw [h] at this
  cases this
end Go.Proofs.YtkmpnaohdijpnaaGreatDoor

namespace Go.Proofs.YtkmpnaohdijpnaaGreatDoor
open Go.RowKit Go.Shelf
attribute [local go_sem] Oper.semAt_some

theorem i64_xor_nat (a b : Nat) (ha : a < 9223372036854775808) (hb : b < 9223372036854775808) : bits .xor .i64 (a : Int) (b : Int) = ((a ^^^ b : Nat) : Int) := by
  have hlt : a ^^^ b < 2 ^ 63 := Nat.xor_lt_two_pow (by omega) (by omega)
  show IntKind.i64.wrap ((BitVec.ofInt 64 (a : Int) ^^^ BitVec.ofInt 64 (b : Int)).toNat : Int) = _
  rw [BitVec.toNat_xor, ofInt_i64 a ha, ofInt_i64 b hb, wrap_i64_nat _ (by omega)]
/-- The world when four blocks are laid. -/
def box4 (w : World) (m v b x : Value) : World := (((w.alloc (.cells #[m, v] 36)).alloc (.cells #[b] 3)).alloc (.cells #[x] 3)).alloc (.cells #[.bool false] 4)
theorem box4_is (w : World) (m v b x : Value) : Below w.heap.size w (box4 w m v b x) ∧ (box4 w m v b x).heap.size = w.heap.size + 4 ∧ (box4 w m v b x).heap[w.heap.size]? = some (.cells #[m, v] 36 (0, 0)) ∧ (box4 w m v b x).heap[w.heap.size + 1]? = some (.cells #[b] 3 (0, 0)) ∧ (box4 w m v b x).heap[w.heap.size + 2]? = some (.cells #[x] 3 (0, 0)) ∧ (box4 w m v b x).heap[w.heap.size + 3]? = some (.cells #[.bool false] 4 (0, 0)) := by
  unfold box4
  refine ⟨((((Below.refl _ w).alloc (Nat.le_refl _) _).alloc (by simp) _).alloc (by simp; omega) _).alloc (by simp; omega) _, by simp, ?_, ?_, ?_, ?_⟩
  · rw [Below.heap_alloc _ _ _ (by simp; omega), Below.heap_alloc _ _ _ (by simp; omega), Below.heap_alloc _ _ _ (by simp)]
    exact World.alloc_heap_new w _
  · rw [Below.heap_alloc _ _ _ (by simp), Below.heap_alloc _ _ _ (by simp)]
    have := World.alloc_heap_new (w.alloc (.cells #[m, v] 36)) (.cells #[b] 3)
    simpa using this
  · rw [Below.heap_alloc _ _ _ (by simp)]
    have := World.alloc_heap_new ((w.alloc (.cells #[m, v] 36)).alloc (.cells #[b] 3)) (.cells #[x] 3)
    simpa using this
  · have := World.alloc_heap_new (((w.alloc (.cells #[m, v] 36)).alloc (.cells #[b] 3)).alloc (.cells #[x] 3)) (.cells #[.bool false] 4)
    simpa using this
theorem el_below {e : Nat} (he : e ≤ 8) (x : El (2 ^ e - 1)) : x.1 < e := by
  have := (mem_els (lt256 he (full_lt e))).1 x.2
  rw [full_bit] at this
  simpa using this
set_option maxRecDepth 100000 in
set_option maxHeartbeats 2000000 in
theorem chg_any (m : Int) (v : Value) (l : List Nat) (b e : Nat) (w : World) (hb8 : b < 256) (he : e < 8) (h : Ints w v (N l)) :
    Calls Tryz.prog 63 #[.agg #[.int .i64 m, v], .int .i64 b, .int .i64 (bt e : Nat)] w fun r w' => r = .returned (.bool (!actB l b e)) ∧ Below w.heap.size w w' := by
  obtain ⟨b0, b1, b2, b3, b4, b5⟩ := box4_is w (.int .i64 m) v (.int .i64 b) (.int .i64 (bt e : Nat))
  have HV := hid (h.below b0)
  have c0 := two_cells b2
  have c1 := one_cellT b3
  have c2 := one_cellT b4
  have c3 := one_cellT b5
  obtain ⟨a, cap, rfl, -, -⟩ := h
  have hbte := bt_lt he
  have hbt1 : 1 ≤ bt e := Nat.one_le_two_pow
  have hx1 : ((bt e : Nat) : Int) - 1 = ((2 ^ e - 1 : Nat) : Int) := by unfold bt; have := Nat.one_le_two_pow (n := e); omega
  unfold box4 at *
  refine (callsIn_wide (n := 6)).1 ?_
  refine callsIn_of_wp_marks Tryz.func63 rfl trivial ?_ rfl
  simp only [Tryz.ntmps63, List.size_toArray, List.length_cons, List.length_nil, Nat.reduceAdd, Nat.reduceSub, Array.replicate_succ, Array.replicate_zero, List.push_toArray, List.append_toArray, List.nil_append, List.cons_append]
  gi_wp2_with fail
  refine ⟨trivial, ?_⟩
  gi_at_call 62
  refine (callsIn_wide.2 (sing_any (2 ^ e - 1) _)).mono ?_
  rintro r w3 ⟨rfl, hw3⟩
  obtain rfl := hw3.symm
  clear hw3
  gi_wp2_with fail
  revert b0 b1 b2 b3 b4 b5 HV c0 c1 c2 c3
  generalize (((w.alloc (.cells #[.int .i64 m, .slice a (N l).length cap] 36)).alloc (.cells #[.int .i64 b] 3)).alloc (.cells #[.int .i64 (bt e : Nat)] 3)).alloc (.cells #[.bool false] 4) = W4
  intro b0 b1 b2 b3 b4 b5 HV c0 c1 c2 c3
  have c5 := cellN W4 (.int .i64 (2 ^ e - 1 : Nat)) 3
  rw [b1] at c5
  have hB5 : Below W4.heap.size W4 (W4.alloc (.cells #[.int .i64 (2 ^ e - 1 : Nat)] 3)) := (Below.refl _ W4).alloc (Nat.le_refl _) _
  have hs5 : (W4.alloc (.cells #[.int .i64 (2 ^ e - 1 : Nat)] 3)).heap.size = w.heap.size + 5 := by simp [b1]
  have hfull : 2 ^ e - 1 < 256 := lt256 (by omega : e ≤ 8) (full_lt e)
  refine wpIn_rangeFunc_ownF rfl (by decide) (gf := 86) (lb := #[.pointer (some ⟨w.heap.size + 4, 0, none⟩)]) rfl trivial (enters_of Tryz.func86 (by kernel_rfl) rfl)
    (sing_stops 5 (by decide) (2 ^ e - 1) (w.heap.size + 4) hfull _ (by omega) c5.1) (fun _ _ => trivial) (fun _ _ _ _ _ _ _ _ => trivial) (Below.refl _ _) (fun _ => rfl)
    (fun pre W => (∀ y ∈ pre, memB (b ^^^ 2 ^ e ^^^ 2 ^ y.1) l = false) ∧ Below W4.heap.size W4 W)
    (fun c pre W => (c = .ret ∧ (∃ y ∈ pre, memB (b ^^^ 2 ^ e ^^^ 2 ^ y.1) l = true) ∧ W.cell? ⟨w.heap.size + 1 + 1 + 1, 0, none⟩ = some (.bool true)) ∧ Below w.heap.size w W)
    (OwnFrom.and (Own.from (fun s A B row hs hg hr => hs) _) (ownFrom_below (Nat.le_refl _) (by omega)))
    (fun c => OwnFrom.and (Own.from (fun s A B row hs hg hr => ⟨hs.1, hs.2.1, cell_kept hs.2.2 hg hr⟩) _) (ownFrom_below (Nat.le_refl _) (by omega)))
    ⟨by simp, hB5⟩
    (fun x => { tmps := #[.agg #[.int .i64 m, .slice a (N l).length cap], .int .i64 b, .int .i64 (bt e : Nat), .pointer (some ⟨w.heap.size, 0, none⟩), .pointer (some ⟨w.heap.size + 1, 0, none⟩), .pointer (some ⟨w.heap.size + 1 + 1, 0, none⟩), .pointer (some ⟨w.heap.size + 1 + 1 + 1, 0, none⟩), .int .i64 (bt x.1 : Nat), .int .i64 (bt e : Nat), .int .i64 (2 ^ e - 1 : Nat), .func (.func 86) #[] #[.pointer (some ⟨w.heap.size + 4, 0, none⟩)], .int .i64 (bt x.1 : Nat), undef, undef, undef, undef, undef, undef, undef], defers := [] }) ?assign ?body ?done ?stop
  case assign =>
    intro l x W K hK
    dsimp only [enc1]
    gi_wp2
    exact hK
  case body =>
    rintro l' pre x W ⟨hp, hB⟩ _
    have hx := el_below (by omega) x
    have hx8 := bt_lt (i := x.1) (by omega)
    have hlt : b ^^^ bt e < 256 := Nat.xor_lt_two_pow (n := 8) hb8 hbte
    have h1 : bits .xor .i64 (b : Int) (bt e : Int) = ((b ^^^ bt e : Nat) : Int) := i64_xor_nat _ _ (by omega) (by omega)
    have h2 : bits .xor .i64 ((b ^^^ bt e : Nat) : Int) (bt x.1 : Int) = ((b ^^^ bt e ^^^ bt x.1 : Nat) : Int) := i64_xor_nat _ _ (by omega) (by omega)
    have y0 := (hB.cell (p := ⟨w.heap.size, 0, none⟩) (by show w.heap.size < _; omega)).trans c0.1
    have y0' := (hB.cell (p := ⟨w.heap.size, 1, none⟩) (by show w.heap.size < _; omega)).trans c0.2.1
    have y1 := (hB.cell (p := ⟨w.heap.size + 1, 0, none⟩) (by show w.heap.size + 1 < _; omega)).trans c1.1
    have y2 := (hB.cell (p := ⟨w.heap.size + 1 + 1, 0, none⟩) (by show w.heap.size + 1 + 1 < _; omega)).trans c2.1
    have HIB := hid (isBasis_any m _ (N l) ((b ^^^ bt e ^^^ bt x.1 : Nat) : Int) W (HV.out.below hB))
    have HB := hid hB
    have MB : Hid (memZ ((b ^^^ bt e ^^^ bt x.1 : Nat) : Int) (N l) = memB (b ^^^ 2 ^ e ^^^ 2 ^ x.1) l) := memZ_N _ _
    have HP := hid hp
    rw [MB.out] at HIB
    clear hB hp MB
    generalize b ^^^ bt e ^^^ bt x.1 = z2 at *
    generalize b ^^^ bt e = z1 at *
    rcases hq : memB (b ^^^ 2 ^ e ^^^ 2 ^ x.1) l with _ | _
    · rw [hq] at HIB
      have HQ := hid hq
      clear hq
      gi_wp2_with fail
      refine ⟨trivial, ?_⟩
      gi_at_call 89
      refine (callsIn_wide.2 HIB.out).mono ?_
      rintro r w6 ⟨rfl, hb6⟩
      have HB6 := hid hb6
      clear hb6
      gi_wp2
      refine ⟨keeps_below HB6.out, trivial, fun y hy => ?_, HB.out.trans (HB6.out.mono (HB.out.size))⟩
      rw [List.mem_append, List.mem_singleton] at hy
      rcases hy with hy | rfl
      · exact HP.out y hy
      · exact HQ.out
    · rw [hq] at HIB
      have HQ := hid hq
      clear hq
      gi_wp2_with fail
      refine ⟨trivial, ?_⟩
      gi_at_call 89
      refine (callsIn_wide.2 HIB.out).mono ?_
      rintro r w6 ⟨rfl, hb6⟩
      have hb46 := HB.out.trans (hb6.mono (HB.out.size))
      have y3 := (hb46.cell (p := ⟨w.heap.size + 1 + 1 + 1, 0, none⟩) (by show w.heap.size + 1 + 1 + 1 < _; omega)).trans c3.1
      have f3 := (froz_below hb46 (b := w.heap.size + 1 + 1 + 1) (off := 0) (by omega)).trans c3.2
      have HB6 := hid hb6
      have HB46 := hid hb46
      clear hb6 hb46
      gi_wp2
      refine ⟨(keeps_below HB6.out).trans (KeepsOthers.setCell _ _ _), ⟨rfl, ⟨x, by simp, HQ.out⟩, ?_⟩, ((b0.trans (HB46.out.mono b0.size))).setCell (p := ⟨w.heap.size + 1 + 1 + 1, 0, none⟩) (by show w.heap.size ≤ w.heap.size + 1 + 1 + 1; omega) _⟩
      exact World.cell?_setCell_same' _ _ _ (by rw [y3]; rfl)
  case done =>
    rintro D ys W hD hys ⟨hne, hB⟩ hK
    have y3 := (hB.cell (p := ⟨w.heap.size + 1 + 1 + 1, 0, none⟩) (by show w.heap.size + 1 + 1 + 1 < _; omega)).trans c3.1
    have f3 := (froz_below hB (b := w.heap.size + 1 + 1 + 1) (off := 0) (by omega)).trans c3.2
    gi_wp2
    have hK' := (KeepsOthers.setCell W ⟨w.heap.size + 1 + 1 + 1, 0, none⟩ (.bool false)).same D _ hK rfl
    refine ⟨by simp, .inl ⟨_, _, rfl, run_takeDeferred hK', ?_⟩⟩
    have q1 : (W.setCell ⟨w.heap.size + 1 + 1 + 1, 0, none⟩ (.bool false)).cell? ⟨w.heap.size + 1 + 1 + 1, 0, none⟩ = some (.bool false) := World.cell?_setCell_same' _ _ _ (by rw [y3]; rfl)
    have hc5 := cell_kept q1 (grownBy_putObj' _ D (.deferred none)) (fun r e => by cases e; exact ⟨_, hK', rfl⟩)
    have hBF := (b0.trans (hB.mono b0.size)).setCell (p := ⟨w.heap.size + 1 + 1 + 1, 0, none⟩) (by show w.heap.size ≤ w.heap.size + 1 + 1 + 1; omega) (.bool false)
    refine ⟨.bool false, ?_, ?_, hBF.trans (belowK_b (w := w) (Nat.le_refl _) _ D _ _ (by omega) hK' rfl rfl)⟩
    · simp [results, Tryz.f63, go_sem, hc5]
    · have : actB l b e = true := act_iff.2 fun i hi hmem => by
        have hin : i ∈ els (2 ^ e - 1) := (mem_els hfull).2 (by rw [full_bit]; simpa using hi)
        rw [← hys, List.mem_map] at hin
        obtain ⟨y, hy, rfl⟩ := hin
        have := hne y hy
        unfold memB at this
        simp at this
        exact this hmem
      rw [this]; rfl
  case stop =>
    rintro D c pre W hD hpre ⟨⟨rfl, ⟨y, hy, h1⟩, hc1⟩, hB⟩ hK
    gi_wp2
    refine ⟨by simp, .inl ⟨_, _, rfl, run_takeDeferred hK, ?_⟩⟩
    have hc5 := cell_kept hc1 (grownBy_putObj' _ D (.deferred none)) (fun r e => by cases e; exact ⟨_, hK, rfl⟩)
    refine ⟨.bool true, ?_, ?_, hB.trans (belowK_b (w := w) (Nat.le_refl _) W D _ _ (by omega) hK rfl rfl)⟩
    · simp [results, Tryz.f63, go_sem, hc5]
    · have : actB l b e = false := by
        rw [Bool.eq_false_iff]
        intro h
        unfold memB at h1
        simp at h1
        exact act_iff.1 h y.1 (el_below (by omega) y) h1
      rw [this]; rfl
end Go.Proofs.YtkmpnaohdijpnaaGreatDoor

namespace Go.Proofs.YtkmpnaohdijpnaaGreatDoor
open Go.RowKit Go.Shelf
attribute [local go_sem] Oper.semAt_some

def accI (l : List Nat) (b : Nat) (xs : List Nat) : Nat := xs.foldl (fun a e => if (actB l b e && b.testBit e) = true then a ||| 2 ^ e else a) 0
def accO (l : List Nat) (b : Nat) (xs : List Nat) : Nat := xs.foldl (fun a e => if (actB l b e && !b.testBit e) = true then a ||| 2 ^ e else a) 0
theorem accI_snoc (l : List Nat) (b : Nat) (xs : List Nat) (e : Nat) : accI l b (xs ++ [e]) = if (actB l b e && b.testBit e) = true then accI l b xs ||| 2 ^ e else accI l b xs := by
  unfold accI; rw [List.foldl_append]; rfl
theorem accO_snoc (l : List Nat) (b : Nat) (xs : List Nat) (e : Nat) : accO l b (xs ++ [e]) = if (actB l b e && !b.testBit e) = true then accO l b xs ||| 2 ^ e else accO l b xs := by
  unfold accO; rw [List.foldl_append]; rfl
theorem accI_range (l : List Nat) (b : Nat) : ∀ n, accI l b (List.range n) = actI l b n
  | 0 => rfl
  | n + 1 => by rw [List.range_succ, accI_snoc, accI_range l b n]; rfl
theorem accO_range (l : List Nat) (b : Nat) : ∀ n, accO l b (List.range n) = actO l b n
  | 0 => rfl
  | n + 1 => by rw [List.range_succ, accO_snoc, accO_range l b n]; rfl
theorem accI_lt (l : List Nat) (b : Nat) : ∀ (xs : List Nat) (a : Nat), a < 256 → (∀ x ∈ xs, x < 8) → xs.foldl (fun a e => if (actB l b e && b.testBit e) = true then a ||| 2 ^ e else a) a < 256
  | [], a, h, _ => h
  | x :: xs, a, h, k => by
    refine accI_lt l b xs _ ?_ fun y hy => k y (by simp [hy])
    dsimp only
    split
    · exact or_lt h (pow_lt256 (k x (by simp)))
    · exact h
theorem accO_lt (l : List Nat) (b : Nat) : ∀ (xs : List Nat) (a : Nat), a < 256 → (∀ x ∈ xs, x < 8) → xs.foldl (fun a e => if (actB l b e && !b.testBit e) = true then a ||| 2 ^ e else a) a < 256
  | [], a, h, _ => h
  | x :: xs, a, h, k => by
    refine accO_lt l b xs _ ?_ fun y hy => k y (by simp [hy])
    dsimp only
    split
    · exact or_lt h (pow_lt256 (k x (by simp)))
    · exact h
theorem sub_bt (b e : Nat) : subB (bt e) b = b.testBit e := by
  rw [Bool.eq_iff_iff, subB_iff]
  unfold bt
  constructor
  · intro h
    exact h e (by rw [Nat.testBit_two_pow]; simp)
  · intro h i hi
    rw [Nat.testBit_two_pow] at hi
    simp at hi
    rw [← hi]; exact h
/-- The world when activities' blocks are laid. -/
def boxA (w : World) (m v b : Value) : World := (((w.alloc (.cells #[m, v] 36)).alloc (.cells #[b] 3)).alloc (.cells #[.int .i64 0] 3)).alloc (.cells #[.int .i64 0] 3)
theorem boxA_is (w : World) (m v b : Value) : Below w.heap.size w (boxA w m v b) ∧ (boxA w m v b).heap.size = w.heap.size + 4 ∧ (boxA w m v b).heap[w.heap.size]? = some (.cells #[m, v] 36 (0, 0)) ∧ (boxA w m v b).heap[w.heap.size + 1]? = some (.cells #[b] 3 (0, 0)) ∧ (boxA w m v b).heap[w.heap.size + 1 + 1]? = some (.cells #[.int .i64 0] 3 (0, 0)) ∧ (boxA w m v b).heap[w.heap.size + 1 + 1 + 1]? = some (.cells #[.int .i64 0] 3 (0, 0)) := by
  unfold boxA
  refine ⟨((((Below.refl _ w).alloc (Nat.le_refl _) _).alloc (by simp) _).alloc (by simp; omega) _).alloc (by simp; omega) _, by simp, ?_, ?_, ?_, ?_⟩
  · rw [Below.heap_alloc _ _ _ (by simp; omega), Below.heap_alloc _ _ _ (by simp; omega), Below.heap_alloc _ _ _ (by simp)]
    exact World.alloc_heap_new w _
  · rw [Below.heap_alloc _ _ _ (by simp), Below.heap_alloc _ _ _ (by simp)]
    have := World.alloc_heap_new (w.alloc (.cells #[m, v] 36)) (.cells #[b] 3)
    simpa using this
  · rw [Below.heap_alloc _ _ _ (by simp)]
    have := World.alloc_heap_new ((w.alloc (.cells #[m, v] 36)).alloc (.cells #[b] 3)) (.cells #[.int .i64 0] 3)
    simpa using this
  · have := World.alloc_heap_new (((w.alloc (.cells #[m, v] 36)).alloc (.cells #[b] 3)).alloc (.cells #[.int .i64 0] 3)) (.cells #[.int .i64 0] 3)
    simpa using this
set_option maxRecDepth 100000 in
set_option maxHeartbeats 2000000 in
theorem act_any (m : Nat) (v : Value) (l : List Nat) (b : Nat) (w : World) (hm : m ≤ 8) (hb8 : b < 256) (h : Ints w v (N l)) :
    Calls Tryz.prog 37 #[.agg #[.int .i64 m, v], .int .i64 b] w fun r w' => r = .returned (.tuple #[.int .i64 (actI l b m : Nat), .int .i64 (actO l b m : Nat)]) ∧ Below w.heap.size w w' := by
  obtain ⟨b0, b1, b2, b3, b4, b5⟩ := boxA_is w (.int .i64 m) v (.int .i64 b)
  have HI := hid h
  have c0 := two_cells b2
  have c1 := one_cellT b3
  have c2 := one_cellT b4
  have c3 := one_cellT b5
  obtain ⟨a, cap, rfl, -, -⟩ := h
  unfold boxA at *
  refine (callsIn_wide (n := 6)).1 ?_
  refine callsIn_of_wp_marks Tryz.func37 rfl trivial ?_ rfl
  simp only [Tryz.ntmps37, List.size_toArray, List.length_cons, List.length_nil, Nat.reduceAdd, Nat.reduceSub, Array.replicate_succ, Array.replicate_zero, List.push_toArray, List.append_toArray, List.nil_append, List.cons_append]
  gi_wp2_with fail
  refine ⟨trivial, ?_⟩
  gi_at_call 45
  refine (callsIn_wide.2 (wholeSet_any m _ hm)).mono ?_
  rintro r w2 ⟨rfl, hw2⟩
  obtain rfl := hw2.symm
  clear hw2
  gi_wp2_with fail
  refine ⟨trivial, ?_⟩
  gi_at_call 62
  refine (callsIn_wide.2 (sing_any (2 ^ m - 1) _)).mono ?_
  rintro r w3 ⟨rfl, hw3⟩
  obtain rfl := hw3.symm
  clear hw3
  gi_wp2_with fail
  revert b0 b1 b2 b3 b4 b5 c0 c1 c2 c3
  generalize (((w.alloc (.cells #[.int .i64 (m : Int), .slice a (N l).length cap] 36)).alloc (.cells #[.int .i64 b] 3)).alloc (.cells #[.int .i64 0] 3)).alloc (.cells #[.int .i64 0] 3) = W4
  intro b0 b1 b2 b3 b4 b5 c0 c1 c2 c3
  have c5 := cellN W4 (.int .i64 (2 ^ m - 1 : Nat)) 3
  rw [b1] at c5
  have hs5 : (W4.alloc (.cells #[.int .i64 (2 ^ m - 1 : Nat)] 3)).heap.size = w.heap.size + 5 := by simp [b1]
  have hB5 : Below w.heap.size w (W4.alloc (.cells #[.int .i64 (2 ^ m - 1 : Nat)] 3)) := b0.alloc (by omega) _
  have d0 := cellA (.cells #[.int .i64 (2 ^ m - 1 : Nat)] 3) c0.1
  have d0' := cellA (.cells #[.int .i64 (2 ^ m - 1 : Nat)] 3) c0.2.1
  have d1 := cellA (.cells #[.int .i64 (2 ^ m - 1 : Nat)] 3) c1.1
  have d2 := cellA (.cells #[.int .i64 (2 ^ m - 1 : Nat)] 3) c2.1
  have d3 := cellA (.cells #[.int .i64 (2 ^ m - 1 : Nat)] 3) c3.1
  have f2 := frozA (.cells #[.int .i64 (2 ^ m - 1 : Nat)] 3) c2.1 c2.2
  have f3 := frozA (.cells #[.int .i64 (2 ^ m - 1 : Nat)] 3) c3.1 c3.2
  have hfull := lt256 hm (full_lt m)
  revert c5 hs5 hB5 d0 d0' d1 d2 d3 f2 f3
  generalize W4.alloc (.cells #[.int .i64 (2 ^ m - 1 : Nat)] 3) = W5
  intro c5 hs5 hB5 d0 d0' d1 d2 d3 f2 f3
  clear b0 b1 b2 b3 b4 b5 c0 c1 c2 c3
  refine wpIn_rangeFunc_ownF rfl (by decide) (gf := 86) (lb := #[.pointer (some ⟨w.heap.size + 4, 0, none⟩)]) rfl trivial (enters_of Tryz.func86 (by kernel_rfl) rfl)
    (sing_stops 5 (by decide) (2 ^ m - 1) (w.heap.size + 4) hfull _ (by omega) c5.1) (fun _ _ => trivial) (fun _ _ _ _ _ _ _ _ => trivial) (Below.refl _ _) (fun _ => rfl)
    (fun pre W => (W.cell? ⟨w.heap.size, 0, none⟩ = some (.int .i64 m) ∧ W.cell? ⟨w.heap.size, 1, none⟩ = some (.slice a (N l).length cap) ∧ W.cell? ⟨w.heap.size + 1, 0, none⟩ = some (.int .i64 b) ∧ (W.cell? ⟨w.heap.size + 1 + 1, 0, none⟩ = some (.int .i64 (accI l b (pre.map (·.1)) : Nat)) ∧ W.frozen? ⟨w.heap.size + 1 + 1, 0, none⟩ = false) ∧ W.cell? ⟨w.heap.size + 1 + 1 + 1, 0, none⟩ = some (.int .i64 (accO l b (pre.map (·.1)) : Nat)) ∧ W.frozen? ⟨w.heap.size + 1 + 1 + 1, 0, none⟩ = false) ∧ Below w.heap.size w W ∧ W5.heap.size ≤ W.heap.size)
    (fun _ _ _ => False)
    (OwnFrom.and (Own.from (fun s A B row hs hg hr => ⟨cell_kept hs.1 hg hr, cell_kept hs.2.1 hg hr, cell_kept hs.2.2.1 hg hr, ⟨cell_kept hs.2.2.2.1.1 hg hr, (frozen_kept hs.2.2.2.1.1 hg hr).trans hs.2.2.2.1.2⟩, cell_kept hs.2.2.2.2.1 hg hr, (frozen_kept hs.2.2.2.2.1 hg hr).trans hs.2.2.2.2.2⟩) _) (OwnFrom.and (ownFrom_below (Nat.le_refl _) (by omega)) (Own.from (fun s A B row hs hg hr => Nat.le_trans hs hg.size) _)))
    (fun _ _ _ _ _ hs _ _ => hs)
    ⟨⟨d0, d0', d1, ⟨d2, f2⟩, d3, f3⟩, hB5, Nat.le_refl _⟩
    (fun x => { tmps := #[.agg #[.int .i64 m, .slice a (N l).length cap], .int .i64 b, .pointer (some ⟨w.heap.size, 0, none⟩), .pointer (some ⟨w.heap.size + 1, 0, none⟩), .pointer (some ⟨w.heap.size + 1 + 1, 0, none⟩), .pointer (some ⟨w.heap.size + 1 + 1 + 1, 0, none⟩), .int .i64 (bt x.1 : Nat), .pointer (some ⟨w.heap.size, 0, none⟩), .int .i64 m, .int .i64 (2 ^ m - 1 : Nat), .func (.func 86) #[] #[.pointer (some ⟨w.heap.size + 4, 0, none⟩)], .int .i64 (bt x.1 : Nat), undef, undef, undef, undef, undef, undef, undef, undef, undef, undef, undef, undef, undef, undef, undef, undef, undef], defers := [] }) ?assign ?body ?done ?stop
  case assign =>
    intro l x W K hK
    dsimp only [enc1]
    gi_wp2
    exact hK
  case body =>
    rintro l' pre x W ⟨⟨y0, y0', y1, ⟨y2, g2⟩, y3, g3⟩, hB, hsz⟩ _
    have hx := el_below hm x
    have hx8 := bt_lt (i := x.1) (by omega)
    have h8 : ∀ y ∈ pre.map (·.1), y < 8 := fun y hy => by
      rw [List.mem_map] at hy
      obtain ⟨z, _, rfl⟩ := hy
      have := el_below hm z
      omega
    have hI8 : accI l b (pre.map (·.1)) < 256 := accI_lt l b _ 0 (by omega) h8
    have hO8 : accO l b (pre.map (·.1)) < 256 := accO_lt l b _ 0 (by omega) h8
    have hcI : bits .or .i64 (accI l b (pre.map (·.1)) : Int) (bt x.1 : Int) = ((accI l b (pre.map (·.1)) ||| bt x.1 : Nat) : Int) := i64_or_nat _ (bt x.1) (by omega) (by omega)
    have hcO : bits .or .i64 (accO l b (pre.map (·.1)) : Int) (bt x.1 : Int) = ((accO l b (pre.map (·.1)) ||| bt x.1 : Nat) : Int) := i64_or_nat _ (bt x.1) (by omega) (by omega)
    have SI := hid (accI_snoc l b (pre.map (·.1)) x.1)
    have SO := hid (accO_snoc l b (pre.map (·.1)) x.1)
    have MP : Hid ((pre ++ [x]).map (·.1) = pre.map (·.1) ++ [x.1]) := by show _ = _; simp
    have CH := hid (chg_any m _ l b x.1 W hb8 (by omega) (HI.out.below hB))
    have WI := hid (fun w => within_any (bt x.1) b w hx8 hb8)
    rw [sub_bt] at WI
    have HB := hid hB
    have BT : Hid (bt x.1 = 2 ^ x.1) := rfl
    clear hB h8
    generalize accI l b (pre.map (·.1)) = qi at *
    generalize accO l b (pre.map (·.1)) = qo at *
    have KC : Hid (∀ w6, Below W.heap.size W w6 → (w6.cell? ⟨w.heap.size, 0, none⟩ = some (.int .i64 m) ∧ w6.cell? ⟨w.heap.size, 1, none⟩ = some (.slice a (N l).length cap) ∧ w6.cell? ⟨w.heap.size + 1, 0, none⟩ = some (.int .i64 b) ∧ (w6.cell? ⟨w.heap.size + 1 + 1, 0, none⟩ = some (.int .i64 (qi : Nat)) ∧ w6.frozen? ⟨w.heap.size + 1 + 1, 0, none⟩ = false) ∧ w6.cell? ⟨w.heap.size + 1 + 1 + 1, 0, none⟩ = some (.int .i64 (qo : Nat)) ∧ w6.frozen? ⟨w.heap.size + 1 + 1 + 1, 0, none⟩ = false)) := fun w6 hb6 =>
      ⟨(hb6.cell (p := ⟨w.heap.size, 0, none⟩) (by show w.heap.size < _; omega)).trans y0, (hb6.cell (p := ⟨w.heap.size, 1, none⟩) (by show w.heap.size < _; omega)).trans y0', (hb6.cell (p := ⟨w.heap.size + 1, 0, none⟩) (by show w.heap.size + 1 < _; omega)).trans y1, ⟨(hb6.cell (p := ⟨w.heap.size + 1 + 1, 0, none⟩) (by show w.heap.size + 1 + 1 < _; omega)).trans y2, (froz_below hb6 (b := w.heap.size + 1 + 1) (off := 0) (by omega)).trans g2⟩, (hb6.cell (p := ⟨w.heap.size + 1 + 1 + 1, 0, none⟩) (by show w.heap.size + 1 + 1 + 1 < _; omega)).trans y3, (froz_below hb6 (b := w.heap.size + 1 + 1 + 1) (off := 0) (by omega)).trans g3⟩
    clear y2 g2 y3 g3
    rcases hq : actB l b x.1 with _ | _
    · rw [hq] at CH SI SO
      clear hq
      gi_wp2_with fail
      refine ⟨trivial, ?_⟩
      gi_at_call 63
      refine (callsIn_wide.2 CH.out).mono ?_
      rintro r w6 ⟨rfl, hb6⟩
      have KK := hid (KC.out w6 hb6)
      have HB6 := hid hb6
      clear hb6 KC y0 y0' y1
      gi_wp2
      refine ⟨keeps_below HB6.out, trivial, ?_, HB.out.trans (HB6.out.mono (HB.out.size)), Nat.le_trans hsz HB6.out.size⟩
      rw [MP.out, SI.out, SO.out]
      exact KK.out
    · rw [hq] at CH SI SO
      clear hq
      rcases hr : b.testBit x.1 with _ | _
      · rw [hr] at WI SI SO
        clear hr
        gi_wp2_with fail
        refine ⟨trivial, ?_⟩
        gi_at_call 63
        refine (callsIn_wide.2 CH.out).mono ?_
        rintro r w6 ⟨rfl, hb6⟩
        obtain ⟨z0, z0', z1, ⟨z2, k2⟩, z3, k3⟩ := KC.out w6 hb6
        have HB6 := hid hb6
        clear hb6 KC y0 y0' y1
        gi_wp2_with fail
        refine ⟨trivial, ?_⟩
        gi_at_call 64
        refine (callsIn_wide.2 (WI.out _)).mono ?_
        rintro r w7 ⟨rfl, hw7⟩
        obtain rfl := hw7.symm
        clear hw7
        gi_wp2
        refine ⟨(keeps_below HB6.out).trans (KeepsOthers.setCell _ _ _), trivial, ?_, (HB.out.trans (HB6.out.mono (HB.out.size))).setCell (p := ⟨w.heap.size + 1 + 1 + 1, 0, none⟩) (by show w.heap.size ≤ w.heap.size + 1 + 1 + 1; omega) _, by rw [World.size_setCell]; exact Nat.le_trans hsz HB6.out.size⟩
        rw [MP.out, SI.out, SO.out]
        refine ⟨(World.cell?_setCell_other _ _ _ _ (by simp)).trans z0, (World.cell?_setCell_other _ _ _ _ (by simp)).trans z0', (World.cell?_setCell_other _ _ _ _ (by simp)).trans z1, ⟨(World.cell?_setCell_other _ _ _ _ (by simp)).trans z2, (World.frozen?_setCell _ _ _ _).trans k2⟩, ?_, (World.frozen?_setCell _ _ _ _).trans k3⟩
        exact World.cell?_setCell_same' _ _ _ (by rw [z3]; rfl)
      · rw [hr] at WI SI SO
        clear hr
        gi_wp2_with fail
        refine ⟨trivial, ?_⟩
        gi_at_call 63
        refine (callsIn_wide.2 CH.out).mono ?_
        rintro r w6 ⟨rfl, hb6⟩
        obtain ⟨z0, z0', z1, ⟨z2, k2⟩, z3, k3⟩ := KC.out w6 hb6
        have HB6 := hid hb6
        clear hb6 KC y0 y0' y1
        gi_wp2_with fail
        refine ⟨trivial, ?_⟩
        gi_at_call 64
        refine (callsIn_wide.2 (WI.out _)).mono ?_
        rintro r w7 ⟨rfl, hw7⟩
        obtain rfl := hw7.symm
        clear hw7
        gi_wp2
        refine ⟨(keeps_below HB6.out).trans (KeepsOthers.setCell _ _ _), trivial, ?_, (HB.out.trans (HB6.out.mono (HB.out.size))).setCell (p := ⟨w.heap.size + 1 + 1, 0, none⟩) (by show w.heap.size ≤ w.heap.size + 1 + 1; omega) _, by rw [World.size_setCell]; exact Nat.le_trans hsz HB6.out.size⟩
        rw [MP.out, SI.out, SO.out]
        refine ⟨(World.cell?_setCell_other _ _ _ _ (by simp)).trans z0, (World.cell?_setCell_other _ _ _ _ (by simp)).trans z0', (World.cell?_setCell_other _ _ _ _ (by simp)).trans z1, ⟨?_, (World.frozen?_setCell _ _ _ _).trans k2⟩, (World.cell?_setCell_other _ _ _ _ (by simp)).trans z3, (World.frozen?_setCell _ _ _ _).trans k3⟩
        exact World.cell?_setCell_same' _ _ _ (by rw [z2]; rfl)
  case done =>
    rintro D ys W hD hys ⟨⟨y0, y0', y1, ⟨y2, g2⟩, y3, g3⟩, hB, hsz⟩ hK
    obtain ⟨qi, EI⟩ : ∃ qi, Hid (actI l b m = qi) := ⟨_, rfl⟩
    obtain ⟨qo, EO⟩ : ∃ qo, Hid (actO l b m = qo) := ⟨_, rfl⟩
    rw [hys, elsB_full m hm, accI_range, EI.out] at y2
    rw [hys, elsB_full m hm, accO_range, EO.out] at y3
    have HB := hid hB
    clear hB
    gi_wp2
    refine wpIn_wide.2 ?_
    go_region
    have q1 : ((W.setCell ⟨w.heap.size + 1 + 1, 0, none⟩ (.int .i64 (qi : Nat))).setCell ⟨w.heap.size + 1 + 1 + 1, 0, none⟩ (.int .i64 (qo : Nat))).drew.cell? ⟨w.heap.size + 1 + 1, 0, none⟩ = some (.int .i64 (qi : Nat)) := by
      show ((W.setCell ⟨w.heap.size + 1 + 1, 0, none⟩ (.int .i64 (qi : Nat))).setCell ⟨w.heap.size + 1 + 1 + 1, 0, none⟩ (.int .i64 (qo : Nat))).cell? ⟨w.heap.size + 1 + 1, 0, none⟩ = _
      refine (World.cell?_setCell_other _ _ _ _ (by simp)).trans ?_
      exact World.cell?_setCell_same' _ _ _ (by rw [y2]; rfl)
    have q2 : ((W.setCell ⟨w.heap.size + 1 + 1, 0, none⟩ (.int .i64 (qi : Nat))).setCell ⟨w.heap.size + 1 + 1 + 1, 0, none⟩ (.int .i64 (qo : Nat))).drew.cell? ⟨w.heap.size + 1 + 1 + 1, 0, none⟩ = some (.int .i64 (qo : Nat)) := by
      show ((W.setCell ⟨w.heap.size + 1 + 1, 0, none⟩ (.int .i64 (qi : Nat))).setCell ⟨w.heap.size + 1 + 1 + 1, 0, none⟩ (.int .i64 (qo : Nat))).cell? ⟨w.heap.size + 1 + 1 + 1, 0, none⟩ = _
      refine World.cell?_setCell_same' _ _ _ ?_
      rw [World.cell?_setCell_other _ _ _ _ (by simp), y3]
      rfl
    have hBF : Below w.heap.size w ((W.setCell ⟨w.heap.size + 1 + 1, 0, none⟩ (.int .i64 (qi : Nat))).setCell ⟨w.heap.size + 1 + 1 + 1, 0, none⟩ (.int .i64 (qo : Nat))).drew := ((HB.out.setCell (p := ⟨w.heap.size + 1 + 1, 0, none⟩) (by show w.heap.size ≤ w.heap.size + 1 + 1; omega) _).setCell (p := ⟨w.heap.size + 1 + 1 + 1, 0, none⟩) (by show w.heap.size ≤ w.heap.size + 1 + 1 + 1; omega) _).drew
    have hK1 := (KeepsOthers.setCell W ⟨w.heap.size + 1 + 1, 0, none⟩ (.int .i64 (qi : Nat))).same D _ hK rfl
    have hK' : ((W.setCell ⟨w.heap.size + 1 + 1, 0, none⟩ (.int .i64 (qi : Nat))).setCell ⟨w.heap.size + 1 + 1 + 1, 0, none⟩ (.int .i64 (qo : Nat))).drew.heap[D]? = _ := (KeepsOthers.setCell (W.setCell ⟨w.heap.size + 1 + 1, 0, none⟩ (.int .i64 (qi : Nat))) ⟨w.heap.size + 1 + 1 + 1, 0, none⟩ (.int .i64 (qo : Nat))).same D _ hK1 rfl
    revert q1 q2 hBF hK'
    generalize ((W.setCell ⟨w.heap.size + 1 + 1, 0, none⟩ (.int .i64 (qi : Nat))).setCell ⟨w.heap.size + 1 + 1 + 1, 0, none⟩ (.int .i64 (qo : Nat))).drew = W9
    intro q1 q2 hBF hK'
    gi_wp2
    refine ⟨by simp, .inl ⟨_, _, rfl, run_takeDeferred hK', ?_⟩⟩
    have hc5 := cell_kept q1 (grownBy_putObj' _ D (.deferred none)) (fun r e => by cases e; exact ⟨_, hK', rfl⟩)
    have hc6 := cell_kept q2 (grownBy_putObj' _ D (.deferred none)) (fun r e => by cases e; exact ⟨_, hK', rfl⟩)
    refine ⟨.tuple #[.int .i64 (qi : Nat), .int .i64 (qo : Nat)], ?_, by rw [EI.out, EO.out], hBF.trans (belowK_b (w := w) (Nat.le_refl _) _ D _ _ (by omega) hK' rfl rfl)⟩
    simp [results, Tryz.f37, go_sem, hc5, hc6]
  case stop =>
    rintro D c pre W _ _ h _
    exact h.elim
end Go.Proofs.YtkmpnaohdijpnaaGreatDoor

namespace Go.Proofs.YtkmpnaohdijpnaaGreatDoor
open Go.RowKit

theorem Tryz.infoRow64 : (Tryz.prog.info? 25).map (fun i => (i.zero, i.size, i.bytes)) = some (some (.slice none 0 0), 1, 24) := by kernel_rfl
theorem Tryz.undRows64 : Tryz.prog.underlying 50 = some (.slice 25) := by kernel_rfl
/-- N rows of M numbers each, laid one behind the other. -/
structure TblM (g : Nat) (w : World) (N M : Nat) (f : Nat → Nat → Int) : Prop where
  head : ∀ i, i < N → w.cell? ⟨g, i, none⟩ = some (.slice (some ⟨g + 1 + i, 0, none⟩) M M)
  row : ∀ i, i < N → TblZ (g + 1 + i) w M (f i)
  size : g < w.heap.size
theorem TblZ.other {g : Nat} {w : World} {T : Nat} {f : Nat → Int} (h : TblZ g w T f) (p : Addr) (v : Value) (hp : p.block ≠ g) : TblZ g (w.setCell p v) T f :=
  ⟨fun i hi => (World.cell?_setCell_other _ _ _ _ (fun e => hp (by rw [e]))).trans (h.cell i hi), fun i => (World.frozen?_setCell _ _ _ _).trans (h.frozen i), by rw [World.size_setCell]; exact h.size⟩
theorem TblM.below {g : Nat} {w w' : World} {N M : Nat} {f : Nat → Nat → Int} (h : TblM g w N M f) (hb : Below w.heap.size w w') : TblM g w' N M f :=
  ⟨fun i hi => (hb.cell (p := ⟨g, i, none⟩) h.size).trans (h.head i hi), fun i hi => (h.row i hi).below hb, Nat.lt_of_lt_of_le h.size hb.size⟩
theorem TblM.congr {g : Nat} {w : World} {N M : Nat} {f f' : Nat → Nat → Int} (h : TblM g w N M f) (hf : ∀ i, i < N → ∀ j, j < M → f' i j = f i j) : TblM g w N M f' :=
  ⟨h.head, fun i hi => (h.row i hi).congr (hf i hi), h.size⟩
theorem TblM.drewN {g : Nat} {w : World} {N M : Nat} {f : Nat → Nat → Int} (h : TblM g w N M f) (n : Nat) : TblM g (w.drewN n) N M f := ⟨h.head, fun i hi => (h.row i hi).drewN n, h.size⟩
theorem TblM.drew {g : Nat} {w : World} {N M : Nat} {f : Nat → Nat → Int} (h : TblM g w N M f) : TblM g w.drew N M f := ⟨h.head, fun i hi => (h.row i hi).drew, h.size⟩
theorem TblM.set {g : Nat} {w : World} {N M : Nat} {f f' : Nat → Nat → Int} (h : TblM g w N M f) (i j : Nat) (x : Int) (hi : i < N) (hj : j < M) (hf : ∀ a, a < N → ∀ b, b < M → f' a b = if i = a ∧ j = b then x else f a b) : TblM g (w.setCell ⟨g + 1 + i, j, none⟩ (.int .i64 x)) N M f' := by
  refine ⟨fun a ha => (World.cell?_setCell_other _ _ _ _ (fun e => ?_)).trans (h.head a ha), fun a ha => ?_, by rw [World.size_setCell]; exact h.size⟩
  · have := congrArg Addr.block e
    simp at this
    omega
  · by_cases e : i = a
    · subst e
      exact (h.row i hi).set j x hj fun b hb => by rw [hf i hi b hb]; simp
    · refine ((h.row a ha).other _ _ (by show g + 1 + i ≠ g + 1 + a; omega)).congr fun b hb => ?_
      rw [hf a ha b hb]; simp [e]
/-- The rows while they are laid. -/
structure TblH (g : Nat) (w : World) (N M k : Nat) : Prop where
  done : ∀ i, i < k → w.cell? ⟨g, i, none⟩ = some (.slice (some ⟨g + 1 + i, 0, none⟩) M M)
  todo : ∀ i, k ≤ i → i < N → w.cell? ⟨g, i, none⟩ = some (.slice none 0 0)
  frozen : ∀ i, w.frozen? ⟨g, i, none⟩ = false
  row : ∀ i, i < k → TblZ (g + 1 + i) w M fun _ => 0
  size : w.heap.size = g + 1 + k
theorem TblH.new (w : World) (N M : Nat) (t : TypeId) : TblH w.heap.size (w.alloc (.cells (madeCells #[.slice none 0 0] N) t)) N M 0 := by
  refine ⟨fun i hi => by omega, fun i _ hi => ?_, fun i => World.frozen?_alloc_at _ _ _ _ rfl, fun i hi => by omega, by simp⟩
  rw [World.cell?_alloc_at _ _ _ _ rfl]
  simp [madeCells, hi, Nat.mod_one]
theorem TblH.step {g : Nat} {w : World} {N M k : Nat} (h : TblH g w N M k) (hk : k < N) (t : TypeId) : TblH g ((w.alloc (.cells (madeCells #[.int .i64 0] M) t)).setCell ⟨g, k, none⟩ (.slice (some ⟨w.heap.size, 0, none⟩) M M)) N M (k + 1) := by
  have hs := h.size
  have hb : Below w.heap.size w (w.alloc (.cells (madeCells #[.int .i64 0] M) t)) := (Below.refl _ _).alloc (Nat.le_refl _) _
  have hc : ∀ i, (w.alloc (.cells (madeCells #[.int .i64 0] M) t)).cell? ⟨g, i, none⟩ = w.cell? ⟨g, i, none⟩ := fun i => hb.cell (p := ⟨g, i, none⟩) (by show g < _; omega)
  refine ⟨fun i hi => ?_, fun i hi hi2 => ?_, fun i => ?_, fun i hi => ?_, by simp [hs]; omega⟩
  · by_cases e : k = i
    · subst e
      rw [World.cell?_setCell_same' _ _ _ (by rw [hc, h.todo k (Nat.le_refl _) hk]; rfl), hs]
    · rw [World.cell?_setCell_other _ _ _ _ (by simp <;> omega), hc]
      exact h.done i (by omega)
  · rw [World.cell?_setCell_other _ _ _ _ (by simp <;> omega), hc]
    exact h.todo i (by omega) hi2
  · exact (World.frozen?_setCell _ _ _ _).trans ((froz_below hb (b := g) (off := i) (by omega)).trans (h.frozen i))
  · by_cases e : k = i
    · subst e
      have := (TblZ.new w M t).other ⟨g, k, none⟩ (.slice (some ⟨w.heap.size, 0, none⟩) M M) (by show g ≠ w.heap.size; omega)
      rwa [← hs]
    · exact ((h.row i (by omega)).below hb).other _ _ (by show g ≠ g + 1 + i; omega)
theorem TblH.full {g : Nat} {w : World} {N M : Nat} (h : TblH g w N M N) : TblM g w N M fun _ _ => 0 := ⟨h.done, h.row, by have := h.size; omega⟩
end Go.Proofs.YtkmpnaohdijpnaaGreatDoor

namespace Go.Proofs.YtkmpnaohdijpnaaGreatDoor
open Go.RowKit

set_option maxRecDepth 20000 in
set_option maxHeartbeats 2000000 in
theorem poly_any (m : Nat) (v : Value) (l : List Nat) (w : World) (hm : m ≤ 8) (hf : Fam m l) (hb : Bas l) (h : Ints w v (N l)) :
    Calls Tryz.prog 18 #[.agg #[.int .i64 m, v]] w fun e w' => ∃ g, e = .returned (.slice (some ⟨g, 0, none⟩) (rk l (2 ^ m - 1) + 1) (rk l (2 ^ m - 1) + 1)) ∧ w.heap.size ≤ g ∧ TblM g w' (rk l (2 ^ m - 1) + 1) (m - rk l (2 ^ m - 1) + 1) (fun i j => (ttN m l i j : Int)) ∧ Below w.heap.size w w' := by
  have hlen := fam_lenT hm hf
  have hl0 : 0 < l.length := List.length_pos_iff.2 hb.ne
  have hin : ∀ k, k < l.length → l.getD k 0 ∈ l := fun k hk => by simp [List.getD, hk]
  have HBI := hid (fun k hk => actI_pop hf hb (hin k hk))
  have HBO := hid (fun k hk => actO_pop hm hf hb (hin k hk))
  have HB8 := hid (fun k hk => hb.lt _ (hin k hk))
  have hR0 := bas_top hf hb (hin 0 hl0)
  have hRm := rank_n hm hb
  obtain ⟨R, HR⟩ : ∃ R, Hid (rk l (2 ^ m - 1) = R) := ⟨_, rfl⟩
  rw [HR.out] at HBI HBO hR0 hRm ⊢
  obtain ⟨D, hD, HD⟩ : ∃ D : Nat, (m : Int) - (R : Int) = (D : Int) ∧ Hid (m - R = D) := ⟨m - R, by omega, rfl⟩
  rw [HD.out]
  obtain ⟨N1, hN, HN⟩ : ∃ N1 : Nat, (R : Int) + 1 = (N1 : Int) ∧ Hid (R + 1 = N1) := ⟨R + 1, by omega, rfl⟩
  obtain ⟨M1, hM, HM⟩ : ∃ M1 : Nat, (D : Int) + 1 = (M1 : Int) ∧ Hid (D + 1 = M1) := ⟨D + 1, by omega, rfl⟩
  rw [HN.out, HM.out]
  have hN9 : N1 ≤ 9 := by rw [← HN.out]; omega
  have hM9 : M1 ≤ 9 := by rw [← HM.out, ← HD.out]; omega
  have hmk1 := fun w => run_make_row' (P := Tryz.prog) 50 25 (.slice none 0 0) 24 Tryz.undRows64 Tryz.infoRow64 rfl .i64 .i64 N1 (by omega) (by omega) w
  have hmk2 := fun w => run_make_row' (P := Tryz.prog) 25 2 (.int .i64 0) 8 Tryz.underlying25 Tryz.infoLong rfl .i64 .i64 M1 (by omega) (by omega) w
  have hB0 := below_box w #[.int .i64 m, v]
  have HI := hid h
  have HX : Hid (∀ w2, Below (w.alloc (.cells #[.int .i64 m, v] 36)).heap.size (w.alloc (.cells #[.int .i64 m, v] 36)) w2 → _) := fun w2 hb => box_cells hb
  obtain ⟨a, cap, rfl, -, hc⟩ := h.nats
  obtain ⟨vb, off, rfl, hvb, hcell⟩ := hc hl0
  have z0 := (hB0.cell (p := ⟨vb, off + 0, none⟩) hvb).trans (hcell 0 hl0)
  rw [Nat.add_zero] at z0
  have S1 := hid (fun w => size_any (l.getD 0 0) w (HB8.out 0 hl0))
  rw [← hR0] at S1
  clear hR0
  have HB0 := hid hB0
  have HCL := hid hcell
  clear hc hcell hB0 h hin
  generalize l.getD 0 0 = b0 at *
  go_enter Tryz.func18, Tryz.ntmps18
  go_wp2_with (go_at_call 36; refine (S1.out _).mono ?_; rintro e w' ⟨rfl, rfl⟩)
  have TH := TblH.new (w.alloc (.cells #[.int .i64 m, .slice (some ⟨vb, off, none⟩) l.length cap] 36)) N1 M1 25
  have hB1 := (Below.refl _ _).alloc (Nat.le_refl (w.alloc (.cells #[.int .i64 m, .slice (some ⟨vb, off, none⟩) l.length cap] 36)).heap.size) (.cells (madeCells #[.slice none 0 0] N1) 25)
  rw [World.size_alloc] at TH
  revert TH hB1
  generalize (w.alloc (.cells #[.int .i64 m, .slice (some ⟨vb, off, none⟩) l.length cap] 36)).alloc (.cells (madeCells #[.slice none 0 0] N1) 25) = W1
  intro TH hB1
  have HTH := hid TH
  have HB1 := hid hB1
  clear TH hB1 z0 hmk1 S1
  go_loopw [5, 20] (fun _ i wr => ∃ k : Nat, k ≤ N1 ∧ i = .int .i64 k ∧ Hid (TblH (w.heap.size + 1) wr N1 M1 k) ∧ Hid (Below (w.alloc (.cells #[.int .i64 m, .slice (some ⟨vb, off, none⟩) l.length cap] 36)).heap.size (w.alloc (.cells #[.int .i64 m, .slice (some ⟨vb, off, none⟩) l.length cap] 36)) wr)) (fun _ i _ => N1 - (intOf i).toNat)
  case atStart => exact ⟨0, Nat.zero_le _, rfl, HTH.out, HB1.out⟩
  case round =>
    obtain ⟨k, hk, rfl, HK, HW⟩ := hrel
    obtain ⟨x0, x1⟩ := HX.out wr HW.out
    by_cases hlt : k < N1
    · have hki : (k : Int) < (N1 : Int) := by omega
      have t0 := HK.out.todo k (Nat.le_refl _) hlt
      have f0 := HK.out.frozen k
      have ST := hid (HK.out.step hlt 2)
      have hsz := HK.out.size
      have t1 := (((Below.refl _ wr).alloc (Nat.le_refl _) (.cells (madeCells #[.int .i64 0] M1) 2)).cell (p := ⟨w.heap.size + 1, k, none⟩) (by show w.heap.size + 1 < _; omega)).trans t0
      have f1 := (froz_below ((Below.refl _ wr).alloc (Nat.le_refl _) (.cells (madeCells #[.int .i64 0] M1) 2)) (b := w.heap.size + 1) (off := k) (by omega)).trans f0
      have HW2 := hid ((HW.out.alloc (by simp; omega) (.cells (madeCells #[.int .i64 0] M1) 2)).setCell (p := ⟨w.heap.size + 1, k, none⟩) (by simp) (.slice (some ⟨wr.heap.size, 0, none⟩) M1 M1))
      have HSZ := hid hsz
      clear hsz
      go_wp2_with fail
      go_roundw
      case rel => exact ⟨k + 1, by omega, by go_num, ST.out, HW2.out⟩
      case measure => simp [intOf]; omega
    · obtain rfl : N1 = k := by omega
      have HT := hid HK.out.full
      clear HK HTH HB1 hmk2
      have hls : w.heap.size + 1 < wr.heap.size := HT.out.size
      go_wp2_with fail
      go_loopw [7, 8, 9, 36] (fun _ _ _ i wr' => ∃ t : Nat, t ≤ l.length ∧ i = .int .i64 t ∧ Hid (TblM (w.heap.size + 1) wr' N1 M1 (fun i j => (tcn m l t i j : Int))) ∧ Hid (Below (w.alloc (.cells #[.int .i64 m, .slice (some ⟨vb, off, none⟩) l.length cap] 36)).heap.size (w.alloc (.cells #[.int .i64 m, .slice (some ⟨vb, off, none⟩) l.length cap] 36)) wr')) (fun _ _ _ i _ => l.length - (intOf i).toNat)
      case atStart => exact ⟨0, Nat.zero_le _, rfl, HT.out.congr fun i _ j _ => by rw [tcn_zero]; rfl, HW.out⟩
      case round =>
        obtain ⟨t, ht, rfl, HK, HV⟩ := hrel
        obtain ⟨y0, y1⟩ := HX.out wr HV.out
        by_cases hlt' : t < l.length
        · have hti : (t : Int) < (l.length : Int) := by omega
          have z1 := ((HB0.out.trans (HV.out.mono HB0.out.size)).cell (p := ⟨vb, off + t, none⟩) hvb).trans (HCL.out t hlt')
          have b8 := HB8.out t hlt'
          have bI := HBI.out t hlt'
          have bO := HBO.out t hlt'
          have AC := hid (act_any m _ l (l.getD t 0) wr hm b8 (HI.out.below (HB0.out.trans (HV.out.mono HB0.out.size))))
          have TS := hid (fun i j => tcn_step (n := m) hlt' i j)
          have TL := hid (tcn_le m l t)
          have hI8 := lt256 hm (actI_lt l (l.getD t 0) m)
          have hO8 := lt256 hm (actO_lt l (l.getD t 0) m)
          clear x0 x1
          generalize l.getD t 0 = b at *
          generalize actI l b m = ai at *
          generalize actO l b m = ao at *
          go_wp2_with fail
          refine AC.out.mono ?_
          rintro e w2 ⟨rfl, hb2⟩
          obtain ⟨pi, hpi, hpi2⟩ : ∃ pi, pop ai = pi ∧ pi < N1 := ⟨_, rfl, by rw [← HN.out]; omega⟩
          obtain ⟨pj, hpj, hpj2⟩ : ∃ pj, pop ao = pj ∧ pj < M1 := ⟨_, rfl, by rw [← HM.out, ← HD.out]; omega⟩
          have HK2 := hid (HK.out.below hb2)
          have q1 := HK2.out.head pi hpi2
          have q2 := (HK2.out.row pi hpi2).cell pj hpj2
          have q3 := (HK2.out.row pi hpi2).frozen pj
          have TLE := TL.out pi pj
          have hwrap : (tcn m l t pi pj : Int) + 1 = ((tcn m l t pi pj + 1 : Nat) : Int) := by omega
          have S1 := hid (fun w => size_any ai w hI8)
          have S2 := hid (fun w => size_any ao w hO8)
          rw [hpi] at S1
          rw [hpj] at S2
          have NT : Hid (TblM (w.heap.size + 1) (w2.setCell ⟨w.heap.size + 1 + 1 + pi, pj, none⟩ (.int .i64 ((tcn m l t pi pj + 1 : Nat) : Int))) N1 M1 (fun i j => (tcn m l (t + 1) i j : Int))) := HK2.out.set pi pj _ hpi2 hpj2 fun i _ j _ => by
            rw [TS.out, hpi, hpj]
            by_cases hq : pi = i ∧ pj = j
            · obtain ⟨rfl, rfl⟩ := hq; simp
            · rw [if_neg hq, if_neg hq]
          have HV2 := hid (HV.out.trans (hb2.mono HV.out.size))
          have hpi3 : (pi : Int) < (N1 : Int) := by omega
          have hpj3 : (pj : Int) < (M1 : Int) := by omega
          clear hb2 HK HK2 TS TL bI bO hpi hpj hwrap
          generalize tcn m l t pi pj = cx at *
          have hwrap2 : IntKind.i64.wrap ((cx : Int) + 1) = ((cx + 1 : Nat) : Int) := by
            rw [show (cx : Int) + 1 = ((cx + 1 : Nat) : Int) by omega]
            exact wrap_i64_nat _ (by omega)
          go_wp2_with fail
          go_region_with (first | (go_at_call_of 36 (Value.int IntKind.i64 (ai : Int)); (with_reducible refine (S1.out _).mono ?_); rintro e w' ⟨rfl, rfl⟩) | (go_at_call_of 36 (Value.int IntKind.i64 (ao : Int)); (with_reducible refine (S2.out _).mono ?_); rintro e w' ⟨rfl, rfl⟩))
          all_goals go_wp2_with fail
          all_goals go_roundw
          case rel => exact ⟨t + 1, by omega, by go_num, NT.out.drew, (HV2.out.setCell (p := ⟨w.heap.size + 1 + 1 + pi, pj, none⟩) (by simp; omega) _).drew⟩
          case measure => simp [intOf]; omega
          case rel => exact ⟨t + 1, by omega, by go_num, NT.out.drew, (HV2.out.setCell (p := ⟨w.heap.size + 1 + 1 + pi, pj, none⟩) (by simp; omega) _).drew⟩
          case measure => simp [intOf]; omega
        · obtain rfl : t = l.length := by omega
          have TT : Hid (TblM (w.heap.size + 1) wr N1 M1 fun i j => (ttN m l i j : Int)) := HK.out.congr fun i _ j _ => by rw [tcn_full]
          have HF := hid (HB0.out.trans (HV.out.mono HB0.out.size))
          go_wp2_with fail
          go_ret
          exact ⟨_, rfl, by omega, TT.out, HF.out⟩
end Go.Proofs.YtkmpnaohdijpnaaGreatDoor
