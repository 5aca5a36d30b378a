/- flats.characteristic, flats.countByRank, flats.mobius. -/
import Derived.Test.YtfajbmcdkhgipaaDoorTZW
import Derived.Test.YtfajbmcdkhgipaaDoorPlainAll1
import Derived.Test.YtfajbmcdkhgipaaDoorIsIndW
import Derived.Test.YtfajbmcdkhgipaaDoorKGraph2W
import Derived.Test.YtfajbmcdkhgipaaDoorPlainAll2
import Derived.Test.YtfajbmcdkhgipaaDoorBasW
import Derived.Test.YtfajbmcdkhgipaaDoorQBelQ
import Derived.Test.YtfajbmcdkhgipaaDoorEqQ
import Derived.Test.YtfajbmcdkhgipaaDoorOldNW
import Derived.Test.YtfajbmcdkhgipaaDoorPlainAll
import Derived.Deep.OwnRows
namespace Go.Proofs.YtfajbmcdkhgipaaDoor
open Go.RowKit

theorem Tryd.infoLong : (Tryd.prog.info? 2).map (fun i => (i.zero, i.size, i.bytes)) = some (some (.int .i64 0), 1, 8) := by kernel_rfl
theorem sgn_even {s : Nat} (h : pop s % 2 = 0) : sgn s = 1 := by unfold sgn; rw [if_neg (by omega)]
theorem sgn_odd {s : Nat} (h : pop s % 2 = 1) : sgn s = -1 := by unfold sgn; rw [if_pos h]
theorem tmod_two (p : Nat) : Int.tmod (p : Int) 2 = ((p % 2 : Nat) : Int) := rfl
set_option maxRecDepth 20000 in
set_option maxHeartbeats 2000000 in
theorem characteristic_any (v : Value) (n : Nat) (r : Nat → Nat) (w : World) (hn : n ≤ 8) (hr8 : ∀ i, r i ≤ 8) (hmo : ∀ s, s < 2 ^ n → r s ≤ r (2 ^ n - 1)) (h : RkAt w v (2 ^ n) r) :
    Calls Tryd.prog 32 #[v] w fun e w' => ∃ u, e = .returned u ∧ RkZ w' u (r (2 ^ n - 1) + 1) (chrS r (r (2 ^ n - 1)) (2 ^ n)) ∧ Below w.heap.size w w' := by
  obtain ⟨T, HT, hT2, hT1⟩ : ∃ T : Nat, Hid (2 ^ n = T) ∧ T ≤ 256 ∧ 1 ≤ T := ⟨2 ^ n, Eq.refl (2 ^ n), (pow_wrap _ hn).2, Nat.one_le_two_pow⟩
  rw [HT.out] at h hmo ⊢
  obtain ⟨A, hA, hAT⟩ : ∃ A : Nat, (T : Int) - 1 = (A : Int) ∧ A + 1 = T := ⟨T - 1, by omega, by omega⟩
  have hA2 : T - 1 = A := by omega
  rw [hA2] at hmo ⊢
  clear hA2 HT
  have HR := hid h
  obtain ⟨rb, roff, rcap, rfl, hrb, -⟩ := h
  have c0 := HR.out.cellAt (Below.refl _ _) (i := A) (by omega)
  have hR8 := hr8 A
  have HM := hid hmo
  have H8 := hid hr8
  clear hmo hr8
  obtain ⟨R, HRA⟩ : ∃ R, Hid (r A = R) := ⟨_, rfl⟩
  rw [HRA.out] at c0 hR8 HM ⊢
  obtain ⟨N1, hN1, hN2⟩ : ∃ N1 : Nat, (R : Int) + 1 = (N1 : Int) ∧ N1 = R + 1 := ⟨R + 1, by omega, rfl⟩
  rw [← hN2]
  have hmk := fun w => run_make_row' (P := Tryd.prog) 25 2 (.int .i64 0) 8 Tryd.underlying25 Tryd.infoLong rfl .i64 .i64 N1 (by omega) (by omega) w
  have tb := TblZ.new w N1 2
  have hB0 : Below w.heap.size w (w.alloc (.cells (madeCells #[.int .i64 0] N1) 2)) := (Below.refl _ _).alloc (Nat.le_refl _) _
  have hsz : (w.alloc (.cells (madeCells #[.int .i64 0] N1) 2)).heap.size = w.heap.size + 1 := World.size_alloc ..
  have HTB := hid tb
  have HB0 := hid hB0
  have HSZ := hid hsz
  have HN2 := hid hN2
  clear tb hB0 hsz hN2
  go_enter Tryd.func32, Tryd.ntmps32
  go_wp2_with fail
  obtain ⟨W1, HW1⟩ : ∃ W1, Hid (w.alloc (.cells (madeCells #[.int .i64 0] N1) 2) = W1) := ⟨_, rfl⟩
  rw [HW1.out] at HTB HB0 HSZ ⊢
  clear hmk HW1
  go_loopw [18] (fun i wr => ∃ k : Nat, k ≤ T ∧ i = .int .i64 k ∧ Hid (TblZ w.heap.size wr N1 (chrS r R k)) ∧ Hid (Below w.heap.size W1 wr)) (fun i _ => T - (intOf i).toNat)
  case atStart => exact ⟨0, Nat.zero_le _, rfl, HTB.out, Below.refl _ _⟩
  case round =>
    obtain ⟨k, hk, rfl, HK, HW⟩ := hrel
    by_cases hlt : k < T
    · have x1 := HR.out.cellAt (HB0.out.trans HW.out) hlt
      have r8 := H8.out k
      have rm := HM.out k hlt
      obtain ⟨d, hd, hd2⟩ : ∃ d : Nat, (R : Int) - (r k : Int) = (d : Int) ∧ R - r k = d := ⟨R - r k, by omega, rfl⟩
      have dN : d < N1 := by rw [HN2.out]; omega
      have hdi : (d : Int) < (N1 : Int) := by omega
      have x2 := HK.out.cell d dN
      have x3 := HK.out.frozen d
      have hb := chr_bound r R k d
      have ST : Hid (∀ x : Int, x = chrS r R k d + sgn k → TblZ w.heap.size (wr.setCell ⟨w.heap.size, d, none⟩ (.int .i64 x)) N1 (chrS r R (k + 1))) := fun x hx => HK.out.set d x dN (fun i hi => by rw [chr_step, hd2, hx]; split <;> simp_all)
      have S1 := hid (fun w => size_any k w (by omega))
      have p8 := pop_le k (by omega)
      have PP := hid (tmod_two (pop k))
      have PE := hid (fun h => sgn_even (s := k) h)
      have PO := hid (fun h => sgn_odd (s := k) h)
      clear HK hd2
      generalize chrS r R k d = x at *
      generalize pop k = p at *
      generalize sgn k = sg at *
      generalize r k = rk0 at *
      have hlo : -256 ≤ x := by omega
      have hhi : x ≤ 256 := by omega
      clear hb
      rcases Nat.mod_two_eq_zero_or_one p with hp | hp
      · have e1 : Int.tmod (p : Int) 2 = 0 := by rw [PP.out, hp]; rfl
        have F := hid (ST.out (x + 1) (by rw [PE.out hp]))
        clear hp PE PO ST PP
        go_wp2_with fail
        refine (S1.out _).mono ?_
        rintro e w1 ⟨rfl, rfl⟩
        go_wp2_with fail
        go_roundw
        case rel => exact ⟨k + 1, by omega, by go_num, F.out, HW.out.setCell (p := ⟨w.heap.size, d, none⟩) (Nat.le_refl _) _⟩
        case measure => simp [intOf]; omega
      · have e1 : Int.tmod (p : Int) 2 = 1 := by rw [PP.out, hp]; rfl
        have F := hid (ST.out (x - 1) (by rw [PO.out hp]; omega))
        clear hp PE PO ST PP
        go_wp2_with fail
        refine (S1.out _).mono ?_
        rintro e w1 ⟨rfl, rfl⟩
        go_wp2_with fail
        go_roundw
        case rel => exact ⟨k + 1, by omega, by go_num, F.out, HW.out.setCell (p := ⟨w.heap.size, d, none⟩) (Nat.le_refl _) _⟩
        case measure => simp [intOf]; omega
    · obtain rfl : k = T := by omega
      go_wp2_with fail
      go_ret
      exact ⟨_, rfl, HK.out.rkZ, HB0.out.trans HW.out⟩
end Go.Proofs.YtfajbmcdkhgipaaDoor

namespace Go.Proofs.YtfajbmcdkhgipaaDoor
open Go.RowKit

theorem below_drewF {B : Nat} {w w' : World} (h : Below B w w') (k : Nat) : Below B w (w'.drewN k) := h.trans (drewN_below _ _ _)

theorem flats_ints_cell {w w' : World} {b off cap : Nat} {l : List Nat} (h : Ints w (.slice (some ⟨b, off, none⟩) l.length cap) (N l)) (hb : Below w.heap.size w w') {i : Nat} (hi : i < l.length) : w'.cell? ⟨b, off + i, none⟩ = some (.int .i64 (l.getD i 0 : Nat)) := by
  obtain ⟨a, c, e, _, hc⟩ := (h.below hb).nats
  obtain ⟨b', off', rfl, hb', hcell⟩ := hc (by omega)
  obtain ⟨⟨rfl, rfl⟩, rfl⟩ : (b = b' ∧ off = off') ∧ cap = c := by simpa using e
  exact hcell i hi
end Go.Proofs.YtfajbmcdkhgipaaDoor

namespace Go.Proofs.YtfajbmcdkhgipaaDoor
open Go.RowKit

theorem rk_top {m : Nat} {l : List Nat} (hb : Bas l) : ∀ s, s < 2 ^ m → rk l s ≤ rk l (2 ^ m - 1) := fun s hs => hb.rk.mono s _ (subB_iff.2 fun j hj => by rw [full_bit]; simp; exact bit_n hs hj)
theorem Tbl.belowF {g : Nat} {w w' : World} {T : Nat} {f : Nat → Nat} (h : Tbl g w T f) (hb : Below w.heap.size w w') : Tbl g w' T f :=
  ⟨fun i hi => (hb.cell (p := ⟨g, i, none⟩) h.size).trans (h.cell i hi), fun i => (froz_below hb h.size).trans (h.frozen i), Nat.lt_of_lt_of_le h.size hb.size⟩
theorem Characteristic_bad (n : Int) (v : Value) (zs : List Int) (w : World) (h : Ints w v zs) (hc : chkR n zs ≠ 0) :
    Calls Tryd.prog 15 #[.agg #[.int .i64 n, v]] w fun e w' => e = .returned (.tuple #[.slice none 0 0, .int .i64 (chkR n zs)]) ∧ Below w.heap.size w w' := by
  have HI := hid h
  obtain ⟨a, cap, rfl, _, _⟩ := h
  have HB0 := hid (below_box w #[.int .i64 n, .slice a zs.length cap])
  have HC := hid (Ranks_bad n _ zs _ (HI.out.below HB0.out) hc)
  generalize chkR n zs = q at *
  have hc' : (q == 0) = false := by rw [beq_eq_false_iff_ne]; exact hc
  go_enter Tryd.func15, Tryd.ntmps15
  go_wp2_with fail
  refine HC.out.mono ?_
  rintro e w2 ⟨rfl, hb2⟩
  have HB := hid (HB0.out.trans (hb2.mono HB0.out.size))
  clear hb2
  go_wp2_with fail
  go_ret2
  exact ⟨rfl, HB.out⟩
theorem Characteristic_ok (m : Nat) (v : Value) (l : List Nat) (w : World) (hm : m ≤ 8) (hf : Fam m l) (hb : Bas l) (h : Ints w v (N l)) :
    Calls Tryd.prog 15 #[.agg #[.int .i64 m, v]] w fun e w' => ∃ u, e = .returned (.tuple #[u, .int .i64 0]) ∧ RkZ w' u (rk l (2 ^ m - 1) + 1) (chrS (rk l) (rk l (2 ^ m - 1)) (2 ^ m)) ∧ Below w.heap.size w w' := by
  have HI := hid h
  obtain ⟨a, cap, hv, -, -⟩ := h.nats
  subst hv
  have HB0 := hid (below_box w #[.int .i64 m, .slice a l.length cap])
  have HC := hid (Ranks_ok m _ l _ hm hf hb (HI.out.below HB0.out))
  have HM := hid (fun v w h => characteristic_any v m (rk l) w hm (rk_small hm hf) (rk_top hb) h)
  generalize chrS (rk l) (rk l (2 ^ m - 1)) (2 ^ m) = mf at *
  generalize rk l (2 ^ m - 1) + 1 = N1 at *
  generalize 2 ^ m = T at *
  go_enter Tryd.func15, Tryd.ntmps15
  go_wp2_with fail
  refine HC.out.mono ?_
  rintro e w2 ⟨r, rfl, ho, hb2⟩
  have HB := hid (HB0.out.trans (hb2.mono HB0.out.size))
  have HN := hid (HM.out r w2 ho)
  clear hb2 ho HM
  go_wp2_with fail
  refine HN.out.mono ?_
  rintro e w3 ⟨u, rfl, hu, hb3⟩
  have HU := hid hu
  have HB3 := hid (HB.out.trans (hb3.mono HB.out.size))
  clear hu hb3
  go_wp2_with fail
  go_ret2
  exact ⟨_, rfl, HU.out, HB3.out⟩
end Go.Proofs.YtfajbmcdkhgipaaDoor

namespace Go.Proofs.YtfajbmcdkhgipaaDoor
open Go.RowKit

/-- The bases of a graph's matroid. -/
def gbL (F : List (Int × Int)) : List Nat := bigL F.length fun s => !ringB (natE F) s
theorem graph_is {n : Int} {F : List (Int × Int)} (h : graphR n F = 0) : ∃ N : Nat, n = N ∧ 1 ≤ N ∧ N ≤ 7 ∧ (∀ j, j < F.length → (F.getD j (0, 0)).1 = (ea (natE F) j : Nat) ∧ (F.getD j (0, 0)).2 = (eb (natE F) j : Nat)) ∧ GrM (natE F) N F.length (gbL F) := by
  unfold graphR at h
  split at h
  · rename_i hg
    obtain ⟨h1, h7, h8, hall⟩ := hg
    obtain ⟨N, rfl⟩ : ∃ N : Nat, n = N := ⟨n.toNat, by omega⟩
    have hl := natE_len F
    have hE : ∀ j, j < (natE F).length → ea (natE F) j < 7 ∧ eb (natE F) j < 7 := natE_lt h7 hall
    have e0 : gbL F = basR (natE F).length (depR (natE F).length (depG (natE F))) := by
      unfold gbL
      rw [← hl]
      exact ofInd_eq (by omega) ((depG_dep (natE F) (natE F).length).rkOn (by omega)) fun _ hs => ring_iff (by omega) hE hs
    have hd := (depG_dep (natE F) (natE F).length).rkOn (by omega : (natE F).length ≤ 8)
    refine ⟨N, rfl, by omega, by omega, fun j hj => ?_, hl.symm, h8, fun j hj => ?_, big_fam _ _, ?_, fun s hs => ?_⟩
    · have hb := edge_in hall hj
      unfold ea eb
      rw [natE_at hj]
      dsimp only
      omega
    · have hb := edge_in hall hj
      unfold ea eb
      rw [natE_at hj]
      dsimp only
      omega
    · rw [e0]
      exact hd.bas (by omega)
    · rw [e0, ← hl]
      rw [← hl] at hs
      exact hd.rk_eq (by omega) hs
  · exact absurd h (by decide)
/-- The number of the flows' polynomial. -/
def flR (F : List (Int × Int)) : Nat := rk (cmp F.length (gbL F)) (2 ^ F.length - 1)
def flC (F : List (Int × Int)) : Nat → Int := chrS (rk (cmp F.length (gbL F))) (flR F) (2 ^ F.length)
end Go.Proofs.YtfajbmcdkhgipaaDoor

namespace Go.Proofs.YtfajbmcdkhgipaaDoor
open Go.RowKit

/-- Is x one of zs? -/
def memZ (x : Int) (zs : List Int) : Bool := decide (x ∈ zs)
theorem memZ_N (x : Nat) (l : List Nat) : memZ x (N l) = memB x l := by
  unfold memZ memB N
  rw [Bool.eq_iff_iff, decide_eq_true_eq, decide_eq_true_eq, List.mem_map]
  constructor
  · rintro ⟨y, h1, h2⟩
    have : y = x := Int.ofNat.inj h2
    exact this ▸ h1
  · exact fun h => ⟨x, h, rfl⟩
end Go.Proofs.YtfajbmcdkhgipaaDoor

namespace Go.Proofs.YtfajbmcdkhgipaaDoor
open Go.RowKit Go.Shelf
attribute [local go_sem] Oper.semAt_some
theorem newBox (W : World) (x y : Value) (t : TypeId) : Below W.heap.size W ((W.alloc (.cells #[x] t)).setCell ⟨W.heap.size, 0, none⟩ y) ∧ ((W.alloc (.cells #[x] t)).setCell ⟨W.heap.size, 0, none⟩ y).cell? ⟨W.heap.size, 0, none⟩ = some y ∧ ((W.alloc (.cells #[x] t)).setCell ⟨W.heap.size, 0, none⟩ y).frozen? ⟨W.heap.size, 0, none⟩ = false ∧ ((W.alloc (.cells #[x] t)).setCell ⟨W.heap.size, 0, none⟩ y).heap.size = W.heap.size + 1 := by
  have h := cellN W x t
  refine ⟨((Below.refl _ _).alloc (Nat.le_refl _) _).setCell (p := ⟨W.heap.size, 0, none⟩) (Nat.le_refl _) _, World.cell?_setCell_same' _ _ _ (by rw [h.1]; rfl), (World.frozen?_setCell _ _ _ _).trans h.2, by simp⟩
theorem asked_wide (P : Program) (o : Oper) (a : Act) (C : World → Prop) : Oper.askedIn Fence.wide P o a C = True := eq_true fun _ _ _ _ => trivial
attribute [local go_sem] asked_wide
theorem region_quiet_wide {P : Program} {n id : Nat} {Q : Exit → Act → World → Prop} {a : Act} {w : World} {l : List Oper} (hm : P.follows .mixedOrders = true) (hB : Region.lexB .any l.toArray = true)
    (h : wpQuietIn Fence.wide n P l.toArray (fun w' => ∃ n, w' = w.drewN n) (fun a' => ∀ w', (∃ n, w' = w.drewN n) → Q .normal a' w') l a) : (Code.region id l.toArray true).wpIn Fence.wide n P Q a w := by
  simp only [Region.lexB, Bool.and_eq_true] at hB
  refine wpIn_region_any hm (wpAnyIn_of_quiet (C := fun w' => ∃ n, w' = w.drewN n) (Q := fun a' => ∀ w', (∃ n, w' = w.drewN n) → Q .normal a' w') rfl (fun _ w' hw' h => h w' hw') _ _ _ _ ⟨1, rfl⟩ ?_)
  have := wpAnyQIn_lex (F := Fence.wide) (n := n) (C := fun w' => ∃ n, w' = w.drewN n) (md := .any) hB.1 l 0 (Array.replicate l.toArray.size false) a (by simp) (by simpa using hB.2) h
  simpa using this
theorem region_later_round {P : Program} {n l0 id : Nat} {Q : Exit → Act → World → Prop} {a : Act} {w : World} {l : List Oper} (hd : noDefer l = true) (hm : P.follows .mixedOrders = true) (hB : Region.lexB .any l.toArray = true)
    (h : wpQuietIn Fence.wide n P l.toArray (fun w' => ∃ x : Later w, w' = x.now) (fun a' => ∀ w', (∃ x : Later w, w' = x.now) → Q .normal a' w') l a) : (Code.region id l.toArray true).wpIn (Fence.wide.inRound l0) n P Q a w := by
  simp only [Region.lexB, Bool.and_eq_true] at hB
  refine wpIn_region_any hm (any_round hd _ _ _ _ (wpAnyIn_of_quiet (C := fun w' => ∃ x : Later w, w' = x.now) (Q := fun a' => ∀ w', (∃ x : Later w, w' = x.now) → Q .normal a' w') rfl (fun _ w' hw' h => h w' hw') _ _ _ _ ⟨⟨_, (Below.refl _ _).drew⟩, rfl⟩ ?_))
  have := wpAnyQIn_lex (F := Fence.wide) (n := n) (C := fun w' => ∃ x : Later w, w' = x.now) (md := .any) hB.1 l 0 (Array.replicate l.toArray.size false) a (by simp) (by simpa using hB.2) h
  simpa using this
end Go.Proofs.YtfajbmcdkhgipaaDoor

namespace Go.Proofs.YtfajbmcdkhgipaaDoor
open Go.RowKit Go.Shelf
attribute [local go_sem] Oper.semAt_some

def boxT (w : World) (n : Int) (v : Value) : World := ((w.alloc (.cells #[.int .i64 n, v] 43)).alloc (.cells #[.slice none 0 0] 41)).alloc (.cells #[.int .i64 0] 26)
theorem boxT_blocks {w w2 : World} {n : Int} {v : Value} (hb2 : Below (boxT w n v).heap.size (boxT w n v) w2) :
    w2.heap[w.heap.size]? = some (.cells #[.int .i64 n, v] 43 (0, 0)) ∧ w2.heap[w.heap.size + 1]? = some (.cells #[.slice none 0 0] 41 (0, 0)) ∧ w2.heap[w.heap.size + 1 + 1]? = some (.cells #[.int .i64 0] 26 (0, 0)) ∧ w.heap.size + 3 ≤ w2.heap.size := by
  have hs : (boxT w n v).heap.size = w.heap.size + 3 := by unfold boxT; simp
  refine ⟨(hb2.block _ (by omega)).trans ?_, (hb2.block _ (by omega)).trans ?_, (hb2.block _ (by omega)).trans ?_, by have := hb2.size; omega⟩
  · unfold boxT
    rw [Below.heap_alloc _ _ _ (by simp; omega), Below.heap_alloc _ _ _ (by simp)]
    exact World.alloc_heap_new w _
  · unfold boxT
    rw [Below.heap_alloc _ _ _ (by simp)]
    have := World.alloc_heap_new (w.alloc (.cells #[.int .i64 n, v] 43)) (.cells #[.slice none 0 0] 41)
    simpa using this
  · unfold boxT
    have := World.alloc_heap_new ((w.alloc (.cells #[.int .i64 n, v] 43)).alloc (.cells #[.slice none 0 0] 41)) (.cells #[.int .i64 0] 26)
    simpa using this
theorem two_cellsT {w : World} {b : Nat} {x y : Value} {t : TypeId} (h : w.heap[b]? = some (.cells #[x, y] t (0, 0))) : w.cell? ⟨b, 0, none⟩ = some x := by simp [World.cell?, h]
theorem one_cellT {w : World} {b : Nat} {x : Value} {t : TypeId} (h : w.heap[b]? = some (.cells #[x] t (0, 0))) : w.cell? ⟨b, 0, none⟩ = some x ∧ w.frozen? ⟨b, 0, none⟩ = false := by simp [World.cell?, World.frozen?, h]
/-- Is there a loop? -/
def loopB (m : Nat) (r : Nat → Nat) : Bool := (els (2 ^ m - 1)).any fun i => r (bt i) == 0
theorem el_full {m : Nat} (hm : m ≤ 8) (x : El (2 ^ m - 1)) : bt x.1 < 2 ^ m := by
  have := (mem_els (lt256 hm (full_lt m))).1 x.2
  rw [full_bit] at this
  unfold bt
  exact Nat.pow_lt_pow_right (by omega) (by simpa using this)
def RwlEnds (w : World) (m : Nat) (l : List Nat) (e : Ending) (w' : World) : Prop := ((loopB m (rk l) = false ∧ ∃ r, e = .returned (.tuple #[r, .int .i64 0]) ∧ RkAt w' r (2 ^ m) (rk l)) ∨ (loopB m (rk l) = true ∧ e = .returned (.tuple #[.slice none 0 0, .int .i64 5]))) ∧ Below w.heap.size w w'
theorem loop_free {m : Nat} {l : List Nat} (hm : m ≤ 8) (hb : Bas l) : loopB m (rk l) = false → NoLoop m (rk l) := fun h => by
  refine noLoop_of (hb.rkOn m) fun i hi e => ?_
  have hin : i ∈ els (2 ^ m - 1) := (mem_els (lt256 hm (full_lt m))).2 (by rw [full_bit]; simpa using hi)
  have : loopB m (rk l) = true := List.any_eq_true.2 ⟨i, hin, by unfold bt; rw [e]; rfl⟩
  rw [h] at this
  cases this
end Go.Proofs.YtfajbmcdkhgipaaDoor

namespace Go.Proofs.YtfajbmcdkhgipaaDoor
open Go.RowKit Go.Shelf
attribute [local go_sem] Oper.semAt_some

theorem i64_xor_nat (a b : Nat) (ha : a < 9223372036854775808) (hb : b < 9223372036854775808) : bits .xor .i64 (a : Int) (b : Int) = ((a ^^^ b : Nat) : Int) := by
  have hlt : a ^^^ b < 2 ^ 63 := Nat.xor_lt_two_pow (by omega) (by omega)
  show IntKind.i64.wrap ((BitVec.ofInt 64 (a : Int) ^^^ BitVec.ofInt 64 (b : Int)).toNat : Int) = _
  rw [BitVec.toNat_xor, ofInt_i64 a ha, ofInt_i64 b hb, wrap_i64_nat _ (by omega)]
/-- The world when four blocks are laid. -/
def box4 (w : World) (m v b x : Value) : World := (((w.alloc (.cells #[m, v] 43)).alloc (.cells #[b] 3)).alloc (.cells #[x] 3)).alloc (.cells #[.bool false] 4)
theorem box4_is (w : World) (m v b x : Value) : Below w.heap.size w (box4 w m v b x) ∧ (box4 w m v b x).heap.size = w.heap.size + 4 ∧ (box4 w m v b x).heap[w.heap.size]? = some (.cells #[m, v] 43 (0, 0)) ∧ (box4 w m v b x).heap[w.heap.size + 1]? = some (.cells #[b] 3 (0, 0)) ∧ (box4 w m v b x).heap[w.heap.size + 2]? = some (.cells #[x] 3 (0, 0)) ∧ (box4 w m v b x).heap[w.heap.size + 3]? = some (.cells #[.bool false] 4 (0, 0)) := by
  unfold box4
  refine ⟨((((Below.refl _ w).alloc (Nat.le_refl _) _).alloc (by simp) _).alloc (by simp; omega) _).alloc (by simp; omega) _, by simp, ?_, ?_, ?_, ?_⟩
  · rw [Below.heap_alloc _ _ _ (by simp; omega), Below.heap_alloc _ _ _ (by simp; omega), Below.heap_alloc _ _ _ (by simp)]
    exact World.alloc_heap_new w _
  · rw [Below.heap_alloc _ _ _ (by simp), Below.heap_alloc _ _ _ (by simp)]
    have := World.alloc_heap_new (w.alloc (.cells #[m, v] 43)) (.cells #[b] 3)
    simpa using this
  · rw [Below.heap_alloc _ _ _ (by simp)]
    have := World.alloc_heap_new ((w.alloc (.cells #[m, v] 43)).alloc (.cells #[b] 3)) (.cells #[x] 3)
    simpa using this
  · have := World.alloc_heap_new (((w.alloc (.cells #[m, v] 43)).alloc (.cells #[b] 3)).alloc (.cells #[x] 3)) (.cells #[.bool false] 4)
    simpa using this
theorem el_below {e : Nat} (he : e ≤ 8) (x : El (2 ^ e - 1)) : x.1 < e := by
  have := (mem_els (lt256 he (full_lt e))).1 x.2
  rw [full_bit] at this
  simpa using this
end Go.Proofs.YtfajbmcdkhgipaaDoor

namespace Go.Proofs.YtfajbmcdkhgipaaDoor
open Go.RowKit Go.Shelf
attribute [local go_sem] Oper.semAt_some

def accI (l : List Nat) (b : Nat) (xs : List Nat) : Nat := xs.foldl (fun a e => if (actB l b e && b.testBit e) = true then a ||| 2 ^ e else a) 0
def accO (l : List Nat) (b : Nat) (xs : List Nat) : Nat := xs.foldl (fun a e => if (actB l b e && !b.testBit e) = true then a ||| 2 ^ e else a) 0
theorem accI_snoc (l : List Nat) (b : Nat) (xs : List Nat) (e : Nat) : accI l b (xs ++ [e]) = if (actB l b e && b.testBit e) = true then accI l b xs ||| 2 ^ e else accI l b xs := by
  unfold accI; rw [List.foldl_append]; rfl
theorem accO_snoc (l : List Nat) (b : Nat) (xs : List Nat) (e : Nat) : accO l b (xs ++ [e]) = if (actB l b e && !b.testBit e) = true then accO l b xs ||| 2 ^ e else accO l b xs := by
  unfold accO; rw [List.foldl_append]; rfl
theorem accI_range (l : List Nat) (b : Nat) : ∀ n, accI l b (List.range n) = actI l b n
  | 0 => rfl
  | n + 1 => by rw [List.range_succ, accI_snoc, accI_range l b n]; rfl
theorem accO_range (l : List Nat) (b : Nat) : ∀ n, accO l b (List.range n) = actO l b n
  | 0 => rfl
  | n + 1 => by rw [List.range_succ, accO_snoc, accO_range l b n]; rfl
theorem accI_lt (l : List Nat) (b : Nat) : ∀ (xs : List Nat) (a : Nat), a < 256 → (∀ x ∈ xs, x < 8) → xs.foldl (fun a e => if (actB l b e && b.testBit e) = true then a ||| 2 ^ e else a) a < 256
  | [], a, h, _ => h
  | x :: xs, a, h, k => by
    refine accI_lt l b xs _ ?_ fun y hy => k y (by simp [hy])
    dsimp only
    split
    · exact or_lt h (pow_lt256 (k x (by simp)))
    · exact h
theorem accO_lt (l : List Nat) (b : Nat) : ∀ (xs : List Nat) (a : Nat), a < 256 → (∀ x ∈ xs, x < 8) → xs.foldl (fun a e => if (actB l b e && !b.testBit e) = true then a ||| 2 ^ e else a) a < 256
  | [], a, h, _ => h
  | x :: xs, a, h, k => by
    refine accO_lt l b xs _ ?_ fun y hy => k y (by simp [hy])
    dsimp only
    split
    · exact or_lt h (pow_lt256 (k x (by simp)))
    · exact h
theorem sub_bt (b e : Nat) : subB (bt e) b = b.testBit e := by
  rw [Bool.eq_iff_iff, subB_iff]
  unfold bt
  constructor
  · intro h
    exact h e (by rw [Nat.testBit_two_pow]; simp)
  · intro h i hi
    rw [Nat.testBit_two_pow] at hi
    simp at hi
    rw [← hi]; exact h
/-- The world when activities' blocks are laid. -/
def boxA (w : World) (m v b : Value) : World := (((w.alloc (.cells #[m, v] 43)).alloc (.cells #[b] 3)).alloc (.cells #[.int .i64 0] 3)).alloc (.cells #[.int .i64 0] 3)
theorem boxA_is (w : World) (m v b : Value) : Below w.heap.size w (boxA w m v b) ∧ (boxA w m v b).heap.size = w.heap.size + 4 ∧ (boxA w m v b).heap[w.heap.size]? = some (.cells #[m, v] 43 (0, 0)) ∧ (boxA w m v b).heap[w.heap.size + 1]? = some (.cells #[b] 3 (0, 0)) ∧ (boxA w m v b).heap[w.heap.size + 1 + 1]? = some (.cells #[.int .i64 0] 3 (0, 0)) ∧ (boxA w m v b).heap[w.heap.size + 1 + 1 + 1]? = some (.cells #[.int .i64 0] 3 (0, 0)) := by
  unfold boxA
  refine ⟨((((Below.refl _ w).alloc (Nat.le_refl _) _).alloc (by simp) _).alloc (by simp; omega) _).alloc (by simp; omega) _, by simp, ?_, ?_, ?_, ?_⟩
  · rw [Below.heap_alloc _ _ _ (by simp; omega), Below.heap_alloc _ _ _ (by simp; omega), Below.heap_alloc _ _ _ (by simp)]
    exact World.alloc_heap_new w _
  · rw [Below.heap_alloc _ _ _ (by simp), Below.heap_alloc _ _ _ (by simp)]
    have := World.alloc_heap_new (w.alloc (.cells #[m, v] 43)) (.cells #[b] 3)
    simpa using this
  · rw [Below.heap_alloc _ _ _ (by simp)]
    have := World.alloc_heap_new ((w.alloc (.cells #[m, v] 43)).alloc (.cells #[b] 3)) (.cells #[.int .i64 0] 3)
    simpa using this
  · have := World.alloc_heap_new (((w.alloc (.cells #[m, v] 43)).alloc (.cells #[b] 3)).alloc (.cells #[.int .i64 0] 3)) (.cells #[.int .i64 0] 3)
    simpa using this
end Go.Proofs.YtfajbmcdkhgipaaDoor

namespace Go.Proofs.YtfajbmcdkhgipaaDoor
open Go.RowKit

theorem Tryd.infoRow64 : (Tryd.prog.info? 25).map (fun i => (i.zero, i.size, i.bytes)) = some (some (.slice none 0 0), 1, 24) := by kernel_rfl
theorem Tryd.undRows64 : Tryd.prog.underlying 64 = some (.slice 25) := by kernel_rfl
/-- N rows of M numbers each, laid one behind the other. -/
structure TblM (g : Nat) (w : World) (N M : Nat) (f : Nat → Nat → Int) : Prop where
  head : ∀ i, i < N → w.cell? ⟨g, i, none⟩ = some (.slice (some ⟨g + 1 + i, 0, none⟩) M M)
  row : ∀ i, i < N → TblZ (g + 1 + i) w M (f i)
  size : g < w.heap.size
theorem TblZ.other {g : Nat} {w : World} {T : Nat} {f : Nat → Int} (h : TblZ g w T f) (p : Addr) (v : Value) (hp : p.block ≠ g) : TblZ g (w.setCell p v) T f :=
  ⟨fun i hi => (World.cell?_setCell_other _ _ _ _ (fun e => hp (by rw [e]))).trans (h.cell i hi), fun i => (World.frozen?_setCell _ _ _ _).trans (h.frozen i), by rw [World.size_setCell]; exact h.size⟩
theorem TblM.below {g : Nat} {w w' : World} {N M : Nat} {f : Nat → Nat → Int} (h : TblM g w N M f) (hb : Below w.heap.size w w') : TblM g w' N M f :=
  ⟨fun i hi => (hb.cell (p := ⟨g, i, none⟩) h.size).trans (h.head i hi), fun i hi => (h.row i hi).below hb, Nat.lt_of_lt_of_le h.size hb.size⟩
theorem TblM.congr {g : Nat} {w : World} {N M : Nat} {f f' : Nat → Nat → Int} (h : TblM g w N M f) (hf : ∀ i, i < N → ∀ j, j < M → f' i j = f i j) : TblM g w N M f' :=
  ⟨h.head, fun i hi => (h.row i hi).congr (hf i hi), h.size⟩
theorem TblM.drewN {g : Nat} {w : World} {N M : Nat} {f : Nat → Nat → Int} (h : TblM g w N M f) (n : Nat) : TblM g (w.drewN n) N M f := ⟨h.head, fun i hi => (h.row i hi).drewN n, h.size⟩
theorem TblM.drew {g : Nat} {w : World} {N M : Nat} {f : Nat → Nat → Int} (h : TblM g w N M f) : TblM g w.drew N M f := ⟨h.head, fun i hi => (h.row i hi).drew, h.size⟩
theorem TblM.set {g : Nat} {w : World} {N M : Nat} {f f' : Nat → Nat → Int} (h : TblM g w N M f) (i j : Nat) (x : Int) (hi : i < N) (hj : j < M) (hf : ∀ a, a < N → ∀ b, b < M → f' a b = if i = a ∧ j = b then x else f a b) : TblM g (w.setCell ⟨g + 1 + i, j, none⟩ (.int .i64 x)) N M f' := by
  refine ⟨fun a ha => (World.cell?_setCell_other _ _ _ _ (fun e => ?_)).trans (h.head a ha), fun a ha => ?_, by rw [World.size_setCell]; exact h.size⟩
  · have := congrArg Addr.block e
    simp at this
    omega
  · by_cases e : i = a
    · subst e
      exact (h.row i hi).set j x hj fun b hb => by rw [hf i hi b hb]; simp
    · refine ((h.row a ha).other _ _ (by show g + 1 + i ≠ g + 1 + a; omega)).congr fun b hb => ?_
      rw [hf a ha b hb]; simp [e]
/-- The rows while they are laid. -/
structure TblH (g : Nat) (w : World) (N M k : Nat) : Prop where
  done : ∀ i, i < k → w.cell? ⟨g, i, none⟩ = some (.slice (some ⟨g + 1 + i, 0, none⟩) M M)
  todo : ∀ i, k ≤ i → i < N → w.cell? ⟨g, i, none⟩ = some (.slice none 0 0)
  frozen : ∀ i, w.frozen? ⟨g, i, none⟩ = false
  row : ∀ i, i < k → TblZ (g + 1 + i) w M fun _ => 0
  size : w.heap.size = g + 1 + k
theorem TblH.new (w : World) (N M : Nat) (t : TypeId) : TblH w.heap.size (w.alloc (.cells (madeCells #[.slice none 0 0] N) t)) N M 0 := by
  refine ⟨fun i hi => by omega, fun i _ hi => ?_, fun i => World.frozen?_alloc_at _ _ _ _ rfl, fun i hi => by omega, by simp⟩
  rw [World.cell?_alloc_at _ _ _ _ rfl]
  simp [madeCells, hi, Nat.mod_one]
theorem TblH.step {g : Nat} {w : World} {N M k : Nat} (h : TblH g w N M k) (hk : k < N) (t : TypeId) : TblH g ((w.alloc (.cells (madeCells #[.int .i64 0] M) t)).setCell ⟨g, k, none⟩ (.slice (some ⟨w.heap.size, 0, none⟩) M M)) N M (k + 1) := by
  have hs := h.size
  have hb : Below w.heap.size w (w.alloc (.cells (madeCells #[.int .i64 0] M) t)) := (Below.refl _ _).alloc (Nat.le_refl _) _
  have hc : ∀ i, (w.alloc (.cells (madeCells #[.int .i64 0] M) t)).cell? ⟨g, i, none⟩ = w.cell? ⟨g, i, none⟩ := fun i => hb.cell (p := ⟨g, i, none⟩) (by show g < _; omega)
  refine ⟨fun i hi => ?_, fun i hi hi2 => ?_, fun i => ?_, fun i hi => ?_, by simp [hs]; omega⟩
  · by_cases e : k = i
    · subst e
      rw [World.cell?_setCell_same' _ _ _ (by rw [hc, h.todo k (Nat.le_refl _) hk]; rfl), hs]
    · rw [World.cell?_setCell_other _ _ _ _ (by simp <;> omega), hc]
      exact h.done i (by omega)
  · rw [World.cell?_setCell_other _ _ _ _ (by simp <;> omega), hc]
    exact h.todo i (by omega) hi2
  · exact (World.frozen?_setCell _ _ _ _).trans ((froz_below hb (b := g) (off := i) (by omega)).trans (h.frozen i))
  · by_cases e : k = i
    · subst e
      have := (TblZ.new w M t).other ⟨g, k, none⟩ (.slice (some ⟨w.heap.size, 0, none⟩) M M) (by show g ≠ w.heap.size; omega)
      rwa [← hs]
    · exact ((h.row i (by omega)).below hb).other _ _ (by show g ≠ g + 1 + i; omega)
theorem TblH.full {g : Nat} {w : World} {N M : Nat} (h : TblH g w N M N) : TblM g w N M fun _ _ => 0 := ⟨h.done, h.row, by have := h.size; omega⟩
end Go.Proofs.YtfajbmcdkhgipaaDoor

namespace Go.Proofs.YtfajbmcdkhgipaaDoor
open Go.RowKit

end Go.Proofs.YtfajbmcdkhgipaaDoor

namespace Go.Proofs.YtfajbmcdkhgipaaDoor
open Go.RowKit

/-- The ways of a graph's edges without a ring. -/
def acR (F : List (Int × Int)) : Nat := acN F.length (gbL F) (rk (gbL F) (2 ^ F.length - 1) + 1)
end Go.Proofs.YtfajbmcdkhgipaaDoor
