/- slices.Reverse of bytes; the digits of a number of 128 bits. -/
import Derived.Test.YtkmpnaohdijpnaaGreatDoorWdCW
import Derived.Test.YtkmpnaohdijpnaaGreatDoorOwnPW
import Derived.Deep.CutRange
import Derived.Deep.DeepCutAuto
import Derived.Laws.BytesArg
import Derived.Lib.ItoaNum
namespace Go.Proofs.YtkmpnaohdijpnaaGreatDoor
open Go.RowKit Go.Lib

/-- A block of T bytes. -/
structure TblU (g : Nat) (w : World) (T : Nat) (f : Nat → Nat) : Prop where
  cell : ∀ i, i < T → w.cell? ⟨g, i, none⟩ = some (.int .u8 (f i : Nat))
  frozen : ∀ i, i < T → w.frozen? ⟨g, i, none⟩ = false
  size : g < w.heap.size
theorem TblU.set {g : Nat} {w : World} {T : Nat} {f f' : Nat → Nat} (h : TblU g w T f) (j x : Nat) (hj : j < T) (hf : ∀ i, i < T → f' i = if j = i then x else f i) : TblU g (w.setCell ⟨g, j, none⟩ (.int .u8 (x : Nat))) T f' := by
  refine ⟨fun i hi => ?_, fun i hi => (World.frozen?_setCell _ _ _ _).trans (h.frozen i hi), by simpa using h.size⟩
  rw [hf i hi]
  by_cases e : j = i
  · subst e
    rw [World.cell?_setCell_same _ _ _ (h.cell j hj)]; simp
  · rw [World.cell?_setCell_other _ _ _ _ (by simp), h.cell i hi]
    simp [e]
theorem TblU.congr {g : Nat} {w : World} {T : Nat} {f f' : Nat → Nat} (h : TblU g w T f) (hf : ∀ i, i < T → f' i = f i) : TblU g w T f' := ⟨fun i hi => by rw [hf i hi]; exact h.cell i hi, h.frozen, h.size⟩
theorem TblU.drew {g : Nat} {w : World} {T : Nat} {f : Nat → Nat} (h : TblU g w T f) : TblU g w.drew T f := ⟨h.cell, h.frozen, h.size⟩
/-- turned round, k from either end -/
def rvF (T : Nat) (f : Nat → Nat) (k i : Nat) : Nat := if i < k ∨ T ≤ i + k then f (T - 1 - i) else f i
set_option maxRecDepth 20000 in
set_option maxHeartbeats 2000000 in
theorem Reverse_any (g T cap : Nat) (f : Nat → Nat) (w : World) (hT : T ≤ 1000) (h : TblU g w T f) :
    Calls Tryz.prog 74 #[.slice (some ⟨g, 0, none⟩) T cap] w fun e w' => e = .returned (.tuple #[]) ∧ TblU g w' T (fun i => f (T - 1 - i)) ∧ Below g w w' := by
  have HT := hid h
  clear h
  go_enter Tryz.func74, Tryz.ntmps74
  go_wp2_with fail
  go_loopw [2, 3] (fun i j wr => ∃ k : Nat, 2 * k ≤ T + 1 ∧ i = .int .i64 k ∧ j = .int .i64 ((T : Int) - 1 - k) ∧ Hid (TblU g wr T (rvF T f k)) ∧ Hid (Below g w wr)) (fun i _ _ => T + 1 - (intOf i).toNat)
  case atStart => exact ⟨0, by omega, rfl, by simp, HT.out.congr fun i hi => by unfold rvF; rw [if_neg (by omega)], Below.refl _ _⟩
  case round =>
    obtain ⟨k, hk, rfl, rfl, HK, HW⟩ := hrel
    by_cases hlt : 2 * k < T - 1
    · obtain ⟨j, hj, hj2⟩ : ∃ j : Nat, (T : Int) - 1 - (k : Int) = (j : Int) ∧ Hid (j + k + 1 = T) := ⟨T - 1 - k, by omega, by show _ = _; omega⟩
      rw [hj]
      have hkj : (k : Int) < (j : Int) := by omega
      have hkT : (k : Int) < (T : Int) := by omega
      have hjT : (j : Int) < (T : Int) := by have := hj2.out; omega
      have c1 := HK.out.cell k (by omega)
      have c2 := HK.out.cell j (by have := hj2.out; omega)
      have f1 := HK.out.frozen k (by omega)
      have f2 := HK.out.frozen j (by have := hj2.out; omega)
      have e1 : rvF T f k k = f k := by unfold rvF; rw [if_neg (by omega)]
      have e2 : rvF T f k j = f j := by have := hj2.out; unfold rvF; rw [if_neg (by omega)]
      rw [e1] at c1
      rw [e2] at c2
      have NT : Hid (TblU g ((wr.setCell ⟨g, k, none⟩ (.int .u8 (f j : Nat))).setCell ⟨g, j, none⟩ (.int .u8 (f k : Nat))) T (rvF T f (k + 1))) := by
        have h1 := hj2.out
        refine (HK.out.set (f' := fun i => if k = i then f j else rvF T f k i) k (f j) (by omega) (fun i _ => rfl)).set j (f k) (by omega) fun i hi => ?_
        unfold rvF
        by_cases ej : j = i
        · subst ej
          rw [if_pos rfl, if_pos (by omega)]
          congr 1; omega
        · rw [if_neg ej]
          by_cases ek : k = i
          · subst ek
            rw [if_pos rfl, if_pos (by omega)]
            congr 1; omega
          · rw [if_neg ek]
            by_cases hc : i < k ∨ T ≤ i + k
            · rw [if_pos hc, if_pos (by omega)]
            · rw [if_neg hc, if_neg (by omega)]
      have B1 := hid ((HW.out.setCell (p := ⟨g, k, none⟩) (Nat.le_refl _) (.int .u8 (f j : Nat))).setCell (p := ⟨g, j, none⟩) (Nat.le_refl _) (.int .u8 (f k : Nat)))
      have hne : ¬ k = j := by omega
      have hne' : ¬ j = k := by omega
      have hjm : Hid ((j : Int) - 1 = (T : Int) - 1 - ((k + 1 : Nat) : Int)) := by show _ = _; omega
      have hk2 : Hid (2 * (k + 1) ≤ T + 1) := by show _ ≤ _; omega
      clear HK HW e1 e2 hk hlt hj
      generalize f k = fk at *
      generalize f j = fj at *
      go_wp2_with fail
      go_region
      go_wp2_with fail
      go_roundw
      case rel => exact ⟨k + 1, hk2.out, by go_num, by rw [hjm.out], NT.out.drew, B1.out.drew⟩
      case measure => have := hk2.out; simp [intOf]; omega
    · have HF : Hid (TblU g wr T fun i => f (T - 1 - i)) := HK.out.congr fun i hi => by
        unfold rvF
        by_cases hc : i < k ∨ T ≤ i + k
        · rw [if_pos hc]
        · rw [if_neg hc]; congr 1; omega
      have hn : ¬ (k : Int) < (T : Int) - 1 - (k : Int) := by omega
      go_wp2_with fail
      go_end0
      exact ⟨rfl, HF.out, HW.out⟩
/-- A slice of bytes of the call's own. -/
def VU (l : List Nat) : List Value := l.map fun s : Nat => Value.int .u8 (s : Int)
theorem VU_len (l : List Nat) : (VU l).length = l.length := by simp [VU]
theorem VU_snoc (l : List Nat) (s : Nat) : VU (l ++ [s]) = VU l ++ [.int .u8 s] := by simp [VU]
theorem Tryz.infoByte : (Tryz.prog.info? 5).map (fun i => (i.zero, i.size, i.bytes)) = some (some (.int .u8 0), 1, 1) := by kernel_rfl
theorem Tryz.undBytes : Tryz.prog.underlying 98 = some (.slice 5) := by kernel_rfl
theorem Tryz.undByte : Tryz.prog.underlying 5 = some (.int .u8) := by kernel_rfl
theorem Tryz.undStr : Tryz.prog.underlying 9 = some .string := by kernel_rfl
def OwnU (B : Nat) (w : World) (v : Value) (l : List Nat) : Prop := w.ownsRow B 5 1 v l.length (VU l)
theorem OwnU.nil (B : Nat) (w : World) : OwnU B w (.slice none 0 0) [] := World.ownsRow_nil _ _ _ _
theorem OwnU.snoc {B : Nat} {w : World} {v : Value} {l : List Nat} {s : Nat} (h : w.ownsRow B 5 1 v (l.length + 1) (VU l ++ [.int .u8 s])) : OwnU B w v (l ++ [s]) := by
  unfold OwnU; rw [VU_snoc]; simpa using h
theorem OwnU.grown {B : Nat} {w wr w1 : World} {u : Value} {l : List Nat} {o : Obj} (hown : OwnU B wr u l) (hnx : Below B w wr) (hB : B ≤ wr.heap.size) (hg : (wr.alloc o).grownBy w1 u.ownBlock) : Below B w w1 :=
  (hnx.alloc hB o).grown hg (by simp; omega) (fun j hj => (World.ownsRow.lt hown j hj).1)
theorem OwnU.below {B : Nat} {w w' : World} {v : Value} {l : List Nat} (h : OwnU B w v l) (hb : Below w.heap.size w w') : OwnU B w' v l := by
  obtain ⟨h0, h1⟩ := h
  refine ⟨h0, h1.imp_right ?_⟩
  rintro ⟨g, cap, cur, hv, hg, hheap, hr⟩
  exact ⟨g, cap, cur, hv, hg, (hb.block g (Array.getElem?_eq_some_iff.1 hheap).1).trans hheap, hr⟩
theorem OwnU.tbl {B : Nat} {w : World} {v : Value} {l : List Nat} (h : OwnU B w v l) (hl : l ≠ []) : ∃ g cap, v = .slice (some ⟨g, 0, none⟩) l.length cap ∧ B ≤ g ∧ TblU g w l.length (fun i => l.getD i 0) := by
  have hlen : 0 < l.length := List.length_pos_iff.2 hl
  rcases Go.Joins.ownsRow_forms h with ⟨rfl, h0⟩ | ⟨g, cap, rfl⟩
  · omega
  · have hlt := World.ownsRow.lt h g rfl
    refine ⟨g, cap, rfl, hlt.1, fun i hi => ?_, fun i _ => ?_, hlt.2⟩
    · rw [World.ownsRow.cellAt h i (by omega)]
      simp [VU, List.getD, hi]
    · obtain ⟨h0, h1⟩ := h
      rcases h1 with ⟨hv, _⟩ | ⟨g', cap', cur, hv, hg, hh, _⟩
      · cases hv
      · simp only [Value.slice.injEq, Option.some.injEq, Addr.mk.injEq, and_true] at hv
        obtain ⟨rfl, -, rfl⟩ := hv
        simp [World.frozen?, hh]
/-- the digits of a number, the last one first -/
def dgs (u : Nat) : List Nat := if h : u < 10 then [u] else (u % 10) :: dgs (u / 10)
termination_by u
decreasing_by omega
theorem dgs_low {u : Nat} (h : u < 10) : dgs u = [u] := by rw [dgs, _root_.dif_pos h]
theorem dgs_high {u : Nat} (h : ¬ u < 10) : dgs u = (u % 10) :: dgs (u / 10) := by rw [dgs, _root_.dif_neg h]
/-- the text of a number -/
def decT (u : Nat) : List UInt8 := ((dgs u).map fun d => UInt8.ofNat (48 + d)).reverse
end Go.Proofs.YtkmpnaohdijpnaaGreatDoor

namespace Go.Proofs.YtkmpnaohdijpnaaGreatDoor
open Go.RowKit Go.Lib

theorem WAt.belowB {W W' : World} {b u B : Nat} (h : WAt W b u) (hb : Below B W W') (hB : b < B) : WAt W' b u := by
  obtain ⟨x, y, h1, h2, h3, h4⟩ := h
  exact ⟨x, y, h1, h2, h3, (hb.block b hB).trans h4⟩
def lenV : Value → Nat
  | .slice _ n _ => n
  | _ => 0
theorem dgs_len : ∀ (k u : Nat), u < 10 ^ (k + 1) → (dgs u).length ≤ k + 1
  | 0, u, h => by rw [dgs_low (by simpa using h)]; simp
  | k + 1, u, h => by
    by_cases hu : u < 10
    · rw [dgs_low hu]; simp
    · rw [dgs_high hu]
      have := dgs_len k (u / 10) (by rw [Nat.div_lt_iff_lt_mul (by omega), ← Nat.pow_succ]; exact h)
      simp; omega
theorem dgs_ne (u : Nat) : dgs u ≠ [] := by
  by_cases hu : u < 10
  · rw [dgs_low hu]; simp
  · rw [dgs_high hu]; simp
theorem dgs_lt : ∀ (u : Nat) (d : Nat), d ∈ dgs u → d < 10 := fun u => by
  induction u using Nat.strongRecOn with
  | _ u ih =>
    intro d hd
    by_cases hu : u < 10
    · rw [dgs_low hu] at hd; simp at hd; omega
    · rw [dgs_high hu] at hd
      rcases List.mem_cons.1 hd with rfl | hd
      · omega
      · exact ih (u / 10) (by omega) d hd
set_option maxRecDepth 20000 in
set_option maxHeartbeats 4000000 in
theorem digits_any (A : Nat) (w : World) (hA : A < 340282366920938463463374607431768211456) : Calls Tryz.prog 53 #[wv A] w fun e w' => e = .returned (.string ⟨(decT A).toArray⟩) ∧ Below w.heap.size w w' := by
  obtain ⟨i0, hi0, hz0, hz1, hz2⟩ := info_parts Tryz.infoByte
  obtain ⟨ah, al, h1, h2, HA, ea⟩ := wv_open A hA
  have HLEN := hid (dgs_len 38 A (by omega))
  rw [ea]
  have K0 := hid ((Below.refl _ w).alloc (Nat.le_refl _) (.cells #[.int .u64 (ah : Nat), .int .u64 (al : Nat)] 63))
  have K1 : Hid (WAt (w.alloc (.cells #[.int .u64 (ah : Nat), .int .u64 (al : Nat)] 63)) w.heap.size A) := ⟨ah, al, h1, h2, HA.out, World.alloc_heap_new w _⟩
  clear ea
  go_enter Tryz.func53, Tryz.ntmps53
  go_wp2_with fail
  go_loopw [3, 4, 5] (fun v m _ wr => ∃ (u : Nat) (acc : List Nat) (b : Bool), m = .bool b ∧ lenV v = acc.length ∧ Hid (WAt wr w.heap.size u) ∧ Hid (OwnU (w.heap.size + 1) wr v acc) ∧ Hid (if b = true then acc ++ (dgs u).map (48 + ·) = (dgs A).map (48 + ·) else acc = (dgs A).map (48 + ·)) ∧ Hid (Below w.heap.size w wr) ∧ w.heap.size + 1 ≤ wr.heap.size) (fun v _ _ _ => 100 - lenV v)
  case atStart => exact ⟨A, [], true, rfl, rfl, K1.out, OwnU.nil _ _, rfl, K0.out, by simp⟩
  case round =>
    clear K0 K1 HA h1 h2
    obtain ⟨u, acc, b, rfl, hlv, J1, HO, HR, HW, hsz⟩ := hrel
    cases b with
    | true =>
      have J0 := hid J1.out.lt
      obtain ⟨xh, xl, x1, x2, EX, wx, cx0, cx1, fx0, fx1⟩ := J1.out.read
      have T10 := hid (fun w => Of_any 10 w (by omega) (by omega))
      rw [show ((10 : Int) % 340282366920938463463374607431768211456).toNat = 10 from rfl] at T10
      have DV := hid (fun w => divided_any u 10 w J0.out (by omega) (by omega))
      obtain ⟨th, tl, t1, t2, ET, wt⟩ := wv_open 10 (by omega)
      rw [wt] at T10
      rw [wx, wt] at DV
      obtain ⟨qh, ql, q1, q2, EQ, wq⟩ := wv_open (u / 10) (by have := J0.out; omega)
      obtain ⟨rh, rl, r1, r2, ER, wr'⟩ := wv_open (u % 10) (by omega)
      rw [wq, wr'] at DV
      obtain ⟨g, hg⟩ : ∃ g, wr.heap.size = g := ⟨_, rfl⟩
      have hb0 := (Below.refl _ wr).alloc (Nat.le_refl _) (.cells #[.int .u64 0, .int .u64 0] 63)
      have G1 : WAt (wr.alloc (.cells #[.int .u64 0, .int .u64 0] 63)) wr.heap.size 0 := ⟨0, 0, by omega, by omega, rfl, World.alloc_heap_new wr _⟩
      have J2 := J1.out.below hb0
      have O2 := HO.out.below hb0
      have W2 := HW.out.alloc (by omega) (.cells #[.int .u64 0, .int .u64 0] 63)
      obtain ⟨V, hV⟩ : ∃ V, wr.alloc (.cells #[.int .u64 0, .int .u64 0] 63) = V := ⟨_, rfl⟩
      rw [hV] at G1 J2 O2 W2
      rw [hg] at G1
      have KK : Hid (∀ w2, Below V.heap.size V w2 → (w2.cell? ⟨w.heap.size, 0, none⟩ = some (.int .u64 (xh : Nat)) ∧ w2.cell? ⟨w.heap.size, 1, none⟩ = some (.int .u64 (xl : Nat))) ∧ (w2.frozen? ⟨w.heap.size, 0, none⟩ = false ∧ w2.frozen? ⟨w.heap.size, 1, none⟩ = false) ∧ (∃ a b, w2.cell? ⟨g, 0, none⟩ = some a ∧ w2.cell? ⟨g, 1, none⟩ = some b) ∧ (w2.frozen? ⟨g, 0, none⟩ = false ∧ w2.frozen? ⟨g, 1, none⟩ = false) ∧ Below V.heap.size V w2) := fun w2 h2 => by
        obtain ⟨ph, pl, p1, p2, EP, wp, cp0, cp1, fp0, fp1⟩ := (J2.below h2).read
        obtain ⟨rfl, rfl⟩ : ph = xh ∧ pl = xl := by have := EP.out; have := EX.out; omega
        obtain ⟨sh, sl, s1, s2, ES, ws, cs0, cs1, fs0, fs1⟩ := (G1.below h2).read
        exact ⟨⟨cp0, cp1⟩, ⟨fp0, fp1⟩, ⟨_, _, cs0, cs1⟩, ⟨fs0, fs1⟩, h2⟩
      obtain ⟨⟨k1, k2⟩, ⟨k3, k4⟩, ⟨ka, kb, k5, k6⟩, ⟨k7, k8⟩, -⟩ := KK.out V (Below.refl _ _)
      have PUT : Hid (∀ w2, Below V.heap.size V w2 → WAt ((((w2.setCell ⟨w.heap.size, 0, none⟩ (.int .u64 (qh : Nat))).setCell ⟨w.heap.size, 1, none⟩ (.int .u64 (ql : Nat))).setCell ⟨g, 0, none⟩ (.int .u64 (rh : Nat))).setCell ⟨g, 1, none⟩ (.int .u64 (rl : Nat))) w.heap.size (u / 10) ∧ WAt ((((w2.setCell ⟨w.heap.size, 0, none⟩ (.int .u64 (qh : Nat))).setCell ⟨w.heap.size, 1, none⟩ (.int .u64 (ql : Nat))).setCell ⟨g, 0, none⟩ (.int .u64 (rh : Nat))).setCell ⟨g, 1, none⟩ (.int .u64 (rl : Nat))) g (u % 10) ∧ OwnU (w.heap.size + 1) ((((w2.setCell ⟨w.heap.size, 0, none⟩ (.int .u64 (qh : Nat))).setCell ⟨w.heap.size, 1, none⟩ (.int .u64 (ql : Nat))).setCell ⟨g, 0, none⟩ (.int .u64 (rh : Nat))).setCell ⟨g, 1, none⟩ (.int .u64 (rl : Nat))) u3 acc ∧ Below w.heap.size w ((((w2.setCell ⟨w.heap.size, 0, none⟩ (.int .u64 (qh : Nat))).setCell ⟨w.heap.size, 1, none⟩ (.int .u64 (ql : Nat))).setCell ⟨g, 0, none⟩ (.int .u64 (rh : Nat))).setCell ⟨g, 1, none⟩ (.int .u64 (rl : Nat))) ∧ w.heap.size + 1 ≤ w2.heap.size) := fun w2 h2 => by
        refine ⟨((J2.below h2).put (v := u / 10) q1 q2 EQ.out).putO (c := g) _ _ (by omega), (((G1.below h2).putO (c := w.heap.size) _ _ (by omega))).put (v := u % 10) r1 r2 ER.out, ?_, ?_, ?_⟩
        · obtain ⟨h0, h1⟩ := O2.below h2
          rcases h1 with h1 | ⟨gg, cap, cur, hv, hgg, hh, hr⟩
          · exact ⟨h0, .inl h1⟩
          · refine ⟨h0, .inr ⟨gg, cap, cur, hv, hgg, ?_, hr⟩⟩
            have hgne : g ≠ gg := fun e => by
              have h9 : wr.heap[gg]? ≠ none := by
                obtain ⟨h0', h1'⟩ := HO.out
                rcases h1' with ⟨h1', -⟩ | ⟨g3, cap3, cur3, hv3, hg3, hh3, hr3⟩
                · rw [h1'] at hv; cases hv
                · rw [hv] at hv3
                  simp only [Value.slice.injEq, Option.some.injEq, Addr.mk.injEq, and_true] at hv3
                  obtain ⟨rfl, -, -⟩ := hv3
                  rw [hh3]; simp
              rw [← e, ← hg] at h9
              simp at h9
            rw [set_heap_other _ _ _ (by show g ≠ gg; exact hgne), set_heap_other _ _ _ (by show g ≠ gg; exact hgne), set_heap_other _ _ _ (by show w.heap.size ≠ gg; omega), set_heap_other _ _ _ (by show w.heap.size ≠ gg; omega)]
            exact hh
        · have hb9 := W2.trans (h2.mono W2.size)
          exact (((hb9.setCell (p := ⟨w.heap.size, 0, none⟩) (Nat.le_refl _) _).setCell (p := ⟨w.heap.size, 1, none⟩) (Nat.le_refl _) _).setCell (p := ⟨g, 0, none⟩) (by show w.heap.size ≤ g; omega) _).setCell (p := ⟨g, 1, none⟩) (by show w.heap.size ≤ g; omega) _
        · have := h2.size
          have := J2.size
          omega
      have hgn : ¬ w.heap.size = g := by omega
      have hgn' : ¬ g = w.heap.size := by omega
      have HG := hid hg
      have SZ := hid hsz
      have LV := hid hlv
      have J3 := hid J2
      have G3 := hid G1
      clear hb0 J2 O2 W2 G1 cx0 cx1 fx0 fx1 hsz hlv
      go_wp2_with fail
      clear hV hg
      go_cut [3] from 10 to 15 (fun v' W => v' = u3 ∧ Hid (WAt W w.heap.size (u / 10)) ∧ Hid (WAt W g (u % 10)) ∧ Hid (OwnU (w.heap.size + 1) W u3 acc) ∧ Hid (Below w.heap.size w W) ∧ w.heap.size + 1 ≤ W.heap.size)
      case first =>
        go_region_with (first
          | (go_at_call 49; (with_reducible refine (T10.out _).mono ?_); rintro e w5 ⟨rfl, h5⟩; obtain ⟨⟨n1, n2⟩, ⟨n3, n4⟩, ⟨na, nb, n5, n6⟩, ⟨n7, n8⟩, n9⟩ := KK.out w5 (((Below.refl _ _).drew).trans h5); clear h5)
          | (go_at_call 73; (with_reducible refine (DV.out _).mono ?_); rintro e w6 ⟨rfl, h6⟩; obtain ⟨⟨o1, o2⟩, ⟨o3, o4⟩, ⟨oa, ob, o5, o6⟩, ⟨o7, o8⟩, o9⟩ := KK.out w6 (n9.trans (h6.mono n9.size)); clear h6))
        all_goals go_wp2_with fail
        all_goals go_meet
        all_goals exact ⟨rfl, (PUT.out _ o9).1, (PUT.out _ o9).2.1, (PUT.out _ o9).2.2.1, (PUT.out _ o9).2.2.2.1, by simp only [World.size_setCell]; exact (PUT.out _ o9).2.2.2.2⟩
      case rest =>
        obtain ⟨rfl, HJ, HGc, HOc, HWc, hsc⟩ := hcut
        clear KK PUT J3 G3 J1 HO HW k1 k2 k3 k4 k5 k6 k7 k8 DV T10
        obtain ⟨dh, dl, d1, d2, ED, wd, cd0, cd1, fd0, fd1⟩ := HGc.out.read
        have hd10 : dl < 10 := by have := ED.out; omega
        obtain ⟨yh, yl, y1, y2, EY, wy, cy0, cy1, fy0, fy1⟩ := HJ.out.read
        have cv : IntKind.u8.wrap (dl : Int) = (dl : Int) := by rw [IntKind.wrap_u8]; omega
        obtain ⟨x, hx, hx2⟩ : ∃ x : Nat, (48 : Int) + (dl : Int) = (x : Int) ∧ Hid (x = 48 + dl) := ⟨48 + dl, by omega, rfl⟩
        have hx3 : IntKind.u8.wrap (x : Int) = (x : Int) := by have := hx2.out; rw [IntKind.wrap_u8]; omega
        have hlen : acc.length ≤ 39 := by
          have h9 := congrArg List.length (show acc ++ (dgs u).map (48 + ·) = (dgs A).map (48 + ·) from HR.out)
          have := HLEN.out
          simp at h9
          omega
        go_wp2_with (at_builtin; refine wpList_append_own _ rfl _ _ 98 rfl (w.heap.size + 1) 5 i0 (.int .u8 0) 1 1 Tryz.undBytes hi0 hz0 hz1 hz2 rfl (by decide) _ _ _ rfl (HOc.out.alloc _) ⟨wc.heap.size, 0, none⟩ 1 1 [.int .u8 (x : Nat)] rfl rfl ?c1 ?c2 ?c3 ?c4 ?c5 ?_)
        case c1 => exact cell_one_new _ _ _
        case c2 => intro u hu; simp at hu; subst hu; rfl
        case c3 => unfold maxLen; omega
        case c4 => omega
        case c5 => simp; omega
        intro v' w7 hown' hgrow _
        have R3 := hid (OwnU.snoc hown')
        have R4 := OwnU.grown HOc.out (Below.refl _ wc) hsc hgrow
        have R5 := hid (HJ.out.belowB R4 (by omega))
        have R6 := hid (HWc.out.trans (R4.mono (by omega)))
        have R7 := Nat.le_trans hsc R4.size
        have lv' : lenV v' = acc.length + 1 := by
          rcases Go.Joins.ownsRow_forms hown' with ⟨rfl, h0⟩ | ⟨g', cap', rfl⟩
          · omega
          · rfl
        have LV' := hid lv'
        obtain ⟨eh, el, e1, e2, EE, we, ce0, ce1, fe0, fe1⟩ := R5.out.read
        have HLA := hid hlen
        clear hown' hgrow R4 HJ HGc HOc HWc cd0 cd1 fd0 fd1 cy0 cy1 fy0 fy1 lv' cv hx hx3 hlen
        by_cases hz : u / 10 = 0
        · obtain ⟨rfl, rfl⟩ : eh = 0 ∧ el = 0 := by have := EE.out; omega
          have HR' : Hid (acc ++ [x] = (dgs A).map (48 + ·)) := by
            show _ = _
            have h9 : acc ++ (dgs u).map (48 + ·) = (dgs A).map (48 + ·) := HR.out
            rw [dgs_low (by omega)] at h9
            rw [← h9, hx2.out, show dl = u by have := ED.out; omega]; rfl
          clear HR
          go_wp2_with fail
          go_roundw
          case rel => exact ⟨u / 10, acc ++ [x], false, rfl, by rw [LV'.out]; simp, R5.out, R3.out, HR'.out, R6.out, R7⟩
          case measure => rw [LV'.out, LV.out]; have := HLA.out; omega
        · have HR' : Hid (acc ++ [x] ++ (dgs (u / 10)).map (48 + ·) = (dgs A).map (48 + ·)) := by
            show _ = _
            have h9 : acc ++ (dgs u).map (48 + ·) = (dgs A).map (48 + ·) := HR.out
            rw [dgs_high (by omega)] at h9
            rw [← h9, hx2.out, show dl = u % 10 by have := ED.out; omega, List.append_assoc]; rfl
          clear HR
          have hcase : (¬ (eh : Int) = 0) ∨ (eh = 0 ∧ ¬ (el : Int) = 0) := by have := EE.out; omega
          rcases hcase with he | ⟨rfl, he⟩
          · go_wp2_with fail
            go_roundw
            case rel => exact ⟨u / 10, acc ++ [x], true, rfl, by rw [LV'.out]; simp, R5.out, R3.out, HR'.out, R6.out, R7⟩
            case measure => rw [LV'.out, LV.out]; have := HLA.out; omega
          · go_wp2_with fail
            go_roundw
            case rel => exact ⟨u / 10, acc ++ [x], true, rfl, by rw [LV'.out]; simp, R5.out, R3.out, HR'.out, R6.out, R7⟩
            case measure => rw [LV'.out, LV.out]; have := HLA.out; omega
    | false =>
      have HR' : acc = (dgs A).map (48 + ·) := by have := HR.out; simpa using this
      have hne : acc ≠ [] := by rw [HR']; simpa using dgs_ne A
      obtain ⟨g, cap, rfl, hg, ht⟩ := HO.out.tbl hne
      have hl39 : acc.length ≤ 39 := by rw [HR']; simpa using HLEN.out
      have RV := hid (Reverse_any g acc.length cap _ wr (by omega) ht)
      have hl0 : 0 < acc.length := List.length_pos_iff.2 hne
      have HE := hid HR'
      clear HR HR' ht HO
      go_wp2_with fail
      refine RV.out.mono ?_
      rintro e w8 ⟨rfl, ht8, hb8⟩
      have CV := run_convert_bytes_arg (P := Tryz.prog) w8 98 5 Tryz.undBytes Tryz.undByte g 0 acc.length cap (acc.reverse.map fun x : Nat => (x : Int)) (by simp) (fun i hi => by
        rw [Nat.zero_add, ht8.cell i hi]
        congr 2
        have hi' : acc.length - 1 - i < acc.length := by omega
        simp [List.getD, hi, hi']) 9 Tryz.undStr
      have ST : Hid (strOfNums (acc.reverse.map fun x : Nat => (x : Int)) = ⟨(decT A).toArray⟩) := by
        show _ = _
        unfold strOfNums decT
        rw [HE.out]
        simp [Function.comp_def]
        intro a _
        rw [show (48 + (a : Int)).toNat = 48 + a by omega]
        simp
      rw [ST.out] at CV
      have HB := hid (HW.out.trans (hb8.mono (by omega)))
      clear ht8 hb8
      go_wp2_with fail
      go_ret
      exact ⟨rfl, HB.out⟩
end Go.Proofs.YtkmpnaohdijpnaaGreatDoor

namespace Go.Proofs.YtkmpnaohdijpnaaGreatDoor
open Go.RowKit Go.Lib

theorem decT_len {u : Nat} (h : u < 340282366920938463463374607431768211456) : (decT u).length ≤ 39 := by
  unfold decT
  have := dgs_len 38 u (by omega)
  simpa using this
/-- A whole number's 128 bits. -/
def zto (z : Int) : Nat := (z % 340282366920938463463374607431768211456).toNat
theorem zto_lt (z : Int) : zto z < 340282366920938463463374607431768211456 := by unfold zto; omega
/-- The text of a whole number. -/
def decZ (z : Int) : List UInt8 := if z < 0 then 45 :: decT (-z).toNat else decT z.toNat
theorem zto_add (x y : Int) : (zto x + zto y) % 340282366920938463463374607431768211456 = zto (x + y) := by unfold zto; omega
theorem zto_mul (x y : Int) : (zto x * zto y) % 340282366920938463463374607431768211456 = zto (x * y) := by
  unfold zto
  have h1 : ((((x % 340282366920938463463374607431768211456).toNat * (y % 340282366920938463463374607431768211456).toNat % 340282366920938463463374607431768211456 : Nat)) : Int) = x * y % 340282366920938463463374607431768211456 := by
    rw [Int.natCast_emod, Int.natCast_mul, Int.toNat_of_nonneg (Int.emod_nonneg _ (by omega)), Int.toNat_of_nonneg (Int.emod_nonneg _ (by omega))]
    exact (Int.mul_emod x y 340282366920938463463374607431768211456).symm
  omega
set_option maxRecDepth 20000 in
theorem Wsize_any (u : Nat) (w : World) (hu : u < 340282366920938463463374607431768211456) : Calls Tryz.prog 52 #[wv u] w fun e w' => e = .returned (wv (if 170141183460469231731687303715884105728 ≤ u then 340282366920938463463374607431768211456 - u else u)) ∧ Below w.heap.size w w' := by
  obtain ⟨ah, al, h1, h2, HA, ea⟩ := wv_open u hu
  have NG := hid (fun w => WNeg_any u w hu)
  rw [ea] at NG ⊢
  have C1 : Hid (∀ w2, Below ((w.alloc (.cells #[.int .u64 (ah : Nat), .int .u64 (al : Nat)] 63)).alloc (.cells #[.int .u64 0, .int .u64 0] 63)).heap.size ((w.alloc (.cells #[.int .u64 (ah : Nat), .int .u64 (al : Nat)] 63)).alloc (.cells #[.int .u64 0, .int .u64 0] 63)) w2 → w2.heap[w.heap.size]? = some (.cells #[.int .u64 (ah : Nat), .int .u64 (al : Nat)] 63 (0, 0)) ∧ w2.heap[w.heap.size + 1]? = some (.cells #[.int .u64 0, .int .u64 0] 63 (0, 0))) := fun w2 hb => by
    refine ⟨(hb.block _ (by simp; omega)).trans ?_, (hb.block _ (by simp)).trans ?_⟩
    · rw [Below.heap_alloc _ _ _ (by simp)]
      exact World.alloc_heap_new w _
    · have := World.alloc_heap_new (w.alloc (.cells #[.int .u64 (ah : Nat), .int .u64 (al : Nat)] 63)) (.cells #[.int .u64 0, .int .u64 0] 63)
      simpa using this
  have B0 := hid (((Below.refl _ w).alloc (Nat.le_refl _) (.cells #[.int .u64 (ah : Nat), .int .u64 (al : Nat)] 63)).alloc (by simp) (.cells #[.int .u64 0, .int .u64 0] 63))
  by_cases hq : 170141183460469231731687303715884105728 ≤ u
  · rw [if_pos hq]
    rw [decide_eq_true hq] at NG
    obtain ⟨nh, nl, n1, n2, EN, wn⟩ := wv_open (340282366920938463463374607431768211456 - u) (by omega)
    have MI : Hid (∀ w, Calls Tryz.prog 72 #[.agg #[.int .u64 0, .int .u64 0], .agg #[.int .u64 (ah : Nat), .int .u64 (al : Nat)]] w fun e w' => e = .returned (.agg #[.int .u64 (nh : Nat), .int .u64 (nl : Nat)]) ∧ Below w.heap.size w w') := fun w => by
      have := WMinus_any 0 u w (by omega) hu
      rw [ea, show (0 + 340282366920938463463374607431768211456 - u) % 340282366920938463463374607431768211456 = 340282366920938463463374607431768211456 - u by omega, wn] at this
      exact this
    rw [wn]
    clear hq ea
    go_enter Tryz.func52, Tryz.ntmps52
    go_wp2_with fail
    refine (NG.out _).mono ?_
    rintro e w2 ⟨rfl, hb2⟩
    obtain ⟨k1, k2⟩ := C1.out w2 hb2
    have c1 := two_cells k1
    have K2 := hid k2
    have HB2 := hid (B0.out.trans (hb2.mono B0.out.size))
    clear hb2 k1 k2
    go_wp2_with fail
    refine (MI.out _).mono ?_
    rintro e w3 ⟨rfl, hb3⟩
    have hsz : w.heap.size + 1 < w2.heap.size := (Array.getElem?_eq_some_iff.1 K2.out).1
    have k3 := (hb3.block _ hsz).trans K2.out
    have c2 := two_cells k3
    have V3 := set_heap_1 (x := .int .u64 (nl : Nat)) (set_heap_0 (x := .int .u64 (nh : Nat)) k3)
    have HB3 := hid (below_two (b := w.heap.size + 1) (x := .int .u64 (nh : Nat)) (y := .int .u64 (nl : Nat)) (HB2.out.trans (hb3.mono HB2.out.size)) (by omega))
    have c3 := two_cells V3
    clear hb3
    go_wp2_with fail
    refine bodyPost_ret (v := .agg #[.int .u64 (nh : Nat), .int .u64 (nl : Nat)]) ?_ rfl ⟨rfl, HB3.out⟩
    simp [results, Tryz.f52, go_sem, c3]
  · rw [if_neg hq]
    rw [decide_eq_false hq] at NG
    rw [ea]
    clear hq ea
    go_enter Tryz.func52, Tryz.ntmps52
    go_wp2_with fail
    refine (NG.out _).mono ?_
    rintro e w2 ⟨rfl, hb2⟩
    obtain ⟨k1, k2⟩ := C1.out w2 hb2
    have c1 := two_cells k1
    have c2 := two_cells k2
    have V3 := set_heap_1 (x := .int .u64 (al : Nat)) (set_heap_0 (x := .int .u64 (ah : Nat)) k2)
    have HB3 := hid (below_two (b := w.heap.size + 1) (x := .int .u64 (ah : Nat)) (y := .int .u64 (al : Nat)) (B0.out.trans (hb2.mono B0.out.size)) (by omega))
    have c3 := two_cells V3
    clear hb2
    go_wp2_with fail
    refine bodyPost_ret (v := .agg #[.int .u64 (ah : Nat), .int .u64 (al : Nat)]) ?_ rfl ⟨rfl, HB3.out⟩
    simp [results, Tryz.f52, go_sem, c3]
set_option maxRecDepth 20000 in
theorem WString_any (z : Int) (w : World) (h1 : -170141183460469231731687303715884105728 ≤ z) (h2 : z < 170141183460469231731687303715884105728) : Calls Tryz.prog 29 #[wv (zto z)] w fun e w' => e = .returned (.string ⟨(decZ z).toArray⟩) ∧ Below w.heap.size w w' := by
  obtain ⟨ah, al, h3, h4, HA, ea⟩ := wv_open (zto z) (zto_lt z)
  have NG := hid (fun w => WNeg_any (zto z) w (zto_lt z))
  have SZ := hid (fun w => Wsize_any (zto z) w (zto_lt z))
  have DG := hid (fun w => digits_any (zto z) w (zto_lt z))
  have C1 : Hid (∀ w2, Below (w.alloc (.cells #[.int .u64 (ah : Nat), .int .u64 (al : Nat)] 63)).heap.size (w.alloc (.cells #[.int .u64 (ah : Nat), .int .u64 (al : Nat)] 63)) w2 → w2.heap[w.heap.size]? = some (.cells #[.int .u64 (ah : Nat), .int .u64 (al : Nat)] 63 (0, 0))) := fun w2 hb => (hb.block _ (by simp)).trans (World.alloc_heap_new w _)
  have B0 := hid ((Below.refl _ w).alloc (Nat.le_refl _) (.cells #[.int .u64 (ah : Nat), .int .u64 (al : Nat)] 63))
  by_cases hq : z < 0
  · have hz : 170141183460469231731687303715884105728 ≤ zto z := by unfold zto; omega
    rw [decide_eq_true hz] at NG
    rw [if_pos hz, show 340282366920938463463374607431768211456 - zto z = (-z).toNat by unfold zto; omega] at SZ
    obtain ⟨nh, nl, n1, n2, EN, wn⟩ := wv_open (-z).toNat (by omega)
    have DG2 := hid (fun w => digits_any (-z).toNat w (by omega))
    rw [wn] at SZ DG2
    rw [ea] at NG SZ ⊢
    have DZ : Hid (decZ z = 45 :: decT (-z).toNat) := if_pos hq
    rw [DZ.out]
    clear DG hq hz ea wn
    have hdl := decT_len (u := (-z).toNat) (by omega)
    generalize decT (-z).toNat = dt at *
    go_enter Tryz.func29, Tryz.ntmps29
    go_wp2_with fail
    refine (NG.out _).mono ?_
    rintro e w2 ⟨rfl, hb2⟩
    have c1 := two_cells (C1.out w2 hb2)
    have HB2 := hid (B0.out.trans (hb2.mono B0.out.size))
    clear hb2
    go_wp2_with fail
    refine (SZ.out _).mono ?_
    rintro e w3 ⟨rfl, hb3⟩
    have HB3 := hid (HB2.out.trans (hb3.mono HB2.out.size))
    clear hb3
    go_wp2_with fail
    refine (DG2.out _).mono ?_
    rintro e w4 ⟨rfl, hb4⟩
    have HB4 := hid (HB3.out.trans (hb4.mono HB3.out.size))
    clear hb4
    have hcat : ¬ 9223372036854775807 < 1 + dt.length := by omega
    have hcat2 : Hid ((⟨#[45]⟩ : ByteArray) ++ ⟨dt.toArray⟩ = ⟨(45 :: dt).toArray⟩) := by
      show _ = _
      apply ByteArray.ext
      simp
    go_wp2_with fail
    rw [hcat2.out]
    go_ret
    exact ⟨rfl, HB4.out⟩
  · have hz : ¬ 170141183460469231731687303715884105728 ≤ zto z := by unfold zto; omega
    rw [decide_eq_false hz] at NG
    have e9 : zto z = z.toNat := by unfold zto; omega
    have DZ : Hid (decZ z = decT (zto z)) := by show _ = _; unfold decZ; rw [if_neg hq, e9]
    rw [DZ.out]
    rw [ea] at NG DG ⊢
    clear SZ hq hz ea
    generalize decT (zto z) = dt at *
    go_enter Tryz.func29, Tryz.ntmps29
    go_wp2_with fail
    refine (NG.out _).mono ?_
    rintro e w2 ⟨rfl, hb2⟩
    have c1 := two_cells (C1.out w2 hb2)
    have HB2 := hid (B0.out.trans (hb2.mono B0.out.size))
    clear hb2
    go_wp2_with fail
    refine (DG.out _).mono ?_
    rintro e w4 ⟨rfl, hb4⟩
    have HB4 := hid (HB2.out.trans (hb4.mono HB2.out.size))
    clear hb4
    go_wp2_with fail
    go_ret
    exact ⟨rfl, HB4.out⟩
end Go.Proofs.YtkmpnaohdijpnaaGreatDoor

namespace Go.Proofs.YtkmpnaohdijpnaaGreatDoor

theorem decT_is (u : Nat) : Go.Lib.decDigits u = decT u := by
  induction u using Nat.strongRecOn with
  | _ u ih =>
    unfold decT
    by_cases h : u < 10
    · rw [Go.Lib.decDigits, _root_.dif_pos h, dgs_low h]; rfl
    · rw [Go.Lib.decDigits, _root_.dif_neg h, dgs_high h, ih (u / 10) (by omega)]
      unfold decT
      simp
theorem itoa_is (z : Int) : Go.Lib.itoa z = decZ z := by
  unfold Go.Lib.itoa decZ
  by_cases h : z < 0
  · rw [if_pos h, if_pos h, decT_is, show z.natAbs = (-z).toNat by omega]
  · rw [if_neg h, if_neg h, decT_is]
end Go.Proofs.YtkmpnaohdijpnaaGreatDoor
