/- same.Group. -/
import Derived.Test.YthlmnhcnpffjdaaOrdLQ
namespace Go.Proofs.Ythlmnhcnpffjdaa
open Go.RowKit

/-- One more is counted. -/
def cntF (s : Int) (_ : List Nat) : Bool × Int := (true, IntKind.i64.wrap (s + 1))
theorem goes_len (n : Nat) : ∀ (k : Nat) (p : List Nat), (goes n k p).length ≤ n ^ k
  | 0, p => by rw [goes]; simp
  | k + 1, p => by
    rw [goes, Nat.pow_succ, Nat.mul_comm]
    have h : ∀ (xs : List Nat), (xs.flatMap fun x => if x ∈ p then [] else goes n k (p ++ [x])).length ≤ xs.length * n ^ k := fun xs => by
      induction xs with
      | nil => simp
      | cons x xs ih =>
        rw [List.flatMap_cons, List.length_append, List.length_cons, Nat.succ_mul]
        have h1 : (if x ∈ p then [] else goes n k (p ++ [x])).length ≤ n ^ k := by
          split
          · exact Nat.zero_le _
          · exact goes_len n k _
        omega
    have := h (List.range n)
    rwa [List.length_range] at this
theorem iso_len {n : Nat} (hn : n ≤ 8) (A B : List Nat) : (isoL n A B).length ≤ 16777216 := by
  have h1 : (isoL n A B).length ≤ (goes n n []).length := List.length_filter_le _ _
  have h2 := goes_len n n []
  have h3 : n ^ n ≤ 8 ^ 8 := Nat.le_trans (Nat.pow_le_pow_left hn n) (Nat.pow_le_pow_right (by decide) hn)
  exact Nat.le_trans h1 (Nat.le_trans h2 (Nat.le_trans h3 (by decide)))
theorem cnt_loop : ∀ (L : List (List Nat)) (s : Nat), s + L.length ≤ 16777216 → (loopL cntF L (s : Int)).2 = ((s + L.length : Nat) : Int)
  | [], s, _ => rfl
  | q :: qs, s, h => by
    rw [List.length_cons] at h
    rw [loopL]
    have e : IntKind.i64.wrap ((s : Int) + 1) = ((s + 1 : Nat) : Int) := by
      rw [show ((s : Int) + 1) = ((s + 1 : Nat) : Int) by omega]
      exact wrap_i64_nat _ (by omega)
    show (if (true : Bool) = true then loopL cntF qs (IntKind.i64.wrap ((s : Int) + 1)) else _).2 = _
    rw [if_pos rfl, e, cnt_loop qs (s + 1) (by omega), List.length_cons]
    congr 1
    omega
/-- What Group's variable holds. -/
def GrpI (w : World) (gN gI : Nat) (s : Int) (W : World) : Prop := Below w.heap.size w W ∧ w.heap.size + 2 ≤ gN ∧ w.heap.size + 2 ≤ gI ∧ Boxed W (w.heap.size + 1) 3 (.int .i64 s)
theorem GrpI.save {w : World} {gN gI : Nat} {s : Int} {W W' : World} (h : GrpI w gN gI s W) (hs : Save (fun k => k = gN ∨ k = gI) W W') : GrpI w gN gI s W' := by
  obtain ⟨h1, h2, h3, h4⟩ := h
  exact ⟨hs.below h1 h1.size (fun k hk => by omega), h2, h3, (hs.block _ h4.lt (by omega)).trans h4⟩
set_option maxRecDepth 20000 in
set_option maxHeartbeats 1000000 in
theorem grpF_ok (w : World) (B gN gI n : Nat) (s : Int) (p : List Nat) (W : World) (hI : GrpI w gN gI s W) (_hO : OrdAt B W gN gI n p) :
    Calls Try.prog 40 #[ordV gN gI n p, .pointer (some ⟨w.heap.size + 1, 0, none⟩)] W fun e W' => e = .returned (.bool true) ∧ GrpI w gN gI (IntKind.i64.wrap (s + 1)) W' ∧ Save (fun k => k < w.heap.size + 2) W W' := by
  have B1 : Below W.heap.size W (W.alloc (.cells #[.slice (some ⟨gN, 0, none⟩) p.length n, .slice (some ⟨gI, 0, none⟩) (2 ^ p.length) (2 ^ n)] 67)) := (Below.refl _ _).alloc (Nat.le_refl _) _
  obtain ⟨h1, h2, h3, h4⟩ := hI
  have b4 := (B1.block _ h4.lt).trans h4
  have c4 := Boxed.cell b4
  have f4 := Boxed.frozen b4
  have hl4 := h4.lt
  unfold ordV
  generalize 2 ^ p.length = K at *
  generalize 2 ^ n = T at *
  have HS : Hid (Save (fun k => k < w.heap.size + 2) W ((W.setCell ⟨w.heap.size + 1, 0, none⟩ (.int .i64 (IntKind.i64.wrap (s + 1)))).alloc (.cells #[.slice (some ⟨gN, 0, none⟩) p.length n, .slice (some ⟨gI, 0, none⟩) K T] 67))) := ((Save.refl _ W).setCell (p := ⟨w.heap.size + 1, 0, none⟩) (.inl (by show w.heap.size + 1 < _; omega)) _).alloc _
  have h1s : w.heap.size ≤ W.heap.size := h1.size
  have HR : Hid (GrpI w gN gI (IntKind.i64.wrap (s + 1)) ((W.setCell ⟨w.heap.size + 1, 0, none⟩ (.int .i64 (IntKind.i64.wrap (s + 1)))).alloc (.cells #[.slice (some ⟨gN, 0, none⟩) p.length n, .slice (some ⟨gI, 0, none⟩) K T] 67))) :=
    ⟨(h1.setCell (p := ⟨w.heap.size + 1, 0, none⟩) (by show _ ≤ w.heap.size + 1; omega) _).alloc (by rw [show (W.setCell ⟨w.heap.size + 1, 0, none⟩ (.int .i64 (IntKind.i64.wrap (s + 1)))).heap.size = W.heap.size by simp [World.setCell]]; exact h1s) _, h2, h3, (Below.heap_alloc _ _ _ (by rw [show (W.setCell ⟨w.heap.size + 1, 0, none⟩ (.int .i64 (IntKind.i64.wrap (s + 1)))).heap.size = W.heap.size by simp [World.setCell]]; exact hl4)).trans (Boxed.set _ h4)⟩
  have hwr : wrap64 (s + 1) = IntKind.i64.wrap (s + 1) := by rw [← IntWalk.i64_left]
  generalize IntKind.i64.wrap (s + 1) = s' at *
  clear h1 h2 h3 h4 b4 B1
  go_enter Try.func40, Try.ntmps40
  go_wp2_with fail
  go_ret
  exact ⟨rfl, HR.out, HS.out⟩
theorem boxG_cells (w : World) (m : Int) (v : Value) : Below w.heap.size w ((w.alloc (.cells #[.int .i64 m, v] 24)).alloc (.cells #[.int .i64 0] 3)) ∧ ((w.alloc (.cells #[.int .i64 m, v] 24)).alloc (.cells #[.int .i64 0] 3)).heap.size = w.heap.size + 2 ∧ ((w.alloc (.cells #[.int .i64 m, v] 24)).alloc (.cells #[.int .i64 0] 3)).heap[w.heap.size]? = some (.cells #[.int .i64 m, v] 24 (0, 0)) ∧ Boxed ((w.alloc (.cells #[.int .i64 m, v] 24)).alloc (.cells #[.int .i64 0] 3)) (w.heap.size + 1) 3 (.int .i64 0) := by
  refine ⟨((Below.refl _ _).alloc (Nat.le_refl _) _).alloc (by simp) _, by simp, (Below.heap_alloc _ _ _ (by simp)).trans (World.alloc_heap_new w _), ?_⟩
  have := Boxed.new (w.alloc (.cells #[.int .i64 m, v] 24)) 3 (.int .i64 0)
  rwa [World.size_alloc] at this
set_option maxRecDepth 20000 in
set_option maxHeartbeats 1000000 in
theorem Group_ok (m : Nat) (v : Value) (l : List Nat) (w : World) (hm : m ≤ 8) (hf : Fam m l) (hb : Bas l) (h : Ints w v (N l)) :
    Calls Try.prog 13 #[.agg #[.int .i64 m, v]] w fun e w' => e = .returned (.tuple #[.int .i64 ((isoL m l l).length : Nat), .int .i64 0]) ∧ Below w.heap.size w w' := by
  obtain ⟨BW, hsz, hblk, hbox⟩ := boxG_cells w m v
  have hCL : (loopL cntF (isoK m l m l) 0).2 = ((isoL m l l).length : Int) := by
    have := cnt_loop (isoL m l l) 0 (by have := iso_len hm l l; omega)
    rw [Nat.zero_add] at this
    unfold isoK
    rw [if_pos rfl]
    exact this
  obtain ⟨x0, x1⟩ := cells2 hblk
  have E1 := hid (between_ok m m 40 #[.pointer (some ⟨w.heap.size + 1, 0, none⟩)] v v l l cntF (fun gN gI s W => GrpI w gN gI s W) 0 _ hm hf hb (h.below BW) hm hf hb (h.below BW)
    (fun args w => enters_of Try.func40 (by kernel_rfl) rfl args w)
    (fun gN gI s W W' h hs => h.save hs)
    (fun B gN gI s p W hB hI hbg hp hO hBW => by
      rw [hsz]
      exact grpF_ok w B gN gI m s p W hI hO)
    (fun gN gI W h1 h2 h3 => by
      rw [hsz] at h1 h2 h3
      exact ⟨BW.trans (h3.mono (by omega)), h1, h2, (h3.block _ (by omega)).trans hbox⟩))
  rw [hCL] at E1
  obtain ⟨a0, cap, hv, -, -⟩ := h.nats
  subst hv
  generalize (isoL m l l).length = C at *
  clear hf hb h BW hsz hbox hCL hblk
  go_enter Try.func13, Try.ntmps13
  go_wp2_with fail
  refine E1.out.mono ?_
  rintro e w2 ⟨rfl, ⟨gN, gI, h1, -, -, h4⟩, -⟩
  have c4 := h4.cell
  have H1 := hid h1
  clear h1 h4 E1 x0 x1
  go_wp2_with fail
  go_ret2
  exact ⟨rfl, H1.out⟩
set_option maxHeartbeats 1000000 in
theorem Group_bad (n : Int) (v : Value) (zs : List Int) (w : World) (h : Ints w v zs) (hc : chkR n zs ≠ 0) :
    Calls Try.prog 13 #[.agg #[.int .i64 n, v]] w fun e w' => e = .returned (.tuple #[.int .i64 0, .int .i64 (chkR n zs)]) ∧ Below w.heap.size w w' := by
  obtain ⟨BW, hsz, hblk, hbox⟩ := boxG_cells w n v
  have hc2 : chk2 n zs n zs = chkR n zs := by unfold chk2; rw [if_neg hc]
  obtain ⟨x0, x1⟩ := cells2 hblk
  have E1 := hid (between_bad n n v v zs zs (.func (.func 40) #[] #[.pointer (some ⟨w.heap.size + 1, 0, none⟩)]) _ (h.below BW) (h.below BW) (by rw [hc2]; exact hc))
  rw [hc2] at E1
  have HBW := hid BW
  have HBX := hid hbox
  obtain ⟨a0, cap, rfl, -, -⟩ := h
  generalize chkR n zs = q at *
  clear BW hbox hblk hc2
  go_enter Try.func13, Try.ntmps13
  go_wp2_with fail
  refine E1.out.mono ?_
  rintro e w2 ⟨rfl, hb2⟩
  have b4 : Boxed w2 (w.heap.size + 1) 3 (.int .i64 0) := (hb2.block (w.heap.size + 1) (by omega)).trans HBX.out
  have c4 := b4.cell
  have H1 := hid (HBW.out.trans (hb2.mono HBW.out.size))
  clear hb2 E1 x0 x1 b4
  go_wp2_with fail
  go_ret2
  exact ⟨rfl, H1.out⟩
end Go.Proofs.Ythlmnhcnpffjdaa
