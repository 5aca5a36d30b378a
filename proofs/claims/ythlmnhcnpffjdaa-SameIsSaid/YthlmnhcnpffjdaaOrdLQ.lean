/- same.Isomorphic. -/
import Derived.Test.YthlmnhcnpffjdaaOrdKQ
namespace Go.Proofs.Ythlmnhcnpffjdaa
open Go.RowKit

theorem loop_head (L : List (List Nat)) : (loopL (fun (_ : Option (List Nat)) (p : List Nat) => (false, some p)) L none).2 = L.head? := by
  cases L with
  | nil => rfl
  | cons q qs => rw [loopL]; rfl
/-- The world where Isomorphic's variables are laid. -/
def box4 (w : World) (m : Int) (v : Value) (k : Int) (u : Value) : World := ((box2 w m v k u).alloc (.cells #[.slice none 0 0] 22)).alloc (.cells #[.int .i64 5] 25)
theorem box4_size (w : World) (m : Int) (v : Value) (k : Int) (u : Value) : (box4 w m v k u).heap.size = w.heap.size + 4 := by unfold box4; simp [box2_size]
theorem box4_two (w : World) (m : Int) (v : Value) (k : Int) (u : Value) : Below (box2 w m v k u).heap.size (box2 w m v k u) (box4 w m v k u) := ((Below.refl _ _).alloc (Nat.le_refl _) _).alloc (by simp) _
theorem box4_first (w : World) (m : Int) (v : Value) (k : Int) (u : Value) : Boxed (box4 w m v k u) (w.heap.size + 2) 22 (.slice none 0 0) := by
  unfold box4
  refine (Below.heap_alloc _ _ _ (by simp [box2_size])).trans ?_
  have := Boxed.new (box2 w m v k u) 22 (.slice none 0 0)
  rwa [box2_size] at this
theorem box4_answer (w : World) (m : Int) (v : Value) (k : Int) (u : Value) : Boxed (box4 w m v k u) (w.heap.size + 3) 25 (.int .i64 5) := by
  unfold box4
  have := Boxed.new ((box2 w m v k u).alloc (.cells #[.slice none 0 0] 22)) 25 (.int .i64 5)
  rwa [World.size_alloc, box2_size] at this
theorem box4_below (w : World) (m : Int) (v : Value) (k : Int) (u : Value) : Below w.heap.size w (box4 w m v k u) := (box2_below w m v k u).trans ((box4_two w m v k u).mono (box2_below w m v k u).size)
theorem box4_cells (w : World) (m : Int) (v : Value) (k : Int) (u : Value) : (box4 w m v k u).cell? ⟨w.heap.size, 0, none⟩ = some (.int .i64 m) ∧ (box4 w m v k u).cell? ⟨w.heap.size, 1, none⟩ = some v ∧ (box4 w m v k u).cell? ⟨w.heap.size + 1, 0, none⟩ = some (.int .i64 k) ∧ (box4 w m v k u).cell? ⟨w.heap.size + 1, 1, none⟩ = some u := by
  obtain ⟨y0, y1⟩ := box2_blocks (box4_two w m v k u)
  exact ⟨(cells2 y0).1, (cells2 y0).2, (cells2 y1).1, (cells2 y1).2⟩
set_option maxRecDepth 20000 in
set_option maxHeartbeats 1000000 in
theorem Isomorphic_ok (m k : Nat) (v u : Value) (l l' : List Nat) (w : World) (hm : m ≤ 8) (hf : Fam m l) (hb : Bas l) (h : Ints w v (N l)) (hk : k ≤ 8) (hf' : Fam k l') (hb' : Bas l') (h' : Ints w u (N l')) :
    Calls Try.prog 18 #[.agg #[.int .i64 m, v], .agg #[.int .i64 k, u]] w fun e w' => ∃ r, e = .returned (.tuple #[r, .int .i64 (ansE (isoK m l k l').head?)]) ∧ Own w.heap.size w' r ((isoK m l k l').head?.getD []) ∧ Below w.heap.size w w' := by
  have BW := box4_below w m v k u
  have hsz := box4_size w m v k u
  have E1 := hid (between_ok m k 55 #[.pointer (some ⟨w.heap.size + 2, 0, none⟩), .pointer (some ⟨w.heap.size + 3, 0, none⟩)] v u l l' (fun (_ : Option (List Nat)) p => (false, some p)) (fun gN gI s W => IsoI w gN gI s W) none (box4 w m v k u) hm hf hb (h.below BW) hk hf' hb' (h'.below BW)
    (fun args w => enters_of Try.func55 (by kernel_rfl) rfl args w)
    (fun gN gI s W W' h hs => h.save hs)
    (fun B gN gI s p W hB hI hbg hp hO hBW => by
      rw [hsz] at hB ⊢
      exact isoF_ok w B gN gI m s p W hB hI hp hm hO)
    (fun gN gI W h1 h2 h3 => by
      rw [hsz] at h1 h2 h3
      exact ⟨BW.trans (h3.mono (by omega)), h1, h2, (h3.block _ (by omega)).trans (box4_answer w m v k u), _, (h3.block _ (by omega)).trans (box4_first w m v k u), Own.nil _ _, fun g e => by cases e⟩))
  rw [loop_head] at E1
  generalize isoK m l k l' = IL at *
  obtain ⟨x0, x1, x2, x3⟩ := box4_cells w m v k u
  have hw4 : ((box2 w m v k u).alloc (.cells #[.slice none 0 0] 22)).alloc (.cells #[.int .i64 5] 25) = box4 w m v k u := rfl
  obtain ⟨a0, cap, hv, -, -⟩ := h.nats
  obtain ⟨a1, cap1, hu, -, -⟩ := h'.nats
  subst hv
  subst hu
  unfold box2 at hw4
  clear hf hb hf' hb' h h' BW hsz
  go_enter Try.func18, Try.ntmps18
  go_wp2_with fail
  refine E1.out.mono ?_
  rintro e w2 ⟨rfl, ⟨gN, gI, hI⟩, hs⟩
  obtain ⟨h1, -, -, h4, r, h5, h6, -⟩ := hI
  have c4 : w2.cell? ⟨w.heap.size + 1 + 1 + 1, 0, none⟩ = some (.int .i64 (ansE IL.head?)) := h4.cell
  have c5 : w2.cell? ⟨w.heap.size + 1 + 1, 0, none⟩ = some r := h5.cell
  have HD : Hid (∀ q, Below w.heap.size w (w2.drewN q)) := fun q => h1.trans ⟨rfl, rfl, rfl, Nat.le_refl _, fun _ _ => rfl⟩
  have HO : Hid (∀ q, Own w.heap.size (w2.drewN q) r (IL.head?.getD [])) := fun q => h6.below ⟨rfl, rfl, rfl, Nat.le_refl _, fun _ _ => rfl⟩
  obtain ⟨ra, rc, rfl⟩ := ownsRow_form' h6
  clear h1 h4 h5 h6 E1 hs hw4 x0 x1 x2 x3
  go_wp2_with fail
  go_quiet (fail)
  go_wp2_with fail
  go_ret2
  exact ⟨.slice ra (IL.head?.getD []).length rc, rfl, HO.out _, HD.out _⟩
theorem Isomorphic_bad (n k : Int) (v u : Value) (zs ys : List Int) (w : World) (h : Ints w v zs) (h' : Ints w u ys) (hc : chk2 n zs k ys ≠ 0) :
    Calls Try.prog 18 #[.agg #[.int .i64 n, v], .agg #[.int .i64 k, u]] w fun e w' => e = .returned (.tuple #[.slice none 0 0, .int .i64 (chk2 n zs k ys)]) ∧ Below w.heap.size w w' := by
  have BW := box4_below w n v k u
  have E1 := hid (between_bad n k v u zs ys (.func (.func 55) #[] #[.pointer (some ⟨w.heap.size + 2, 0, none⟩), .pointer (some ⟨w.heap.size + 3, 0, none⟩)]) _ (h.below BW) (h'.below BW) hc)
  obtain ⟨x0, x1, x2, x3⟩ := box4_cells w n v k u
  have hw4 : ((box2 w n v k u).alloc (.cells #[.slice none 0 0] 22)).alloc (.cells #[.int .i64 5] 25) = box4 w n v k u := rfl
  have HB := hid BW
  obtain ⟨a0, cap, rfl, -, -⟩ := h
  obtain ⟨a1, cap1, rfl, -, -⟩ := h'
  unfold box2 at hw4
  generalize chk2 n zs k ys = q at *
  have hq : (q != 0) = true := by simp [hc]
  clear BW hc
  go_enter Try.func18, Try.ntmps18
  go_wp2_with fail
  refine E1.out.mono ?_
  rintro e w2 ⟨rfl, hb2⟩
  have HB2 := hid (HB.out.trans (hb2.mono HB.out.size))
  clear hb2 E1 x0 x1 x2 x3 hw4
  go_wp2_with fail
  go_ret2
  exact ⟨rfl, HB2.out⟩
end Go.Proofs.Ythlmnhcnpffjdaa
