/- kinds.picked: the columns whose places are in a set. -/
import Derived.Test.YtlmpeacgjafcjaaKLfQ
import Derived.Test.YtlmpeacgjafcjaaKRingQ
namespace Go.Proofs.Ytlmpeacgjafcjaa
open Go.RowKit

theorem Try.infoCol : (Try.prog.info? 62).map (fun i => (i.zero, i.size, i.bytes)) = some (some (.agg #[.int .i64 0, .int .i64 0, .int .i64 0, .int .i64 0, .int .i64 0, .int .i64 0]), 6, 48) := by kernel_rfl
theorem Try.undCol : Try.prog.underlying 49 = some (.slice 62) := by kernel_rfl
def VC (l : List (Nat → Int)) : List Value := l.flatMap fun f => (colC f).toList
theorem VC_len (l : List (Nat → Int)) : (VC l).length = l.length * 6 := by
  induction l with
  | nil => rfl
  | cons f l ih =>
    show ((colC f).toList ++ VC l).length = _
    rw [List.length_append, ih, List.length_cons]
    show 6 + _ = _
    omega
theorem VC_snoc (l : List (Nat → Int)) (f : Nat → Int) : VC (l ++ [f]) = VC l ++ (colC f).toList := by
  unfold VC
  rw [List.flatMap_append]
  simp
theorem VC_at : ∀ (l : List (Nat → Int)) (k r : Nat), k < l.length → r < 6 → (VC l)[k * 6 + r]? = some (.int .i64 ((l.getD k fun _ => 0) r))
  | [], k, _, h, _ => absurd h (Nat.not_lt_zero k)
  | f :: l, k, r, hk, hr => by
    show ((colC f).toList ++ VC l)[k * 6 + r]? = _
    have e6 : (colC f).toList.length = 6 := rfl
    cases k with
    | zero =>
      rw [Nat.zero_mul, Nat.zero_add, List.getElem?_append_left (by rw [e6]; exact hr), Array.getElem?_toList, colC_at f hr]
      rfl
    | succ k =>
      rw [List.getElem?_append_right (by rw [e6]; omega), e6, show (k + 1) * 6 + r - 6 = k * 6 + r by omega, VC_at l k r (by rw [List.length_cons] at hk; omega) hr]
      rfl
/-- v is a slice of the call's own that holds these columns. -/
def OwnC (B : Nat) (w : World) (v : Value) (l : List (Nat → Int)) : Prop := w.ownsRow B 62 6 v l.length (VC l)
theorem OwnC.nil (B : Nat) (w : World) : OwnC B w (.slice none 0 0) [] := World.ownsRow_nil _ _ _ _
theorem OwnC.snoc {B : Nat} {w : World} {v : Value} {l : List (Nat → Int)} {f : Nat → Int} (h : w.ownsRow B 62 6 v (l.length + 1) (VC l ++ (colC f).toList)) : OwnC B w v (l ++ [f]) := by
  unfold OwnC
  rw [VC_snoc]
  simpa using h
theorem OwnC.below {B : Nat} {w w' : World} {v : Value} {l : List (Nat → Int)} (h : OwnC B w v l) (hb : Below w.heap.size w w') : OwnC B w' v l := by
  obtain ⟨h0, h1⟩ := h
  refine ⟨h0, h1.imp_right ?_⟩
  rintro ⟨g, cap, cur, hv, hg, hheap, hr⟩
  have hlt : g < w.heap.size := by
    rcases Nat.lt_or_ge g w.heap.size with h | h
    · exact h
    · rw [Array.getElem?_eq_none h] at hheap; cases hheap
  exact ⟨g, cap, cur, hv, hg, (hb.block g hlt).trans hheap, hr⟩
theorem OwnC.alloc {B : Nat} {w : World} {v : Value} {l : List (Nat → Int)} (h : OwnC B w v l) (o : Obj) : OwnC B (w.alloc o) v l := h.below ((Below.refl _ _).alloc (Nat.le_refl _) _)
theorem OwnC.grown {B : Nat} {w wr w1 : World} {u : Value} {l : List (Nat → Int)} {o : Obj} (hown : OwnC B wr u l) (hnx : Below B w wr) (hB : B ≤ wr.heap.size) (hg : (wr.alloc o).grownBy w1 u.ownBlock) : Below B w w1 :=
  (hnx.alloc hB o).grown hg (by simp; omega) (fun j hj => (World.ownsRow.lt hown j hj).1)
theorem ColAt.news {W : World} {g : Nat} {f : Nat → Int} (h : ColAt W g f) : ∀ j u, ([.int .i64 (f 0), .int .i64 (f 1), .int .i64 (f 2), .int .i64 (f 3), .int .i64 (f 4), .int .i64 (f 5)] : List Value)[j]? = some u → W.cell? ((⟨g, 0, none⟩ : Addr).add j) = some u := fun j u hj => by
  have hl : j < 6 := (List.getElem?_eq_some_iff.1 hj).1
  have e : (colC f)[j]? = some u := by rw [← Array.getElem?_toList]; exact hj
  rw [colC_at f hl] at e
  have := h.cell hl
  rw [e] at this
  unfold Addr.add
  split
  · rename_i e0; subst e0; exact this
  · rw [Nat.zero_add]; exact this
/-- It is nil, or a block of columns. -/
theorem OwnC.cases {B : Nat} {w : World} {v : Value} {l : List (Nat → Int)} (h : OwnC B w v l) : (v = .slice none 0 0 ∧ l = []) ∨ ∃ g cap, v = .slice (some ⟨g, 0, none⟩) l.length cap ∧ B ≤ g ∧ ColsAt w g l.length fun k => l.getD k fun _ => 0 := by
  obtain ⟨h0, h1⟩ := h
  rcases h1 with ⟨h1, h2⟩ | ⟨g, cap, cur, hv, hg, hheap, hc, hm, hs, ht⟩
  · exact .inl ⟨h1, List.length_eq_zero_iff.1 h2⟩
  · refine .inr ⟨g, cap, hv, hg, cur, hheap, fun k hk r hr => ?_⟩
    have h3 := VC_at l k r hk hr
    rw [← ht, List.getElem?_take, if_pos (by omega), Array.getElem?_toList] at h3
    exact h3
/-- The columns of a set, in order. -/
def pickL (o : Nat → Nat → Int) (s L : Nat) : List (Nat → Int) := ((List.range L).filter fun i => s.testBit i).map o
theorem pickL_succ (o : Nat → Nat → Int) (s k : Nat) : pickL o s (k + 1) = if s.testBit k then pickL o s k ++ [o k] else pickL o s k := by
  unfold pickL
  rw [List.range_succ, List.filter_append, List.map_append]
  by_cases h : s.testBit k = true
  · rw [if_pos h]; simp [h]
  · rw [if_neg h]; simp [h]
theorem pickL_len (o : Nat → Nat → Int) (s k : Nat) : (pickL o s k).length ≤ k := by
  unfold pickL
  rw [List.length_map]
  exact Nat.le_trans (List.length_filter_le _ _) (by rw [List.length_range]; exact Nat.le_refl _)
theorem shr_one : ∀ s : Nat, s < 256 → ∀ i : Nat, i < 8 → (bits BinOp.and IntKind.i64 ((s : Int) / 2 ^ i) 1 == 1) = s.testBit i := by decide +kernel
set_option maxRecDepth 20000 in
set_option maxHeartbeats 4000000 in
theorem picked_any (g L cap s : Nat) (o : Nat → Nat → Int) (w : World) (h : ColsAt w g L o) (hL : L ≤ 8) (hs : s < 256) :
    Calls Try.prog 22 #[.slice (some ⟨g, 0, none⟩) L cap, .int .i64 s] w fun e w' => ∃ v, e = .returned v ∧ OwnC w.heap.size w' v (pickL o s L) ∧ Below w.heap.size w w' := by
  obtain ⟨i0, hi, hz0, hz1, hz2⟩ : ∃ i0, Try.prog.info? 62 = some i0 ∧ i0.zero = some (.agg #[.int .i64 0, .int .i64 0, .int .i64 0, .int .i64 0, .int .i64 0, .int .i64 0]) ∧ i0.size = 6 ∧ i0.bytes = 48 := by
    have := Try.infoCol
    revert this
    cases Try.prog.info? 62 with
    | none => intro h; cases h
    | some i => intro h; simp at h; exact ⟨i, rfl, h.1, h.2.1, h.2.2⟩
  have HC := hid h
  have HL := hid h.lt
  clear h
  have HO0 := hid (OwnC.nil w.heap.size w)
  have HB0 := hid (Below.refl w.heap.size w)
  go_enter Try.func22, Try.ntmps22
  go_wp2_with fail
  go_loopw [5, 6, 7, 10] (fun a _ _ i wr => ∃ k : Nat, k ≤ L ∧ i = .int .i64 k ∧ Hid (OwnC w.heap.size wr a (pickL o s k)) ∧ Hid (Below w.heap.size w wr)) (fun _ _ _ i _ => L - (intOf i).toNat)
  case atStart => exact ⟨0, Nat.zero_le _, rfl, HO0.out, HB0.out⟩
  case round =>
    obtain ⟨k, hk, rfl, HO, HW⟩ := hrel
    by_cases hlt : k < L
    · have hki : (k : Int) < (L : Int) := by omega
      obtain ⟨⟨c0, c1, c2⟩, c3, c4, c5⟩ := (HC.out.below HW.out).six hlt
      have SF := shr_one s hs k (by omega)
      have TK := hid (pickL_succ o s k)
      have hlk := pickL_len o s k
      have hs2 := HW.out.size
      generalize pickL o s k = acc at *
      obtain ⟨F, hF⟩ : ∃ F, o k = F := ⟨_, rfl⟩
      rw [hF] at TK
      rw [hF] at c0 c1 c2 c3 c4 c5
      clear hF
      have HN := hid (ColAt.new wr F)
      have HO1 := hid (HO.out.alloc (.cells (colC F) 62))
      have HW1 := hid (HW.out.alloc hs2 (.cells (colC F) 62))
      have hz1' := World.size_alloc wr (.cells (colC F) 62)
      unfold colC at HN HO1 HW1 hz1'
      clear HO HW
      have HN2 := hid (ColAt.new (wr.alloc (.cells (colC F) 62)) F)
      rw [World.size_alloc] at HN2
      unfold colC at HN2
      rcases hbit : s.testBit k with _ | _
      · rw [hbit] at SF
        rw [hbit, if_neg (by decide)] at TK
        go_wp2_with fail
        exact ⟨⟨k + 1, by omega, by go_num, by rw [TK.out]; exact HO1.out, HW1.out⟩, by simp [intOf]; omega⟩
      · rw [hbit] at SF
        rw [hbit, if_pos rfl] at TK
        go_wp2_with (at_builtin; refine wpList_append_own _ rfl _ _ 49 rfl w.heap.size 62 i0 (.agg #[.int .i64 0, .int .i64 0, .int .i64 0, .int .i64 0, .int .i64 0, .int .i64 0]) 6 48 Try.undCol hi hz0 hz1 hz2 rfl (by decide) _ _ _ rfl (HO1.out.alloc _) ⟨wr.heap.size + 1, 0, none⟩ 1 1 [.int .i64 (F 0), .int .i64 (F 1), .int .i64 (F 2), .int .i64 (F 3), .int .i64 (F 4), .int .i64 (F 5)] rfl rfl ?c1 ?c2 ?c3 ?c4 ?c5 ?_)
        case c1 => exact HN2.out.news
        case c2 => intro u hu; simp at hu; rcases hu with rfl | rfl | rfl | rfl | rfl | rfl <;> rfl
        case c3 => unfold maxLen; omega
        case c4 => omega
        case c5 => simp; omega
        intro v' w5 hown' hgrow _
        have R3 := hid (OwnC.snoc (f := F) hown')
        have R4 := hid (OwnC.grown HO1.out HW1.out (by rw [hz1']; omega) hgrow)
        clear hown' hgrow
        go_wp2_with fail
        exact ⟨⟨k + 1, by omega, by go_num, by rw [TK.out]; exact R3.out, R4.out⟩, by simp [intOf]; omega⟩
    · obtain rfl : k = L := by omega
      go_wp2_with fail
      go_ret
      exact ⟨_, rfl, HO.out, HW.out⟩
end Go.Proofs.Ytlmpeacgjafcjaa
