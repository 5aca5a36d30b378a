/- rotakeep.KindsTotal. -/
import Derived.Test.YtimciginbiobmaaKtAQ
import Derived.Test.YtimciginbiobmaaKLqQ
import Derived.Test.YtimciginbiobmaaUniLawW
import Derived.Test.YtimciginbiobmaaGsLawQ
import Derived.Test.YtimciginbiobmaaOpnQ
import Derived.Test.YtimciginbiobmaaTZQ
import Derived.Deep.OwnRows
namespace Go.Proofs.Ytimciginbiobmaa
open Go.RowKit

theorem uni_two : uniL 2 1 = [1, 2] := by decide +kernel
def primeL : List Int := [2, 3, 5, 7]
theorem prime_is {i : Nat} (h : i < 4) : isP (primeL.getD i 0) := by
  unfold isP
  match i, h with
  | 0, _ => exact .inl rfl
  | 1, _ => exact .inr (.inl rfl)
  | 2, _ => exact .inr (.inr (.inl rfl))
  | 3, _ => exact .inr (.inr (.inr rfl))
theorem lit4 (w : World) (i : Nat) (h : i < 4) : (w.alloc (.cells #[.int .i64 2, .int .i64 3, .int .i64 5, .int .i64 7] 3)).cell? ⟨w.heap.size, i, none⟩ = some (.int .i64 (primeL.getD i 0)) := by
  rw [World.cell?_alloc_at _ _ _ _ rfl]
  match i, h with
  | 0, _ => rfl
  | 1, _ => rfl
  | 2, _ => rfl
  | 3, _ => rfl
theorem Try.infoRowI : (Try.prog.info? 32).map (fun i => (i.zero, i.size, i.bytes)) = some (some (.slice none 0 0), 1, 24) := by kernel_rfl
theorem Try.undRowsI : Try.prog.underlying 25 = some (.slice 32) := by kernel_rfl
/-- A row of numbers in a block of its own. -/
structure RowB (W : World) (b n : Nat) (f : Nat → Int) : Prop where
  tbl : TblZ b W n f
  ty : ∃ c, W.heap[b]? = some (.cells c 3 (0, 0))
theorem RowB.below {W W' : World} {b n : Nat} {f : Nat → Int} (h : RowB W b n f) (hb : Below W.heap.size W W') : RowB W' b n f := by
  obtain ⟨c, hc⟩ := h.ty
  exact ⟨h.tbl.below hb, c, (hb.block b h.tbl.size).trans hc⟩
theorem RowB.same {W W' : World} {b n : Nat} {f : Nat → Int} (h : RowB W b n f) (hb : W'.heap[b]? = W.heap[b]?) (hs : W.heap.size ≤ W'.heap.size) : RowB W' b n f := by
  obtain ⟨c, hc⟩ := h.ty
  refine ⟨⟨fun i hi => ?_, fun i => ?_, Nat.lt_of_lt_of_le h.tbl.size hs⟩, c, hb.trans hc⟩
  · rw [World.cell?_of_block (w := W) (a := ⟨b, i, none⟩) hb]; exact h.tbl.cell i hi
  · have := h.tbl.frozen i
    simpa [World.frozen?, hb] using this
theorem RowB.set {W : World} {b n : Nat} {f f' : Nat → Int} (h : RowB W b n f) (j : Nat) (x : Int) (hj : j < n) (hf : ∀ i, i < n → f' i = if j = i then x else f i) : RowB (W.setCell ⟨b, j, none⟩ (.int .i64 x)) b n f' := by
  obtain ⟨c, hc⟩ := h.ty
  refine ⟨h.tbl.set j x hj hf, c.setIfInBounds j (.int .i64 x), ?_⟩
  unfold World.setCell
  dsimp only
  rw [Array.getElem?_modify, hc]
  simp
theorem RowB.congr {W : World} {b n : Nat} {f f' : Nat → Int} (h : RowB W b n f) (hf : ∀ i, i < n → f' i = f i) : RowB W b n f' := ⟨h.tbl.congr hf, h.ty⟩
theorem RowB.new (w : World) (n : Nat) : RowB (w.alloc (.cells (madeCells #[.int .i64 0] n) 3)) w.heap.size n fun _ => 0 := ⟨TblZ.new w n _, _, World.alloc_heap_new w _⟩
theorem Own.belowB {B D : Nat} {w w' : World} {v : Value} {l : List Nat} (h : Own B w v l) (hb : Below D w w') (hD : ∀ g, v.ownBlock = some g → g < D) : Own B w' v l := by
  obtain ⟨h0, h1⟩ := h
  refine ⟨h0, h1.imp_right ?_⟩
  rintro ⟨g, cap, cur, rfl, hg, hheap, hr⟩
  exact ⟨g, cap, cur, rfl, hg, (hb.block g (hD g rfl)).trans hheap, hr⟩
/-- The rows that are laid. -/
def TotS (W : World) (B : Nat) (v : Value) (n k : Nat) (f : Nat → Nat → Int) : Prop := ∃ us : List Value, us.length = k ∧ W.ownsRow B 32 1 v k us ∧ ∀ i, i < k → ∃ b, us[i]? = some (.slice (some ⟨b, 0, none⟩) n n) ∧ RowB W b n (f i)
theorem TotS.below {W W' : World} {B : Nat} {v : Value} {n k : Nat} {f : Nat → Nat → Int} (h : TotS W B v n k f) (hb : Below W.heap.size W W') : TotS W' B v n k f := by
  obtain ⟨us, h1, ⟨h2, h3⟩, h4⟩ := h
  refine ⟨us, h1, ⟨h2, h3.imp_right ?_⟩, fun i hi => ?_⟩
  · rintro ⟨g, cap, cur, hv, hg, hheap, hr⟩
    exact ⟨g, cap, cur, hv, hg, (hb.block g (Array.getElem?_eq_some_iff.1 hheap).1).trans hheap, hr⟩
  · obtain ⟨b, h5, h6⟩ := h4 i hi
    exact ⟨b, h5, h6.below hb⟩
theorem TotS.setO {W : World} {B : Nat} {v : Value} {n k : Nat} {f : Nat → Nat → Int} (h : TotS W B v n k f) (p : Addr) (x : Value) (hp : p.block < B) (hq : ∀ i, i < k → ∀ us : List Value, ∀ b, us[i]? = some (.slice (some ⟨b, 0, none⟩) n n) → RowB W b n (f i) → p.block ≠ b) : TotS (W.setCell p x) B v n k f := by
  obtain ⟨us, h1, ⟨h2, h3⟩, h4⟩ := h
  have so : ∀ k, p.block ≠ k → (W.setCell p x).heap[k]? = W.heap[k]? := fun k hk => by
    unfold World.setCell
    dsimp only
    rw [Array.getElem?_modify]
    simp [hk]
  refine ⟨us, h1, ⟨h2, h3.imp_right ?_⟩, fun i hi => ?_⟩
  · rintro ⟨g, cap, cur, hv, hg, hheap, hr⟩
    exact ⟨g, cap, cur, hv, hg, (so g (by omega)).trans hheap, hr⟩
  · obtain ⟨b, h5, h6⟩ := h4 i hi
    exact ⟨b, h5, h6.same (so b (hq i hi us b h5 h6)) (by rw [World.size_setCell]; exact Nat.le_refl _)⟩
theorem TotS.snoc {W W' : World} {B : Nat} {v v' : Value} {n k : Nat} {f : Nat → Nat → Int} {us : List Value} {o : Obj} (h1 : us.length = k) (h2 : W.ownsRow B 32 1 v k us) (h3 : ∀ i, i < k → ∃ b, us[i]? = some (.slice (some ⟨b, 0, none⟩) n n) ∧ RowB W b n (f i)) {g : Nat} (hg : RowB W g n (f k)) (hown : W'.ownsRow B 32 1 v' (k + 1) (us ++ [.slice (some ⟨g, 0, none⟩) n n])) (hgr : (W.alloc o).grownBy W' v.ownBlock) : TotS W' B v' n (k + 1) f := by
  have keep : ∀ b m ff, RowB W b m ff → RowB W' b m ff := fun b m ff hr => by
    have hs : W.heap.size ≤ W'.heap.size := Nat.le_trans (by simp) hgr.size
    refine hr.same ?_ hs
    have h5 : (W.alloc o).heap[b]? = W.heap[b]? := Below.heap_alloc _ _ _ hr.tbl.size
    rw [← h5]
    refine hgr.block b (by have := hr.tbl.size; simp; omega) fun e => ?_
    obtain ⟨c, hc⟩ := hr.ty
    obtain ⟨-, h7⟩ := h2
    rcases h7 with ⟨rfl, -⟩ | ⟨g', cap, cur, rfl, -, hh, -⟩
    · cases e
    · have : g' = b := by simpa [Value.ownBlock] using e.symm
      subst this
      rw [hc] at hh
      simp at hh
  refine ⟨us ++ [.slice (some ⟨g, 0, none⟩) n n], by simp [h1], hown, fun i hi => ?_⟩
  by_cases e : i < k
  · obtain ⟨b, h5, h6⟩ := h3 i e
    exact ⟨b, by rw [List.getElem?_append_left (by omega)]; exact h5, keep _ _ _ h6⟩
  · obtain rfl : i = k := by omega
    exact ⟨g, by rw [List.getElem?_append_right (by omega), h1]; simp, keep _ _ _ hg⟩
theorem TotS.rows {W : World} {B : Nat} {v : Value} {n k : Nat} {p : Int} {F : List (Int × Int)} (h : TotS W B v n k (entR p F)) (hn : F.length = n) (hn8 : n ≤ 8) (hk : k ≤ 6) : RowsI W v (totR p k F) := by
  obtain ⟨us, h1, h2, h3⟩ := h
  rcases Go.Joins.ownsRow_forms h2 with ⟨rfl, h0⟩ | ⟨g, cap, rfl⟩
  · exact ⟨none, 0, by rw [totR_len, h0], by rw [totR_len]; omega, fun hh => by rw [totR_len] at hh; omega⟩
  · refine ⟨_, cap, by rw [totR_len], by rw [totR_len]; omega, fun _ => ⟨g, 0, rfl, (World.ownsRow.lt h2 g rfl).2, fun i hi => ?_⟩⟩
    rw [totR_len] at hi
    obtain ⟨b, h5, h6⟩ := h3 i hi
    refine ⟨.slice (some ⟨b, 0, none⟩) n n, ?_, ?_⟩
    · have := World.ownsRow.cellAt h2 i (by omega)
      rw [Nat.zero_add, this, h5]
    · rw [totR_get hi]
      have hl : (rowK p F i).length = n := by rw [rowK_len, hn]
      refine ⟨some ⟨b, 0, none⟩, n, by rw [hl], by rw [hl]; omega, fun _ => ⟨b, 0, rfl, h6.tbl.size, fun j hj => ?_⟩⟩
      rw [hl] at hj
      rw [Nat.zero_add, h6.tbl.cell j hj]
      have : j < F.length := by omega
      simp [rowK, List.getD, this]
set_option maxRecDepth 20000 in
set_option maxHeartbeats 4000000 in
theorem ktotal_law (n : Int) (v : Value) (F : List (Int × Int)) (k : Int) (w : World) (h : EdgesI w v F) (hk : -9223372036854775808 ≤ k ∧ k ≤ 9223372036854775807) :
    Calls Try.prog 5 #[.agg #[.int .i64 n, v], .int .i64 k] w fun e w' => e = .returned (.bool true) ∧ Below w.heap.size w w' := by
  obtain ⟨h1, h2⟩ := hk
  have HI := hid h
  obtain ⟨a, cap, rfl, hlen, -⟩ := h
  have B0 : Hid (Below w.heap.size w (w.alloc (.cells #[.int .i64 n, .slice a F.length cap] 24))) := (Below.refl _ _).alloc (Nat.le_refl _) _
  have X0 := hid (World.alloc_heap_new w (.cells #[.int .i64 n, .slice a F.length cap] 24))
  have U0 := hid (Uniform_ok 2 1 (w.alloc (.cells #[.int .i64 n, .slice a F.length cap] 24)) (by decide) (by decide))
  rw [uni_two] at U0
  have PK := hid (fun w => PickG_any k 4 w h1 h2 (by decide) (by decide))
  have HPL := hid (pickN_lt k (n := 4) (by decide))
  go_enter Try.func5, Try.ntmps5
  go_wp2_with fail
  refine U0.out.mono ?_
  rintro e w1 ⟨r1, rfl, ho1, hb1'⟩
  obtain ⟨a1, cap1, hq1⟩ := ownsRow_form' ho1
  subst hq1
  have hp1 := ho1.ints (Nat.le_trans (by decide) (by decide : 256 ≤ 17592186044416))
  have hk1 := below_boxR w1 #[.int .i64 2, .slice a1 [1, 2].length cap1]
  have hb1 := hb1'.trans (hk1.mono hb1'.size)
  have hz1 := World.size_alloc w1 (.cells #[.int .i64 2, .slice a1 [1, 2].length cap1] 34)
  have hs1 : w.heap.size < w1.heap.size := by have := hb1'.size; simp at this; omega
  have B1 := hid (B0.out.trans (hb1.mono B0.out.size))
  have P1 := hid (box_cells (w := w1) (n := 2) (u := .slice a1 [1, 2].length cap1) (Below.refl _ _))
  have X1 := hid ((hb1.block w.heap.size (by simp)).trans X0.out)
  have M1 := hid (hp1.below hk1)
  clear hb1 hb1' hk1 hp1 ho1 X0 U0
  obtain ⟨p0, p1⟩ := P1.out
  go_wp2_with fail
  have SM := hid (Same_any _ _ (N [1, 2]) [1, 2] _ (M1.out.below (below_alloc _ _)) (Ints.lit2 (w1.alloc (.cells #[.int .i64 2, .slice a1 [1, 2].length cap1] 34)) 1 2))
  rw [show decide (N [1, 2] = [1, 2]) = true from rfl, hz1] at SM
  refine SM.out.mono ?_
  rintro e w2 ⟨rfl, hb2⟩
  have hb2' : Below (w1.alloc (.cells #[.int .i64 2, .slice a1 [1, 2].length cap1] 34)).heap.size (w1.alloc (.cells #[.int .i64 2, .slice a1 [1, 2].length cap1] 34)) w2 := ((Below.refl _ _).alloc (Nat.le_refl _) _).trans (hb2.mono (by simp))
  have B2 := hid (B1.out.trans (hb2'.mono B1.out.size))
  have hs2 : w.heap.size < w2.heap.size := by have := hb2'.size; omega
  have X2 := hid ((hb2'.block w.heap.size (by omega)).trans X1.out)
  have GR := hid (Graphic_any n _ F w2 (HI.out.below B2.out))
  have c2 := two_cells X2.out
  clear hb2 hb2' SM p0 p1 P1 M1 X1 B1 B0
  by_cases hg : graphR n F = 0
  · obtain ⟨m, rfl⟩ : ∃ m : Nat, n = (m : Int) := ⟨n.toNat, by unfold graphR at hg; split at hg; omega; cases hg⟩
    obtain ⟨g1, g2, g3, g4⟩ := graph_edges hg
    have HED := hid g4
    have HPR := hid (prime_is HPL.out)
    obtain ⟨p, HP⟩ : ∃ p, Hid (primeL.getD (pickN k 4) 0 = p) := ⟨_, rfl⟩
    rw [HP.out] at HPR
    have HSM := hid (tot_same HPR.out hg)
    have HOK := hid (tot_ok HPR.out (show m - 1 ≤ 6 by omega) g3)
    have hL8 : (bigL F.length fun s => !ringB (natE F) s).length ≤ 256 := fil_len g3 _
    have HG0 := hid hg
    obtain ⟨pk, HPK⟩ : ∃ pk, Hid (pickN k 4 = pk) := ⟨_, rfl⟩
    rw [HPK.out] at HP HPL PK
    obtain ⟨L, HL⟩ : ∃ L, Hid ((bigL F.length fun s => !ringB (natE F) s) = L) := ⟨_, rfl⟩
    rw [HL.out] at GR HSM hL8
    obtain ⟨fl, HFL⟩ : ∃ fl, Hid (F.length = fl) := ⟨_, rfl⟩
    rw [HFL.out] at g3 GR HI hlen HED HSM HOK c2 X2 ⊢
    clear hg g4
    go_wp2_with fail
    refine GR.out.mono ?_
    rintro e w3 ⟨h3, -⟩
    obtain ⟨r3, rfl, ho3, hb3⟩ := h3 HG0.out
    obtain ⟨a3, cap3, hq3⟩ := ownsRow_form' ho3
    subst hq3
    have hs3 : w.heap.size < w3.heap.size := Nat.lt_of_lt_of_le hs2 hb3.size
    have hkM := below_boxR w3 #[.int .i64 (fl : Int), .slice a3 L.length cap3]
    have hkL : Below (w3.alloc (.cells #[.int .i64 (fl : Int), .slice a3 L.length cap3] 34)).heap.size (w3.alloc (.cells #[.int .i64 (fl : Int), .slice a3 L.length cap3] 34)) ((w3.alloc (.cells #[.int .i64 (fl : Int), .slice a3 L.length cap3] 34)).alloc (.cells #[.int .i64 2, .int .i64 3, .int .i64 5, .int .i64 7] 3)) := (Below.refl _ _).alloc (Nat.le_refl _) _
    have hkX := (Below.refl _ ((w3.alloc (.cells #[.int .i64 (fl : Int), .slice a3 L.length cap3] 34)).alloc (.cells #[.int .i64 2, .int .i64 3, .int .i64 5, .int .i64 7] 3))).alloc (Nat.le_refl _) (.cells #[.int .i64 p, .int .i64 (fl : Int), .slice none 0 0] 27)
    have b3L := (hkM.trans (hkL.mono hkM.size))
    have b3X := b3L.trans (hkX.mono b3L.size)
    have B3 := hid (B2.out.trans (hb3.mono B2.out.size))
    have B4 := B3.out.trans (b3X.mono B3.out.size)
    have XM0 := World.alloc_heap_new w3 (.cells #[.int .i64 (fl : Int), .slice a3 L.length cap3] 34)
    have XM := (hkX.block w3.heap.size (by simp; omega)).trans ((hkL.block w3.heap.size (by simp)).trans XM0)
    have XG := (b3X.block w.heap.size hs3).trans ((hb3.block w.heap.size hs2).trans X2.out)
    have O4 := ho3.below b3X
    have KLT : Hid (∀ g, Value.ownBlock (.slice a3 L.length cap3) = some g → g < w3.heap.size) := fun g hg => (World.ownsRow.lt ho3 g hg).2
    have XX := World.alloc_heap_new ((w3.alloc (.cells #[.int .i64 (fl : Int), .slice a3 L.length cap3] 34)).alloc (.cells #[.int .i64 2, .int .i64 3, .int .i64 5, .int .i64 7] 3)) (.cells #[.int .i64 p, .int .i64 (fl : Int), .slice none 0 0] 27)
    simp only [World.size_alloc] at XX
    have z4 := lit4 (w3.alloc (.cells #[.int .i64 (fl : Int), .slice a3 L.length cap3] 34)) pk HPL.out
    rw [World.size_alloc, HP.out] at z4
    have zg := two_cells ((hkL.block w.heap.size (by simp; omega)).trans ((hkM.block w.heap.size hs3).trans ((hb3.block w.heap.size hs2).trans X2.out)))
    have hpk4 : (pk : Int) < 4 := by have := HPL.out; omega
    have sz4 : (((w3.alloc (.cells #[.int .i64 (fl : Int), .slice a3 L.length cap3] 34)).alloc (.cells #[.int .i64 2, .int .i64 3, .int .i64 5, .int .i64 7] 3)).alloc (.cells #[.int .i64 p, .int .i64 (fl : Int), .slice none 0 0] 27)).heap.size = w3.heap.size + 3 := by simp
    have zx := two_cells XG
    have KB4 := hid B4
    have KXM := hid XM
    have KXG := hid XG
    have KO4 := hid O4
    have KXX := hid XX
    obtain ⟨N1, hN1, HN1⟩ : ∃ N1 : Nat, (m : Int) - 1 = (N1 : Int) ∧ Hid (m - 1 = N1) := ⟨m - 1, by omega, rfl⟩
    have hN6 : N1 ≤ 6 := by have := HN1.out; omega
    clear hb3 ho3 hkM hkL hkX b3L b3X B4 XM0 XM XG O4 XX GR
    go_wp2_with (go_at_call 30; refine (PK.out _).mono ?_; rintro e w' ⟨rfl, rfl⟩)
    revert KB4 KXM KXG KO4 KXX sz4
    clear zx z4 zg c2
    generalize ((w3.alloc (.cells #[.int .i64 (fl : Int), .slice a3 L.length cap3] 34)).alloc (.cells #[.int .i64 2, .int .i64 3, .int .i64 5, .int .i64 7] 3)).alloc (.cells #[.int .i64 p, .int .i64 (fl : Int), .slice none 0 0] 27) = V4
    intro sz4 KB4 KXM KXG KO4 KXX
    obtain ⟨i0, hi0, hz0, hz1, hz2⟩ := info_parts Try.infoRowI
    have hmk := fun w => run_make_row' (P := Try.prog) 32 3 (.int .i64 0) 8 Try.underlying32 Try.infoInt rfl .i64 .i64 fl (by omega) (by omega) w
    have hp0 : ¬ p = 0 := by have := HPR.out; unfold isP at this; omega
    have hp0' : (p == 0) = false := by rw [beq_eq_false_iff_ne]; exact hp0
    have hm1 : Int.tmod 1 p = 1 := by have := HPR.out; unfold isP at this; rcases this with rfl | rfl | rfl | rfl <;> rfl
    have hm2 : Int.tmod (p - 1) p = p - 1 := by have := HPR.out; unfold isP at this; rcases this with rfl | rfl | rfl | rfl <;> rfl
    have hm3 : Int.tmod (1 + p - 1) p = 0 := by have := HPR.out; unfold isP at this; rcases this with rfl | rfl | rfl | rfl <;> rfl
    have hp10 : 2 ≤ p ∧ p ≤ 7 := by have := HPR.out; unfold isP at this; omega
    go_loopw [11, 12, 13, 14, 54] (fun _ _ _ _ i wr => ∃ (t : Nat) (v : Value), t ≤ N1 ∧ i = .int .i64 t ∧ Hid (wr.heap[w3.heap.size + 1 + 1]? = some (.cells #[.int .i64 p, .int .i64 (fl : Int), v] 27 (0, 0))) ∧ Hid (TotS wr (w3.heap.size + 3) v fl t (entR p F)) ∧ Hid (Below (w3.heap.size + 1 + 1) V4 wr) ∧ w3.heap.size + 3 ≤ wr.heap.size) (fun _ _ _ _ i _ => N1 - (intOf i).toNat)
    case atStart => exact ⟨0, .slice none 0 0, Nat.zero_le _, rfl, KXX.out, ⟨[], rfl, World.ownsRow_nil _ _ _ _, fun i hi => by omega⟩, Below.refl _ _, by omega⟩
    case round =>
      obtain ⟨t, v, ht, rfl, HX, HT, HW, hsz⟩ := hrel
      have xg := two_cells ((HW.out.block w.heap.size (by omega)).trans KXG.out)
      by_cases hlt : t < N1
      · have hti : (t : Int) < (N1 : Int) := by omega
        have RB := RowB.new wr fl
        have hbN : Below wr.heap.size wr (wr.alloc (.cells (madeCells #[.int .i64 0] fl) 3)) := (Below.refl _ _).alloc (Nat.le_refl _) _
        have xg2 := two_cells ((hbN.block w.heap.size (by omega)).trans ((HW.out.block w.heap.size (by omega)).trans KXG.out))
        obtain ⟨g, hg⟩ : ∃ g, wr.heap.size = g := ⟨_, rfl⟩
        obtain ⟨V5, hV5⟩ : ∃ V5, wr.alloc (.cells (madeCells #[.int .i64 0] fl) 3) = V5 := ⟨_, rfl⟩
        rw [hV5] at RB hbN xg2
        rw [hg] at RB hbN
        have KRB := hid RB
        have KBN := hid hbN
        have HG := hid hg
        clear RB hbN
        go_wp2_with fail
        clear hg hV5 hmk xg xg2
        obtain ⟨wq, hwq⟩ : ∃ wq, wq = wr := ⟨wr, rfl⟩
        subst hwq
        go_loopw [13, 14, 64] (fun _ _ i wr' => ∃ j : Nat, j ≤ fl ∧ i = .int .i64 j ∧ Hid (RowB wr' g fl (fun i => if i < j then entR p F t i else 0)) ∧ Hid (Below g wq wr')) (fun _ _ i _ => fl - (intOf i).toNat)
        case atStart => exact ⟨0, Nat.zero_le _, rfl, KRB.out.congr fun i _ => by rw [if_neg (by omega)], KBN.out⟩
        case round =>
          obtain ⟨j, hj, rfl, HR, HV⟩ := hrel
          by_cases hj2 : j < fl
          · have hji : (j : Int) < (fl : Int) := by omega
            have hgs : g < wr.heap.size := HR.out.tbl.size
            have hbW := KB4.out.trans (HW.out.mono (by omega))
            have hbW' := hbW.trans (HV.out.mono (by have := HG.out; have := hbW.size; have := KB4.out.size; omega))
            obtain ⟨q1, q2, q3, -, q5⟩ := HI.out.below hbW'
            obtain ⟨b', off', rfl, hb', hcl⟩ := q5 (by rw [HFL.out]; omega)
            rw [HFL.out] at q3 hcl
            obtain ⟨rfl, rfl⟩ : a = some ⟨b', off', none⟩ ∧ cap = q2 := by simpa using q3
            obtain ⟨d1, d2⟩ := hcl j hj2
            obtain ⟨x, HXE⟩ : ∃ x, Hid ((F.getD j (0, 0)).1 = x) := ⟨_, rfl⟩
            obtain ⟨y, HYE⟩ : ∃ y, Hid ((F.getD j (0, 0)).2 = y) := ⟨_, rfl⟩
            rw [HXE.out] at d1
            rw [HYE.out] at d2
            have hbE : Below wr.heap.size wr (wr.alloc (.cells #[.int .i64 x, .int .i64 y] 48)) := (Below.refl _ _).alloc (Nat.le_refl _) _
            have KRA := hid HR.out
            have r0 := (hbE.cell (p := ⟨g, j, none⟩) hgs).trans (HR.out.tbl.cell j hj2)
            have f0 := (froz_below hbE (b := g) (off := j) hgs).trans (HR.out.tbl.frozen j)
            have r1 := HR.out.tbl.cell j hj2
            have f1 := HR.out.tbl.frozen j
            rw [if_neg (Nat.lt_irrefl j)] at r0 r1
            have AL : Hid (∀ W : World, W.heap.size = wr.heap.size → Below W.heap.size W (W.alloc (.cells #[.int .i64 x, .int .i64 y] 48))) := fun W _ => (Below.refl _ _).alloc (Nat.le_refl _) _
            have EN : Hid (entR p F t j = if x = (t : Int) then (if y = (t : Int) then 0 else 1) else (if y = (t : Int) then p - 1 else 0)) := by show _ = _; unfold entR; rw [HXE.out, HYE.out]
            have NX : Hid (∀ i, (if i < j + 1 then entR p F t i else 0) = if j = i then entR p F t j else (if i < j then entR p F t i else 0)) := fun i => by
              by_cases e : j = i
              · subst e; rw [if_pos (by omega), if_pos rfl]
              · rw [if_neg e]
                by_cases h : i < j
                · rw [if_pos h, if_pos (by omega)]
                · rw [if_neg h, if_neg (by omega)]
            have HVV := hid HV.out
            have hgj : ¬ g = wr.heap.size := by omega
            have hgj' : ¬ wr.heap.size = g := by omega
            have HQ5 := hid hgs
            clear q5 hcl q3 hb' HV hbE HR hbW hbW'
            by_cases ex : x = (t : Int) <;> by_cases ey : y = (t : Int)
            · have ex' : (x == (t : Int)) = true := by simpa using ex
              have ey' : (y == (t : Int)) = true := by simpa using ey
              rw [if_pos ex, if_pos ey] at EN
              have NT0 : RowB ((wr.setCell ⟨g, j, none⟩ (.int .i64 1)).setCell ⟨g, j, none⟩ (.int .i64 0)) g fl (fun i => if i < j + 1 then entR p F t i else 0) := (KRA.out.set (f' := fun i => if j = i then 1 else (if i < j then entR p F t i else 0)) j 1 hj2 fun i _ => rfl).set j 0 hj2 fun i _ => by
                rw [NX.out]
                by_cases e : j = i
                · subst e; rw [if_pos rfl, if_pos rfl, EN.out]
                · rw [if_neg e, if_neg e, if_neg e]
              have NT := hid (NT0.below (AL.out _ (by first | rfl | simp)))
              have HVE := hid (((HVV.out.setCell (p := ⟨g, j, none⟩) (Nat.le_refl _) (.int .i64 1)).setCell (p := ⟨g, j, none⟩) (Nat.le_refl _) (.int .i64 0)).alloc (by simp; omega) (.cells #[.int .i64 x, .int .i64 y] 48))
              have s1 := (KRA.out.set (f' := fun i => if j = i then 1 else (if i < j then entR p F t i else 0)) j 1 hj2 fun i _ => rfl)
              have s2 := s1.below (AL.out _ (by simp))
              have s3 := s2.tbl.cell j hj2
              have s4 := s2.tbl.frozen j
              rw [if_pos rfl] at s3
              clear s1 s2
              clear ex ey NT0
              go_wp2_with fail
              go_roundw
              case rel => exact ⟨j + 1, by omega, by go_num, NT.out, HVE.out⟩
              case measure => simp [intOf]; omega
            · have ex' : (x == (t : Int)) = true := by simpa using ex
              have ey' : (y == (t : Int)) = false := by simpa using ey
              rw [if_pos ex, if_neg ey] at EN
              have NT0 : RowB (wr.setCell ⟨g, j, none⟩ (.int .i64 1)) g fl (fun i => if i < j + 1 then entR p F t i else 0) := KRA.out.set j 1 hj2 fun i _ => by
                rw [NX.out]
                by_cases e : j = i
                · subst e; rw [if_pos rfl, if_pos rfl, EN.out]
                · rw [if_neg e, if_neg e]
              have NT := hid (NT0.below (AL.out _ (by first | rfl | simp)))
              have HVE := hid ((HVV.out.setCell (p := ⟨g, j, none⟩) (Nat.le_refl _) (.int .i64 1)).alloc (by simp; omega) (.cells #[.int .i64 x, .int .i64 y] 48))
              clear ex ey NT0
              go_wp2_with fail
              go_roundw
              case rel => exact ⟨j + 1, by omega, by go_num, NT.out, HVE.out⟩
              case measure => simp [intOf]; omega
            · have ex' : (x == (t : Int)) = false := by simpa using ex
              have ey' : (y == (t : Int)) = true := by simpa using ey
              rw [if_neg ex, if_pos ey] at EN
              have NT0 : RowB (wr.setCell ⟨g, j, none⟩ (.int .i64 (p - 1))) g fl (fun i => if i < j + 1 then entR p F t i else 0) := KRA.out.set j (p - 1) hj2 fun i _ => by
                rw [NX.out]
                by_cases e : j = i
                · subst e; rw [if_pos rfl, if_pos rfl, EN.out]
                · rw [if_neg e, if_neg e]
              have NT := hid (NT0.below (AL.out _ (by first | rfl | simp)))
              have HVE := hid ((HVV.out.setCell (p := ⟨g, j, none⟩) (Nat.le_refl _) (.int .i64 (p - 1))).alloc (by simp; omega) (.cells #[.int .i64 x, .int .i64 y] 48))
              clear ex ey NT0
              go_wp2_with fail
              go_roundw
              case rel => exact ⟨j + 1, by omega, by go_num, NT.out, HVE.out⟩
              case measure => simp [intOf]; omega
            · have ex' : (x == (t : Int)) = false := by simpa using ex
              have ey' : (y == (t : Int)) = false := by simpa using ey
              rw [if_neg ex, if_neg ey] at EN
              have NT0 : RowB wr g fl (fun i => if i < j + 1 then entR p F t i else 0) := KRA.out.congr fun i _ => by
                rw [NX.out]
                by_cases e : j = i
                · subst e; rw [if_pos rfl, if_neg (Nat.lt_irrefl _), EN.out]
                · rw [if_neg e]
              have NT := hid (NT0.below (AL.out _ (by first | rfl | simp)))
              have HVE := hid (HVV.out.alloc (by omega) (.cells #[.int .i64 x, .int .i64 y] 48))
              clear ex ey NT0
              go_wp2_with fail
              go_roundw
              case rel => exact ⟨j + 1, by omega, by go_num, NT.out, HVE.out⟩
              case measure => simp [intOf]; omega
          · obtain rfl : fl = j := by omega
            have hgB : w3.heap.size + 3 ≤ g := by rw [← HG.out]; exact hsz
            have HV' : Below wq.heap.size wq wr := by rw [HG.out]; exact HV.out
            obtain ⟨us, u1, u2, u3⟩ := HT.out.below HV'
            have RG : RowB wr g fl (entR p F t) := HR.out.congr fun i hi => by rw [if_pos hi]
            have KRG := hid RG
            have K1 := hid u1
            have K2 := hid u2
            have K3 := hid u3
            have hX2 := (HV'.block _ (Array.getElem?_eq_some_iff.1 HX.out).1).trans HX.out
            have KX2 := hid hX2
            have x3 : wr.cell? ⟨w3.heap.size + 1 + 1, 2, none⟩ = some v := by simp [World.cell?, hX2]
            have hgs : g < wr.heap.size := RG.tbl.size
            have HVV := hid HV.out
            have hus : us.length ≤ 6 := by omega
            clear u1 u2 u3 RG HR HV HV' hX2
            go_wp2_with (at_builtin; refine wpList_append_own _ rfl _ _ 25 rfl (w3.heap.size + 3) 32 i0 (.slice none 0 0) 1 24 Try.undRowsI hi0 hz0 hz1 hz2 rfl (by decide) _ _ _ rfl (K2.out.alloc _) ⟨wr.heap.size, 0, none⟩ 1 1 [.slice (some ⟨g, 0, none⟩) fl fl] rfl rfl ?c1 ?c2 ?c3 ?c4 ?c5 ?_)
            case c1 => exact cell_one_new _ _ _
            case c2 => intro u hu; simp at hu; subst hu; rfl
            case c3 => unfold maxLen; omega
            case c4 => omega
            case c5 => simp; omega
            intro v' w7 hown' hgrow _
            obtain ⟨gv, cv, rfl⟩ : ∃ gv cv, v' = .slice (some ⟨gv, 0, none⟩) (t + 1) cv := by
              rcases Go.Joins.ownsRow_forms hown' with ⟨rfl, h0⟩ | ⟨g', cap', rfl⟩
              · omega
              · exact ⟨_, _, rfl⟩
            have TS := TotS.snoc K1.out K2.out K3.out KRG.out hown' hgrow
            have hbG : Below (w3.heap.size + 3) wr w7 := ((Below.refl _ wr).alloc (by omega) _).grown hgrow (by simp; omega) (fun j hj => (World.ownsRow.lt K2.out j hj).1)
            have hX7 := (hbG.block (w3.heap.size + 1 + 1) (by omega)).trans KX2.out
            have hX8 : (w7.setCell ⟨w3.heap.size + 1 + 1, 2, none⟩ (.slice (some ⟨gv, 0, none⟩) (t + 1) cv)).heap[w3.heap.size + 1 + 1]? = some (.cells #[.int .i64 p, .int .i64 (fl : Int), (.slice (some ⟨gv, 0, none⟩) (t + 1) cv)] 27 (0, 0)) := by
              unfold World.setCell
              dsimp only
              rw [Array.getElem?_modify, hX7]
              simp
            have TS8 := hid (TS.setO ⟨w3.heap.size + 1 + 1, 2, none⟩ (.slice (some ⟨gv, 0, none⟩) (t + 1) cv) (by show w3.heap.size + 1 + 1 < _; omega) (fun i hi us b hu hr => by
              intro e
              obtain ⟨c, hc⟩ := hr.ty
              rw [← e] at hc
              rw [show w7.heap[w3.heap.size + 1 + 1]? = _ from hX7] at hc
              simp at hc))
            have hbA := (HW.out.trans ((show Below (w3.heap.size + 1 + 1) wq wr from HVV.out.mono (by omega)))).trans (hbG.mono (by omega))
            have HB8 := hid (hbA.setCell (p := ⟨w3.heap.size + 1 + 1, 2, none⟩) (Nat.le_refl _) (.slice (some ⟨gv, 0, none⟩) (t + 1) cv))
            have KX8 := hid hX8
            have c0 : w7.cell? ⟨w3.heap.size + 1 + 1, 2, none⟩ = some v := by simp [World.cell?, hX7]
            have f0 : w7.frozen? ⟨w3.heap.size + 1 + 1, 2, none⟩ = false := by simp [World.frozen?, hX7]
            have hs7 := Nat.le_trans (show w3.heap.size + 3 ≤ wr.heap.size by omega) hbG.size
            clear hown' hgrow TS hbG hX7 hX8 hbA x3
            go_wp2_with fail
            go_roundw
            case rel => exact ⟨t + 1, (.slice (some ⟨gv, 0, none⟩) (t + 1) cv), by omega, by go_num, KX8.out, TS8.out, HB8.out, by rw [World.size_setCell]; exact hs7⟩
            case measure => simp [intOf]; omega
      · obtain rfl : N1 = t := by omega
        have RI := HT.out.rows HFL.out g3 hN6
        have LN := hid (Linear_any p (fl : Int) v (totR p N1 F) wr RI)
        rw [Int.toNat_natCast] at LN
        have KM := two_cells ((HW.out.block w3.heap.size (by omega)).trans KXM.out)
        have XXc : wr.cell? ⟨w3.heap.size + 1 + 1, 0, none⟩ = some (.int .i64 p) ∧ wr.cell? ⟨w3.heap.size + 1 + 1, 1, none⟩ = some (.int .i64 (fl : Int)) ∧ wr.cell? ⟨w3.heap.size + 1 + 1, 2, none⟩ = some v := by simp [World.cell?, HX.out]
        obtain ⟨xx0, xx1, xx2⟩ := XXc
        rw [← HFL.out] at HSM HOK
        rw [HN1.out] at HSM HOK
        rw [HFL.out] at HSM HOK
        rw [HSM.out] at LN
        have hml : w3.heap.size < wr.heap.size := by omega
        have O6 := hid ((KO4.out.belowB HW.out (fun g hg => Nat.lt_of_lt_of_le (KLT.out g hg) (by omega))).ints (Nat.le_trans hL8 (by decide)))
        have hbV := hid (KB4.out.trans (HW.out.mono (by omega)))
        clear RI HSM HT HX KXX KXG KXM
        go_wp2_with fail
        refine LN.out.mono ?_
        rintro e w8 ⟨h8, -⟩
        obtain ⟨r8, rfl, ho8, hb8⟩ := h8 HOK.out
        obtain ⟨a8, cap8, hq8⟩ := ownsRow_form' ho8
        subst hq8
        have hp8 := ho8.ints (Nat.le_trans hL8 (by decide))
        have hk8 := below_boxR w8 #[.int .i64 (fl : Int), .slice a8 L.length cap8]
        have c8 := two_cells (World.alloc_heap_new w8 (.cells #[.int .i64 (fl : Int), .slice a8 L.length cap8] 34))
        have hb89 := hb8.trans (hk8.mono hb8.size)
        have m8 := (hb89.cell (p := ⟨w3.heap.size, 0, none⟩) hml).trans KM.1
        have m9 := (hb89.cell (p := ⟨w3.heap.size, 1, none⟩) hml).trans KM.2.1
        have I8 := hp8.below hk8
        have I9 := O6.out.below hb89
        have HB9 := hbV.out.trans (hb89.mono hbV.out.size)
        obtain ⟨V9, hV9⟩ : ∃ V9, w8.alloc (.cells #[.int .i64 (fl : Int), .slice a8 L.length cap8] 34) = V9 := ⟨_, rfl⟩
        have S9 := hid (SameMatroid_any (fl : Int) (fl : Int) _ _ (N L) (N L) _ I8 I9)
        rw [show (decide ((fl : Int) = (fl : Int)) && decide (N L = N L)) = true by simp] at S9
        rw [hV9] at S9 c8 m8 m9 HB9
        have KB9 := hid HB9
        clear hb8 ho8 hp8 hk8 hb89 I8 I9 HB9
        go_wp2_with fail
        refine S9.out.mono ?_
        rintro e w9 ⟨rfl, hb9⟩
        have HBF := hid (KB9.out.trans (hb9.mono KB9.out.size))
        clear hb9
        go_wp2_with fail
        go_ret
        exact ⟨rfl, HBF.out⟩
  · generalize graphR n F = q at *
    have hq' : (q == 0) = false := by rw [beq_eq_false_iff_ne]; exact hg
    go_wp2_with fail
    refine GR.out.mono ?_
    rintro e w3 ⟨-, h3⟩
    obtain ⟨rfl, hb3⟩ := h3 hg
    have B3 := hid ((B2.out.trans (hb3.mono B2.out.size)).alloc (by have := hb3.size; omega) (.cells #[.int .i64 0, .slice none 0 0] 34))
    clear hb3
    go_wp2_with fail
    go_ret
    exact ⟨rfl, B3.out⟩
end Go.Proofs.Ytimciginbiobmaa
