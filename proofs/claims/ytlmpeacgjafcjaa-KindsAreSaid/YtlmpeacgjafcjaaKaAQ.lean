/- rotakeep.KindsAre: the four calls. -/
import Derived.Test.YtlmpeacgjafcjaaKLamMQ
import Derived.Test.YtlmpeacgjafcjaaKLbQ
import Derived.Test.YtlmpeacgjafcjaaKGraph2Q
import Derived.Test.YtlmpeacgjafcjaaKLqQ
import Derived.Test.YtlmpeacgjafcjaaKtAQ
import Derived.Test.YtlmpeacgjafcjaaPlainAll
import Derived.Test.YtlmpeacgjafcjaaRwLQ
namespace Go.Proofs.Ytlmpeacgjafcjaa
open Go.RowKit

/-- a matroid, or an error and nothing -/
def AreP (w : World) (e : Ending) (w' : World) : Prop := Below w.heap.size w w' ∧ ((∃ (n : Int) (r : Value) (l : List Nat), e = .returned (.tuple #[.agg #[.int .i64 n, r], .int .i64 0]) ∧ Own w.heap.size w' r l ∧ chkR n (N l) = 0 ∧ l.length ≤ 256) ∨ ∃ q : Int, q ≠ 0 ∧ e = .returned (.tuple #[.agg #[.int .i64 0, .slice none 0 0], .int .i64 q]))
theorem makes_are {w w' : World} {q n : Int} {l : List Nat} {e : Ending} (hg : q = 0 → chkR n (N l) = 0 ∧ l.length ≤ 256) (h : Makes w q n l e w') : AreP w e w' := by
  by_cases hq : q = 0
  · obtain ⟨r, he, ho, hb⟩ := h.1 hq
    exact ⟨hb, .inl ⟨n, r, l, he, ho, (hg hq).1, (hg hq).2⟩⟩
  · obtain ⟨he, hb⟩ := h.2 hq
    exact ⟨hb, .inr ⟨q, hq, he⟩⟩
theorem graph_good {n : Int} {F : List (Int × Int)} (h : graphR n F = 0) : chkR F.length (N (bigL F.length fun s => !ringB (natE F) s)) = 0 ∧ (bigL F.length fun s => !ringB (natE F) s).length ≤ 256 := by
  obtain ⟨m, rfl⟩ : ∃ m : Nat, n = (m : Int) := ⟨n.toNat, by unfold graphR at h; split at h; omega; cases h⟩
  obtain ⟨g1, g2, g3, g4⟩ := graph_edges h
  have hl : (natE F).length = F.length := by simp [natE]
  have hb := graph_bas (E := natE F) (by omega) (fun j hj => by
    have := g4 j (by omega)
    have e : (natE F).getD j (0, 0) = ((F.getD j (0, 0)).1.toNat, (F.getD j (0, 0)).2.toNat) := by
      have h1 : j < F.length := by omega
      simp [natE, List.getD, h1]
    unfold ea eb
    rw [e]
    dsimp only
    omega)
  rw [hl] at hb
  exact ⟨chk_mk g3 (big_fam _ _) hb, fil_len g3 _⟩
theorem mat_good {p c : Int} {R : List (List Int)} (h : matR p c R = 0) : chkR c.toNat (N (bigL c.toNat fun s => linB p R c.toNat s)) = 0 ∧ (bigL c.toNat fun s => linB p R c.toNat s).length ≤ 256 := by
  unfold matR at h
  split at h
  · rename_i hh
    obtain ⟨h1, h2, h3, h4, h5⟩ := hh
    have hp : isP p := (mduB_iff p).1 h1
    have h0 : 0 < p := by unfold isP at hp; omega
    exact ⟨chk_mk (by omega) (big_fam _ _) (lin_bas hp (mtF_in h0 h5) (by omega)), fil_len (by omega) _⟩
  · cases h
theorem lis_good {n : Int} {zs : List Int} (h : lisR n zs = 0) : chkR n (N (bigL n.toNat fun s => hallTo (zs.map Int.toNat) s s)) = 0 ∧ (bigL n.toNat fun s => hallTo (zs.map Int.toNat) s s).length ≤ 256 := by
  unfold lisR at h
  split at h
  · rename_i hh
    obtain ⟨-, h2, h3⟩ := hh
    obtain ⟨m, rfl⟩ : ∃ m : Nat, n = (m : Int) := ⟨n.toNat, by omega⟩
    rw [Int.toNat_natCast]
    have hm : m ≤ 8 := by omega
    have hb := trans_bas hm (zs.map Int.toNat)
    rw [← trans_basR hm] at hb
    exact ⟨chk_mk hm (big_fam _ _) hb, fil_len hm _⟩
  · cases h
theorem lamE_good {n : Int} {zs ms : List Int} (h : lamE n zs ms = 0) : chkR n (N (bigL n.toNat (keepH (zs.map Int.toNat) ms))) = 0 ∧ (bigL n.toNat (keepH (zs.map Int.toNat) ms)).length ≤ 256 := by
  unfold lamE at h
  split at h
  · rename_i hf
    split at h
    · obtain ⟨m, l, rfl, hm, rfl, hfm⟩ := fam_of hf
      have e1 : (N l).map Int.toNat = l := by unfold N; rw [List.map_map]; exact ((List.map_congr_left (g := id) fun z _ => by simp).trans (List.map_id _))
      rw [e1, N_len] at h
      rw [e1, Int.toNat_natCast]
      have hinc : ∀ i j, i < j → j < l.length → l.getD i 0 < l.getD j 0 := fun i j hij hj => by
        have := List.pairwise_iff_getElem.1 hfm.up i j (by omega) hj hij
        simpa [List.getD, hj, show i < l.length by omega] using this
      have hb := lam_bas hm l ms
      rw [← lam_basR hm hinc h] at hb
      exact ⟨chk_mk hm (big_fam _ _) hb, fil_len hm _⟩
    · cases h
  · cases h
set_option maxRecDepth 20000 in
set_option maxHeartbeats 1600000 in
theorem are_one (b : Nat) (n : Int) (v : Value) (F : List (Int × Int)) (w : World) (hx : w.heap[b]? = some (.cells #[.int .i64 n, v] 24 (0, 0))) (h : EdgesI w v F) :
    Calls Try.prog 6 #[.pointer (some ⟨b, 0, none⟩)] w (AreP w) := by
  have hbl := (Array.getElem?_eq_some_iff.1 hx).1
  obtain ⟨a, cap, hv, -, -⟩ := id h
  subst hv
  have HD0 : Hid (Below w.heap.size w (w.alloc (.cells #[.int .i64 0, .slice none 0 0] 30))) := (Below.refl _ _).alloc (Nat.le_refl _) _
  have X0 := hid (World.alloc_heap_new w (.cells #[.int .i64 0, .slice none 0 0] 30))
  have hz := World.size_alloc w (.cells #[.int .i64 0, .slice none 0 0] 30)
  have k0 := two_cells ((HD0.out.block b hbl).trans hx)
  have CC := hid ((Graphic_any n _ F _ (h.below HD0.out)).mono fun e w' hm => makes_are graph_good hm)
  clear h hx
  go_enter Try.func6, Try.ntmps6
  go_wp2_with fail
  refine CC.out.mono ?_
  rintro e w4 ⟨hb4, h4⟩
  have hxx := (hb4.block w.heap.size (by rw [hz]; omega)).trans X0.out
  obtain ⟨y2, y3, g2, g3⟩ := two_cells hxx
  have HB4 := hid (HD0.out.trans (hb4.mono HD0.out.size))
  rcases h4 with ⟨n4, r4, l4, rfl, hr4, hc4, hl4⟩ | ⟨q, hq, rfl⟩
  · obtain ⟨ra, rc, hr⟩ := ownsRow_form' hr4
    subst hr
    have HC := hid (set_two (x := .int .i64 n4) (y := .slice ra l4.length rc) hxx)
    have HD := hid (below_two (b := w.heap.size) (x := .int .i64 n4) (y := .slice ra l4.length rc) HB4.out (Nat.le_refl _))
    have HII := hid ((hr4.set2 (b := w.heap.size) (x := .int .i64 n4) (y := .slice ra l4.length rc) (by rw [hz]; omega)).mono (by rw [hz]; omega : w.heap.size ≤ _))
    have HC4 := hid hc4
    clear hb4 hr4 hxx hz hc4
    go_wp2_with fail
    obtain ⟨c0, c1⟩ := HC.out
    refine bodyPost_ret (v := .tuple #[.agg #[.int .i64 n4, .slice ra _ rc], .int .i64 0]) ?_ rfl ⟨HD.out, .inl ⟨n4, _, l4, rfl, HII.out, HC4.out, hl4⟩⟩
    simp [results, Try.f6, go_sem, c0, c1]
  · have HC := hid (set_two (x := .int .i64 0) (y := .slice none 0 0) hxx)
    have HD := hid (below_two (b := w.heap.size) (x := .int .i64 0) (y := .slice none 0 0) HB4.out (Nat.le_refl _))
    clear hb4 hxx hz
    go_wp2_with fail
    obtain ⟨c0, c1⟩ := HC.out
    refine bodyPost_ret (v := .tuple #[.agg #[.int .i64 0, .slice none 0 0], .int .i64 q]) ?_ rfl ⟨HD.out, .inr ⟨q, hq, rfl⟩⟩
    simp [results, Try.f6, go_sem, c0, c1]
set_option maxRecDepth 20000 in
set_option maxHeartbeats 1600000 in
theorem are_two (b : Nat) (p c : Int) (v : Value) (R : List (List Int)) (w : World) (hx : w.heap[b]? = some (.cells #[.int .i64 p, .int .i64 c, v] 27 (0, 0))) (h : RowsI w v R) :
    Calls Try.prog 7 #[.pointer (some ⟨b, 0, none⟩)] w (AreP w) := by
  have hbl := (Array.getElem?_eq_some_iff.1 hx).1
  obtain ⟨a, cap, hv, -, -⟩ := id h
  subst hv
  have HD0 : Hid (Below w.heap.size w (w.alloc (.cells #[.int .i64 0, .slice none 0 0] 30))) := (Below.refl _ _).alloc (Nat.le_refl _) _
  have X0 := hid (World.alloc_heap_new w (.cells #[.int .i64 0, .slice none 0 0] 30))
  have hz := World.size_alloc w (.cells #[.int .i64 0, .slice none 0 0] 30)
  have kx := (HD0.out.block b hbl).trans hx
  have k0 : (w.alloc (.cells #[.int .i64 0, .slice none 0 0] 30)).cell? ⟨b, 0, none⟩ = some (.int .i64 p) := by simp [World.cell?, kx]
  have k1 : (w.alloc (.cells #[.int .i64 0, .slice none 0 0] 30)).cell? ⟨b, 1, none⟩ = some (.int .i64 c) := by simp [World.cell?, kx]
  have k2 : (w.alloc (.cells #[.int .i64 0, .slice none 0 0] 30)).cell? ⟨b, 2, none⟩ = some (.slice a R.length cap) := by simp [World.cell?, kx]
  have CC := hid ((Linear_any p c _ R _ (h.below HD0.out)).mono fun e w' hm => makes_are mat_good hm)
  clear h hx kx
  go_enter Try.func7, Try.ntmps7
  go_wp2_with fail
  refine CC.out.mono ?_
  rintro e w4 ⟨hb4, h4⟩
  have hxx := (hb4.block w.heap.size (by rw [hz]; omega)).trans X0.out
  obtain ⟨y2, y3, g2, g3⟩ := two_cells hxx
  have HB4 := hid (HD0.out.trans (hb4.mono HD0.out.size))
  rcases h4 with ⟨n4, r4, l4, rfl, hr4, hc4, hl4⟩ | ⟨q, hq, rfl⟩
  · obtain ⟨ra, rc, hr⟩ := ownsRow_form' hr4
    subst hr
    have HC := hid (set_two (x := .int .i64 n4) (y := .slice ra l4.length rc) hxx)
    have HD := hid (below_two (b := w.heap.size) (x := .int .i64 n4) (y := .slice ra l4.length rc) HB4.out (Nat.le_refl _))
    have HII := hid ((hr4.set2 (b := w.heap.size) (x := .int .i64 n4) (y := .slice ra l4.length rc) (by rw [hz]; omega)).mono (by rw [hz]; omega : w.heap.size ≤ _))
    have HC4 := hid hc4
    clear hb4 hr4 hxx hz hc4
    go_wp2_with fail
    obtain ⟨c0, c1⟩ := HC.out
    refine bodyPost_ret (v := .tuple #[.agg #[.int .i64 n4, .slice ra _ rc], .int .i64 0]) ?_ rfl ⟨HD.out, .inl ⟨n4, _, l4, rfl, HII.out, HC4.out, hl4⟩⟩
    simp [results, Try.f7, go_sem, c0, c1]
  · have HC := hid (set_two (x := .int .i64 0) (y := .slice none 0 0) hxx)
    have HD := hid (below_two (b := w.heap.size) (x := .int .i64 0) (y := .slice none 0 0) HB4.out (Nat.le_refl _))
    clear hb4 hxx hz
    go_wp2_with fail
    obtain ⟨c0, c1⟩ := HC.out
    refine bodyPost_ret (v := .tuple #[.agg #[.int .i64 0, .slice none 0 0], .int .i64 q]) ?_ rfl ⟨HD.out, .inr ⟨q, hq, rfl⟩⟩
    simp [results, Try.f7, go_sem, c0, c1]
set_option maxRecDepth 20000 in
set_option maxHeartbeats 1600000 in
theorem are_three (b b2 : Nat) (n : Int) (v : Value) (zs : List Int) (w : World) (hx : w.heap[b]? = some (.cells #[.int .i64 n] 3 (0, 0))) (hy : w.heap[b2]? = some (.cells #[v] 28 (0, 0))) (h : Ints w v zs) :
    Calls Try.prog 9 #[.pointer (some ⟨b, 0, none⟩), .pointer (some ⟨b2, 0, none⟩)] w (AreP w) := by
  have hbl := (Array.getElem?_eq_some_iff.1 hx).1
  have hbl2 := (Array.getElem?_eq_some_iff.1 hy).1
  obtain ⟨a, cap, hv, -, -⟩ := id h
  subst hv
  have HD0 : Hid (Below w.heap.size w (w.alloc (.cells #[.int .i64 0, .slice none 0 0] 30))) := (Below.refl _ _).alloc (Nat.le_refl _) _
  have X0 := hid (World.alloc_heap_new w (.cells #[.int .i64 0, .slice none 0 0] 30))
  have hz := World.size_alloc w (.cells #[.int .i64 0, .slice none 0 0] 30)
  have k0 := one_cellT ((HD0.out.block b hbl).trans hx)
  have k1 := one_cellT ((HD0.out.block b2 hbl2).trans hy)
  have CC := hid ((Trans_any n _ zs _ (h.below HD0.out)).mono fun e w' hm => makes_are lis_good hm)
  clear h hx hy
  go_enter Try.func9, Try.ntmps9
  go_wp2_with fail
  refine CC.out.mono ?_
  rintro e w4 ⟨hb4, h4⟩
  have hxx := (hb4.block w.heap.size (by rw [hz]; omega)).trans X0.out
  obtain ⟨y2, y3, g2, g3⟩ := two_cells hxx
  have HB4 := hid (HD0.out.trans (hb4.mono HD0.out.size))
  rcases h4 with ⟨n4, r4, l4, rfl, hr4, hc4, hl4⟩ | ⟨q, hq, rfl⟩
  · obtain ⟨ra, rc, hr⟩ := ownsRow_form' hr4
    subst hr
    have HC := hid (set_two (x := .int .i64 n4) (y := .slice ra l4.length rc) hxx)
    have HD := hid (below_two (b := w.heap.size) (x := .int .i64 n4) (y := .slice ra l4.length rc) HB4.out (Nat.le_refl _))
    have HII := hid ((hr4.set2 (b := w.heap.size) (x := .int .i64 n4) (y := .slice ra l4.length rc) (by rw [hz]; omega)).mono (by rw [hz]; omega : w.heap.size ≤ _))
    have HC4 := hid hc4
    clear hb4 hr4 hxx hz hc4
    go_wp2_with fail
    obtain ⟨c0, c1⟩ := HC.out
    refine bodyPost_ret (v := .tuple #[.agg #[.int .i64 n4, .slice ra _ rc], .int .i64 0]) ?_ rfl ⟨HD.out, .inl ⟨n4, _, l4, rfl, HII.out, HC4.out, hl4⟩⟩
    simp [results, Try.f9, go_sem, c0, c1]
  · have HC := hid (set_two (x := .int .i64 0) (y := .slice none 0 0) hxx)
    have HD := hid (below_two (b := w.heap.size) (x := .int .i64 0) (y := .slice none 0 0) HB4.out (Nat.le_refl _))
    clear hb4 hxx hz
    go_wp2_with fail
    obtain ⟨c0, c1⟩ := HC.out
    refine bodyPost_ret (v := .tuple #[.agg #[.int .i64 0, .slice none 0 0], .int .i64 q]) ?_ rfl ⟨HD.out, .inr ⟨q, hq, rfl⟩⟩
    simp [results, Try.f9, go_sem, c0, c1]
set_option maxRecDepth 20000 in
set_option maxHeartbeats 1600000 in
theorem are_four (b b2 b3 : Nat) (n : Int) (v u : Value) (zs ms : List Int) (w : World) (hx : w.heap[b]? = some (.cells #[.int .i64 n] 3 (0, 0))) (hy : w.heap[b2]? = some (.cells #[v] 28 (0, 0))) (hy3 : w.heap[b3]? = some (.cells #[u] 28 (0, 0))) (h : Ints w v zs) (hu : Ints w u ms) (hcp : ∀ a L c, v = .slice a L c → L ≤ c) :
    Calls Try.prog 11 #[.pointer (some ⟨b, 0, none⟩), .pointer (some ⟨b2, 0, none⟩), .pointer (some ⟨b3, 0, none⟩)] w (AreP w) := by
  have hbl := (Array.getElem?_eq_some_iff.1 hx).1
  have hbl2 := (Array.getElem?_eq_some_iff.1 hy).1
  have hbl3 := (Array.getElem?_eq_some_iff.1 hy3).1
  obtain ⟨a, cap, hv, -, -⟩ := id h
  subst hv
  obtain ⟨a2, cap2, hv2, -, -⟩ := id hu
  subst hv2
  have HD0 : Hid (Below w.heap.size w (w.alloc (.cells #[.int .i64 0, .slice none 0 0] 30))) := (Below.refl _ _).alloc (Nat.le_refl _) _
  have X0 := hid (World.alloc_heap_new w (.cells #[.int .i64 0, .slice none 0 0] 30))
  have hz := World.size_alloc w (.cells #[.int .i64 0, .slice none 0 0] 30)
  have k0 := one_cellT ((HD0.out.block b hbl).trans hx)
  have k1 := one_cellT ((HD0.out.block b2 hbl2).trans hy)
  have k2 := one_cellT ((HD0.out.block b3 hbl3).trans hy3)
  have CC := hid ((Lam_any n _ _ zs ms _ (h.below HD0.out) (hu.below HD0.out) hcp).mono fun e w' hm => makes_are lamE_good hm)
  clear h hx hy hy3 hu hcp
  go_enter Try.func11, Try.ntmps11
  go_wp2_with fail
  refine CC.out.mono ?_
  rintro e w4 ⟨hb4, h4⟩
  have hxx := (hb4.block w.heap.size (by rw [hz]; omega)).trans X0.out
  obtain ⟨y2, y3, g2, g3⟩ := two_cells hxx
  have HB4 := hid (HD0.out.trans (hb4.mono HD0.out.size))
  rcases h4 with ⟨n4, r4, l4, rfl, hr4, hc4, hl4⟩ | ⟨q, hq, rfl⟩
  · obtain ⟨ra, rc, hr⟩ := ownsRow_form' hr4
    subst hr
    have HC := hid (set_two (x := .int .i64 n4) (y := .slice ra l4.length rc) hxx)
    have HD := hid (below_two (b := w.heap.size) (x := .int .i64 n4) (y := .slice ra l4.length rc) HB4.out (Nat.le_refl _))
    have HII := hid ((hr4.set2 (b := w.heap.size) (x := .int .i64 n4) (y := .slice ra l4.length rc) (by rw [hz]; omega)).mono (by rw [hz]; omega : w.heap.size ≤ _))
    have HC4 := hid hc4
    clear hb4 hr4 hxx hz hc4
    go_wp2_with fail
    obtain ⟨c0, c1⟩ := HC.out
    refine bodyPost_ret (v := .tuple #[.agg #[.int .i64 n4, .slice ra _ rc], .int .i64 0]) ?_ rfl ⟨HD.out, .inl ⟨n4, _, l4, rfl, HII.out, HC4.out, hl4⟩⟩
    simp [results, Try.f11, go_sem, c0, c1]
  · have HC := hid (set_two (x := .int .i64 0) (y := .slice none 0 0) hxx)
    have HD := hid (below_two (b := w.heap.size) (x := .int .i64 0) (y := .slice none 0 0) HB4.out (Nat.le_refl _))
    clear hb4 hxx hz
    go_wp2_with fail
    obtain ⟨c0, c1⟩ := HC.out
    refine bodyPost_ret (v := .tuple #[.agg #[.int .i64 0, .slice none 0 0], .int .i64 q]) ?_ rfl ⟨HD.out, .inr ⟨q, hq, rfl⟩⟩
    simp [results, Try.f11, go_sem, c0, c1]
end Go.Proofs.Ytlmpeacgjafcjaa
