/- links.Gammoid. -/
import Derived.Test.YtgkkemlemnlchaaLkFQ
import Derived.Test.YtgkkemlemnlchaaSieveQ
import Derived.Test.YtgkkemlemnlchaaEqQ
import Derived.Test.YtgkkemlemnlchaaWithoutQ
import Derived.Deep.RegionHeld3
import Derived.Deep.CutRange
namespace Go.Proofs.Ytgkkemlemnlchaa
open Go.RowKit

theorem kept0 {W W' : World} (h : Below W.drew.heap.size W.drew W') : Below W.heap.size W W' := ((Below.refl _ W).drew).trans h
theorem kept1 {W W' : World} {o : Obj} (h : Below (W.alloc o).drew.heap.size (W.alloc o).drew W') : Below W.heap.size W W' := (((Below.refl _ W).alloc (Nat.le_refl _) o).drew).trans (h.mono (by show W.heap.size ≤ (W.alloc o).heap.size; simp))
theorem kept2 {W W' : World} {o o' : Obj} (h : Below ((W.alloc o).alloc o').drew.heap.size ((W.alloc o).alloc o').drew W') : Below W.heap.size W W' := ((((Below.refl _ W).alloc (Nat.le_refl _) o).alloc (by simp) o').drew).trans (h.mono (by show W.heap.size ≤ ((W.alloc o).alloc o').heap.size; simp; omega))
theorem more1 (W : World) (o : Obj) : Below W.heap.size W (W.alloc o) := (Below.refl _ _).alloc (Nat.le_refl _) _
theorem more2 (W : World) (o o' : Obj) : Below W.heap.size W ((W.alloc o).alloc o') := (more1 W o).alloc (by simp) _
theorem firA {W W' : World} {o : Obj} (h : Below (W.alloc o).heap.size (W.alloc o) W') : W'.heap[W.heap.size]? = some o := (h.block _ (by simp)).trans (World.alloc_heap_new W o)
theorem firB {W W' : World} {o o' : Obj} (h : Below ((W.alloc o).alloc o').heap.size ((W.alloc o).alloc o') W') : W'.heap[W.heap.size]? = some o := (h.block _ (by simp; omega)).trans ((Below.heap_alloc _ _ _ (by simp)).trans (World.alloc_heap_new W o))
theorem firC {W W' : World} {o o' : Obj} (h : Below ((W.alloc o).alloc o').heap.size ((W.alloc o).alloc o') W') : W'.heap[W.heap.size + 1]? = some o' := by
  have h1 := World.alloc_heap_new (W.alloc o) o'
  rw [World.size_alloc] at h1
  exact (h.block _ (by simp)).trans h1
theorem one_at {w : World} {b : Nat} {x : Value} {t : TypeId} (h : w.heap[b]? = some (.cells #[x] t (0, 0))) : (w.cell? ⟨b, 0, none⟩ = some x ∧ w.frozen? ⟨b, 0, none⟩ = false) ∧ ∀ o, (w.alloc o).cell? ⟨b, 0, none⟩ = some x ∧ (w.alloc o).frozen? ⟨b, 0, none⟩ = false := by
  refine ⟨⟨by simp [World.cell?, h], by simp [World.frozen?, h]⟩, fun o => ?_⟩
  have h2 := (Below.heap_alloc w o b (Array.getElem?_eq_some_iff.1 h).1).trans h
  exact ⟨by simp [World.cell?, h2], by simp [World.frozen?, h2]⟩
theorem RkAt.setP {w : World} {g cap T p : Nat} {f : Nat → Nat} {x : Value} (h : RkAt w (.slice (some ⟨g, 0, none⟩) T cap) T f) (hne : p ≠ g) : RkAt (w.setCell ⟨p, 0, none⟩ x) (.slice (some ⟨g, 0, none⟩) T cap) T f := by
  obtain ⟨b, off, c, e, h1, h2⟩ := h
  obtain ⟨⟨rfl, rfl⟩, rfl⟩ : (g = b ∧ 0 = off) ∧ cap = c := by simpa using e
  refine ⟨g, 0, cap, rfl, by simpa using h1, fun i hi => ?_⟩
  rw [World.cell?_setCell_other _ _ _ _ (by simp), h2 i hi]
theorem one_set {w : World} {p : Nat} {x y : Value} {t : TypeId} (h : w.heap[p]? = some (.cells #[y] t (0, 0))) : (w.setCell ⟨p, 0, none⟩ x).heap[p]? = some (.cells #[x] t (0, 0)) := by
  unfold World.setCell
  dsimp only
  rw [Array.getElem?_modify, h]
  simp
theorem one_off {w : World} {p q : Nat} {x : Value} (h : p ≠ q) : (w.setCell ⟨p, 0, none⟩ x).heap[q]? = w.heap[q]? := by
  unfold World.setCell
  dsimp only
  rw [Array.getElem?_modify, if_neg h]
theorem mixA {w : World} {p : Nat} {x y : Value} {t : TypeId} {o : Obj} (h : w.heap[p]? = some (.cells #[y] t (0, 0))) : ((w.setCell ⟨p, 0, none⟩ x).alloc o).heap[p]? = some (.cells #[x] t (0, 0)) ∧ ((w.setCell ⟨p, 0, none⟩ x).alloc o).heap[w.heap.size]? = some o := by
  refine ⟨(Below.heap_alloc _ _ _ (Array.getElem?_eq_some_iff.1 (one_set (x := x) h)).1).trans (one_set h), ?_⟩
  have := World.alloc_heap_new (w.setCell ⟨p, 0, none⟩ x) o
  rwa [World.size_setCell] at this
theorem mixB {w : World} {p : Nat} {x y : Value} {t : TypeId} {o : Obj} (h : w.heap[p]? = some (.cells #[y] t (0, 0))) : ((w.alloc o).setCell ⟨p, 0, none⟩ x).heap[p]? = some (.cells #[x] t (0, 0)) ∧ ((w.alloc o).setCell ⟨p, 0, none⟩ x).heap[w.heap.size]? = some o := by
  have hl := (Array.getElem?_eq_some_iff.1 h).1
  refine ⟨one_set ((Below.heap_alloc _ _ _ hl).trans h), ?_⟩
  rw [one_off (by omega)]
  exact World.alloc_heap_new w o
theorem mixC {w : World} {p q : Nat} {x y x' y' : Value} {t t' : TypeId} (h : w.heap[p]? = some (.cells #[y] t (0, 0))) (h' : w.heap[q]? = some (.cells #[y'] t' (0, 0))) (hne : p ≠ q) : ((w.setCell ⟨p, 0, none⟩ x).setCell ⟨q, 0, none⟩ x').heap[p]? = some (.cells #[x] t (0, 0)) ∧ ((w.setCell ⟨p, 0, none⟩ x).setCell ⟨q, 0, none⟩ x').heap[q]? = some (.cells #[x'] t' (0, 0)) :=
  ⟨(one_off (Ne.symm hne)).trans (one_set h), one_set ((one_off hne).trans h')⟩
theorem keepA {W w : World} {p : Nat} {x : Value} {o : Obj} (h : Below W.heap.size W w) (hp : W.heap.size ≤ p) : Below W.heap.size W ((w.setCell ⟨p, 0, none⟩ x).alloc o) := (h.setCell (p := ⟨p, 0, none⟩) hp x).alloc (by simpa using h.size) o
theorem keepB {W w : World} {p : Nat} {x : Value} {o : Obj} (h : Below W.heap.size W w) (hp : W.heap.size ≤ p) : Below W.heap.size W ((w.alloc o).setCell ⟨p, 0, none⟩ x) := (h.alloc h.size o).setCell (p := ⟨p, 0, none⟩) hp x
theorem keepC {W w : World} {p q : Nat} {x y : Value} (h : Below W.heap.size W w) (hp : W.heap.size ≤ p) (hq : W.heap.size ≤ q) : Below W.heap.size W ((w.setCell ⟨p, 0, none⟩ x).setCell ⟨q, 0, none⟩ y) := (h.setCell (p := ⟨p, 0, none⟩) hp x).setCell (p := ⟨q, 0, none⟩) hq y
/-- The sets of as many vertices as T has from which as many ways lead to T. -/
def lnkL (f : Nat → Nat) (m T : Nat) : List Nat := (List.range (2 ^ m)).filter fun x => pop x == pop T && lnkR f m (2 ^ m - 1) T x == pop x
set_option maxRecDepth 20000 in
set_option maxHeartbeats 4000000 in
theorem LGam_ok (m b : Nat) (v : Value) (F : List (Int × Int)) (w : World) (hg : lnkE m F 0 b = 0) (h : EdgesI w v F) :
    Calls Try.prog 6 #[.agg #[.int .i64 m, v], .int .i64 b] w (GivesO w m (lnkL (nxE F) m b)) := by
  obtain ⟨m', a', b', e1, e2, e3, h1, h7, h8, hall, ha, hb, hE⟩ := lnk_good hg
  obtain rfl : m = m' := by omega
  obtain rfl : b = b' := by omega
  clear e1 e2 e3 ha a'
  have HI := hid h
  obtain ⟨ad, cap, rfl, hlen, -⟩ := h
  obtain ⟨W1, hW1⟩ : ∃ W1, w.alloc (.cells #[.int .i64 m, .slice ad F.length cap] 24) = W1 := ⟨_, rfl⟩
  have s1 : W1.heap.size = w.heap.size + 1 := by rw [← hW1, World.size_alloc]
  have b1 : Below w.heap.size w W1 := by rw [← hW1]; exact (Below.refl _ _).alloc (Nat.le_refl _) _
  have x1 : W1.heap[w.heap.size]? = some (.cells #[.int .i64 m, .slice ad F.length cap] 24 (0, 0)) := by rw [← hW1]; exact World.alloc_heap_new w _
  obtain ⟨W2, hW2⟩ : ∃ W2, W1.alloc (.cells #[.int .i64 b] 3) = W2 := ⟨_, rfl⟩
  have s2 : W2.heap.size = w.heap.size + 1 + 1 := by rw [← hW2, World.size_alloc, s1]
  have b2 : Below W1.heap.size W1 W2 := by rw [← hW2]; exact (Below.refl _ _).alloc (Nat.le_refl _) _
  have x2 : W2.heap[w.heap.size + 1]? = some (.cells #[.int .i64 b] 3 (0, 0)) := by rw [← hW2, ← s1]; exact World.alloc_heap_new W1 _
  obtain ⟨W3, hW3⟩ : ∃ W3, W2.alloc (.cells #[.int .i64 0, .slice none 0 0] 33) = W3 := ⟨_, rfl⟩
  have s3 : W3.heap.size = w.heap.size + 1 + 1 + 1 := by rw [← hW3, World.size_alloc, s2]
  have b3 : Below W2.heap.size W2 W3 := by rw [← hW3]; exact (Below.refl _ _).alloc (Nat.le_refl _) _
  have x3 : W3.heap[w.heap.size + 1 + 1]? = some (.cells #[.int .i64 0, .slice none 0 0] 33 (0, 0)) := by rw [← hW3, ← s2]; exact World.alloc_heap_new W2 _
  have X3 := hid x3
  have X2 := hid ((b3.block _ (by omega)).trans x2)
  have X1 := hid ((b3.block _ (by omega)).trans ((b2.block _ (by omega)).trans x1))
  have B3 : Hid (Below w.heap.size w W3) := (b1.trans (b2.mono b1.size)).trans (b3.mono (by omega))
  have S1 := hid s1
  have S2 := hid s2
  have S3 := hid s3
  obtain ⟨k0, k1, -, -⟩ := two_cells X1.out
  have k2 : W3.cell? ⟨w.heap.size + 1, 0, none⟩ = some (.int .i64 b) := by simp [World.cell?, X2.out]
  have CG : Hid (Calls Try.prog 10 #[.agg #[.int .i64 m, .slice ad F.length cap], .int .i64 0, .int .i64 b] W3 fun e w' => e = .returned (.int .i64 0) ∧ Below W3.heap.size W3 w') := by
    have := lcheck_any m 0 b _ F W3 (HI.out.below B3.out)
    rw [hg] at this
    exact this
  have NX : Hid (∀ W, EdgesI W (.slice ad F.length cap) F → Calls Try.prog 11 #[.agg #[.int .i64 m, .slice ad F.length cap]] W fun e w' => ∃ g c, e = .returned (.slice (some ⟨g, 0, none⟩) m c) ∧ W.heap.size ≤ g ∧ RkAt w' (.slice (some ⟨g, 0, none⟩) m c) m (nxE F) ∧ Below W.heap.size W w') := fun W hW => nexts_own m _ (natE F) W h1 h7 hE (hW.nat h8 hall)
  have WH := hid (fun w => wholeSet_any m w (by omega))
  have HFL : Hid (∀ i, i < m → nxE F i < 256) := fun i _ => lt256 (by omega) (nxE_lt hE i)
  clear b1 b2 b3 x1 x2 x3 s1 s2 s3 hall h8 hE hg
  obtain ⟨acc, HACC⟩ : ∃ acc : List Nat, Hid (lnkL (nxE F) m b = acc) := ⟨_, rfl⟩
  rw [HACC.out]
  go_enter Try.func6, Try.ntmps6
  have k3 : W3.cell? ⟨W1.heap.size, 0, none⟩ = some (.int .i64 b) := by rw [S1.out]; exact k2
  go_wp2_with fail
  try rw [S1.out]
  try rw [S2.out]
  refine CG.out.mono ?_
  rintro e W ⟨rfl, hbW⟩
  clear hW1 hW2 hW3 CG
  have Y1 := hid ((hbW.block _ (by have := S3.out; omega)).trans X1.out)
  have Y2 := hid ((hbW.block _ (by have := S3.out; omega)).trans X2.out)
  have Y3 := hid ((hbW.block _ (by have := S3.out; omega)).trans X3.out)
  have BW := hid (B3.out.trans (hbW.mono B3.out.size))
  have SW : Hid (w.heap.size + 1 + 1 + 1 ≤ W.heap.size) := by show _ ≤ _; have := hbW.size; have := S3.out; omega
  clear k0 k1 k2 k3 hbW X1 X2 X3 B3
  obtain ⟨k0, k1, -, -⟩ := two_cells Y1.out
  have HIW := hid (HI.out.below BW.out)
  have NXW : Hid (∀ W', Below W.heap.size W W' → Calls Try.prog 11 #[.agg #[.int .i64 m, .slice ad F.length cap]] W' fun e w' => ∃ g c, e = .returned (.slice (some ⟨g, 0, none⟩) m c) ∧ W'.heap.size ≤ g ∧ RkAt w' (.slice (some ⟨g, 0, none⟩) m c) m (nxE F) ∧ Below W'.heap.size W' w') := fun W' hW' => NX.out W' (HIW.out.below hW')
  have CELL : Hid (∀ W', Below W.heap.size W W' → W'.cell? ⟨w.heap.size, 0, none⟩ = some (.int .i64 m) ∧ W'.cell? ⟨w.heap.size, 1, none⟩ = some (.slice ad F.length cap)) := fun W' hb => by
    obtain ⟨y0, y1, _, _⟩ := two_cells ((hb.block _ (by have := SW.out; omega)).trans Y1.out)
    exact ⟨y0, y1⟩
  clear NX
  go_upto_region 4 with fail
  go_cut [7, 8] from 17 to 21 (fun x y Z => ∃ b7 b8 nv, x = .pointer (some ⟨b7, 0, none⟩) ∧ y = .pointer (some ⟨b8, 0, none⟩) ∧ Hid (Z.heap[b7]? = some (.cells #[nv] 25 (0, 0))) ∧ Hid (Z.heap[b8]? = some (.cells #[.int .i64 ((2 ^ m - 1 : Nat) : Int)] 3 (0, 0))) ∧ Hid (RkAt Z nv m (nxE F)) ∧ Hid (Below W.heap.size W Z))
  case first =>
    have hs9 := SW.out
    have e1 : ¬ W.heap.size = w.heap.size := by omega
    have e2 : ¬ w.heap.size = W.heap.size := by omega
    have e3 : ¬ W.heap.size + 1 = w.heap.size := by omega
    have e4 : ¬ w.heap.size = W.heap.size + 1 := by omega
    go_region_held3 (fun Z => Z.cell? ⟨w.heap.size, 0, none⟩ = some (.int .i64 m) ∧ Z.cell? ⟨w.heap.size, 1, none⟩ = some (.slice ad F.length cap)) (go_keep)
      (first
        | (go_at_call 11; refine (NXW.out _ (by first | exact (Below.refl _ _).drew | exact (more1 _ _).drew | exact (more2 _ _ _).drew)).mono ?_; rintro e w5 ⟨rb, rc, rfl, hg5, hr5, hb5⟩; have HR5 := hid hr5; have HB5 := hid hb5; have L5 := hid (show Below W.heap.size W w5 by first | exact kept0 hb5 | exact kept1 hb5 | exact kept2 hb5); obtain ⟨q0, q1⟩ := CELL.out w5 L5.out; clear hr5; simp at hg5
           have h5s := L5.out.size
           have n1 : ¬ w5.heap.size = w.heap.size := (by omega)
           have n2 : ¬ w.heap.size = w5.heap.size := (by omega)
           have n3 : ¬ w5.heap.size + 1 = w.heap.size := (by omega)
           have n4 : ¬ w.heap.size = w5.heap.size + 1 := (by omega)
           first
            | (have HA5 := hid (firB (kept0 hb5)); have HC5 := hid (firC (kept0 hb5)); obtain ⟨⟨u0, u1⟩, -⟩ := one_at HA5.out; obtain ⟨⟨u2, u3⟩, -⟩ := one_at HC5.out)
            | (have HA5 := hid (firA (kept0 hb5)); have g5 := (Array.getElem?_eq_some_iff.1 HA5.out).1; obtain ⟨⟨u0, u1⟩, u2⟩ := one_at HA5.out; obtain ⟨u3, u4⟩ := u2 (.cells #[.slice none 0 0] 25); obtain ⟨u5, u6⟩ := u2 (.cells #[.int .i64 0] 3); have n5 : ¬ W.heap.size = w5.heap.size := (by omega); have n6 : ¬ w5.heap.size = W.heap.size := (by omega); clear u2)
            | skip
           clear hb5 h5s)
        | (go_at_call 13; refine (WH.out _).mono ?_; rintro e w6 ⟨rfl, hw6⟩; obtain rfl := hw6.symm))
    all_goals go_wp2_with fail
    all_goals go_meet
    all_goals first
      | exact ⟨_, _, _, rfl, rfl, firB (Below.refl _ _), firC (Below.refl _ _), HR5.out.below (more2 _ _ _), L5.out.trans ((more2 _ _ _).mono L5.out.size)⟩
      | exact ⟨_, _, _, rfl, rfl, firC (Below.refl _ _), firB (Below.refl _ _), HR5.out.below (more2 _ _ _), L5.out.trans ((more2 _ _ _).mono L5.out.size)⟩
      | exact ⟨_, _, _, rfl, rfl, (mixA HA5.out).1, (mixA HA5.out).2, (HR5.out.setP (by omega)).below (more1 _ _), keepA L5.out (by omega)⟩
      | exact ⟨_, _, _, rfl, rfl, (mixA HA5.out).2, (mixA HA5.out).1, (HR5.out.setP (by omega)).below (more1 _ _), keepA L5.out (by omega)⟩
      | exact ⟨_, _, _, rfl, rfl, (mixB HA5.out).1, (mixB HA5.out).2, (HR5.out.below (more1 _ _)).setP (by omega), keepB L5.out (by omega)⟩
      | exact ⟨_, _, _, rfl, rfl, (mixB HA5.out).2, (mixB HA5.out).1, (HR5.out.below (more1 _ _)).setP (by omega), keepB L5.out (by omega)⟩
      | exact ⟨_, _, _, rfl, rfl, (mixC HA5.out HC5.out (by omega)).1, (mixC HA5.out HC5.out (by omega)).2, (HR5.out.setP (by omega)).setP (by omega), keepC L5.out (by omega) (by omega)⟩
      | exact ⟨_, _, _, rfl, rfl, (mixC HA5.out HC5.out (by omega)).2, (mixC HA5.out HC5.out (by omega)).1, (HR5.out.setP (by omega)).setP (by omega), keepC L5.out (by omega) (by omega)⟩
      | exact ⟨_, _, _, rfl, rfl, (mixC HC5.out HA5.out (by omega)).1, (mixC HC5.out HA5.out (by omega)).2, (HR5.out.setP (by omega)).setP (by omega), keepC L5.out (by omega) (by omega)⟩
      | exact ⟨_, _, _, rfl, rfl, (mixC HC5.out HA5.out (by omega)).2, (mixC HC5.out HA5.out (by omega)).1, (HR5.out.setP (by omega)).setP (by omega), keepC L5.out (by omega) (by omega)⟩
      | trace_state
  case rest =>
    obtain ⟨b7, b8, nv, rfl, rfl, Z7, Z8, RK, BZ⟩ := hcut
    have hsz := SW.out
    have V1 := hid ((BZ.out.block _ (by omega)).trans Y1.out)
    have V2 := hid ((BZ.out.block _ (by omega)).trans Y2.out)
    have V3 := hid ((BZ.out.block _ (by omega)).trans Y3.out)
    have BWZ := hid (BW.out.trans (BZ.out.mono BW.out.size))
    have hl7 := (Array.getElem?_eq_some_iff.1 Z7.out).1
    have hl8 := (Array.getElem?_eq_some_iff.1 Z8.out).1
    have hl2 := (Array.getElem?_eq_some_iff.1 V2.out).1
    have hl3 := (Array.getElem?_eq_some_iff.1 V3.out).1
    obtain ⟨k4, k5, -, -⟩ := two_cells V1.out
    clear k0 k1 Y1 Y2 Y3
    have SI := hid (Sieve_any m 15 #[.pointer (some ⟨w.heap.size + 1, 0, none⟩), .pointer (some ⟨b7, 0, none⟩), .pointer (some ⟨b8, 0, none⟩)] (fun x => pop x == pop b && lnkR (nxE F) m (2 ^ m - 1) b x == pop x) wc (by omega) (fun args w => enters_of Try.func15 (by kernel_rfl) rfl args w)
      (fun x hx w1 hb1 _ => (GamQ_ok m x b (w.heap.size + 1) b7 b8 (nxE F) nv w1 (by omega) hx hb HFL.out (RK.out.below hb1) (one_at ((hb1.block _ hl2).trans V2.out)).1.1 (one_at ((hb1.block _ hl7).trans Z7.out)).1.1 (one_at ((hb1.block _ hl8).trans Z8.out)).1.1).mono fun e w2 ⟨h1, k, h2⟩ => ⟨h1, by rw [h2]; exact drewN_below _ _ k⟩))
    change Hid (Calls _ _ _ _ fun e w' => ∃ r, e = .returned r ∧ Own wc.heap.size w' r (lnkL (nxE F) m b) ∧ _) at SI
    rw [HACC.out] at SI
    have hmf : ∀ (fn : Fn) (first cap : Array Value) (w : World), (Instr.makeFunc fn first cap).run Try.prog w = .ok (.func fn first cap) w := fun _ _ _ _ => rfl
    go_wp2_with fail
    refine SI.out.mono ?_
    rintro e w4 ⟨r4, rfl, hr4, hb4⟩
    obtain ⟨ra, rc, hr⟩ := ownsRow_form' hr4
    subst hr
    have hx1 := (hb4.block _ (Array.getElem?_eq_some_iff.1 V1.out).1).trans V1.out
    have hxx := (hb4.block _ hl3).trans V3.out
    obtain ⟨y0, y1, -, -⟩ := two_cells hx1
    obtain ⟨y2, y3, g2, g3⟩ := two_cells hxx
    have HC := hid (set_two (x := .int .i64 m) (y := .slice ra acc.length rc) hxx)
    have HB4 := hid (BWZ.out.trans (hb4.mono BWZ.out.size))
    have HD := hid (below_two (b := w.heap.size + 1 + 1) (x := .int .i64 m) (y := .slice ra acc.length rc) HB4.out (by omega))
    have HII := hid ((hr4.set2 (b := w.heap.size + 1 + 1) (x := .int .i64 m) (y := .slice ra acc.length rc) hl3).mono BWZ.out.size)
    clear hb4 hr4 hxx hx1
    go_wp2_with fail
    obtain ⟨c0, c1⟩ := HC.out
    refine bodyPost_ret (v := .tuple #[.agg #[.int .i64 m, .slice ra acc.length rc], .int .i64 0]) ?_ rfl ⟨_, rfl, HII.out, HD.out⟩
    simp [results, Try.f6, go_sem, c0, c1]
set_option maxRecDepth 20000 in
set_option maxHeartbeats 1600000 in
theorem LGam_bad (n b : Int) (v : Value) (F : List (Int × Int)) (w : World) (hg : lnkE n F 0 b ≠ 0) (h : EdgesI w v F) :
    Calls Try.prog 6 #[.agg #[.int .i64 n, v], .int .i64 b] w (BadM w (lnkE n F 0 b)) := by
  have HI := hid h
  obtain ⟨ad, cap, rfl, hlen, -⟩ := h
  obtain ⟨W1, hW1⟩ : ∃ W1, w.alloc (.cells #[.int .i64 n, .slice ad F.length cap] 24) = W1 := ⟨_, rfl⟩
  have s1 : W1.heap.size = w.heap.size + 1 := by rw [← hW1, World.size_alloc]
  have b1 : Below w.heap.size w W1 := by rw [← hW1]; exact (Below.refl _ _).alloc (Nat.le_refl _) _
  have x1 : W1.heap[w.heap.size]? = some (.cells #[.int .i64 n, .slice ad F.length cap] 24 (0, 0)) := by rw [← hW1]; exact World.alloc_heap_new w _
  obtain ⟨W2, hW2⟩ : ∃ W2, W1.alloc (.cells #[.int .i64 b] 3) = W2 := ⟨_, rfl⟩
  have s2 : W2.heap.size = w.heap.size + 1 + 1 := by rw [← hW2, World.size_alloc, s1]
  have b2 : Below W1.heap.size W1 W2 := by rw [← hW2]; exact (Below.refl _ _).alloc (Nat.le_refl _) _
  have x2 : W2.heap[w.heap.size + 1]? = some (.cells #[.int .i64 b] 3 (0, 0)) := by rw [← hW2, ← s1]; exact World.alloc_heap_new W1 _
  obtain ⟨W3, hW3⟩ : ∃ W3, W2.alloc (.cells #[.int .i64 0, .slice none 0 0] 33) = W3 := ⟨_, rfl⟩
  have s3 : W3.heap.size = w.heap.size + 1 + 1 + 1 := by rw [← hW3, World.size_alloc, s2]
  have b3 : Below W2.heap.size W2 W3 := by rw [← hW3]; exact (Below.refl _ _).alloc (Nat.le_refl _) _
  have x3 : W3.heap[w.heap.size + 1 + 1]? = some (.cells #[.int .i64 0, .slice none 0 0] 33 (0, 0)) := by rw [← hW3, ← s2]; exact World.alloc_heap_new W2 _
  have X3 := hid x3
  have X2 := hid ((b3.block _ (by omega)).trans x2)
  have X1 := hid ((b3.block _ (by omega)).trans ((b2.block _ (by omega)).trans x1))
  have B3 : Hid (Below w.heap.size w W3) := (b1.trans (b2.mono b1.size)).trans (b3.mono (by omega))
  have S1 := hid s1
  have S2 := hid s2
  have S3 := hid s3
  obtain ⟨k0, k1, -, -⟩ := two_cells X1.out
  have k2 : W3.cell? ⟨w.heap.size + 1, 0, none⟩ = some (.int .i64 b) := by simp [World.cell?, X2.out]
  have CG := hid (lcheck_any n 0 b _ F W3 (HI.out.below B3.out))
  have hq : (lnkE n F 0 b == 0) = false := by simpa using hg
  generalize lnkE n F 0 b = Q at *
  clear b1 b2 b3 x1 x2 x3 s1 s2 s3
  go_enter Try.func6, Try.ntmps6
  have k3 : W3.cell? ⟨W1.heap.size, 0, none⟩ = some (.int .i64 b) := by rw [S1.out]; exact k2
  go_wp2_with fail
  try rw [S1.out]
  try rw [S2.out]
  refine CG.out.mono ?_
  rintro e W ⟨rfl, hbW⟩
  clear hW1 hW2 hW3 CG
  have hxx := (hbW.block _ (by have := S3.out; omega)).trans X3.out
  have HB := hid (B3.out.trans (hbW.mono B3.out.size))
  have HCC := hid (set_two (x := .int .i64 0) (y := .slice none 0 0) hxx)
  have HD := hid (below_two (b := w.heap.size + 1 + 1) (x := .int .i64 0) (y := .slice none 0 0) HB.out (by omega))
  obtain ⟨y2, y3, g2, g3⟩ := two_cells hxx
  clear hxx hbW k0 k1 k2 k3 X1 X2 X3
  go_wp2_with fail
  obtain ⟨c0, c1⟩ := HCC.out
  refine bodyPost_ret (v := .tuple #[.agg #[.int .i64 0, .slice none 0 0], .int .i64 Q]) ?_ rfl ⟨rfl, HD.out⟩
  simp [results, Try.f6, go_sem, c0, c1]
end Go.Proofs.Ytgkkemlemnlchaa
