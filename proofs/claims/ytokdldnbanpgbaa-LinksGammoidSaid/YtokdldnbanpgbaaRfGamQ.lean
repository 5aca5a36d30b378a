/- rotaref.Gammoid. -/
import Derived.Test.YtokdldnbanpgbaaRfBarQ
import Derived.Test.YtokdldnbanpgbaaLkGQ
namespace Go.Proofs.Ytokdldnbanpgbaa
open Go.RowKit

set_option maxRecDepth 20000 in
set_option maxHeartbeats 4000000 in
theorem GamR_ok (n x T bt bg : Nat) (v : Value) (E : List (Nat × Nat)) (w : World) (hn : n ≤ 8) (hx : x < 2 ^ n) (hT : T < 2 ^ n) (hE : ∀ j, j < E.length → ea E j < n ∧ eb E j < n) (h : EdgesAt w v E)
    (ht : w.heap[bt]? = some (.cells #[.int .i64 T] 3 (0, 0))) (hg : w.heap[bg]? = some (.cells #[.int .i64 n, v] 24 (0, 0))) :
    Calls Try.prog 15 #[.int .i64 x, .pointer (some ⟨bt, 0, none⟩), .pointer (some ⟨bg, 0, none⟩)] w fun e w' => e = .returned (.bool (pop x == pop T && lnkR (nxF E E.length) n (2 ^ n - 1) T x == pop x)) ∧ Below w.heap.size w w' := by
  have cT : ∀ y : Later w, y.now.cell? ⟨bt, 0, none⟩ = some (.int .i64 T) := fun y => (one_at ((y.kept.block _ (Array.getElem?_eq_some_iff.1 ht).1).trans ht)).1.1
  have cG : ∀ y : Later w, y.now.cell? ⟨bg, 0, none⟩ = some (.int .i64 n) := fun y => (two_cells ((y.kept.block _ (Array.getElem?_eq_some_iff.1 hg).1).trans hg)).1
  have cH : ∀ y : Later w, y.now.cell? ⟨bg, 1, none⟩ = some v := fun y => (two_cells ((y.kept.block _ (Array.getElem?_eq_some_iff.1 hg).1).trans hg)).2.1
  have BA : Hid (∀ y : Later w, Calls Try.prog 17 #[.agg #[.int .i64 n, v], .int .i64 x, .int .i64 T] y.now fun e w' => e = .returned (.int .i64 (cutV (nxF E E.length) n (2 ^ n - 1) x T : Nat)) ∧ Below y.now.heap.size y.now w') := fun y => Barrier_any n x T v E y.now hn hx hT hE (h.below y.kept)
  have HC : cutV (nxF E E.length) n (2 ^ n - 1) x T < 256 := lt256 hn (cutV_lt hn (full_lt n))
  have SZ := hid (fun (s : Nat) (hs : s < 256) (w : World) => Size_any s w hs)
  have S1 := hid (SZ.out x (lt256 hn hx))
  have S2 := hid (SZ.out T (lt256 hn hT))
  have S3 := hid (SZ.out _ HC)
  have p1 := pop_le x (lt256 hn hx)
  have p2 := pop_le T (lt256 hn hT)
  have p3 := pop_le _ HC
  have HR : lnkR (nxF E E.length) n (2 ^ n - 1) T x = pop (cutV (nxF E E.length) n (2 ^ n - 1) x T) := rfl
  rw [HR]
  clear HR SZ ht hg hE
  obtain ⟨a, cap, rfl, -, -⟩ := h
  generalize cutV (nxF E E.length) n (2 ^ n - 1) x T = c at *
  have E1 : Hid ((((pop x : Nat) : Int) == ((pop T : Nat) : Int)) = (pop x == pop T)) := by
    show _ = _
    rw [Bool.eq_iff_iff, beq_iff_eq, beq_iff_eq]
    omega
  have E2 : Hid ((((pop c : Nat) : Int) == ((pop x : Nat) : Int)) = (pop c == pop x)) := by
    show _ = _
    rw [Bool.eq_iff_iff, beq_iff_eq, beq_iff_eq]
    omega
  generalize hpx : pop x = px at *
  generalize hpt : pop T = pt at *
  generalize hpc : pop c = pc at *
  rcases hb : (px == pt) with _ | _
  · rw [hb] at E1
    have E3 := E1.out
    rw [Bool.false_and]
    go_enter Try.func15, Try.ntmps15
    go_wp2_with fail
    refine region_later (by kernel_rfl) (by kernel_rfl) ?_
    repeat (go_big_quiet_step ((first
      | (go_at_call_of 16 (Value.int IntKind.i64 (x : Int)); (with_reducible refine (S1.out _).mono ?_); rintro e w' ⟨rfl, hb9⟩; exact ⟨rfl, Later.on _ hb9⟩)
      | (go_at_call_of 16 (Value.int IntKind.i64 (T : Int)); (with_reducible refine (S2.out _).mono ?_); rintro e w' ⟨rfl, hb9⟩; exact ⟨rfl, Later.on _ hb9⟩)
      | (go_at_call_of 16 (Value.int IntKind.i64 (c : Int)); (with_reducible refine (S3.out _).mono ?_); rintro e w' ⟨rfl, hb9⟩; exact ⟨rfl, Later.on _ hb9⟩)
      | (go_at_call 17; (with_reducible refine (BA.out _).mono ?_); rintro e w' ⟨rfl, hb9⟩; exact ⟨rfl, Later.on _ hb9⟩))))
    refine wpQuiet_nil ?_
    intro w6' hw'
    obtain ⟨⟨w6, hb6⟩, hw''⟩ := hw'
    dsimp only at hw''
    subst hw''
    have HB6 := hid hb6
    clear hb6 cT cG cH
    go_wp2_with fail
    go_ret
    exact ⟨rfl, HB6.out⟩
  · rw [hb] at E1
    have E3 := E1.out
    rw [Bool.true_and]
    go_enter Try.func15, Try.ntmps15
    go_wp2_with fail
    refine region_later (by kernel_rfl) (by kernel_rfl) ?_
    repeat (go_big_quiet_step ((first
      | (go_at_call_of 16 (Value.int IntKind.i64 (x : Int)); (with_reducible refine (S1.out _).mono ?_); rintro e w' ⟨rfl, hb9⟩; exact ⟨rfl, Later.on _ hb9⟩)
      | (go_at_call_of 16 (Value.int IntKind.i64 (T : Int)); (with_reducible refine (S2.out _).mono ?_); rintro e w' ⟨rfl, hb9⟩; exact ⟨rfl, Later.on _ hb9⟩)
      | (go_at_call_of 16 (Value.int IntKind.i64 (c : Int)); (with_reducible refine (S3.out _).mono ?_); rintro e w' ⟨rfl, hb9⟩; exact ⟨rfl, Later.on _ hb9⟩)
      | (go_at_call 17; (with_reducible refine (BA.out _).mono ?_); rintro e w' ⟨rfl, hb9⟩; exact ⟨rfl, Later.on _ hb9⟩))))
    refine wpQuiet_nil ?_
    intro w6' hw'
    obtain ⟨⟨w6, hb6⟩, hw''⟩ := hw'
    dsimp only at hw''
    subst hw''
    have HB6 := hid hb6
    clear hb6 cT cG cH
    go_wp2_with fail
    go_ret
    exact ⟨ret_bool E2.out, HB6.out⟩
set_option maxRecDepth 20000 in
set_option maxHeartbeats 4000000 in
theorem RGam_ok (m b : Nat) (v : Value) (E : List (Nat × Nat)) (w : World) (hn : m ≤ 8) (hb : b < 2 ^ m) (hE : ∀ j, j < E.length → ea E j < m ∧ eb E j < m) (h : EdgesAt w v E) :
    Calls Try.prog 7 #[.agg #[.int .i64 m, v], .int .i64 b] w fun e w' => ∃ r, e = .returned (.agg #[.int .i64 m, r]) ∧ Own w.heap.size w' r (lnkL (nxF E E.length) m b) ∧ Below w.heap.size w w' := by
  have HI := hid h
  obtain ⟨ad, cap, rfl, hlen, -⟩ := h
  obtain ⟨W1, hW1⟩ : ∃ W1, w.alloc (.cells #[.int .i64 m, .slice ad E.length cap] 24) = W1 := ⟨_, rfl⟩
  have s1 : W1.heap.size = w.heap.size + 1 := by rw [← hW1, World.size_alloc]
  have b1 : Below w.heap.size w W1 := by rw [← hW1]; exact (Below.refl _ _).alloc (Nat.le_refl _) _
  have x1 : W1.heap[w.heap.size]? = some (.cells #[.int .i64 m, .slice ad E.length cap] 24 (0, 0)) := by rw [← hW1]; exact World.alloc_heap_new w _
  obtain ⟨W2, hW2⟩ : ∃ W2, W1.alloc (.cells #[.int .i64 b] 3) = W2 := ⟨_, rfl⟩
  have s2 : W2.heap.size = w.heap.size + 1 + 1 := by rw [← hW2, World.size_alloc, s1]
  have b2 : Below W1.heap.size W1 W2 := by rw [← hW2]; exact (Below.refl _ _).alloc (Nat.le_refl _) _
  have x2 : W2.heap[w.heap.size + 1]? = some (.cells #[.int .i64 b] 3 (0, 0)) := by rw [← hW2, ← s1]; exact World.alloc_heap_new W1 _
  obtain ⟨W3, hW3⟩ : ∃ W3, W2.alloc (.cells #[.int .i64 0, .slice none 0 0] 31) = W3 := ⟨_, rfl⟩
  have s3 : W3.heap.size = w.heap.size + 1 + 1 + 1 := by rw [← hW3, World.size_alloc, s2]
  have b3 : Below W2.heap.size W2 W3 := by rw [← hW3]; exact (Below.refl _ _).alloc (Nat.le_refl _) _
  have x3 : W3.heap[w.heap.size + 1 + 1]? = some (.cells #[.int .i64 0, .slice none 0 0] 31 (0, 0)) := by rw [← hW3, ← s2]; exact World.alloc_heap_new W2 _
  have X3 := hid x3
  have X2 := hid ((b3.block _ (by omega)).trans x2)
  have X1 := hid ((b3.block _ (by omega)).trans ((b2.block _ (by omega)).trans x1))
  have B3 : Hid (Below w.heap.size w W3) := (b1.trans (b2.mono b1.size)).trans (b3.mono (by omega))
  have S1 := hid s1
  have S2 := hid s2
  have S3 := hid s3
  obtain ⟨k0, k1, -, -⟩ := two_cells X1.out
  have HI3 := hid (HI.out.below B3.out)
  have SI : Hid (∀ W, Below W3.heap.size W3 W → Calls Try.prog 14 #[.int .i64 m, .func (.func 15) #[] #[.pointer (some ⟨w.heap.size + 1, 0, none⟩), .pointer (some ⟨w.heap.size, 0, none⟩)]] W fun e w' => ∃ r, e = .returned r ∧ Own W.heap.size w' r (lnkL (nxF E E.length) m b) ∧ Below W.heap.size W w') := fun W hW =>
    Those_any m 15 #[.pointer (some ⟨w.heap.size + 1, 0, none⟩), .pointer (some ⟨w.heap.size, 0, none⟩)] (fun x => pop x == pop b && lnkR (nxF E E.length) m (2 ^ m - 1) b x == pop x) W hn (fun args w => enters_of Try.func15 (by kernel_rfl) rfl args w)
      (fun x hx w1 hb1 _ => GamR_ok m x b (w.heap.size + 1) w.heap.size _ E w1 hn hx hb hE ((HI3.out.below hW).below hb1) ((hb1.block _ (by have := hW.size; have := S3.out; omega)).trans ((hW.block _ (by have := S3.out; omega)).trans X2.out)) ((hb1.block _ (by have := hW.size; have := S3.out; omega)).trans ((hW.block _ (by have := S3.out; omega)).trans X1.out)))
  have KEEP : Hid (∀ W, Below W3.heap.size W3 W → W.heap[w.heap.size]? = some (.cells #[.int .i64 m, .slice ad E.length cap] 24 (0, 0)) ∧ W.heap[w.heap.size + 1 + 1]? = some (.cells #[.int .i64 0, .slice none 0 0] 31 (0, 0))) := fun W hW => ⟨(hW.block _ (by have := S3.out; omega)).trans X1.out, (hW.block _ (by have := S3.out; omega)).trans X3.out⟩
  clear b1 b2 b3 x1 x2 x3 s1 s2 s3 hE
  obtain ⟨acc, HACC⟩ : ∃ acc : List Nat, Hid (lnkL (nxF E E.length) m b = acc) := ⟨_, rfl⟩
  rw [HACC.out] at SI ⊢
  have hmf : ∀ (fn : Fn) (first cap : Array Value) (w : World), (Instr.makeFunc fn first cap).run Try.prog w = .ok (.func fn first cap) w := fun _ _ _ _ => rfl
  go_enter Try.func7, Try.ntmps7
  go_wp2_with fail
  try rw [S1.out]
  try rw [S2.out]
  clear hW1 hW2 hW3
  go_region_with ((go_at_call 14; refine (SI.out _ (Below.refl _ W3).drew).mono ?_; rintro e w5 ⟨r5, rfl, hr5, hb5⟩; have L5 := hid ((Below.refl _ W3).drew.trans hb5); obtain ⟨xg, xr⟩ := KEEP.out w5 L5.out; obtain ⟨q0, q1, -, -⟩ := two_cells xg; obtain ⟨q2, q3, g2, g3⟩ := two_cells xr; have XR := hid xr; obtain ⟨ra, rc, hr⟩ := ownsRow_form' hr5; subst hr; have HR5 := hid hr5; clear hr5 hb5 xg xr))
  all_goals go_wp2_with fail
  all_goals
    have HC := hid (set_two (x := .int .i64 m) (y := .slice ra acc.length rc) XR.out)
    have HB4 := hid (B3.out.trans (L5.out.mono B3.out.size))
    have HD := hid (below_two (b := w.heap.size + 1 + 1) (x := .int .i64 m) (y := .slice ra acc.length rc) HB4.out (by omega))
    have HII := hid ((HR5.out.set2 (b := w.heap.size + 1 + 1) (x := .int .i64 m) (y := .slice ra acc.length rc) (by have := S3.out; show _ < W3.heap.size; omega)).mono B3.out.size)
    obtain ⟨c0, c1⟩ := HC.out
    refine bodyPost_ret (v := .agg #[.int .i64 m, .slice ra acc.length rc]) ?_ rfl ⟨_, rfl, HII.out, HD.out⟩
    simp [results, Try.f7, go_sem, c0, c1]
end Go.Proofs.Ytokdldnbanpgbaa
