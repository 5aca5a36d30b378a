/- rotaref.FirstWays. -/
import Derived.Test.YtjnifcfcigcngaaRfFzQ
namespace Go.Proofs.Ytjnifcfcigcngaa
open Go.RowKit

/-- Rows of numbers, as they are read. -/
def RowsR (w : World) (v : Value) (R : List (List Nat)) : Prop := ∃ (a : Option Addr) (cap : Nat), v = .slice a R.length cap ∧ R.length ≤ 8 ∧ ∀ i, i < R.length → ∃ (b : Nat) (u : Value), a = some ⟨b, 0, none⟩ ∧ b < w.heap.size ∧ w.cell? ⟨b, i, none⟩ = some u ∧ Ints w u (N (R.getD i []))
theorem RowsR.below {w w' : World} {v : Value} {R : List (List Nat)} (h : RowsR w v R) (hb : Below w.heap.size w w') : RowsR w' v R := by
  obtain ⟨a, cap, h1, h2, h3⟩ := h
  refine ⟨a, cap, h1, h2, fun i hi => ?_⟩
  obtain ⟨b, u, k1, k2, k3, k4⟩ := h3 i hi
  exact ⟨b, u, k1, Nat.lt_of_lt_of_le k2 hb.size, (hb.cell (p := ⟨b, i, none⟩) k2).trans k3, k4.below hb⟩
theorem els_lt {F n : Nat} (hF : F < 2 ^ n) : ∀ x ∈ els F, x < n := fun x hx => by
  unfold els at hx
  exact bit_n hF (List.mem_filter.1 hx).2
theorem els_nd (F : Nat) : (els F).Nodup := List.nodup_range.sublist (List.filter_sublist ..)
/-- Every told way is as long as what is left allows. -/
theorem wys_8 {f : Nat → Nat} {n T F : Nat} (hn : n ≤ 8) (hF : F < 2 ^ n) (h : lkB f n T (2 ^ n - 1) F = true) : ∀ i, i < (wysF f n T F n).2.length → ((wysF f n T F n).2.getD i []).length ≤ 8 := fun i hi => by
  have hLm : lefW (2 ^ n - 1) ((wysF f n T F n).2.take i) < 2 ^ n := lefW_lt _ _ (full_lt n)
  exact Nat.le_trans (okW_len hn _ _ hLm ((wys_law hn hF h).ok i hi)) (pop_le _ (lt256 hn hLm))
set_option maxRecDepth 20000 in
set_option maxHeartbeats 4000000 in
theorem FirstWays_any (n F T : Nat) (v : Value) (E : List (Nat × Nat)) (w : World) (hn : n ≤ 8) (hF : F < 2 ^ n) (hT : T < 2 ^ n) (hE : ∀ j, j < E.length → ea E j < n ∧ eb E j < n) (h : EdgesAt w v E) :
    Calls Try.prog 9 #[.agg #[.int .i64 n, v], .int .i64 F, .int .i64 T] w fun e w' => (lkB (nxF E E.length) n T (2 ^ n - 1) F = false → e = .returned (.tuple #[.slice none 0 0, .bool false])) ∧ (lkB (nxF E E.length) n T (2 ^ n - 1) F = true → ∃ r, e = .returned (.tuple #[r, .bool true]) ∧ RowsR w' r (wysF (nxF E E.length) n T F n).2) ∧ Below w.heap.size w w' := by
  have HI := hid h
  obtain ⟨ga, gc, rfl, hgl, -⟩ := h
  have he8 : (els F).length ≤ 8 := by have := pop_els F; have := pop_le F (lt256 hn hF); omega
  obtain ⟨W1, hW1⟩ : ∃ W1, w.alloc (.cells #[.int .i64 n, .slice ga E.length gc] 24) = W1 := ⟨_, rfl⟩
  have s1 : W1.heap.size = w.heap.size + 1 := by rw [← hW1, World.size_alloc]
  have b1 : Below w.heap.size w W1 := by rw [← hW1]; exact (Below.refl _ _).alloc (Nat.le_refl _) _
  have x1 : W1.heap[w.heap.size]? = some (.cells #[.int .i64 n, .slice ga E.length gc] 24 (0, 0)) := by rw [← hW1]; exact World.alloc_heap_new w _
  obtain ⟨W2, hW2⟩ : ∃ W2, W1.alloc (.cells #[.int .i64 T] 3) = W2 := ⟨_, rfl⟩
  have s2 : W2.heap.size = w.heap.size + 1 + 1 := by rw [← hW2, World.size_alloc, s1]
  have b2 : Below W1.heap.size W1 W2 := by rw [← hW2]; exact (Below.refl _ _).alloc (Nat.le_refl _) _
  have x2 : W2.heap[w.heap.size + 1]? = some (.cells #[.int .i64 T] 3 (0, 0)) := by rw [← hW2, ← s1]; exact World.alloc_heap_new W1 _
  have X1 := hid ((b2.block _ (by omega)).trans x1)
  have X2 := hid x2
  have B2 : Hid (Below w.heap.size w W2) := b1.trans (b2.mono b1.size)
  have S1 := hid s1
  have S2 := hid s2
  have EL := hid (Elements_any F W2 (lt256 hn hF))
  have hmf : ∀ (fn : Fn) (first cap : Array Value) (w : World), (Instr.makeFunc fn first cap).run Try.prog w = .ok (.func fn first cap) w := fun _ _ _ _ => rfl
  have hsf := fun (a : Addr) (c : Array Value) (w : World) => run_store Try.prog w a (.func (.func 18) #[] c) .plain rfl
  clear b1 b2 x1 x2 s1 s2
  go_enter Try.func9, Try.ntmps9
  go_wp2_with fail
  try rw [hW2]
  try rw [S1.out]
  clear hW1 hW2
  refine EL.out.mono ?_
  rintro e w3 ⟨r3, rfl, hr3, hb3⟩
  obtain ⟨la, lc, hle⟩ := ownsRow_form' hr3
  subst hle
  have Y1 := hid ((hb3.block _ (by have := S2.out; omega)).trans X1.out)
  have Y2 := hid ((hb3.block _ (by have := S2.out; omega)).trans X2.out)
  have B3 := hid (B2.out.trans (hb3.mono B2.out.size))
  have R3 := hid hr3
  obtain ⟨w00, hw00⟩ : ∃ w00, w3.alloc (.cells #[.slice la (els F).length lc] 43) = w00 := ⟨_, rfl⟩
  have K0 : Below w3.heap.size w3 w00 := by rw [← hw00]; exact (Below.refl _ _).alloc (Nat.le_refl _) _
  have hl0 : w00.heap[w3.heap.size]? = some (.cells #[.slice la (els F).length lc] 43 (0, 0)) := by rw [← hw00]; exact World.alloc_heap_new w3 _
  have s0 : w00.heap.size = w3.heap.size + 1 := by rw [← hw00, World.size_alloc]
  have hg0 := (K0.block _ (Array.getElem?_eq_some_iff.1 Y1.out).1).trans Y1.out
  have ht0 := (K0.block _ (Array.getElem?_eq_some_iff.1 Y2.out).1).trans Y2.out
  have B0 := B3.out.trans (K0.mono B3.out.size)
  obtain ⟨w5, hw5⟩ : ∃ w5, (w00.alloc (.cells #[.slice none 0 0] 29)).alloc (.cells #[nexV w3.heap.size w.heap.size (w.heap.size + 1) w00.heap.size] 28) = w5 := ⟨_, rfl⟩
  have K5 : Below w00.heap.size w00 w5 := by rw [← hw5]; exact ((Below.refl _ _).alloc (Nat.le_refl _) _).alloc (by simp) _
  have s5 : w5.heap.size = w00.heap.size + 2 := by rw [← hw5]; simp
  have x5 : w5.heap[w00.heap.size + 1]? = some (.cells #[nexV w3.heap.size w.heap.size (w.heap.size + 1) w00.heap.size] 28 (0, 0)) := by
    rw [← hw5]
    have := World.alloc_heap_new (w00.alloc (.cells #[.slice none 0 0] 29)) (.cells #[nexV w3.heap.size w.heap.size (w.heap.size + 1) w00.heap.size] 28)
    rwa [World.size_alloc] at this
  have o5 : w5.heap[w00.heap.size]? = some (.cells #[.slice none 0 0] 29 (0, 0)) := by
    rw [← hw5, Below.heap_alloc _ _ _ (by simp)]
    exact World.alloc_heap_new w00 _
  have FS : FwS n T E (.slice ga E.length gc) (.slice la (els F).length lc) (els F) w00 w3.heap.size w.heap.size (w.heap.size + 1) w5 :=
    ⟨K5, x5, by omega, hl0, (hr3.below K0).ints (by omega), hg0, HI.out.below B0, ht0⟩
  have OL : OutL (w00.heap.size + 2) w00.heap.size w5 0 [] := ⟨none, 0, [], o5, Nat.le_refl _, rfl, fun i hi => by simp at hi⟩
  have NW := nextW_ok n T E (.slice ga E.length gc) (.slice la (els F).length lc) (els F) w00 w3.heap.size w.heap.size (w.heap.size + 1) hn hT hE he8 (els_lt hF) (els_nd F) (els F) [] 0 w5 (by simp) (by simp) (Nat.two_pow_pos n) FS OL
  have e0 : dif (2 ^ n - 1) 0 = 2 ^ n - 1 := dif_nil _
  rw [e0, set_els hn hF, ways_all hn hF, List.nil_append] at NW
  have HB5 := hid (B0.trans (K5.mono B0.size))
  have hb3s : w.heap.size ≤ w3.heap.size := by have := B3.out.size; exact this
  have e5 : ((w3.alloc (.cells #[.slice la (els F).length lc] 43)).alloc (.cells #[.slice none 0 0] 29)).alloc (.cells #[.func (.func 18) #[] #[.pointer (some ⟨w3.heap.size, 0, none⟩), .pointer (some ⟨w.heap.size, 0, none⟩), .pointer (some ⟨w.heap.size + 1, 0, none⟩), .pointer (some ⟨w3.heap.size + 1, 0, none⟩), .pointer (some ⟨w3.heap.size + 1 + 1, 0, none⟩)]] 28) = w5 := by
    rw [hw00, ← s0]; exact hw5
  have NW2 : Hid (Calls Try.prog 18 #[.int .i64 0, .int .i64 0, .pointer (some ⟨w3.heap.size, 0, none⟩), .pointer (some ⟨w.heap.size, 0, none⟩), .pointer (some ⟨w.heap.size + 1, 0, none⟩), .pointer (some ⟨w3.heap.size + 1, 0, none⟩), .pointer (some ⟨w3.heap.size + 1 + 1, 0, none⟩)] (((w3.alloc (.cells #[.slice la (els F).length lc] 43)).alloc (.cells #[.slice none 0 0] 29)).alloc (.cells #[.func (.func 18) #[] #[.pointer (some ⟨w3.heap.size, 0, none⟩), .pointer (some ⟨w.heap.size, 0, none⟩), .pointer (some ⟨w.heap.size + 1, 0, none⟩), .pointer (some ⟨w3.heap.size + 1, 0, none⟩), .pointer (some ⟨w3.heap.size + 1 + 1, 0, none⟩)]] 28)) fun e w' => e = .returned (.bool (lkB (nxF E E.length) n T (2 ^ n - 1) F)) ∧ Save (fun k => k = w3.heap.size + 1) w5 w' ∧ (lkB (nxF E E.length) n T (2 ^ n - 1) F = true → OutL (w3.heap.size + 1 + 2) (w3.heap.size + 1) w' (els F).length (wysF (nxF E E.length) n T F n).2)) := by
    rw [e5, ← s0]
    exact Calls.mono NW fun e w' h9 => ⟨h9.1, h9.2.1, h9.2.2.2⟩
  have HB5 := hid (B0.trans (K5.mono B0.size))
  clear NW x5 o5 FS OL e0 K0 hl0 s0 hg0 ht0 K5 s5 hw00 hw5 e5 X1 X2 S1 S2 Y1 Y2 B3 R3
  go_wp2_with fail
  refine NW2.out.mono ?_
  rintro e s6 ⟨rfl, sv, hO⟩
  have B6 := hid (sv.below HB5.out HB5.out.size (fun k e => by omega))
  have WL := hid (fun h : lkB (nxF E E.length) n T (2 ^ n - 1) F = true => (wys_law hn hF h).len)
  obtain ⟨L, hL⟩ : ∃ L, lkB (nxF E E.length) n T (2 ^ n - 1) F = L := ⟨_, rfl⟩
  have HL := hid hL
  rw [hL] at hO WL ⊢
  clear hL
  clear NW2 HB5 sv B0
  cases L with
  | false =>
    clear hO
    go_wp2_with fail
    go_ret2
    exact ⟨fun _ => rfl, fun h => absurd (HL.out.symm.trans h) (by decide), B6.out⟩
  | true =>
    obtain ⟨ao, co, us, hbo, hco, hus, hrow⟩ := hO rfl
    have hlen := WL.out rfl
    have HR := hid hrow
    have HLE := hid hlen
    have o0 := ewa hbo
    clear hrow hlen hus hco hbo
    go_wp2_with fail
    go_ret2
    refine ⟨fun h => absurd (HL.out.symm.trans h) (by decide), fun _ => ⟨_, rfl, ao, co, by rw [HLE.out]; rfl, ?_, fun i hi => ?_⟩, B6.out⟩
    · rw [HLE.out]; exact he8
    · obtain ⟨g, u, k1, k2, k3, k4, k5, k6⟩ := HR.out i hi
      refine ⟨g, u, k1, k3, k5, k6.ints ?_⟩
      have := wys_8 hn hF HL.out i hi
      omega
end Go.Proofs.Ytjnifcfcigcngaa
