/- rotaref.Stand. -/
import Derived.Test.YtjajloefplbkgaaRfStaQ
namespace Go.Proofs.Ytjajloefplbkgaa
open Go.RowKit

/-- What is answered of a list that is sought. -/
def StdE (w : World) (o : Option (List Nat)) (e : Ending) (w' : World) : Prop := ((∀ L, o = some L → ∃ v, e = .returned (.tuple #[v, .bool true]) ∧ Own w.heap.size w' v L) ∧ (o = none → e = .returned (.tuple #[.slice none 0 0, .bool false]))) ∧ Below w.heap.size w w'
/-- The world when Stand's four blocks are laid. -/
def boxS (w : World) (n v gv : Value) : World := (((w.alloc (.cells #[n] 3)).alloc (.cells #[v] 22)).alloc (.cells #[gv] 33)).alloc (.cells #[staV (w.heap.size + 1) w.heap.size (w.heap.size + 2) (w.heap.size + 3)] 48)
theorem boxS_is (w : World) (n : Nat) (v gv : Value) : Below w.heap.size w (boxS w (.int .i64 n) v gv) ∧ SEnv (boxS w (.int .i64 n) v gv) (w.heap.size + 1) w.heap.size (w.heap.size + 2) (w.heap.size + 3) n v gv (staV (w.heap.size + 1) w.heap.size (w.heap.size + 2) (w.heap.size + 3)) := by
  unfold boxS
  refine ⟨((((Below.refl _ w).alloc (Nat.le_refl _) _).alloc (by simp) _).alloc (by simp; omega) _).alloc (by simp; omega) _, ?_, ?_, ?_, ?_⟩
  · unfold Boxed
    rw [Below.heap_alloc _ _ _ (by simp), Below.heap_alloc _ _ _ (by simp)]
    have := World.alloc_heap_new (w.alloc (.cells #[.int .i64 n] 3)) (.cells #[v] 22)
    simpa using this
  · unfold Boxed
    rw [Below.heap_alloc _ _ _ (by simp; omega), Below.heap_alloc _ _ _ (by simp; omega), Below.heap_alloc _ _ _ (by simp)]
    exact World.alloc_heap_new w _
  · unfold Boxed
    rw [Below.heap_alloc _ _ _ (by simp)]
    have := World.alloc_heap_new ((w.alloc (.cells #[.int .i64 n] 3)).alloc (.cells #[v] 22)) (.cells #[gv] 33)
    simpa using this
  · unfold Boxed
    have := World.alloc_heap_new (((w.alloc (.cells #[.int .i64 n] 3)).alloc (.cells #[v] 22)).alloc (.cells #[gv] 33)) (.cells #[staV (w.heap.size + 1) w.heap.size (w.heap.size + 2) (w.heap.size + 3)] 48)
    simpa using this
set_option maxRecDepth 20000 in
set_option maxHeartbeats 4000000 in
theorem Stand_any (n : Nat) (v : Value) (l : List Nat) (gn : Nat) (cs : Array Value) (g : Nat → Bool) (w : World) (hn : n ≤ 8) (hk8 : l.length ≤ 8) (hl : ∀ x ∈ l, x < 2 ^ n) (h : Ints w v (N l)) (eg : Enters gn)
    (hG : ∀ s, s < 2 ^ n → ∀ W, Below w.heap.size w W → Calls Try.prog gn (#[.int .i64 s] ++ cs) W fun e w' => e = .returned (.bool (g s)) ∧ Below W.heap.size W w') :
    Calls Try.prog 10 #[.int .i64 n, v, .func (.func gn) #[] cs] w (StdE w (rfsF g n l 0)) := by
  obtain ⟨a, cap, rfl, -, -⟩ := h.nats
  obtain ⟨b0, env⟩ := boxS_is w n (.slice a l.length cap) (.func (.func gn) #[] cs)
  have B0 := hid b0
  have S1 := hid (std1_ok _ _ _ _ _ n a cap l gn cs g hn hk8 hl (h.below b0) env eg (fun s hs W hW => hG s hs W (b0.trans (hW.mono b0.size))) l 0 0 (boxS w (.int .i64 n) (.slice a l.length cap) (.func (.func gn) #[] cs)) (by simp) (by simp) (Nat.two_pow_pos n) (Below.refl _ _))
  have hmf : ∀ (fn : Fn) (first cap : Array Value) (w : World), (Instr.makeFunc fn first cap).run Try.prog w = .ok (.func fn first cap) w := fun _ _ _ _ => rfl
  have hsf := fun (a : Addr) (c : Array Value) (w : World) => run_store Try.prog w a (.func (.func 27) #[] c) .plain rfl
  have BN : Hid (Below w.heap.size w (((w.alloc (.cells #[.int .i64 n] 3)).alloc (.cells #[.slice a l.length cap] 22)).alloc (.cells #[.func (.func gn) #[] cs] 33))) := (((Below.refl _ w).alloc (Nat.le_refl _) _).alloc (by simp) _).alloc (by simp; omega) _
  clear h hG b0 env eg hl
  by_cases h0 : l.length = 0
  · have hl0 : l = [] := List.length_eq_zero_iff.1 h0
    subst hl0
    clear S1
    go_enter Try.func10, Try.ntmps10
    go_wp2_with fail
    go_ret2
    refine ⟨⟨fun L hL => ?_, (fun h => by cases h)⟩, BN.out⟩
    obtain rfl : [] = L := Option.some.inj hL
    exact ⟨_, rfl, Own.nil _ _⟩
  · have hne : ((l.length : Int) == 0) = false := by rw [beq_eq_false_iff_ne]; omega
    clear h0
    unfold boxS staV at *
    rcases hS : rfsF g n l 0 with _ | L
    · rw [hS] at S1
      have S2 := hid (S1.out.mono fun e w' h => h.no)
      have hnil := nil_nil
      clear S1 hS
      go_enter Try.func10, Try.ntmps10
      go_wp2_with fail
      refine S2.out.mono ?_
      rintro e w2 ⟨rfl, hb2⟩
      have HF := hid (B0.out.trans (hb2.mono B0.out.size))
      clear hb2
      go_wp2_with fail
      go_ret2
      exact ⟨⟨(fun L hL => by cases hL), fun _ => rfl⟩, HF.out⟩
    · rw [hS] at S1
      have S2 := hid (S1.out.mono fun e w' h => h.yes)
      have hnil := neq_nil
      clear S1 hS
      go_enter Try.func10, Try.ntmps10
      go_wp2_with fail
      refine S2.out.mono ?_
      rintro e w2 ⟨g2, c2, rfl, ho2, hb2⟩
      have HF := hid (B0.out.trans (hb2.mono B0.out.size))
      have HO := hid (ho2.mono B0.out.size)
      clear hb2 ho2
      go_wp2_with fail
      go_ret2
      refine ⟨⟨fun L' hL => ?_, (fun h => by cases h)⟩, HF.out⟩
      obtain rfl := Option.some.inj hL
      exact ⟨_, rfl, HO.out⟩
end Go.Proofs.Ytjajloefplbkgaa
