/- hall.bar. -/
import Derived.Test.YtjajloefplbkgaaHaBQ
import Derived.Test.YtjajloefplbkgaaPlainAll
import Derived.Test.YtjajloefplbkgaaQBelQ
import Derived.Test.YtjajloefplbkgaaRwLQ
namespace Go.Proofs.Ytjajloefplbkgaa
open Go.RowKit

theorem rk_later {w w2 : World} {rb roff T rcap : Nat} {r : Nat → Nat} (h : RkAt w (.slice (some ⟨rb, roff, none⟩) T rcap) T r) (hb : Below w.heap.size w w2) {i : Nat} (hi : i < T) : ∀ x : Later w2, x.now.cell? ⟨rb, roff + i, none⟩ = some (.int .i64 (r i : Nat)) := fun x => by
  have hbx : Below w.heap.size w x.now := hb.trans (x.kept.mono hb.size)
  obtain ⟨b', off', cp', e, h1, h2⟩ := h.below hbx
  obtain ⟨⟨rfl, rfl⟩, rfl⟩ : (rb = b' ∧ roff = off') ∧ rcap = cp' := by simpa using e
  exact h2 _ hi
/-- What is answered of a bar. -/
def barE : Option Nat → Ending
  | some k => .returned (.tuple #[.int .i64 k, .int .i64 0])
  | none => .returned (.tuple #[.int .i64 0, .int .i64 5])
set_option maxRecDepth 20000 in
set_option maxHeartbeats 2000000 in
theorem bar_any (n t : Nat) (r : Nat → Nat) (u v : Value) (l : List Nat) (w : World) (hn : n ≤ 8) (ht : t < 2 ^ n) (hr8 : ∀ i, i < 2 ^ n → r i ≤ 8) (hk8 : l.length ≤ 8) (hl : ∀ x ∈ l, x < 2 ^ n) (hu : RkAt w u (2 ^ n) r) (h : Ints w v (N l)) :
    Calls Try.prog 34 #[u, .int .i64 t, v] w fun e w' => e = barE (barF r t l) ∧ Below w.heap.size w w' := by
  have hl8 : ∀ x ∈ l, x < 256 := fun x hx => lt256 hn (hl x hx)
  have HU := hid (unions_ok v l w hk8 hl8 h)
  obtain ⟨a, cap, rfl, hlen, _⟩ := h.nats
  have HP : 2 ^ l.length ≤ 256 := Nat.pow_le_pow_right (by decide) (by omega : l.length ≤ 8)
  have HSV : Hid (∀ s, sevL l s < 2 ^ n) := sev_lt (n := n) hl
  have HOR : Hid (∀ s, sevL l s ||| t < 2 ^ n) := fun s => Nat.or_lt_two_pow (HSV.out s) ht
  have HAT : Hid (∀ s, s < 2 ^ l.length → (unT l l.length).getD s 0 = sevL l s) := fun s hs => un_at hs
  have HLN := hid (un_len l l.length)
  have HYES : Hid (∀ k, k < 2 ^ l.length → (∀ j, j < k → barB r t l j = false) → barB r t l k = true → barF r t l = some k) := fun k hk h1 h2 => find_range_step hk h1 h2
  have HNO : Hid ((∀ j, j < 2 ^ l.length → barB r t l j = false) → barF r t l = none) := fun h => find_range_none h
  have HB1 : Hid (∀ s, barB r t l s = decide (r (sevL l s ||| t) < r t + pop s)) := fun s => rfl
  have hT : 2 ^ n ≤ 256 := Nat.pow_le_pow_right (by decide) hn
  have HU2 := hid hu
  obtain ⟨rb, roff, rcap, rfl, -, -⟩ := hu
  clear hl hl8 h
  generalize barF r t l = B at *
  generalize barB r t l = b at *
  generalize sevL l = f at *
  generalize 2 ^ l.length = P at *
  generalize 2 ^ n = T at *
  go_enter Try.func34, Try.ntmps34
  go_wp2_with fail
  refine HU.out.mono ?_
  rintro e W ⟨g, c, rfl, HO, hB⟩
  have HB := hid hB
  have HAC : Hid (AtG W g (unT l l.length)) := AtG.ofOwn (q := []) (by rw [List.append_nil]; exact HO)
  clear HO hB
  go_wp2_with fail
  go_loopw [8, 9, 13] (fun _ _ i wr => ∃ k : Nat, k ≤ P ∧ i = .int .i64 k ∧ (∀ j, j < k → b j = false) ∧ Hid (Below W.heap.size W wr)) (fun _ _ i _ => P - (intOf i).toNat)
  case atStart => exact ⟨0, Nat.zero_le _, rfl, fun _ h => absurd h (Nat.not_lt_zero _), Below.refl _ _⟩
  case round =>
    obtain ⟨k, hk, rfl, hno, HW⟩ := hrel
    have HN := hid hno
    clear hno
    by_cases hlt : k < P
    · have hki : (k : Int) < (P : Int) := by omega
      have q1 := HSV.out k
      have q2 := HOR.out k
      have hor : bits .or .i64 (f k : Nat) (t : Int) = ((f k ||| t : Nat) : Int) := i64_or_nat _ _ (by omega) (by omega)
      have hcl : W.cell? ⟨g, k, none⟩ = some (.int .i64 (f k : Nat)) := by
        have := HAC.out.2 k (by rw [HLN.out]; exact hlt)
        rw [HAT.out k hlt] at this
        exact this
      have x1 := (HW.out.cell (p := ⟨g, k, none⟩) HAC.out.1).trans hcl
      clear hcl
      have cR := rk_later HU2.out (HB.out.trans (HW.out.mono HB.out.size)) q2
      have cT := rk_later HU2.out (HB.out.trans (HW.out.mono HB.out.size)) ht
      have S1 := hid (fun w => size_any k w (by omega))
      have p1 := pop_le_8 k (by omega)
      have z1 := hr8 _ q2
      have z2 := hr8 _ ht
      have BB := hid (HB1.out k)
      generalize f k ||| t = o at *
      generalize f k = y at *
      generalize r o = ro at *
      generalize r t = rt at *
      by_cases hless : ro < rt + pop k
      · have hli : (ro : Int) - (rt : Int) < (pop k : Int) := by omega
        have YES := hid (HYES.out k hlt HN.out (by rw [BB.out]; exact decide_eq_true hless))
        go_wp2_with fail
        refine region_later (by kernel_rfl) (by kernel_rfl) ?_
        repeat (go_big_quiet_step ((go_at_call 20; (with_reducible refine (S1.out _).mono ?_); rintro e w' ⟨rfl, rfl⟩; exact ⟨rfl, Later.on _ (Below.refl _ _)⟩)))
        refine wpQuiet_nil ?_
        intro w6' hw'
        obtain ⟨⟨y6, hb6⟩, hw''⟩ := hw'
        dsimp only at hw''
        subst hw''
        have HB6 := hid (HB.out.trans ((HW.out.trans (hb6.mono HW.out.size)).mono HB.out.size))
        clear hb6 cR cT
        go_wp2_with fail
        go_ret2
        exact ⟨by rw [YES.out]; rfl, HB6⟩
      · have hli : ¬ (ro : Int) - (rt : Int) < (pop k : Int) := by omega
        have NO : Hid (b k = false) := by show _ = _; rw [BB.out]; exact decide_eq_false hless
        go_wp2_with fail
        refine region_later (by kernel_rfl) (by kernel_rfl) ?_
        repeat (go_big_quiet_step ((go_at_call 20; (with_reducible refine (S1.out _).mono ?_); rintro e w' ⟨rfl, rfl⟩; exact ⟨rfl, Later.on _ (Below.refl _ _)⟩)))
        refine wpQuiet_nil ?_
        intro w6' hw'
        obtain ⟨⟨y6, hb6⟩, hw''⟩ := hw'
        dsimp only at hw''
        subst hw''
        have HB6 := hid (HW.out.trans (hb6.mono HW.out.size))
        clear hb6 cR cT
        have FIN : Hid (∀ j, j < k + 1 → b j = false) := fun j hj => by
          by_cases e : j = k
          · rw [e]; exact NO.out
          · exact HN.out j (by omega)
        go_wp2_with fail
        go_roundw
        case rel => exact ⟨k + 1, by omega, by go_num, FIN.out, HB6⟩
        case measure => simp [intOf]; omega
    · obtain rfl : k = P := by omega
      have NO := hid (HNO.out HN.out)
      have HB6 := hid (HB.out.trans (HW.out.mono HB.out.size))
      go_wp2_with fail
      go_ret2
      exact ⟨by rw [NO.out]; rfl, HB6⟩
end Go.Proofs.Ytjajloefplbkgaa
