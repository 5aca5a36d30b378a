/- SameOrbit's own function. -/
import Derived.Test.YthlmnhcnpffjdaaOrbCQ
import Derived.Test.YthlmnhcnpffjdaaThoseQ
namespace Go.Proofs.Ythlmnhcnpffjdaa
open Go.RowKit

theorem Try.infoSl : (Try.prog.info? 22).map (fun i => (i.zero, i.size, i.bytes)) = some (some (.slice none 0 0), 1, 24) := by kernel_rfl
/-- What is still to be looked at. -/
def rem (m k : Nat) (p : List Nat) (i : Nat) : List (List Nat) := ((List.range m).drop i).flatMap fun x => if x ∈ p then [] else goes m k (p ++ [x])
theorem rem_zero (m k : Nat) (p : List Nat) : goes m (k + 1) p = rem m k p 0 := by unfold rem; rw [List.drop_zero]; rfl
theorem rem_step {m k i : Nat} {p : List Nat} (h : i < m) : rem m k p i = (if i ∈ p then [] else goes m k (p ++ [i])) ++ rem m k p (i + 1) := by
  unfold rem
  rw [range_drop h, List.flatMap_cons]
theorem rem_end (m k : Nat) (p : List Nat) : rem m k p m = [] := by unfold rem; rw [List.drop_of_length_le (by simp)]; rfl
/-- One more is met. -/
def orbF (m : Nat) (l : List Nat) (L : List (List Nat)) (q : List Nat) : List (List Nat) := addU L (renL m q l)
theorem Own.capL {B : Nat} {W : World} {g n c : Nat} {p : List Nat} (h : Own B W (.slice (some ⟨g, 0, none⟩) n c) p) : n ≤ c := by
  have h1 := h.len
  subst h1
  exact h.cap
set_option maxRecDepth 20000 in
set_option maxHeartbeats 4000000 in
theorem orb_ok (w : World) (m : Nat) (v : Value) (l : List Nat) (c : Nat) (hm : m ≤ 8) (hf : Fam m l) (hb : Bas l) (hI : Ints w v (N l)) :
    ∀ (k : Nat) (p : List Nat) (Ls : List (List Nat)) (n : Nat) (W : World) (vP vL : Value), p.length + k = m → Beg m p → OrbT w W m v c vP vL p Ls n → n + (goes m k p).length ≤ 90000 →
      Calls Try.prog 28 #[.pointer (some ⟨c + 2, 0, none⟩), .pointer (some ⟨w.heap.size, 0, none⟩), .pointer (some ⟨c + 1, 0, none⟩), .pointer (some ⟨c, 0, none⟩), .pointer (some ⟨c + 3, 0, none⟩)] W fun e W' =>
        e = .returned (.bool true) ∧ ∃ vP' vL', OrbT w W' m v c vP' vL' p ((goes m k p).foldl (orbF m l) Ls) (n + (goes m k p).length) := by
  intro k
  induction k with
  | zero =>
    intro p Ls n W vP vL hpk hbg hT hn
    have hp : p.length = m := by omega
    rw [show goes m 0 p = [p] from rfl] at hn ⊢
    simp only [List.foldl_cons, List.foldl_nil, List.length_singleton] at hn ⊢
    have T1 := hid (hT.count (n + 1) (Nat.le_succ _))
    have RN := hid (Rename_ok m v vP l p _ hm hf hb (hI.below T1.out.low) (T1.out.op.ints (by omega)) hbg hp)
    have hlD : (renL m p l).length ≤ 256 := fam_len hm (ren_fam m p l)
    obtain ⟨⟨x0, x1⟩, ⟨x2, x3⟩, -, ⟨x4, x5⟩, -⟩ := hT.facts
    obtain ⟨⟨y0, y1⟩, -, -, ⟨y4, y5⟩, -⟩ := T1.out.facts
    have hpm : ((p.length : Int) == (m : Int)) = true := by rw [hp]; simp
    have hfew := hT.few
    obtain ⟨pa, pc, hvp⟩ := ownsRow_form' hT.op
    subst hvp
    obtain ⟨a0, cap, hv, -, -⟩ := hI.nats
    subst hv
    have HTT := hid hT
    have HF : Hid (orbF m l Ls p = addU Ls (renL m p l)) := rfl
    clear hT hbg hp hpk hf hb hI
    generalize renL m p l = D at *
    generalize hW1 : W.setCell ⟨c + 1, 0, none⟩ (.int .i64 ((n + 1 : Nat) : Int)) = W1 at *
    rw [show ((n + 1 : Nat) : Int) = (n : Int) + 1 by omega] at hW1
    go_enter Try.func28, Try.ntmps28
    go_wp2_with fail
    refine RN.out.mono ?_
    rintro e w2 ⟨r, rfl, ho2, hb2⟩
    have b3 : Below w2.heap.size w2 (w2.alloc (.cells #[.int .i64 m, r] 24)) := (Below.refl _ _).alloc (Nat.le_refl _) _
    have hb13 := hb2.trans (b3.mono hb2.size)
    have T3 := hid (T1.out.below hb13)
    have y3 := World.alloc_heap_new w2 (.cells #[.int .i64 m, r] 24)
    have z3 := World.size_alloc w2 (.cells #[.int .i64 m, r] 24)
    have O3 := hid (ho2.below b3)
    have HL := hid (HasLL_ok vL r Ls D m w2.heap.size _ (T3.out.ll.read T3.out.lens) (by omega) y3 (O3.out.ints (by omega)))
    have Y3 := hid y3
    obtain ⟨-, -, -, -, ⟨v4, v5⟩⟩ := T3.out.facts
    obtain ⟨vla, vll, vlc, hvl⟩ : ∃ a n c, vL = .slice a n c := by
      obtain ⟨a, c, e, -⟩ := T3.out.ll.read T3.out.lens
      exact ⟨a, _, c, e⟩
    subst hvl
    have HRB : Hid (∀ g, r.ownBlock = some g → (Value.slice pa p.length pc).ownBlock ≠ some g ∧ (Value.slice vla vll vlc).ownBlock ≠ some g) := fun g hg => by
      have h1 := (World.ownsRow.lt ho2 g hg).1
      refine ⟨fun e => ?_, fun e => ?_⟩
      · have := (World.ownsRow.lt T1.out.op g e).2; omega
      · obtain ⟨us, -, u2, -⟩ := T1.out.ll
        have := (World.ownsRow.lt u2 g e).2; omega
    have htop := T1.out.top
    have hs2 := hb2.size
    obtain ⟨ra, rc, hr2⟩ := ownsRow_form' ho2
    subst hr2
    clear RN ho2 hb2 b3 hb13 y3 x0 x1 x2 x3 x4 x5 y0 y1 y4 y5 hW1
    go_wp2_with fail
    refine HL.out.mono ?_
    rintro e w4 ⟨rfl, hb4⟩
    have T4 := hid (T3.out.below hb4)
    have O4 := hid (O3.out.below hb4)
    have y4 := (hb4.block w2.heap.size (by omega)).trans Y3.out
    obtain ⟨k0, k1⟩ := cells2 y4
    obtain ⟨-, -, -, -, ⟨v6, v7⟩⟩ := T4.out.facts
    have hs4 := hb4.size
    clear HL hb4 T3 O3 Y3 y4 v4 v5
    rcases hq : decide (D ∈ Ls) with _ | _
    · have hnm : D ∉ Ls := by simpa using hq
      have HF2 : Hid (orbF m l Ls p = Ls ++ [D]) := by show _ = _; rw [HF.out]; unfold addU; rw [if_neg hnm]
      obtain ⟨i1, hi1, hz0, hz1, hz2⟩ := info_parts Try.infoSl
      have b5 : Below w4.heap.size w4 (w4.alloc (.cells #[.slice ra D.length rc] 22)) := (Below.refl _ _).alloc (Nat.le_refl _) _
      have T5 := hid (T4.out.below b5)
      have hc5 : (w4.alloc (.cells #[.slice ra D.length rc] 22)).cell? ⟨w4.heap.size, 0, none⟩ = some (.slice ra D.length rc) := (Boxed.new w4 22 _).cell
      have z5 := World.size_alloc w4 (.cells #[.slice ra D.length rc] 22)
      obtain ⟨vs, e1, e2, e3, e4⟩ := T5.out.ll
      have hvs : vs.length ≤ 100000 := by omega
      have ht5 := T5.out.top
      have NX : Hid (∀ v' w', w'.ownsRow (c + 4) 22 1 v' (vs.length + 1) (vs ++ [.slice ra D.length rc]) → (w4.alloc (.cells #[.slice ra D.length rc] 22)).grownBy w' (Value.slice vla vll vlc).ownBlock → (v'.ownBlock = (Value.slice vla vll vlc).ownBlock ∨ v'.ownBlock = some (w4.alloc (.cells #[.slice ra D.length rc] 22)).heap.size) → (w'.cell? ⟨c, 0, none⟩ = some (.slice vla vll vlc) ∧ w'.frozen? ⟨c, 0, none⟩ = false) ∧ Hid (OrbT w (w'.setCell ⟨c, 0, none⟩ v') m (.slice a0 l.length cap) c (.slice pa p.length pc) v' p (Ls ++ [D]) (n + 1))) := fun v' w' h1 h2 h3 => by
        have hsv : Save (fun g => (Value.slice vla vll vlc).ownBlock = some g) (w4.alloc (.cells #[.slice ra D.length rc] 22)) w' := Save.of_grown h2 (fun k e => e)
        have hbl : Boxed w' c 49 (.slice vla vll vlc) := (hsv.block c (by omega) (fun e => by have := (World.ownsRow.lt e2 c e).1; omega)).trans T5.out.bl
        refine ⟨⟨hbl.cell, hbl.frozen⟩, T5.out.push e1 e4 ((O4.out.below b5).mono (by omega)) HRB.out (by omega) (by omega) hsv h1 ?_⟩
        rcases h3 with h3 | h3
        · exact .inl h3
        · exact .inr ⟨_, h3, Nat.le_refl _⟩
      have E1 := hid e1
      clear hnm HF T4 O4 HRB b5 HTT T1 hq e1
      go_wp2_with (at_builtin; refine wpList_app1 rfl (.tmp 29) (.tmp 32) rfl rfl rfl Try.underlying49 hi1 hz0 rfl hz1 (by rw [hz2]; decide) e2 hc5 rfl hvs (by omega) ?_)
      intro v' w' h1 h2 h3
      obtain ⟨⟨q0, q1⟩, HT6⟩ := NX.out v' w' h1 h2 (by rw [World.size_alloc]; exact h3)
      obtain ⟨va, vn, vc, hv'⟩ : ∃ a n c, v' = .slice a n c := by
        rcases h1.2 with ⟨rfl, _⟩ | ⟨g, cap, cur, rfl, _⟩
        · exact ⟨_, _, _, rfl⟩
        · exact ⟨_, _, _, rfl⟩
      subst hv'
      clear h1 h2 h3 NX e2 e3 e4
      go_wp2_with fail
      go_ret
      exact ⟨rfl, _, _, by rw [HF2.out]; exact HT6.out⟩
    · have hmm : D ∈ Ls := by simpa using hq
      have HF2 : Hid (orbF m l Ls p = Ls) := by show _ = _; rw [HF.out]; unfold addU; rw [if_pos hmm]
      clear hmm HF hq HRB HTT
      go_wp2_with fail
      go_ret
      exact ⟨rfl, _, _, by rw [HF2.out]; exact T4.out⟩
  | succ k ih =>
    intro p Ls n W vP vL hpk hbg hT hn
    have hp : p.length < m := by omega
    have hpm : ((p.length : Int) == (m : Int)) = false := by rw [beq_eq_false_iff_ne]; omega
    have hp8 : p.length ≤ 8 := by omega
    rw [rem_zero] at hn ⊢
    obtain ⟨R, HR⟩ : ∃ R, Hid ((rem m k p 0).foldl (orbF m l) Ls = R) := ⟨_, Eq.refl ((rem m k p 0).foldl (orbF m l) Ls)⟩
    obtain ⟨C, HC⟩ : ∃ C, Hid (n + (rem m k p 0).length = C) := ⟨_, Eq.refl (n + (rem m k p 0).length)⟩
    rw [HC.out] at hn
    rw [HR.out, HC.out]
    have IH := hid (fun i Ls n W vP vL (hi : i < m) (hm2 : i ∉ p) hT hn => ih (p ++ [i]) Ls n W vP vL (by rw [List.length_append]; simp only [List.length_singleton]; omega) (hbg.snoc hi hm2) hT hn)
    obtain ⟨i0, hi0, hz0, hz1, hz2⟩ := info_parts Try.infoInt
    obtain ⟨⟨x0, x1⟩, -, -, ⟨x4, x5⟩, -⟩ := hT.facts
    have HT := hid hT
    obtain ⟨pa, pc, hvp⟩ := ownsRow_form' hT.op
    subst hvp
    clear hT ih hbg hpk hf hb hI
    go_enter Try.func28, Try.ntmps28
    go_wp2_with fail
    go_loopw [8, 9, 36] (fun _ _ jx wr => ∃ (i : Nat) (vP' vL' : Value) (Li : List (List Nat)) (ni : Nat), i ≤ m ∧ jx = .int .i64 i ∧ Hid (OrbT w wr m v c vP' vL' p Li ni) ∧ Hid ((rem m k p i).foldl (orbF m l) Li = R) ∧ Hid (ni + (rem m k p i).length = C)) (fun _ _ jx _ => m - (intOf jx).toNat)
    case atStart => exact ⟨0, _, _, Ls, n, Nat.zero_le _, rfl, HT, HR, HC⟩
    case round =>
      obtain ⟨i, vP', vL', Li, ni, hi, rfl, HTr, HRr, HCr⟩ := hrel
      clear HT HR HC x0 x1 x4 x5
      by_cases hlt : i < m
      · have hlt' : (i : Int) < (m : Int) := by omega
        have hmeas : m - (i + 1) < m - i := by omega
        rw [rem_step hlt] at HRr HCr
        obtain ⟨pa2, pc2, hvp⟩ := ownsRow_form' HTr.out.op
        subst hvp
        obtain ⟨-, -, -, ⟨x4, x5⟩, -⟩ := HTr.out.facts
        have C1 := hid (Contains_any _ p i wr (HTr.out.op.ints (by omega)))
        by_cases hmem : i ∈ p
        · rw [show memB i p = true from decide_eq_true hmem] at C1
          rw [if_pos hmem, List.nil_append] at HRr HCr
          clear hmem IH
          go_wp2_with fail
          refine C1.out.mono ?_
          rintro e w' ⟨rfl, hw'⟩
          obtain rfl := hw'.symm
          go_wp2_with fail
          go_roundw
          case rel => exact ⟨i + 1, _, _, Li, ni, hlt, by go_num, HTr, HRr, HCr⟩
          case measure => exact hmeas
        · rw [show memB i p = false from decide_eq_false hmem] at C1
          rw [if_neg hmem, List.foldl_append] at HRr
          rw [if_neg hmem, List.length_append] at HCr
          have hcc := HCr.out
          have I1 := hid (fun Ls n W vP vL hT hn => IH.out i Ls n W vP vL hlt hmem hT hn)
          have b1 : Below wr.heap.size wr (wr.alloc (.cells #[.int .i64 i] 3)) := (Below.refl _ _).alloc (Nat.le_refl _) _
          have T1 := hid (HTr.out.below b1)
          have hc1 : (wr.alloc (.cells #[.int .i64 i] 3)).cell? ⟨wr.heap.size, 0, none⟩ = some (.int .i64 i) := (Boxed.new wr 3 _).cell
          have z1 := World.size_alloc wr (.cells #[.int .i64 i] 3)
          have ht1 := T1.out.top
          have OP1 : Hid ((wr.alloc (.cells #[.int .i64 i] 3)).ownsRow (c + 4) 3 1 (.slice pa2 p.length pc2) p.length (V p)) := T1.out.op
          have NX : Hid (∀ v' w', w'.ownsRow (c + 4) 3 1 v' (p.length + 1) (V p ++ [.int .i64 i]) → (wr.alloc (.cells #[.int .i64 i] 3)).grownBy w' (Value.slice pa2 p.length pc2).ownBlock → (v'.ownBlock = (Value.slice pa2 p.length pc2).ownBlock ∨ v'.ownBlock = some (wr.alloc (.cells #[.int .i64 i] 3)).heap.size) → (w'.cell? ⟨c + 2, 0, none⟩ = some (.slice pa2 p.length pc2) ∧ w'.frozen? ⟨c + 2, 0, none⟩ = false) ∧ Hid (OrbT w (w'.setCell ⟨c + 2, 0, none⟩ v') m v c v' vL' (p ++ [i]) Li ni)) := fun v' w' h1 h2 h3 => by
            have hsv : Save (fun g => (Value.slice pa2 p.length pc2).ownBlock = some g) (wr.alloc (.cells #[.int .i64 i] 3)) w' := Save.of_grown h2 (fun k e => e)
            have hbp : Boxed w' (c + 2) 22 (.slice pa2 p.length pc2) := (hsv.block (c + 2) (by omega) (fun e => by have := (World.ownsRow.lt T1.out.op (c + 2) e).1; omega)).trans T1.out.bp
            refine ⟨⟨hbp.cell, hbp.frozen⟩, T1.out.turn hsv (Own.snoc h1) ?_⟩
            rcases h3 with h3 | h3
            · exact .inl h3
            · exact .inr ⟨_, h3, Nat.le_refl _⟩
          clear hmem IH b1 HCr
          go_wp2_with fail
          refine C1.out.mono ?_
          rintro e w' ⟨rfl, hw'⟩
          obtain rfl := hw'.symm
          clear C1
          go_wp2_with (at_builtin; refine wpList_app1 rfl (.tmp 42) (.tmp 44) rfl rfl rfl Try.underlying22 hi0 hz0 rfl hz1 (by rw [hz2]; decide) OP1.out hc1 rfl (by omega) (by omega) ?_)
          intro v' w' h1 h2 h3
          obtain ⟨⟨q0, q1⟩, HT2⟩ := NX.out v' w' h1 h2 (by rw [World.size_alloc]; exact h3)
          have I2 := hid (I1.out Li ni _ _ _ HT2.out (by omega))
          obtain ⟨va, vn, vc, hv'⟩ : ∃ a n c, v' = .slice a n c := by
            rcases h1.2 with ⟨rfl, _⟩ | ⟨g, cap, cur, rfl, _⟩
            · exact ⟨_, _, _, rfl⟩
            · exact ⟨_, _, _, rfl⟩
          subst hv'
          obtain ⟨-, -, k2, -, -⟩ := HT2.out.facts
          unfold orbV at k2
          clear h1 h2 h3 NX OP1 T1 hc1 I1 HTr x4 x5
          go_wp2_with fail
          refine I2.out.mono ?_
          rintro e w4 ⟨rfl, vP4, vL4, hT4⟩
          obtain ⟨g, gc, hv4⟩ := Go.Joins.ownsRow_form hT4.op (by simp)
          rw [show (p ++ [i]).length = p.length + 1 by simp] at hv4
          subst hv4
          have hcap := hT4.op.capL
          have hof : Own (c + 4) w4 (.slice (some ⟨g, 0, none⟩) p.length gc) p := Own.front (q := [i]) (by have := hT4.op; rwa [show (p ++ [i]).length = p.length + 1 by simp])
          have T5 := hid (hT4.turn (W' := w4) (Save.refl _ _) hof (.inl rfl))
          obtain ⟨-, -, -, ⟨k4, k5⟩, -⟩ := hT4.facts
          have hl1 : p.length ≤ gc := by omega
          have HC5 : Hid ((ni + (goes m k (p ++ [i])).length) + (rem m k p (i + 1)).length = C) := by show _ = _; omega
          clear I2 HT2 hT4 hof k2 q0 q1 hcc hcap
          go_wp2_with fail
          go_roundw
          case rel => exact ⟨i + 1, _, _, _, _, hlt, by go_num, T5, HRr, HC5⟩
          case measure => exact hmeas
      · obtain rfl : i = m := by omega
        have hlt' : ¬ (i : Int) < (i : Int) := by omega
        rw [rem_end] at HRr HCr
        have HR2 : Hid (Li = R) := HRr.out
        have HC2 : Hid (ni = C) := HCr.out
        clear HRr HCr IH
        go_wp2_with fail
        go_ret
        exact ⟨rfl, _, _, by rw [← HR2.out, ← HC2.out]; exact HTr.out⟩
end Go.Proofs.Ythlmnhcnpffjdaa
