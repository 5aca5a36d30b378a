/- What the document's search for orders holds. -/
import Derived.Test.YthlmnhcnpffjdaaGreatHabWQ
import Derived.Test.YthlmnhcnpffjdaaGreatImgRQ
import Derived.Test.YthlmnhcnpffjdaaGreatStkAQ
import Derived.Deep.RegionHeld3
import Derived.Test.YthlmnhcnpffjdaaGreatEqWQ
namespace Go.Proofs.YthlmnhcnpffjdaaGreat
open Go.RowKit

/-- The three variables that change: p, and what is found. -/
def zOf (bP bO bD : Nat) (g : Nat) : Prop := g = bP ∨ g = bO ∨ g = bD
structure OrS (W0 : World) (bP bO bD : Nat) (W : World) (vP : Value) (p : List Nat) (s : Option (List Nat)) : Prop where
  sv : Save (zOf bP bO bD) W0 W
  bp : Boxed W bP 22 vP
  op : Own W0.heap.size W vP p
  bd : Boxed W bD 4 (.bool s.isSome)
  bo : ∃ r, Boxed W bO 22 r ∧ Own W0.heap.size W r (s.getD []) ∧ ∀ g, r.ownBlock = some g → vP.ownBlock ≠ some g
variable {W0 W W' : World} {bP bO bD : Nat} {vP vP' : Value} {p p' : List Nat} {s : Option (List Nat)}
theorem OrS.below (h : OrS W0 bP bO bD W vP p s) (hb : Below W.heap.size W W') : OrS W0 bP bO bD W' vP p s := by
  obtain ⟨r, h1, h2, h3⟩ := h.bo
  exact ⟨h.sv.trans (Save.of_below hb), (hb.block _ h.bp.lt).trans h.bp, h.op.below hb, (hb.block _ h.bd.lt).trans h.bd, r, (hb.block _ h1.lt).trans h1, h2.below hb, h3⟩
/-- p is another slice now. -/
theorem OrS.turn (h : OrS W0 bP bO bD W vP p s) (hP : bP < W0.heap.size) (hne : bP ≠ bO ∧ bP ≠ bD) (hO : bO < W0.heap.size ∧ bD < W0.heap.size) (hs : Save (fun g => vP.ownBlock = some g) W W') (ho : Own W0.heap.size W' vP' p') (hb : vP'.ownBlock = vP.ownBlock ∨ ∃ g, vP'.ownBlock = some g ∧ W.heap.size ≤ g) : OrS W0 bP bO bD (W'.setCell ⟨bP, 0, none⟩ vP') vP' p' s := by
  have hge : ∀ g, vP.ownBlock = some g → W0.heap.size ≤ g := fun g hg => (World.ownsRow.lt h.op g hg).1
  have hs2 := save_one W' bP vP'
  obtain ⟨r, h1, h2, h3⟩ := h.bo
  have hk : ∀ k, k < W0.heap.size → W'.heap[k]? = W.heap[k]? := fun k hk => hs.block k (Nat.lt_of_lt_of_le hk h.sv.size) (fun e => by have := hge k e; omega)
  have hr2 : ∀ g, r.ownBlock = some g → vP'.ownBlock ≠ some g := fun g hg e => by
    rcases hb with hb | ⟨g2, hb, hg2⟩
    · exact h3 g hg (by rw [← hb]; exact e)
    · rw [hb] at e
      cases e
      have := (World.ownsRow.lt h2 g hg).2
      omega
  refine ⟨(h.sv.andThen hs (fun i hi e => by have := hge i e; omega)).andThen hs2 (fun i hi e => .inl e), Boxed.set vP' ((hk _ hP).trans h.bp), ho.saveV2 hs2 (fun g hg e => by have := (World.ownsRow.lt ho g hg).1; omega), (setC_other W' _ (fun e => hne.2 e.symm)).trans ((hk _ hO.2).trans h.bd), r, (setC_other W' _ (fun e => hne.1 e.symm)).trans ((hk _ hO.1).trans h1), ?_, hr2⟩
  exact (h2.saveV2 hs (fun g hg e => h3 g hg e)).saveV2 hs2 (fun g hg e => by have := (World.ownsRow.lt h2 g hg).1; omega)
/-- An order is found. -/
theorem OrS.found (h : OrS W0 bP bO bD W vP p s) (_hP : bP < W0.heap.size) (hne : bP ≠ bO ∧ bP ≠ bD ∧ bO ≠ bD) (hO : bO < W0.heap.size ∧ bD < W0.heap.size) {r : Value} (hg : W.grownBy W' none) (hr : Own W.heap.size W' r p) : OrS W0 bP bO bD ((W'.setCell ⟨bO, 0, none⟩ r).setCell ⟨bD, 0, none⟩ (.bool true)) vP p (some p) := by
  have hb := grown_below hg
  have h' := h.below hb
  have s1 := save_one W' bO r
  have s2 := save_one (W'.setCell ⟨bO, 0, none⟩ r) bD (.bool true)
  have hrl : Own W0.heap.size W' r p := hr.mono h.sv.size
  refine ⟨(h'.sv.andThen s1 (fun i hi e => .inr (.inl e))).andThen s2 (fun i hi e => .inr (.inr e)), (setC_other _ _ hne.2.1).trans ((setC_other _ _ hne.1).trans h'.bp), (h'.op.saveV2 s1 (fun g hg e => by have := (World.ownsRow.lt h'.op g hg).1; omega)).saveV2 s2 (fun g hg e => by have := (World.ownsRow.lt h'.op g hg).1; omega), ?_, r, ?_, (hrl.saveV2 s1 (fun g hg e => by have := (World.ownsRow.lt hrl g hg).1; omega)).saveV2 s2 (fun g hg e => by have := (World.ownsRow.lt hrl g hg).1; omega), fun g hg e => ?_⟩
  · exact Boxed.set _ ((setC_other W' r (fun e => hne.2.2 e.symm)).trans h'.bd)
  · obtain ⟨r0, h1, _⟩ := h'.bo
    exact (setC_other _ _ hne.2.2).trans (Boxed.set r h1)
  · have h1 := (World.ownsRow.lt hr g hg).1
    have h2 := (World.ownsRow.lt h.op g e).2
    omega
set_option maxRecDepth 20000 in
set_option maxHeartbeats 1000000 in
theorem isoRF_ok (h : OrS W0 bP bO bD W vP p s) (hP : bP < W0.heap.size) (hne : bP ≠ bO ∧ bP ≠ bD ∧ bO ≠ bD) (hO : bO < W0.heap.size ∧ bD < W0.heap.size) (hl : p.length ≤ 8) :
    Calls Tryz.prog 32 #[vP, .pointer (some ⟨bO, 0, none⟩), .pointer (some ⟨bD, 0, none⟩)] W fun e W' => e = .returned (.bool false) ∧ OrS W0 bP bO bD W' vP p (some p) := by
  have FD := hid (fun (r : Value) (W' : World) (hg : W.grownBy W' none) (hr : Own W.heap.size W' r p) => h.found hP hne hO hg hr)
  have HO := hid h.op
  have FC : Hid (∀ r W', W.grownBy W' none → (W'.cell? ⟨bO, 0, none⟩ ≠ none ∧ W'.frozen? ⟨bO, 0, none⟩ = false) ∧ (∃ x, (W'.setCell ⟨bO, 0, none⟩ r).cell? ⟨bD, 0, none⟩ = some x) ∧ (W'.setCell ⟨bO, 0, none⟩ r).frozen? ⟨bD, 0, none⟩ = false ∧ ∃ x, W'.cell? ⟨bO, 0, none⟩ = some x) := fun r W' hg => by
    have h' := h.below (grown_below hg)
    obtain ⟨r0, h1, _⟩ := h'.bo
    have h2 : Boxed (W'.setCell ⟨bO, 0, none⟩ r) bD 4 (.bool s.isSome) := (setC_other W' r (fun e => hne.2.2 e.symm)).trans h'.bd
    exact ⟨⟨by rw [h1.cell]; simp, h1.frozen⟩, ⟨_, h2.cell⟩, h2.frozen, ⟨_, h1.cell⟩⟩
  obtain ⟨pa, pc, hvp⟩ := ownsRow_form' h.op
  subst hvp
  clear h
  go_enter Tryz.func32, Tryz.ntmps32
  go_wp2_with (at_builtin; refine wpList_copy rfl (.tmp 5) rfl rfl HO.out hl ?_)
  intro r w2 hr hg
  obtain ⟨-, ⟨x1, k1⟩, k2, ⟨x0, k0⟩⟩ := FC.out r w2 hg
  obtain ⟨⟨-, k3⟩, -⟩ := FC.out r w2 hg
  have E := hid (FD.out r w2 hg hr)
  obtain ⟨ra, rc, hr2⟩ := ownsRow_form' hr
  subst hr2
  clear FC FD hr hg
  go_wp2_with fail
  go_ret
  exact ⟨rfl, E.out⟩
end Go.Proofs.YthlmnhcnpffjdaaGreat

namespace Go.Proofs.YthlmnhcnpffjdaaGreat
open Go.RowKit

/-- Where the search's variables lie. -/
structure Bks where
  p : Nat
  a : Nat
  s : Nat
  d : Nat
  b : Nat
  x : Nat
  y : Nat
  f : Nat
  o : Nat
  e : Nat
  g : Nat
def Bks.fn (B : Bks) : Value := .func (.func 55) #[] #[.pointer (some ⟨B.p, 0, none⟩), .pointer (some ⟨B.a, 0, none⟩), .pointer (some ⟨B.s, 0, none⟩), .pointer (some ⟨B.d, 0, none⟩), .pointer (some ⟨B.b, 0, none⟩), .pointer (some ⟨B.x, 0, none⟩), .pointer (some ⟨B.y, 0, none⟩), .pointer (some ⟨B.f, 0, none⟩)]
def Bks.dov (B : Bks) : Value := .func (.func 32) #[] #[.pointer (some ⟨B.o, 0, none⟩), .pointer (some ⟨B.e, 0, none⟩)]
/-- What is read, wherever the search stands. -/
structure Rds (B : Bks) (m : Nat) (v : Value) (l l' : List Nat) (vX vY : Value) (HA HB : List (List Nat)) (W : World) : Prop where
  a0 : W.cell? ⟨B.a, 0, none⟩ = some (.int .i64 m)
  a1 : W.cell? ⟨B.a, 1, none⟩ = some v
  b0 : W.cell? ⟨B.b, 0, none⟩ = some (.int .i64 m)
  d0 : W.cell? ⟨B.d, 0, none⟩ = some B.dov
  f0 : W.cell? ⟨B.f, 0, none⟩ = some B.fn
  x0 : W.cell? ⟨B.x, 0, none⟩ = some vX
  y0 : W.cell? ⟨B.y, 0, none⟩ = some vY
  lx : LLr W vX HA
  ly : LLr W vY HB
  s0 : W.cell? ⟨B.s, 0, none⟩ = some (.slice (some ⟨B.g, 0, none⟩) (2 ^ m) (2 ^ m))
  st : ∀ t, t < 2 ^ m → W.cell? ⟨B.g, t, none⟩ = some (.int .i64 (if t ∈ l' then 1 else 0))
  iv : Ints W v (N l)
/-- Is it all? -/
def dorN (l l' : List Nat) (s : Option (List Nat)) (p : List Nat) : Bool × Option (List Nat) := if allB l l' p = true then (false, some p) else (true, s)
theorem allB_drop {l l' p : List Nat} {i : Nat} (h : i < l.length) : ((l.drop i).all fun b => memB (image p b) l') = (memB (image p (l.getD i 0)) l' && (l.drop (i + 1)).all fun b => memB (image p b) l') := by
  rw [List.drop_eq_getElem_cons h, List.all_cons]
  simp [List.getD, h]
set_option maxRecDepth 20000 in
set_option maxHeartbeats 4000000 in
theorem dor_leaf (B : Bks) (W0 : World) (m : Nat) (v : Value) (l l' : List Nat) (vX vY : Value) (HA HB : List (List Nat)) (hm : m ≤ 8) (hf : Fam m l)
    (hP : B.p < W0.heap.size) (hne : B.p ≠ B.o ∧ B.p ≠ B.e ∧ B.o ≠ B.e) (hO : B.o < W0.heap.size ∧ B.e < W0.heap.size) (RD : ∀ W, Save (zOf B.p B.o B.e) W0 W → Rds B m v l l' vX vY HA HB W)
    (p : List Nat) (s : Option (List Nat)) (W : World) (vP : Value) (hp : p.length = m) (hbg : Beg m p) (hS : OrS W0 B.p B.o B.e W vP p s) :
    Calls Tryz.prog 55 #[.pointer (some ⟨B.p, 0, none⟩), .pointer (some ⟨B.a, 0, none⟩), .pointer (some ⟨B.s, 0, none⟩), .pointer (some ⟨B.d, 0, none⟩), .pointer (some ⟨B.b, 0, none⟩), .pointer (some ⟨B.x, 0, none⟩), .pointer (some ⟨B.y, 0, none⟩), .pointer (some ⟨B.f, 0, none⟩)] W fun e W' =>
      e = .returned (.bool (dorN l l' s p).1) ∧ OrS W0 B.p B.o B.e W' vP p (dorN l l' s p).2 := by
  have HRD := hid RD
  have HS := hid hS
  have hpm : ((p.length : Int) == (m : Int)) = true := by rw [hp]; simp
  have hp8 : p.length ≤ 8 := by omega
  have IM := hid (fun vP W' s (h : Ints W' vP (N p)) (hs : s < 2 ^ m) => ImageR_any vP p s W' h hp8 (by rw [hp]; exact hs) (fun i => by
    by_cases hi : i < p.length
    · have := hbg.at hi; omega
    · simp [List.getD, List.getElem?_eq_none (show p.length ≤ i by omega)]))
  have HIL : Hid (∀ b, image p b < 2 ^ m) := fun b => hbg.image_lt b
  have HLT : Hid (∀ b ∈ l, b < 2 ^ m) := hf.lt
  have hll := fam_len hm hf
  have hT := (pow_wrap m hm).2
  have DO := hid (fun W' (h : OrS W0 B.p B.o B.e W' vP p s) => isoRF_ok h hP hne hO hp8)
  have HAB : Hid (allB l l' p = (l.drop 0).all fun b => memB (image p b) l') := by show _ = _; rw [List.drop_zero]; rfl
  obtain ⟨r0, r1, -, -, -, -, -, -, -, -, -, -⟩ := RD W hS.sv
  have k0 := hS.bp.cell
  obtain ⟨pa, pc, hvp⟩ := ownsRow_form' hS.op
  subst hvp
  have HNN : Hid (dorN l l' s p = if allB l l' p = true then (false, some p) else (true, s)) := rfl
  obtain ⟨a0, cap, hv, -, -⟩ := (RD W hS.sv).iv.nats
  subst hv
  clear RD hS hbg hf hp
  generalize dorN l l' s p = DN at *
  generalize allB l l' p = AB at *
  go_enter Tryz.func55, Tryz.ntmps55
  go_wp2_with fail
  go_loopw [9] (fun jx wr => ∃ i : Nat, i ≤ l.length ∧ jx = .int .i64 i ∧ Hid (OrS W0 B.p B.o B.e wr (.slice pa p.length pc) p s) ∧ Hid (AB = (l.drop i).all fun b => memB (image p b) l')) (fun jx _ => l.length - (intOf jx).toNat)
  case atStart => exact ⟨0, Nat.zero_le _, rfl, HS, HAB⟩
  case round =>
    obtain ⟨i, hi, rfl, HSr, HAr⟩ := hrel
    clear HS HAB r0 r1 k0
    have hR := HRD.out wr HSr.out.sv
    obtain ⟨r0, r1, r2, r3, -, -, -, -, -, r9, r10, r11⟩ := id hR
    have k0 := HSr.out.bp.cell
    by_cases hlt : i < l.length
    · have hlt' : (i : Int) < (l.length : Int) := by omega
      have hmeas : l.length - (i + 1) < l.length - i := by omega
      obtain ⟨a2, c2, e2, -, hcc⟩ := r11.nats
      obtain ⟨rfl, rfl⟩ : a0 = a2 ∧ cap = c2 := by simpa using e2
      obtain ⟨lb, lo, rfl, hlb, hcell⟩ := hcc (by omega)
      have cL := hcell i hlt
      have hbT := HLT.out _ (show l.getD i 0 ∈ l by simp [List.getD, hlt])
      rw [allB_drop hlt] at HAr
      have hiT := HIL.out (l.getD i 0)
      have cS := r10 _ hiT
      have hgs := World.block_lt_of_cell? wr _ cS
      have I1 := hid (IM.out _ wr.drew _ (HSr.out.op.ints (by omega) |>.below ((Below.refl _ _).drew)) hbT)
      have TB := hid (fun W' (hb : Below wr.heap.size wr W') => (HRD.out W' (HSr.out.below hb).sv).st _ hiT)
      clear hcell hcc r10 r11 r2 r3 IM HRD hR e2
      generalize l.getD i 0 = b at *
      generalize image p b = ib at *
      have hib : (ib : Int) < ((2 ^ m : Nat) : Int) := by omega
      generalize 2 ^ m = T at *
      by_cases hmem : ib ∈ l'
      · have HA2 : Hid (AB = (l.drop (i + 1)).all fun b => memB (image p b) l') := by show _ = _; rw [HAr.out, show memB ib l' = true from decide_eq_true hmem, Bool.true_and]
        have cS2 : wr.cell? ⟨B.g, ib, none⟩ = some (.int .i64 1) := by rw [cS, if_pos hmem]
        clear cS
        go_wp2_with fail
        go_region_held3 (fun w' => w'.cell? ⟨B.s, 0, none⟩ = some (.slice (some ⟨B.g, 0, none⟩) T T) ∧ w'.cell? ⟨B.p, 0, none⟩ = some (.slice pa p.length pc) ∧ w'.cell? ⟨B.a, 1, none⟩ = some (.slice (some ⟨lb, lo, none⟩) l.length cap) ∧ w'.cell? ⟨lb, lo + i, none⟩ = some (.int .i64 b) ∧ w'.cell? ⟨B.g, ib, none⟩ = some (.int .i64 1)) (go_keep)
         (first
          | (go_at_call 30; refine I1.out.mono ?_; rintro e w3 ⟨rfl, hb3⟩; have H3 := hid ((Below.refl wr.heap.size wr).drew.trans hb3); have q0 := (H3.out.cell (p := ⟨B.s, 0, none⟩) (World.block_lt_of_cell? wr _ r9)).trans r9; have q1 := (H3.out.cell (p := ⟨B.p, 0, none⟩) (World.block_lt_of_cell? wr _ k0)).trans k0; have q2 := (H3.out.cell (p := ⟨B.a, 1, none⟩) (World.block_lt_of_cell? wr _ r1)).trans r1; have q3 := (H3.out.cell (p := ⟨lb, lo + i, none⟩) (World.block_lt_of_cell? wr _ cL)).trans cL; have q4 := (H3.out.cell (p := ⟨B.g, ib, none⟩) (World.block_lt_of_cell? wr _ cS2)).trans cS2; clear hb3))
        have S3 := hid (HSr.out.below H3.out)
        clear I1 TB HAr hmem q0 q1 q2 q3 q4
        go_wp2_with fail
        go_roundw
        case rel => exact ⟨i + 1, hlt, by go_num, S3, HA2⟩
        case measure => exact hmeas
      · have HA2 : Hid (AB = false) := by show _ = _; rw [HAr.out, show memB ib l' = false from decide_eq_false hmem, Bool.false_and]
        have HN2 : Hid (DN = (true, s)) := by show _ = _; rw [HNN.out, HA2.out]; rfl
        have cS2 : wr.cell? ⟨B.g, ib, none⟩ = some (.int .i64 0) := by rw [cS, if_neg hmem]
        clear cS
        go_wp2_with fail
        go_region_held3 (fun w' => w'.cell? ⟨B.s, 0, none⟩ = some (.slice (some ⟨B.g, 0, none⟩) T T) ∧ w'.cell? ⟨B.p, 0, none⟩ = some (.slice pa p.length pc) ∧ w'.cell? ⟨B.a, 1, none⟩ = some (.slice (some ⟨lb, lo, none⟩) l.length cap) ∧ w'.cell? ⟨lb, lo + i, none⟩ = some (.int .i64 b) ∧ w'.cell? ⟨B.g, ib, none⟩ = some (.int .i64 0)) (go_keep)
         (first
          | (go_at_call 30; refine I1.out.mono ?_; rintro e w3 ⟨rfl, hb3⟩; have H3 := hid ((Below.refl wr.heap.size wr).drew.trans hb3); have q0 := (H3.out.cell (p := ⟨B.s, 0, none⟩) (World.block_lt_of_cell? wr _ r9)).trans r9; have q1 := (H3.out.cell (p := ⟨B.p, 0, none⟩) (World.block_lt_of_cell? wr _ k0)).trans k0; have q2 := (H3.out.cell (p := ⟨B.a, 1, none⟩) (World.block_lt_of_cell? wr _ r1)).trans r1; have q3 := (H3.out.cell (p := ⟨lb, lo + i, none⟩) (World.block_lt_of_cell? wr _ cL)).trans cL; have q4 := (H3.out.cell (p := ⟨B.g, ib, none⟩) (World.block_lt_of_cell? wr _ cS2)).trans cS2; clear hb3))
        have S3 := hid (HSr.out.below H3.out)
        clear I1 TB HAr hmem q0 q1 q2 q3 q4 HA2
        go_wp2_with fail
        go_ret
        exact ⟨by rw [HN2.out]; rfl, by rw [HN2.out]; exact S3.out⟩
    · obtain rfl : i = l.length := by omega
      have hlt' : ¬ ((l.length : Nat) : Int) < ((l.length : Nat) : Int) := by omega
      have HA2 : Hid (AB = true) := by show _ = _; rw [HAr.out, List.drop_of_length_le (Nat.le_refl _)]; rfl
      have HN2 : Hid (DN = (false, some p)) := by show _ = _; rw [HNN.out, HA2.out]; rfl
      have D1 := hid (DO.out wr HSr.out)
      unfold Bks.dov at r3
      clear HAr HA2 HNN DO IM HRD r9 r10 r11
      go_wp2_with fail
      refine D1.out.mono ?_
      rintro e w3 ⟨rfl, hS3⟩
      have S3 := hid hS3
      clear hS3 D1
      go_wp2_with fail
      go_ret
      exact ⟨by rw [HN2.out]; rfl, by rw [HN2.out]; exact S3.out⟩
end Go.Proofs.YthlmnhcnpffjdaaGreat

namespace Go.Proofs.YthlmnhcnpffjdaaGreat
open Go.RowKit

theorem habF_snoc (cA cB : List Nat) (p : List Nat) (x : Nat) : habF cA cB (p ++ [x]) = (hab cA p.length == hab cB x) := by
  unfold habF
  rw [show (p ++ [x]).length - 1 = p.length by simp, show (p ++ [x]).getD p.length 0 = x by simp [List.getD]]
theorem getD_range {f : Nat → List Nat} {m i : Nat} (h : i < m) : ((List.range m).map f).getD i [] = f i := by simp [List.getD, h]
set_option maxRecDepth 20000 in
set_option maxHeartbeats 4000000 in
theorem dor_ok (B : Bks) (W0 : World) (m : Nat) (v : Value) (l l' : List Nat) (vX vY : Value) (cA cB : List Nat) (hm : m ≤ 8) (hf : Fam m l)
    (hP : B.p < W0.heap.size) (hne : B.p ≠ B.o ∧ B.p ≠ B.e ∧ B.o ≠ B.e) (hO : B.o < W0.heap.size ∧ B.e < W0.heap.size) (RD : ∀ W, Save (zOf B.p B.o B.e) W0 W → Rds B m v l l' vX vY ((List.range m).map (hab cA)) ((List.range m).map (hab cB)) W) :
    ∀ (k : Nat) (p : List Nat) (s : Option (List Nat)) (W : World) (vP : Value), p.length + k = m → Beg m p → OrS W0 B.p B.o B.e W vP p s →
      Calls Tryz.prog 55 #[.pointer (some ⟨B.p, 0, none⟩), .pointer (some ⟨B.a, 0, none⟩), .pointer (some ⟨B.s, 0, none⟩), .pointer (some ⟨B.d, 0, none⟩), .pointer (some ⟨B.b, 0, none⟩), .pointer (some ⟨B.x, 0, none⟩), .pointer (some ⟨B.y, 0, none⟩), .pointer (some ⟨B.f, 0, none⟩)] W fun e W' =>
        e = .returned (.bool (walkO (fun _ => habF cA cB) (dorN l l') m k s p).1) ∧ ∃ vP', OrS W0 B.p B.o B.e W' vP' p (walkO (fun _ => habF cA cB) (dorN l l') m k s p).2 := by
  intro k
  induction k with
  | zero =>
    intro p s W vP hpk hbg hS
    refine (dor_leaf B W0 m v l l' vX vY _ _ hm hf hP hne hO RD p s W vP (by omega) hbg hS).mono ?_
    rintro e W' ⟨rfl, h⟩
    exact ⟨rfl, vP, h⟩
  | succ k ih =>
    intro p s W vP hpk hbg hS
    have hp : p.length < m := by omega
    have hpm : ((p.length : Int) == (m : Int)) = false := by rw [beq_eq_false_iff_ne]; omega
    have hp8 : p.length ≤ 8 := by omega
    rw [walk_succ]
    obtain ⟨R, HR⟩ : ∃ R, Hid (loopO (goStep (fun _ => habF cA cB) (dorN l l') m k p) ((List.range m).drop 0) s = R) := ⟨_, Eq.refl (loopO (goStep (fun _ => habF cA cB) (dorN l l') m k p) ((List.range m).drop 0) s)⟩
    rw [HR.out]
    have IH := hid (fun i s W vP (hi : i < m) (hm2 : i ∉ p) hS => ih (p ++ [i]) s W vP (by rw [List.length_append]; simp only [List.length_singleton]; omega) (hbg.snoc hi hm2) hS)
    obtain ⟨i0, hi0, hz0, hz1, hz2⟩ := info_parts Tryz.infoInt
    obtain ⟨r0, r1, r2, r3, r4, r5, r6, r7, r8, -, -, -⟩ := RD W hS.sv
    have k0 := hS.bp.cell
    have HS := hid hS
    have HRD := hid RD
    obtain ⟨pa, pc, hvp⟩ := ownsRow_form' hS.op
    subst hvp
    clear hS ih hbg hpk hf RD
    go_enter Tryz.func55, Tryz.ntmps55
    go_wp2_with fail
    go_loopw [10, 11] (fun jx _ wr => ∃ (i : Nat) (vP' : Value) (sc : Option (List Nat)), i ≤ m ∧ jx = .int .i64 i ∧ Hid (OrS W0 B.p B.o B.e wr vP' p sc) ∧ Hid (loopO (goStep (fun _ => habF cA cB) (dorN l l') m k p) ((List.range m).drop i) sc = R)) (fun jx _ _ => m - (intOf jx).toNat)
    case atStart => exact ⟨0, _, s, Nat.zero_le _, rfl, HS, HR⟩
    case round =>
      obtain ⟨i, vP', sc, hi, rfl, HSr, HLr⟩ := hrel
      clear HS HR r0 r1 r2 r3 r4 r5 r6 r7 r8 k0
      obtain ⟨pa2, pc2, hvp⟩ := ownsRow_form' HSr.out.op
      subst hvp
      obtain ⟨-, -, r2, -, r4, r5, r6, r7, r8, -, -, -⟩ := HRD.out wr HSr.out.sv
      have k0 := HSr.out.bp.cell
      have k1 := HSr.out.bp.frozen
      by_cases hlt : i < m
      · have hlt' : (i : Int) < (m : Int) := by omega
        have hmeas : m - (i + 1) < m - i := by omega
        rw [range_drop hlt, loopO] at HLr
        obtain ⟨xa, xc, rfl, hx1⟩ := r7
        obtain ⟨ya, yc, rfl, hy1⟩ := r8
        obtain ⟨gx, rfl, hgx, hx2⟩ := hx1 (by simp; omega)
        obtain ⟨gy, rfl, hgy, hy2⟩ := hy1 (by simp; omega)
        obtain ⟨ux, cx, ix⟩ := hx2 p.length (by simpa using hp)
        obtain ⟨uy, cy, iy⟩ := hy2 i (by simpa using hlt)
        rw [getD_range hp] at ix
        rw [getD_range hlt] at iy
        have C1 := hid (fun n => Contains_any _ p i (wr.drewN n) ((HSr.out.op.ints (by omega)).below (drewN_below _ _ _)))
        have E1 := hid (fun n => Equal_q ux uy _ _ (wr.drewN n) (ix.below (drewN_below _ _ _)) (iy.below (drewN_below _ _ _)))
        have hde : decide (N (hab cA p.length) = N (hab cB i)) = (hab cA p.length == hab cB i) := by
          rw [Bool.eq_iff_iff, decide_eq_true_eq, beq_iff_eq]
          exact ⟨N_injO, fun e => by rw [e]⟩
        rw [hde] at E1
        obtain ⟨uxa, uxc, rfl, -, -⟩ := ix
        obtain ⟨uya, uyc, rfl, -, -⟩ := iy
        rw [List.length_map, List.length_range] at *
        have hplt : (p.length : Int) < (m : Int) := by omega
        clear hx1 hx2 hy1 hy2 hde
        by_cases hmem : i ∈ p
        · rw [show memB i p = true from decide_eq_true hmem] at C1
          have HL2 : Hid (loopO (goStep (fun _ => habF cA cB) (dorN l l') m k p) ((List.range m).drop (i + 1)) sc = R) := by
            show _ = _
            rw [← HLr.out, show goStep (fun _ => habF cA cB) (dorN l l') m k p sc i = (true, sc) from if_pos hmem]
            rfl
          clear HLr hmem IH E1 HRD
          go_wp2_with fail
          go_quiet ((go_at_call 23; refine (C1.out _).mono ?_; rintro e w' ⟨rfl, rfl⟩; exact ⟨rfl, _, rfl⟩))
          have S2 := hid (HSr.out.below (drewN_below _ _ nq))
          go_wp2_with fail
          go_roundw
          case rel => exact ⟨i + 1, _, sc, hlt, by go_num, S2, HL2⟩
          case measure => exact hmeas
        · rw [show memB i p = false from decide_eq_false hmem] at C1
          have HGS : Hid (goStep (fun _ => habF cA cB) (dorN l l') m k p sc i = if (hab cA p.length == hab cB i) = true then walkO (fun _ => habF cA cB) (dorN l l') m k sc (p ++ [i]) else (true, sc)) := by
            show _ = _
            rw [show goStep (fun _ => habF cA cB) (dorN l l') m k p sc i = if habF cA cB (p ++ [i]) = true then walkO (fun _ => habF cA cB) (dorN l l') m k sc (p ++ [i]) else (true, sc) from if_neg hmem, habF_snoc]
          have I1 := hid (fun s W vP hS => IH.out i s W vP hlt hmem hS)
          clear hmem IH
          rcases hq : hab cA p.length == hab cB i with _ | _
          · rw [hq] at E1 HGS
            have HL2 : Hid (loopO (goStep (fun _ => habF cA cB) (dorN l l') m k p) ((List.range m).drop (i + 1)) sc = R) := by
              show _ = _
              rw [← HLr.out, HGS.out]
              rfl
            clear HLr I1 HGS hq HRD
            go_wp2_with fail
            go_quiet ((first | (go_at_call 23; refine (C1.out _).mono ?_; rintro e w' ⟨rfl, rfl⟩; exact ⟨rfl, _, rfl⟩) | (go_at_call 56; refine (E1.out _).mono ?_; rintro e w' ⟨rfl, k, rfl⟩; exact ⟨rfl, _, World.drewN_drewN _ _ _⟩)))
            have S2 := hid (HSr.out.below (drewN_below _ _ nq))
            go_wp2_with fail
            go_roundw
            case rel => exact ⟨i + 1, _, sc, hlt, by go_num, S2, HL2⟩
            case measure => exact hmeas
          · rw [hq] at E1 HGS
            rw [HGS.out, if_pos rfl] at HLr
            clear HGS hq
            go_wp2_with fail
            go_quiet ((first | (go_at_call 23; refine (C1.out _).mono ?_; rintro e w' ⟨rfl, rfl⟩; exact ⟨rfl, _, rfl⟩) | (go_at_call 56; refine (E1.out _).mono ?_; rintro e w' ⟨rfl, k, rfl⟩; exact ⟨rfl, _, World.drewN_drewN _ _ _⟩)))
            have S2 := hid (HSr.out.below (drewN_below _ _ nq))
            generalize wr.drewN nq = W2 at *
            clear HSr C1 E1 r2 r4 r5 r6 hgx hgy cx cy k0 k1
            have k0 := S2.out.bp.cell
            have b1 : Below W2.heap.size W2 (W2.alloc (.cells #[.int .i64 i] 3)) := (Below.refl _ _).alloc (Nat.le_refl _) _
            have T1 := hid (S2.out.below b1)
            have hc1 : (W2.alloc (.cells #[.int .i64 i] 3)).cell? ⟨W2.heap.size, 0, none⟩ = some (.int .i64 i) := (Boxed.new W2 3 _).cell
            have z1 := World.size_alloc W2 (.cells #[.int .i64 i] 3)
            have ht1 := T1.out.sv.size
            have OP1 : Hid ((W2.alloc (.cells #[.int .i64 i] 3)).ownsRow W0.heap.size 3 1 (.slice pa2 p.length pc2) p.length (V p)) := T1.out.op
            have NX : Hid (∀ v' w', w'.ownsRow W0.heap.size 3 1 v' (p.length + 1) (V p ++ [.int .i64 i]) → (W2.alloc (.cells #[.int .i64 i] 3)).grownBy w' (Value.slice pa2 p.length pc2).ownBlock → (v'.ownBlock = (Value.slice pa2 p.length pc2).ownBlock ∨ v'.ownBlock = some (W2.alloc (.cells #[.int .i64 i] 3)).heap.size) → (w'.cell? ⟨B.p, 0, none⟩ = some (.slice pa2 p.length pc2) ∧ w'.frozen? ⟨B.p, 0, none⟩ = false) ∧ Hid (OrS W0 B.p B.o B.e (w'.setCell ⟨B.p, 0, none⟩ v') v' (p ++ [i]) sc)) := fun v' w' h1 h2 h3 => by
              have hsv : Save (fun g => (Value.slice pa2 p.length pc2).ownBlock = some g) (W2.alloc (.cells #[.int .i64 i] 3)) w' := Save.of_grown h2 (fun k e => e)
              have hbp : Boxed w' B.p 22 (.slice pa2 p.length pc2) := (hsv.block B.p (by omega) (fun e => by have := (World.ownsRow.lt T1.out.op B.p e).1; omega)).trans T1.out.bp
              refine ⟨⟨hbp.cell, hbp.frozen⟩, T1.out.turn hP ⟨hne.1, hne.2.1⟩ hO hsv (Own.snoc h1) ?_⟩
              rcases h3 with h3 | h3
              · exact .inl h3
              · exact .inr ⟨_, h3, Nat.le_refl _⟩
            clear b1
            go_wp2_with (at_builtin; refine wpList_app1 rfl (.tmp 60) (.tmp 62) rfl rfl rfl Tryz.underlying22 hi0 hz0 rfl hz1 (by rw [hz2]; decide) OP1.out hc1 rfl (by omega) (by omega) ?_)
            intro v' w' h1 h2 h3
            obtain ⟨⟨q0, q1⟩, HT2⟩ := NX.out v' w' h1 h2 (by rw [World.size_alloc]; exact h3)
            have I2 := hid (I1.out sc _ _ HT2.out)
            obtain ⟨va, vn, vc, hv'⟩ : ∃ a n c, v' = .slice a n c := by
              rcases h1.2 with ⟨rfl, _⟩ | ⟨g, cap, cur, rfl, _⟩
              · exact ⟨_, _, _, rfl⟩
              · exact ⟨_, _, _, rfl⟩
            subst hv'
            have k2 := (HRD.out _ HT2.out.sv).f0
            unfold Bks.fn at k2
            generalize walkO (fun _ => habF cA cB) (dorN l l') m k sc (p ++ [i]) = Y at *
            obtain ⟨Y1, Y2⟩ := Y
            clear h1 h2 h3 NX OP1 T1 hc1 I1 S2 k0
            go_wp2_with fail
            refine I2.out.mono ?_
            rintro e w4 ⟨rfl, vP4, hT4⟩
            obtain ⟨g, gc, hv4⟩ := Go.Joins.ownsRow_form hT4.op (by simp)
            rw [show (p ++ [i]).length = p.length + 1 by simp] at hv4
            subst hv4
            have hcap := hT4.op.capL
            have hof : Own W0.heap.size w4 (.slice (some ⟨g, 0, none⟩) p.length gc) p := Own.front (q := [i]) (by have := hT4.op; rwa [show (p ++ [i]).length = p.length + 1 by simp])
            have T5 := hid (hT4.turn (W' := w4) hP ⟨hne.1, hne.2.1⟩ hO (Save.refl _ _) hof (.inl rfl))
            have k4 := hT4.bp.cell
            have k5 := hT4.bp.frozen
            have hl1 : p.length ≤ gc := by omega
            clear I2 HT2 hT4 hof k2 q0 q1 hcap HRD
            rcases Y1 with _ | _
            · have HR2 : Hid ((false, Y2) = R) := HLr.out
              clear HLr
              go_wp2_with fail
              go_ret
              exact ⟨by rw [← HR2.out]; rfl, _, by rw [← HR2.out]; exact T5.out⟩
            · have HL2 : Hid (loopO (goStep (fun _ => habF cA cB) (dorN l l') m k p) ((List.range m).drop (i + 1)) Y2 = R) := HLr.out
              clear HLr
              go_wp2_with fail
              go_roundw
              case rel => exact ⟨i + 1, _, _, hlt, by go_num, T5, HL2⟩
              case measure => exact hmeas
      · obtain rfl : i = m := by omega
        have hlt' : ¬ (i : Int) < (i : Int) := by omega
        have HL2 : Hid ((true, sc) = R) := by
          show _ = _
          rw [← HLr.out, List.drop_of_length_le (by simp)]
          rfl
        clear HLr IH HRD r7 r8
        go_wp2_with fail
        go_ret
        exact ⟨by rw [← HL2.out]; rfl, _, by rw [← HL2.out]; exact HSr.out⟩
end Go.Proofs.YthlmnhcnpffjdaaGreat
