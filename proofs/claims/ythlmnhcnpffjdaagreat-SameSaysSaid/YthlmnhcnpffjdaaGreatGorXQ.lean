/- rotaref.Orders' own function, whatever function it asks: the leaf. -/
import Derived.Test.YthlmnhcnpffjdaaGreatGorAQ
import Derived.Deep.RegionHeld3
import Derived.Test.YthlmnhcnpffjdaaGreatEqWQ
namespace Go.Proofs.YthlmnhcnpffjdaaGreat
open Go.RowKit

/-- Where the search's variables lie. -/
structure Bkg where
  p : Nat
  a : Nat
  s : Nat
  d : Nat
  b : Nat
  x : Nat
  y : Nat
  f : Nat
  g : Nat
def Bkg.fn (B : Bkg) : Value := .func (.func 55) #[] #[.pointer (some ⟨B.p, 0, none⟩), .pointer (some ⟨B.a, 0, none⟩), .pointer (some ⟨B.s, 0, none⟩), .pointer (some ⟨B.d, 0, none⟩), .pointer (some ⟨B.b, 0, none⟩), .pointer (some ⟨B.x, 0, none⟩), .pointer (some ⟨B.y, 0, none⟩), .pointer (some ⟨B.f, 0, none⟩)]
/-- What is read, wherever the search stands. -/
structure Rdg (B : Bkg) (dv : Value) (m : Nat) (v : Value) (l l' : List Nat) (vX vY : Value) (HA HB : List (List Nat)) (W : World) : Prop where
  a0 : W.cell? ⟨B.a, 0, none⟩ = some (.int .i64 m)
  a1 : W.cell? ⟨B.a, 1, none⟩ = some v
  b0 : W.cell? ⟨B.b, 0, none⟩ = some (.int .i64 m)
  d0 : W.cell? ⟨B.d, 0, none⟩ = some dv
  f0 : W.cell? ⟨B.f, 0, none⟩ = some B.fn
  x0 : W.cell? ⟨B.x, 0, none⟩ = some vX
  y0 : W.cell? ⟨B.y, 0, none⟩ = some vY
  lx : LLr W vX HA
  ly : LLr W vY HB
  s0 : W.cell? ⟨B.s, 0, none⟩ = some (.slice (some ⟨B.g, 0, none⟩) (2 ^ m) (2 ^ m))
  st : ∀ t, t < 2 ^ m → W.cell? ⟨B.g, t, none⟩ = some (.int .i64 (if t ∈ l' then 1 else 0))
  iv : Ints W v (N l)
/-- Is it all? -/
def dorG {σ : Type} (D : DoS σ) (l l' : List Nat) (s : σ) (p : List Nat) : Bool × σ := if allB l l' p = true then D.fnd s p else (true, s)
set_option maxRecDepth 20000 in
set_option maxHeartbeats 4000000 in
theorem gor_leaf {σ : Type} (D : DoS σ) (B : Bkg) (W0 : World) (m : Nat) (v : Value) (l l' : List Nat) (vX vY : Value) (HA HB : List (List Nat)) (hm : m ≤ 8) (hf : Fam m l)
    (K : DoOk D W0 B.p m) (RD : ∀ W, Save (fun k => k = B.p ∨ D.Z k) W0 W → Rdg B (.func (.func D.gf) #[] D.cs) m v l l' vX vY HA HB W)
    (p : List Nat) (s : σ) (W : World) (vP : Value) (hp : p.length = m) (hbg : Beg m p) (hS : OrG D W0 B.p W vP p s) :
    Calls Tryz.prog 55 #[.pointer (some ⟨B.p, 0, none⟩), .pointer (some ⟨B.a, 0, none⟩), .pointer (some ⟨B.s, 0, none⟩), .pointer (some ⟨B.d, 0, none⟩), .pointer (some ⟨B.b, 0, none⟩), .pointer (some ⟨B.x, 0, none⟩), .pointer (some ⟨B.y, 0, none⟩), .pointer (some ⟨B.f, 0, none⟩)] W fun e W' =>
      e = .returned (.bool (dorG D l l' s p).1) ∧ OrG D W0 B.p W' vP p (dorG D l l' s p).2 := by
  have HRD := hid RD
  have HS := hid hS
  have hpm : ((p.length : Int) == (m : Int)) = true := by rw [hp]; simp
  have hp8 : p.length ≤ 8 := by omega
  have IM := hid (fun vP W' s (h : Ints W' vP (N p)) (hs : s < 2 ^ m) => ImageR_any vP p s W' h hp8 (by rw [hp]; exact hs) (fun i => by
    by_cases hi : i < p.length
    · have := hbg.at hi; omega
    · simp [List.getD, List.getElem?_eq_none (show p.length ≤ i by omega)]))
  have HIL : Hid (∀ b, image p b < 2 ^ m) := fun b => hbg.image_lt b
  have HLT : Hid (∀ b ∈ l, b < 2 ^ m) := hf.lt
  have hll := fam_len hm hf
  have hT := (pow_wrap m hm).2
  have DO := hid (fun W' (h : OrG D W0 B.p W' vP p s) => h.asked K hbg hp)
  have HAB : Hid (allB l l' p = (l.drop 0).all fun b => memB (image p b) l') := by show _ = _; rw [List.drop_zero]; rfl
  obtain ⟨r0, r1, -, -, -, -, -, -, -, -, -, -⟩ := RD W hS.sv
  have k0 := hS.bp.cell
  obtain ⟨pa, pc, hvp⟩ := ownsRow_form' hS.op
  subst hvp
  have HNN : Hid (dorG D l l' s p = if allB l l' p = true then D.fnd s p else (true, s)) := rfl
  obtain ⟨a0, cap, hv, -, -⟩ := (RD W hS.sv).iv.nats
  subst hv
  clear RD hS hbg hf hp
  generalize dorG D l l' s p = DN at *
  generalize allB l l' p = AB at *
  go_enter Tryz.func55, Tryz.ntmps55
  go_wp2_with fail
  go_loopw [9] (fun jx wr => ∃ i : Nat, i ≤ l.length ∧ jx = .int .i64 i ∧ Hid (OrG D W0 B.p wr (.slice pa p.length pc) p s) ∧ Hid (AB = (l.drop i).all fun b => memB (image p b) l')) (fun jx _ => l.length - (intOf jx).toNat)
  case atStart => exact ⟨0, Nat.zero_le _, rfl, HS, HAB⟩
  case round =>
    obtain ⟨i, hi, rfl, HSr, HAr⟩ := hrel
    clear HS HAB r0 r1 k0
    have hR := HRD.out wr HSr.out.sv
    obtain ⟨r0, r1, r2, r3, -, -, -, -, -, r9, r10, r11⟩ := id hR
    have k0 := HSr.out.bp.cell
    by_cases hlt : i < l.length
    · have hlt' : (i : Int) < (l.length : Int) := by omega
      have hmeas : l.length - (i + 1) < l.length - i := by omega
      obtain ⟨a2, c2, e2, -, hcc⟩ := r11.nats
      obtain ⟨rfl, rfl⟩ : a0 = a2 ∧ cap = c2 := by simpa using e2
      obtain ⟨lb, lo, rfl, hlb, hcell⟩ := hcc (by omega)
      have cL := hcell i hlt
      have hbT := HLT.out _ (show l.getD i 0 ∈ l by simp [List.getD, hlt])
      rw [allB_drop hlt] at HAr
      have hiT := HIL.out (l.getD i 0)
      have cS := r10 _ hiT
      have hgs := World.block_lt_of_cell? wr _ cS
      have I1 := hid (IM.out _ wr.drew _ (HSr.out.op.ints (by omega) |>.below ((Below.refl _ _).drew)) hbT)
      have TB := hid (fun W' (hb : Below wr.heap.size wr W') => (HRD.out W' (HSr.out.below K.toDoKp hb).sv).st _ hiT)
      clear hcell hcc r10 r11 r2 r3 IM HRD hR e2
      generalize l.getD i 0 = b at *
      generalize image p b = ib at *
      have hib : (ib : Int) < ((2 ^ m : Nat) : Int) := by omega
      generalize 2 ^ m = T at *
      by_cases hmem : ib ∈ l'
      · have HA2 : Hid (AB = (l.drop (i + 1)).all fun b => memB (image p b) l') := by show _ = _; rw [HAr.out, show memB ib l' = true from decide_eq_true hmem, Bool.true_and]
        have cS2 : wr.cell? ⟨B.g, ib, none⟩ = some (.int .i64 1) := by rw [cS, if_pos hmem]
        clear cS
        go_wp2_with fail
        go_region_held3 (fun w' => w'.cell? ⟨B.s, 0, none⟩ = some (.slice (some ⟨B.g, 0, none⟩) T T) ∧ w'.cell? ⟨B.p, 0, none⟩ = some (.slice pa p.length pc) ∧ w'.cell? ⟨B.a, 1, none⟩ = some (.slice (some ⟨lb, lo, none⟩) l.length cap) ∧ w'.cell? ⟨lb, lo + i, none⟩ = some (.int .i64 b) ∧ w'.cell? ⟨B.g, ib, none⟩ = some (.int .i64 1)) (go_keep)
         (first
          | (go_at_call 30; refine I1.out.mono ?_; rintro e w3 ⟨rfl, hb3⟩; have H3 := hid ((Below.refl wr.heap.size wr).drew.trans hb3); have q0 := (H3.out.cell (p := ⟨B.s, 0, none⟩) (World.block_lt_of_cell? wr _ r9)).trans r9; have q1 := (H3.out.cell (p := ⟨B.p, 0, none⟩) (World.block_lt_of_cell? wr _ k0)).trans k0; have q2 := (H3.out.cell (p := ⟨B.a, 1, none⟩) (World.block_lt_of_cell? wr _ r1)).trans r1; have q3 := (H3.out.cell (p := ⟨lb, lo + i, none⟩) (World.block_lt_of_cell? wr _ cL)).trans cL; have q4 := (H3.out.cell (p := ⟨B.g, ib, none⟩) (World.block_lt_of_cell? wr _ cS2)).trans cS2; clear hb3))
        have S3 := hid (HSr.out.below K.toDoKp H3.out)
        clear I1 TB HAr hmem q0 q1 q2 q3 q4
        go_wp2_with fail
        go_roundw
        case rel => exact ⟨i + 1, hlt, by go_num, S3, HA2⟩
        case measure => exact hmeas
      · have HA2 : Hid (AB = false) := by show _ = _; rw [HAr.out, show memB ib l' = false from decide_eq_false hmem, Bool.false_and]
        have HN2 : Hid (DN = (true, s)) := by show _ = _; rw [HNN.out, HA2.out]; rfl
        have cS2 : wr.cell? ⟨B.g, ib, none⟩ = some (.int .i64 0) := by rw [cS, if_neg hmem]
        clear cS
        go_wp2_with fail
        go_region_held3 (fun w' => w'.cell? ⟨B.s, 0, none⟩ = some (.slice (some ⟨B.g, 0, none⟩) T T) ∧ w'.cell? ⟨B.p, 0, none⟩ = some (.slice pa p.length pc) ∧ w'.cell? ⟨B.a, 1, none⟩ = some (.slice (some ⟨lb, lo, none⟩) l.length cap) ∧ w'.cell? ⟨lb, lo + i, none⟩ = some (.int .i64 b) ∧ w'.cell? ⟨B.g, ib, none⟩ = some (.int .i64 0)) (go_keep)
         (first
          | (go_at_call 30; refine I1.out.mono ?_; rintro e w3 ⟨rfl, hb3⟩; have H3 := hid ((Below.refl wr.heap.size wr).drew.trans hb3); have q0 := (H3.out.cell (p := ⟨B.s, 0, none⟩) (World.block_lt_of_cell? wr _ r9)).trans r9; have q1 := (H3.out.cell (p := ⟨B.p, 0, none⟩) (World.block_lt_of_cell? wr _ k0)).trans k0; have q2 := (H3.out.cell (p := ⟨B.a, 1, none⟩) (World.block_lt_of_cell? wr _ r1)).trans r1; have q3 := (H3.out.cell (p := ⟨lb, lo + i, none⟩) (World.block_lt_of_cell? wr _ cL)).trans cL; have q4 := (H3.out.cell (p := ⟨B.g, ib, none⟩) (World.block_lt_of_cell? wr _ cS2)).trans cS2; clear hb3))
        have S3 := hid (HSr.out.below K.toDoKp H3.out)
        clear I1 TB HAr hmem q0 q1 q2 q3 q4 HA2
        go_wp2_with fail
        go_ret
        exact ⟨by rw [HN2.out]; rfl, by rw [HN2.out]; exact S3.out⟩
    · obtain rfl : i = l.length := by omega
      have hlt' : ¬ ((l.length : Nat) : Int) < ((l.length : Nat) : Int) := by omega
      have HA2 : Hid (AB = true) := by show _ = _; rw [HAr.out, List.drop_of_length_le (Nat.le_refl _)]; rfl
      have HN2 : Hid (DN = D.fnd s p) := by show _ = _; rw [HNN.out, HA2.out]; rfl
      have D1 := hid (DO.out wr HSr.out)
      have eg := K.ent
      unfold Enters at eg
      generalize D.fnd s p = FN at *
      clear K
      clear HAr HA2 HNN DO IM HRD r9 r10 r11
      go_wp2_with fail
      refine D1.out.mono ?_
      rintro e w3 ⟨rfl, hS3⟩
      have S3 := hid hS3
      clear hS3 D1
      go_wp2_with fail
      go_ret
      exact ⟨by rw [HN2.out]; rfl, by rw [HN2.out]; exact S3.out⟩
end Go.Proofs.YthlmnhcnpffjdaaGreat

namespace Go.Proofs.YthlmnhcnpffjdaaGreat
open Go.RowKit

set_option maxRecDepth 20000 in
set_option maxHeartbeats 4000000 in
theorem gor_ok {σ : Type} (D : DoS σ) (B : Bkg) (W0 : World) (m : Nat) (v : Value) (l l' : List Nat) (vX vY : Value) (cA cB : List Nat) (hm : m ≤ 8) (hf : Fam m l)
    (hP : B.p < W0.heap.size) (KD : DoOk D W0 B.p m) (RD : ∀ W, Save (fun k => k = B.p ∨ D.Z k) W0 W → Rdg B (.func (.func D.gf) #[] D.cs) m v l l' vX vY ((List.range m).map (hab cA)) ((List.range m).map (hab cB)) W) :
    ∀ (k : Nat) (p : List Nat) (s : σ) (W : World) (vP : Value), p.length + k = m → Beg m p → OrG D W0 B.p W vP p s →
      Calls Tryz.prog 55 #[.pointer (some ⟨B.p, 0, none⟩), .pointer (some ⟨B.a, 0, none⟩), .pointer (some ⟨B.s, 0, none⟩), .pointer (some ⟨B.d, 0, none⟩), .pointer (some ⟨B.b, 0, none⟩), .pointer (some ⟨B.x, 0, none⟩), .pointer (some ⟨B.y, 0, none⟩), .pointer (some ⟨B.f, 0, none⟩)] W fun e W' =>
        e = .returned (.bool (walkO (fun _ => habF cA cB) (dorG D l l') m k s p).1) ∧ ∃ vP', OrG D W0 B.p W' vP' p (walkO (fun _ => habF cA cB) (dorG D l l') m k s p).2 := by
  intro k
  induction k with
  | zero =>
    intro p s W vP hpk hbg hS
    refine (gor_leaf D B W0 m v l l' vX vY _ _ hm hf KD RD p s W vP (by omega) hbg hS).mono ?_
    rintro e W' ⟨rfl, h⟩
    exact ⟨rfl, vP, h⟩
  | succ k ih =>
    intro p s W vP hpk hbg hS
    have hp : p.length < m := by omega
    have hpm : ((p.length : Int) == (m : Int)) = false := by rw [beq_eq_false_iff_ne]; omega
    have hp8 : p.length ≤ 8 := by omega
    rw [walk_succ]
    obtain ⟨R, HR⟩ : ∃ R, Hid (loopO (goStep (fun _ => habF cA cB) (dorG D l l') m k p) ((List.range m).drop 0) s = R) := ⟨_, Eq.refl (loopO (goStep (fun _ => habF cA cB) (dorG D l l') m k p) ((List.range m).drop 0) s)⟩
    rw [HR.out]
    have IH := hid (fun i s W vP (hi : i < m) (hm2 : i ∉ p) hS => ih (p ++ [i]) s W vP (by rw [List.length_append]; simp only [List.length_singleton]; omega) (hbg.snoc hi hm2) hS)
    obtain ⟨i0, hi0, hz0, hz1, hz2⟩ := info_parts Tryz.infoInt
    obtain ⟨r0, r1, r2, r3, r4, r5, r6, r7, r8, -, -, -⟩ := RD W hS.sv
    have k0 := hS.bp.cell
    have HS := hid hS
    have HRD := hid RD
    obtain ⟨pa, pc, hvp⟩ := ownsRow_form' hS.op
    subst hvp
    clear hS ih hbg hpk hf RD
    go_enter Tryz.func55, Tryz.ntmps55
    go_wp2_with fail
    go_loopw [10, 11] (fun jx _ wr => ∃ (i : Nat) (vP' : Value) (sc : σ), i ≤ m ∧ jx = .int .i64 i ∧ Hid (OrG D W0 B.p wr vP' p sc) ∧ Hid (loopO (goStep (fun _ => habF cA cB) (dorG D l l') m k p) ((List.range m).drop i) sc = R)) (fun jx _ _ => m - (intOf jx).toNat)
    case atStart => exact ⟨0, _, s, Nat.zero_le _, rfl, HS, HR⟩
    case round =>
      obtain ⟨i, vP', sc, hi, rfl, HSr, HLr⟩ := hrel
      clear HS HR r0 r1 r2 r3 r4 r5 r6 r7 r8 k0
      obtain ⟨pa2, pc2, hvp⟩ := ownsRow_form' HSr.out.op
      subst hvp
      obtain ⟨-, -, r2, -, r4, r5, r6, r7, r8, -, -, -⟩ := HRD.out wr HSr.out.sv
      have k0 := HSr.out.bp.cell
      have k1 := HSr.out.bp.frozen
      by_cases hlt : i < m
      · have hlt' : (i : Int) < (m : Int) := by omega
        have hmeas : m - (i + 1) < m - i := by omega
        rw [range_drop hlt, loopO] at HLr
        obtain ⟨xa, xc, rfl, hx1⟩ := r7
        obtain ⟨ya, yc, rfl, hy1⟩ := r8
        obtain ⟨gx, rfl, hgx, hx2⟩ := hx1 (by simp; omega)
        obtain ⟨gy, rfl, hgy, hy2⟩ := hy1 (by simp; omega)
        obtain ⟨ux, cx, ix⟩ := hx2 p.length (by simpa using hp)
        obtain ⟨uy, cy, iy⟩ := hy2 i (by simpa using hlt)
        rw [getD_range hp] at ix
        rw [getD_range hlt] at iy
        have C1 := hid (fun n => Contains_any _ p i (wr.drewN n) ((HSr.out.op.ints (by omega)).below (drewN_below _ _ _)))
        have E1 := hid (fun n => Equal_q ux uy _ _ (wr.drewN n) (ix.below (drewN_below _ _ _)) (iy.below (drewN_below _ _ _)))
        have hde : decide (N (hab cA p.length) = N (hab cB i)) = (hab cA p.length == hab cB i) := by
          rw [Bool.eq_iff_iff, decide_eq_true_eq, beq_iff_eq]
          exact ⟨N_injO, fun e => by rw [e]⟩
        rw [hde] at E1
        obtain ⟨uxa, uxc, rfl, -, -⟩ := ix
        obtain ⟨uya, uyc, rfl, -, -⟩ := iy
        rw [List.length_map, List.length_range] at *
        have hplt : (p.length : Int) < (m : Int) := by omega
        clear hx1 hx2 hy1 hy2 hde
        by_cases hmem : i ∈ p
        · rw [show memB i p = true from decide_eq_true hmem] at C1
          have HL2 : Hid (loopO (goStep (fun _ => habF cA cB) (dorG D l l') m k p) ((List.range m).drop (i + 1)) sc = R) := by
            show _ = _
            rw [← HLr.out, show goStep (fun _ => habF cA cB) (dorG D l l') m k p sc i = (true, sc) from if_pos hmem]
            rfl
          clear HLr hmem IH E1 HRD
          go_wp2_with fail
          go_quiet ((go_at_call 23; refine (C1.out _).mono ?_; rintro e w' ⟨rfl, rfl⟩; exact ⟨rfl, _, rfl⟩))
          have S2 := hid (HSr.out.below KD.toDoKp (drewN_below _ _ nq))
          go_wp2_with fail
          go_roundw
          case rel => exact ⟨i + 1, _, sc, hlt, by go_num, S2, HL2⟩
          case measure => exact hmeas
        · rw [show memB i p = false from decide_eq_false hmem] at C1
          have HGS : Hid (goStep (fun _ => habF cA cB) (dorG D l l') m k p sc i = if (hab cA p.length == hab cB i) = true then walkO (fun _ => habF cA cB) (dorG D l l') m k sc (p ++ [i]) else (true, sc)) := by
            show _ = _
            rw [show goStep (fun _ => habF cA cB) (dorG D l l') m k p sc i = if habF cA cB (p ++ [i]) = true then walkO (fun _ => habF cA cB) (dorG D l l') m k sc (p ++ [i]) else (true, sc) from if_neg hmem, habF_snoc]
          have I1 := hid (fun s W vP hS => IH.out i s W vP hlt hmem hS)
          clear hmem IH
          rcases hq : hab cA p.length == hab cB i with _ | _
          · rw [hq] at E1 HGS
            have HL2 : Hid (loopO (goStep (fun _ => habF cA cB) (dorG D l l') m k p) ((List.range m).drop (i + 1)) sc = R) := by
              show _ = _
              rw [← HLr.out, HGS.out]
              rfl
            clear HLr I1 HGS hq HRD
            go_wp2_with fail
            go_quiet ((first | (go_at_call 23; refine (C1.out _).mono ?_; rintro e w' ⟨rfl, rfl⟩; exact ⟨rfl, _, rfl⟩) | (go_at_call 56; refine (E1.out _).mono ?_; rintro e w' ⟨rfl, k, rfl⟩; exact ⟨rfl, _, World.drewN_drewN _ _ _⟩)))
            have S2 := hid (HSr.out.below KD.toDoKp (drewN_below _ _ nq))
            go_wp2_with fail
            go_roundw
            case rel => exact ⟨i + 1, _, sc, hlt, by go_num, S2, HL2⟩
            case measure => exact hmeas
          · rw [hq] at E1 HGS
            rw [HGS.out, if_pos rfl] at HLr
            clear HGS hq
            go_wp2_with fail
            go_quiet ((first | (go_at_call 23; refine (C1.out _).mono ?_; rintro e w' ⟨rfl, rfl⟩; exact ⟨rfl, _, rfl⟩) | (go_at_call 56; refine (E1.out _).mono ?_; rintro e w' ⟨rfl, k, rfl⟩; exact ⟨rfl, _, World.drewN_drewN _ _ _⟩)))
            have S2 := hid (HSr.out.below KD.toDoKp (drewN_below _ _ nq))
            generalize wr.drewN nq = W2 at *
            clear HSr C1 E1 r2 r4 r5 r6 hgx hgy cx cy k0 k1
            have k0 := S2.out.bp.cell
            have b1 : Below W2.heap.size W2 (W2.alloc (.cells #[.int .i64 i] 3)) := (Below.refl _ _).alloc (Nat.le_refl _) _
            have T1 := hid (S2.out.below KD.toDoKp b1)
            have hc1 : (W2.alloc (.cells #[.int .i64 i] 3)).cell? ⟨W2.heap.size, 0, none⟩ = some (.int .i64 i) := (Boxed.new W2 3 _).cell
            have z1 := World.size_alloc W2 (.cells #[.int .i64 i] 3)
            have ht1 := T1.out.sv.size
            have OP1 : Hid ((W2.alloc (.cells #[.int .i64 i] 3)).ownsRow W0.heap.size 3 1 (.slice pa2 p.length pc2) p.length (V p)) := T1.out.op
            have NX : Hid (∀ v' w', w'.ownsRow W0.heap.size 3 1 v' (p.length + 1) (V p ++ [.int .i64 i]) → (W2.alloc (.cells #[.int .i64 i] 3)).grownBy w' (Value.slice pa2 p.length pc2).ownBlock → (v'.ownBlock = (Value.slice pa2 p.length pc2).ownBlock ∨ v'.ownBlock = some (W2.alloc (.cells #[.int .i64 i] 3)).heap.size) → (w'.cell? ⟨B.p, 0, none⟩ = some (.slice pa2 p.length pc2) ∧ w'.frozen? ⟨B.p, 0, none⟩ = false) ∧ Hid (OrG D W0 B.p (w'.setCell ⟨B.p, 0, none⟩ v') v' (p ++ [i]) sc)) := fun v' w' h1 h2 h3 => by
              have hsv : Save (fun g => (Value.slice pa2 p.length pc2).ownBlock = some g) (W2.alloc (.cells #[.int .i64 i] 3)) w' := Save.of_grown h2 (fun k e => e)
              have hbp : Boxed w' B.p 22 (.slice pa2 p.length pc2) := (hsv.block B.p (by omega) (fun e => by have := (World.ownsRow.lt T1.out.op B.p e).1; omega)).trans T1.out.bp
              refine ⟨⟨hbp.cell, hbp.frozen⟩, T1.out.turn KD.toDoKp hP hsv (Own.snoc h1) ?_⟩
              rcases h3 with h3 | h3
              · exact .inl h3
              · exact .inr ⟨_, h3, Nat.le_refl _⟩
            clear b1
            go_wp2_with (at_builtin; refine wpList_app1 rfl (.tmp 60) (.tmp 62) rfl rfl rfl Tryz.underlying22 hi0 hz0 rfl hz1 (by rw [hz2]; decide) OP1.out hc1 rfl (by omega) (by omega) ?_)
            intro v' w' h1 h2 h3
            obtain ⟨⟨q0, q1⟩, HT2⟩ := NX.out v' w' h1 h2 (by rw [World.size_alloc]; exact h3)
            have I2 := hid (I1.out sc _ _ HT2.out)
            obtain ⟨va, vn, vc, hv'⟩ : ∃ a n c, v' = .slice a n c := by
              rcases h1.2 with ⟨rfl, _⟩ | ⟨g, cap, cur, rfl, _⟩
              · exact ⟨_, _, _, rfl⟩
              · exact ⟨_, _, _, rfl⟩
            subst hv'
            have k2 := (HRD.out _ HT2.out.sv).f0
            unfold Bkg.fn at k2
            generalize walkO (fun _ => habF cA cB) (dorG D l l') m k sc (p ++ [i]) = Y at *
            obtain ⟨Y1, Y2⟩ := Y
            clear h1 h2 h3 NX OP1 T1 hc1 I1 S2 k0
            go_wp2_with fail
            refine I2.out.mono ?_
            rintro e w4 ⟨rfl, vP4, hT4⟩
            obtain ⟨g, gc, hv4⟩ := Go.Joins.ownsRow_form hT4.op (by simp)
            rw [show (p ++ [i]).length = p.length + 1 by simp] at hv4
            subst hv4
            have hcap := hT4.op.capL
            have hof : Own W0.heap.size w4 (.slice (some ⟨g, 0, none⟩) p.length gc) p := Own.front (q := [i]) (by have := hT4.op; rwa [show (p ++ [i]).length = p.length + 1 by simp])
            have T5 := hid (hT4.turn (W' := w4) KD.toDoKp hP (Save.refl _ _) hof (.inl rfl))
            have k4 := hT4.bp.cell
            have k5 := hT4.bp.frozen
            have hl1 : p.length ≤ gc := by omega
            clear I2 HT2 hT4 hof k2 q0 q1 hcap HRD
            rcases Y1 with _ | _
            · have HR2 : Hid ((false, Y2) = R) := HLr.out
              clear HLr
              go_wp2_with fail
              go_ret
              exact ⟨by rw [← HR2.out]; rfl, _, by rw [← HR2.out]; exact T5.out⟩
            · have HL2 : Hid (loopO (goStep (fun _ => habF cA cB) (dorG D l l') m k p) ((List.range m).drop (i + 1)) Y2 = R) := HLr.out
              clear HLr
              go_wp2_with fail
              go_roundw
              case rel => exact ⟨i + 1, _, _, hlt, by go_num, T5, HL2⟩
              case measure => exact hmeas
      · obtain rfl : i = m := by omega
        have hlt' : ¬ (i : Int) < (i : Int) := by omega
        have HL2 : Hid ((true, sc) = R) := by
          show _ = _
          rw [← HLr.out, List.drop_of_length_le (by simp)]
          rfl
        clear HLr IH HRD r7 r8
        go_wp2_with fail
        go_ret
        exact ⟨by rw [← HL2.out]; rfl, _, by rw [← HL2.out]; exact HSr.out⟩
end Go.Proofs.YthlmnhcnpffjdaaGreat

namespace Go.Proofs.YthlmnhcnpffjdaaGreat
open Go.RowKit

/-- What the document's search leaves. -/
def docG {σ : Type} (D : DoS σ) (n : Nat) (l : List Nat) (n' : Nat) (l' : List Nat) (s0 : σ) : σ := if n = n' ∧ l.length = l'.length then (walkO (fun _ => habF (cirL n l) (cirL n' l')) (dorG D l l') n n s0 []).2 else s0
set_option maxRecDepth 20000 in
set_option maxHeartbeats 8000000 in
theorem GOrders_ok {σ : Type} (D : DoS σ) (s0 : σ) (n n' : Nat) (v v' : Value) (l l' : List Nat) (w0 w : World) (hn : n ≤ 8) (hf : Fam n l) (hb : Bas l) (hI : Ints w0 v (N l)) (hn' : n' ≤ 8) (hf' : Fam n' l') (hb' : Bas l') (hI' : Ints w0 v' (N l'))
    (h0 : Below w0.heap.size w0 w) (hZ : ∀ k, D.Z k → w0.heap.size ≤ k ∧ k < w.heap.size) (KD : ∀ W0 bP, Below w.heap.size w W0 → w.heap.size ≤ bP → bP < W0.heap.size → DoOk D W0 bP n) (hJ : ∀ W, Below w.heap.size w W → D.J s0 (fun _ => False) W) :
    Calls Tryz.prog 24 #[.agg #[.int .i64 n, v], .agg #[.int .i64 n', v'], .func (.func D.gf) #[] D.cs] w fun e W' => e = .returned (.tuple #[]) ∧ Below w0.heap.size w0 W' ∧ D.J (docG D n l n' l' s0) (fun _ => False) W' := by
  generalize hfv : Value.func (.func D.gf) #[] D.cs = fv
  have HFV := hid hfv
  obtain ⟨W3, hw3⟩ : ∃ W3, ((w.alloc (.cells #[.int .i64 n, v] 24)).alloc (.cells #[.int .i64 n', v'] 24)).alloc (.cells #[fv] 51) = W3 := ⟨_, rfl⟩
  have b2 := box2_below w n v n' v'
  have z2 := box2_size w n v n' v'
  have hw2 : (box2 w n v n' v').alloc (.cells #[fv] 51) = W3 := hw3
  have b3 : Below (box2 w n v n' v').heap.size (box2 w n v n' v') W3 := by rw [← hw2]; exact (Below.refl _ _).alloc (Nat.le_refl _) _
  have z3 : W3.heap.size = w.heap.size + 3 := by rw [← hw2, World.size_alloc, z2]
  have xF : W3.heap[w.heap.size + 2]? = some (.cells #[fv] 51 (0, 0)) := by rw [← hw2, ← z2]; exact World.alloc_heap_new _ _
  obtain ⟨xA, xB⟩ := box2_blocks b3
  have hlow := b2.trans (b3.mono b2.size)
  have B3 := hid (h0.trans (hlow.mono h0.size))
  have HLW := hid hlow
  have HKD := hid KD
  have HJ := hid hJ
  have HZ := hid hZ
  have h03 := h0.size
  have KS : Hid (∀ W, Below W3.heap.size W3 W → (fun w' => w'.cell? ⟨w.heap.size, 0, none⟩ = some (.int .i64 n) ∧ w'.cell? ⟨w.heap.size, 1, none⟩ = some v ∧ w'.cell? ⟨w.heap.size + 1, 0, none⟩ = some (.int .i64 n') ∧ w'.cell? ⟨w.heap.size + 1, 1, none⟩ = some v') W) := fun W hW => by
    obtain ⟨p0, p1⟩ := cells2 ((hW.block w.heap.size (by omega)).trans xA)
    obtain ⟨p2, p3⟩ := cells2 ((hW.block (w.heap.size + 1) (by omega)).trans xB)
    exact ⟨p0, p1, p2, p3⟩
  have IA := hid (fun W (hW : Below W3.heap.size W3 W) => hI.below (B3.out.trans (hW.mono (by omega))))
  have IB := hid (fun W (hW : Below W3.heap.size W3 W) => hI'.below (B3.out.trans (hW.mono (by omega))))
  have HA1 := hid (fun W (hW : Below W3.heap.size W3 W) => habits_ok n v l W hn hf hb (IA.out W hW))
  have HB1 := hid (fun W (hW : Below W3.heap.size W3 W) => habits_ok n' v' l' W hn' hf' hb' (IB.out W hW))
  have HUP := hid hf'.up
  have HLT : Hid (∀ b ∈ l', b < 2 ^ n') := hf'.lt
  have HFN := hid hf
  have HI0 := hid hI
  obtain ⟨a0, c0, hv, -, -⟩ := hI.nats
  subst hv
  obtain ⟨a1, c1, hv, -, -⟩ := hI'.nats
  subst hv
  have PW := (pow_wrap n' hn').1
  have PL := (pow_wrap n' hn').2
  have hll := fam_len hn' hf'
  clear hI hI' hf hb hf' hb' b2 z2 hw2 b3 hlow KD hJ hZ
  subst hfv
  go_enter Tryz.func24, Tryz.ntmps24
  go_upto_region 1 with fail
  go_cut [6, 7] from 12 to 53 (fun x y W => ∃ gx gy rx ry, x = .pointer (some ⟨gx, 0, none⟩) ∧ y = .pointer (some ⟨gy, 0, none⟩) ∧ Hid (PrD W3 W ((List.range n).map (hab (cirL n l))) ((List.range n').map (hab (cirL n' l'))) rx ry gx gy))
  case first =>
    clear xA xB xF PW PL HUP HLT IA IB B3 HFV HFN HI0
    generalize (List.range n).map (hab (cirL n l)) = HA at *
    generalize (List.range n').map (hab (cirL n' l')) = HB at *
    generalize hvv : Value.slice a0 l.length c0 = v at *
    generalize hvv' : Value.slice a1 l'.length c1 = v' at *
    have P0 := hid (PrA.begin W3 HA HB)
    go_wp2_with fail
    refine wp_region_noPanic ?_
    refine wp_region_held_drew (S := (fun w' => w'.cell? ⟨w.heap.size, 0, none⟩ = some (.int .i64 n) ∧ w'.cell? ⟨w.heap.size, 1, none⟩ = some v ∧ w'.cell? ⟨w.heap.size + 1, 0, none⟩ = some (.int .i64 n') ∧ w'.cell? ⟨w.heap.size + 1, 1, none⟩ = some v')) (by kernel_rfl) (KS.out _ P0.out.bl) (fun _ => ?_)
    refine wpAnyH_take (i := 0) (v := .agg #[.int .i64 n, v]) rfl (by kernel_rfl) (by kernel_rfl) (by kernel_rfl) (fun _ _ _ h => h) (Or.inl ⟨by rfl, fun w hw => by obtain ⟨q0, q1, q2, q3⟩ := hw; go_simp⟩) (KS.out _ P0.out.bl) ?_
    refine wpAnyH_take (i := 2) (v := .agg #[.int .i64 n', v']) rfl (by kernel_rfl) (by kernel_rfl) (by kernel_rfl) (fun _ _ _ h => h) (Or.inl ⟨by rfl, fun w hw => by obtain ⟨q0, q1, q2, q3⟩ := hw; go_simp⟩) (KS.out _ P0.out.bl) ?_
    revert P0
    generalize W3.drew = w0
    intro P0
    refine wpAnyH_ready (rs := [1, 4, 5]) (by kernel_rfl) (by simp) ?_
    refine AllReadyH.cons rfl (fun K hK => ?_) (AllReadyH.cons rfl (fun K hK => ?_) (AllReadyH.cons rfl (fun K hK => ?_) AllReadyH.nil))
    · go_simp
      refine (HA1.out w0 P0.out.bl).mono ?_
      rintro e w1 ⟨r1, rfl, hl1, hb1⟩
      have P1 := hid (P0.out.call1 hb1 hl1)
      refine hK.out _ _ (KS.out _ P1.out.bl) (fun _ => ?_)
      clear hK K hl1 hb1 P0
      refine wpAnyH_ready (rs := [3, 4, 5]) (by kernel_rfl) (by simp) ?_
      refine AllReadyH.cons rfl (fun K hK => ?_) (AllReadyH.cons rfl (fun K hK => ?_) (AllReadyH.cons rfl (fun K hK => ?_) AllReadyH.nil))
      · go_simp
        refine (HB1.out w1 P1.out.bl).mono ?_
        rintro e w2 ⟨r2, rfl, hl2, hb2⟩
        have P2 := hid (P1.out.call2 hb2 hl2)
        refine hK.out _ _ (KS.out _ P2.out.bl) (fun _ => ?_)
        clear hK K hl2 hb2 P1
        refine wpAnyH_ready (rs := [4, 5]) (by kernel_rfl) (by simp) ?_
        refine AllReadyH.cons rfl (fun K hK => ?_) (AllReadyH.cons rfl (fun K hK => ?_) AllReadyH.nil)
        · go_simp
          have P3 := hid (P2.out.new1)
          refine hK.out _ _ (KS.out _ P3.out.bl) (fun _ => ?_)
          clear hK K P2
          revert P3
          generalize w2.alloc (.cells #[.slice none 0 0] 71) = w3
          generalize w2.heap.size = g3
          intro P3
          refine wpAnyH_ready (rs := [5]) (by kernel_rfl) (by simp) ?_
          refine AllReadyH.cons rfl (fun K hK => ?_) AllReadyH.nil
          · go_simp
            have P4 := hid (P3.out.new2)
            refine hK.out _ _ (KS.out _ P4.out.bl) (fun _ => ?_)
            clear hK K P3
            revert P4
            generalize w3.alloc (.cells #[.slice none 0 0] 71) = w4
            generalize w3.heap.size = g4
            intro P4
            obtain ⟨⟨k0, k1⟩, k2, k3⟩ := P4.out.cells
            have FD := hid P4.out.stored
            obtain ⟨xa, xn, xc, hx⟩ := (P4.out.x1 _ rfl).form
            obtain ⟨ya, yn, yc, hy⟩ := (P4.out.x2 _ rfl).form
            subst hx
            subst hy
            have KX := hid (fun W' (h : Below W3.heap.size W3 W') => KS.out W' h)
            clear KS HA1 HB1
            refine wpAnyH_ready (rs := [6]) (by kernel_rfl) (by simp) ?_
            refine AllReadyH.cons rfl (fun K hK => ?_) AllReadyH.nil
            go_simp
            refine hK.out _ _ (KX.out _ ((save_one w4 g3 (.slice xa xn xc)).below P4.out.bl P4.out.bl.size (fun k e => by have := (P4.out.y1 _ rfl).1; omega))) (fun _ => ?_)
            clear hK K
            refine wpAnyH_ready (rs := [7]) (by kernel_rfl) (by simp) ?_
            refine AllReadyH.cons rfl (fun K hK => ?_) AllReadyH.nil
            go_simp
            refine hK.out _ _ (KX.out _ FD.out.bl) (fun _ => ?_)
            clear hK K
            refine wpAnyH_done (by kernel_rfl) ?_ _
            refine NoPanic.normal ?_
            go_wp2_with fail
            go_meet
            exact ⟨g3, g4, _, _, rfl, rfl, FD⟩
        · go_simp
          have P5 := hid (P2.out.new2)
          refine hK.out _ _ (KS.out _ P5.out.bl) (fun _ => ?_)
          clear hK K P2
          revert P5
          generalize w2.alloc (.cells #[.slice none 0 0] 71) = w5
          generalize w2.heap.size = g5
          intro P5
          refine wpAnyH_ready (rs := [4]) (by kernel_rfl) (by simp) ?_
          refine AllReadyH.cons rfl (fun K hK => ?_) AllReadyH.nil
          · go_simp
            have P6 := hid (P5.out.new1)
            refine hK.out _ _ (KS.out _ P6.out.bl) (fun _ => ?_)
            clear hK K P5
            revert P6
            generalize w5.alloc (.cells #[.slice none 0 0] 71) = w6
            generalize w5.heap.size = g6
            intro P6
            obtain ⟨⟨k0, k1⟩, k2, k3⟩ := P6.out.cells
            have FD := hid P6.out.stored
            obtain ⟨xa, xn, xc, hx⟩ := (P6.out.x1 _ rfl).form
            obtain ⟨ya, yn, yc, hy⟩ := (P6.out.x2 _ rfl).form
            subst hx
            subst hy
            have KX := hid (fun W' (h : Below W3.heap.size W3 W') => KS.out W' h)
            clear KS HA1 HB1
            refine wpAnyH_ready (rs := [6]) (by kernel_rfl) (by simp) ?_
            refine AllReadyH.cons rfl (fun K hK => ?_) AllReadyH.nil
            go_simp
            refine hK.out _ _ (KX.out _ ((save_one w6 g6 (.slice xa xn xc)).below P6.out.bl P6.out.bl.size (fun k e => by have := (P6.out.y1 _ rfl).1; omega))) (fun _ => ?_)
            clear hK K
            refine wpAnyH_ready (rs := [7]) (by kernel_rfl) (by simp) ?_
            refine AllReadyH.cons rfl (fun K hK => ?_) AllReadyH.nil
            go_simp
            refine hK.out _ _ (KX.out _ FD.out.bl) (fun _ => ?_)
            clear hK K
            refine wpAnyH_done (by kernel_rfl) ?_ _
            refine NoPanic.normal ?_
            go_wp2_with fail
            go_meet
            exact ⟨g6, g5, _, _, rfl, rfl, FD⟩
      · go_simp
        have P7 := hid (P1.out.new1)
        refine hK.out _ _ (KS.out _ P7.out.bl) (fun _ => ?_)
        clear hK K P1
        revert P7
        generalize w1.alloc (.cells #[.slice none 0 0] 71) = w7
        generalize w1.heap.size = g7
        intro P7
        refine wpAnyH_ready (rs := [3, 5]) (by kernel_rfl) (by simp) ?_
        refine AllReadyH.cons rfl (fun K hK => ?_) (AllReadyH.cons rfl (fun K hK => ?_) AllReadyH.nil)
        · go_simp
          refine (HB1.out w7 P7.out.bl).mono ?_
          rintro e w8 ⟨r8, rfl, hl8, hb8⟩
          have P8 := hid (P7.out.call2 hb8 hl8)
          refine hK.out _ _ (KS.out _ P8.out.bl) (fun _ => ?_)
          clear hK K hl8 hb8 P7
          refine wpAnyH_ready (rs := [5]) (by kernel_rfl) (by simp) ?_
          refine AllReadyH.cons rfl (fun K hK => ?_) AllReadyH.nil
          · go_simp
            have P9 := hid (P8.out.new2)
            refine hK.out _ _ (KS.out _ P9.out.bl) (fun _ => ?_)
            clear hK K P8
            revert P9
            generalize w8.alloc (.cells #[.slice none 0 0] 71) = w9
            generalize w8.heap.size = g9
            intro P9
            obtain ⟨⟨k0, k1⟩, k2, k3⟩ := P9.out.cells
            have FD := hid P9.out.stored
            obtain ⟨xa, xn, xc, hx⟩ := (P9.out.x1 _ rfl).form
            obtain ⟨ya, yn, yc, hy⟩ := (P9.out.x2 _ rfl).form
            subst hx
            subst hy
            have KX := hid (fun W' (h : Below W3.heap.size W3 W') => KS.out W' h)
            clear KS HA1 HB1
            refine wpAnyH_ready (rs := [6]) (by kernel_rfl) (by simp) ?_
            refine AllReadyH.cons rfl (fun K hK => ?_) AllReadyH.nil
            go_simp
            refine hK.out _ _ (KX.out _ ((save_one w9 g7 (.slice xa xn xc)).below P9.out.bl P9.out.bl.size (fun k e => by have := (P9.out.y1 _ rfl).1; omega))) (fun _ => ?_)
            clear hK K
            refine wpAnyH_ready (rs := [7]) (by kernel_rfl) (by simp) ?_
            refine AllReadyH.cons rfl (fun K hK => ?_) AllReadyH.nil
            go_simp
            refine hK.out _ _ (KX.out _ FD.out.bl) (fun _ => ?_)
            clear hK K
            refine wpAnyH_done (by kernel_rfl) ?_ _
            refine NoPanic.normal ?_
            go_wp2_with fail
            go_meet
            exact ⟨g7, g9, _, _, rfl, rfl, FD⟩
        · go_simp
          have P10 := hid (P7.out.new2)
          refine hK.out _ _ (KS.out _ P10.out.bl) (fun _ => ?_)
          clear hK K P7
          revert P10
          generalize w7.alloc (.cells #[.slice none 0 0] 71) = w10
          generalize w7.heap.size = g10
          intro P10
          refine wpAnyH_ready (rs := [3]) (by kernel_rfl) (by simp) ?_
          refine AllReadyH.cons rfl (fun K hK => ?_) AllReadyH.nil
          · go_simp
            refine (HB1.out w10 P10.out.bl).mono ?_
            rintro e w11 ⟨r11, rfl, hl11, hb11⟩
            have P11 := hid (P10.out.call2 hb11 hl11)
            refine hK.out _ _ (KS.out _ P11.out.bl) (fun _ => ?_)
            clear hK K hl11 hb11 P10
            obtain ⟨⟨k0, k1⟩, k2, k3⟩ := P11.out.cells
            have FD := hid P11.out.stored
            obtain ⟨xa, xn, xc, hx⟩ := (P11.out.x1 _ rfl).form
            obtain ⟨ya, yn, yc, hy⟩ := (P11.out.x2 _ rfl).form
            subst hx
            subst hy
            have KX := hid (fun W' (h : Below W3.heap.size W3 W') => KS.out W' h)
            clear KS HA1 HB1
            refine wpAnyH_ready (rs := [6]) (by kernel_rfl) (by simp) ?_
            refine AllReadyH.cons rfl (fun K hK => ?_) AllReadyH.nil
            go_simp
            refine hK.out _ _ (KX.out _ ((save_one w11 g7 (.slice xa xn xc)).below P11.out.bl P11.out.bl.size (fun k e => by have := (P11.out.y1 _ rfl).1; omega))) (fun _ => ?_)
            clear hK K
            refine wpAnyH_ready (rs := [7]) (by kernel_rfl) (by simp) ?_
            refine AllReadyH.cons rfl (fun K hK => ?_) AllReadyH.nil
            go_simp
            refine hK.out _ _ (KX.out _ FD.out.bl) (fun _ => ?_)
            clear hK K
            refine wpAnyH_done (by kernel_rfl) ?_ _
            refine NoPanic.normal ?_
            go_wp2_with fail
            go_meet
            exact ⟨g7, g10, _, _, rfl, rfl, FD⟩
      · go_simp
        have P12 := hid (P1.out.new2)
        refine hK.out _ _ (KS.out _ P12.out.bl) (fun _ => ?_)
        clear hK K P1
        revert P12
        generalize w1.alloc (.cells #[.slice none 0 0] 71) = w12
        generalize w1.heap.size = g12
        intro P12
        refine wpAnyH_ready (rs := [3, 4]) (by kernel_rfl) (by simp) ?_
        refine AllReadyH.cons rfl (fun K hK => ?_) (AllReadyH.cons rfl (fun K hK => ?_) AllReadyH.nil)
        · go_simp
          refine (HB1.out w12 P12.out.bl).mono ?_
          rintro e w13 ⟨r13, rfl, hl13, hb13⟩
          have P13 := hid (P12.out.call2 hb13 hl13)
          refine hK.out _ _ (KS.out _ P13.out.bl) (fun _ => ?_)
          clear hK K hl13 hb13 P12
          refine wpAnyH_ready (rs := [4]) (by kernel_rfl) (by simp) ?_
          refine AllReadyH.cons rfl (fun K hK => ?_) AllReadyH.nil
          · go_simp
            have P14 := hid (P13.out.new1)
            refine hK.out _ _ (KS.out _ P14.out.bl) (fun _ => ?_)
            clear hK K P13
            revert P14
            generalize w13.alloc (.cells #[.slice none 0 0] 71) = w14
            generalize w13.heap.size = g14
            intro P14
            obtain ⟨⟨k0, k1⟩, k2, k3⟩ := P14.out.cells
            have FD := hid P14.out.stored
            obtain ⟨xa, xn, xc, hx⟩ := (P14.out.x1 _ rfl).form
            obtain ⟨ya, yn, yc, hy⟩ := (P14.out.x2 _ rfl).form
            subst hx
            subst hy
            have KX := hid (fun W' (h : Below W3.heap.size W3 W') => KS.out W' h)
            clear KS HA1 HB1
            refine wpAnyH_ready (rs := [6]) (by kernel_rfl) (by simp) ?_
            refine AllReadyH.cons rfl (fun K hK => ?_) AllReadyH.nil
            go_simp
            refine hK.out _ _ (KX.out _ ((save_one w14 g14 (.slice xa xn xc)).below P14.out.bl P14.out.bl.size (fun k e => by have := (P14.out.y1 _ rfl).1; omega))) (fun _ => ?_)
            clear hK K
            refine wpAnyH_ready (rs := [7]) (by kernel_rfl) (by simp) ?_
            refine AllReadyH.cons rfl (fun K hK => ?_) AllReadyH.nil
            go_simp
            refine hK.out _ _ (KX.out _ FD.out.bl) (fun _ => ?_)
            clear hK K
            refine wpAnyH_done (by kernel_rfl) ?_ _
            refine NoPanic.normal ?_
            go_wp2_with fail
            go_meet
            exact ⟨g14, g12, _, _, rfl, rfl, FD⟩
        · go_simp
          have P15 := hid (P12.out.new1)
          refine hK.out _ _ (KS.out _ P15.out.bl) (fun _ => ?_)
          clear hK K P12
          revert P15
          generalize w12.alloc (.cells #[.slice none 0 0] 71) = w15
          generalize w12.heap.size = g15
          intro P15
          refine wpAnyH_ready (rs := [3]) (by kernel_rfl) (by simp) ?_
          refine AllReadyH.cons rfl (fun K hK => ?_) AllReadyH.nil
          · go_simp
            refine (HB1.out w15 P15.out.bl).mono ?_
            rintro e w16 ⟨r16, rfl, hl16, hb16⟩
            have P16 := hid (P15.out.call2 hb16 hl16)
            refine hK.out _ _ (KS.out _ P16.out.bl) (fun _ => ?_)
            clear hK K hl16 hb16 P15
            obtain ⟨⟨k0, k1⟩, k2, k3⟩ := P16.out.cells
            have FD := hid P16.out.stored
            obtain ⟨xa, xn, xc, hx⟩ := (P16.out.x1 _ rfl).form
            obtain ⟨ya, yn, yc, hy⟩ := (P16.out.x2 _ rfl).form
            subst hx
            subst hy
            have KX := hid (fun W' (h : Below W3.heap.size W3 W') => KS.out W' h)
            clear KS HA1 HB1
            refine wpAnyH_ready (rs := [6]) (by kernel_rfl) (by simp) ?_
            refine AllReadyH.cons rfl (fun K hK => ?_) AllReadyH.nil
            go_simp
            refine hK.out _ _ (KX.out _ ((save_one w16 g15 (.slice xa xn xc)).below P16.out.bl P16.out.bl.size (fun k e => by have := (P16.out.y1 _ rfl).1; omega))) (fun _ => ?_)
            clear hK K
            refine wpAnyH_ready (rs := [7]) (by kernel_rfl) (by simp) ?_
            refine AllReadyH.cons rfl (fun K hK => ?_) AllReadyH.nil
            go_simp
            refine hK.out _ _ (KX.out _ FD.out.bl) (fun _ => ?_)
            clear hK K
            refine wpAnyH_done (by kernel_rfl) ?_ _
            refine NoPanic.normal ?_
            go_wp2_with fail
            go_meet
            exact ⟨g15, g12, _, _, rfl, rfl, FD⟩
    · go_simp
      have P17 := hid (P0.out.new1)
      refine hK.out _ _ (KS.out _ P17.out.bl) (fun _ => ?_)
      clear hK K P0
      revert P17
      generalize w0.alloc (.cells #[.slice none 0 0] 71) = w17
      generalize w0.heap.size = g17
      intro P17
      refine wpAnyH_ready (rs := [1, 5]) (by kernel_rfl) (by simp) ?_
      refine AllReadyH.cons rfl (fun K hK => ?_) (AllReadyH.cons rfl (fun K hK => ?_) AllReadyH.nil)
      · go_simp
        refine (HA1.out w17 P17.out.bl).mono ?_
        rintro e w18 ⟨r18, rfl, hl18, hb18⟩
        have P18 := hid (P17.out.call1 hb18 hl18)
        refine hK.out _ _ (KS.out _ P18.out.bl) (fun _ => ?_)
        clear hK K hl18 hb18 P17
        refine wpAnyH_ready (rs := [3, 5]) (by kernel_rfl) (by simp) ?_
        refine AllReadyH.cons rfl (fun K hK => ?_) (AllReadyH.cons rfl (fun K hK => ?_) AllReadyH.nil)
        · go_simp
          refine (HB1.out w18 P18.out.bl).mono ?_
          rintro e w19 ⟨r19, rfl, hl19, hb19⟩
          have P19 := hid (P18.out.call2 hb19 hl19)
          refine hK.out _ _ (KS.out _ P19.out.bl) (fun _ => ?_)
          clear hK K hl19 hb19 P18
          refine wpAnyH_ready (rs := [5]) (by kernel_rfl) (by simp) ?_
          refine AllReadyH.cons rfl (fun K hK => ?_) AllReadyH.nil
          · go_simp
            have P20 := hid (P19.out.new2)
            refine hK.out _ _ (KS.out _ P20.out.bl) (fun _ => ?_)
            clear hK K P19
            revert P20
            generalize w19.alloc (.cells #[.slice none 0 0] 71) = w20
            generalize w19.heap.size = g20
            intro P20
            obtain ⟨⟨k0, k1⟩, k2, k3⟩ := P20.out.cells
            have FD := hid P20.out.stored
            obtain ⟨xa, xn, xc, hx⟩ := (P20.out.x1 _ rfl).form
            obtain ⟨ya, yn, yc, hy⟩ := (P20.out.x2 _ rfl).form
            subst hx
            subst hy
            have KX := hid (fun W' (h : Below W3.heap.size W3 W') => KS.out W' h)
            clear KS HA1 HB1
            refine wpAnyH_ready (rs := [6]) (by kernel_rfl) (by simp) ?_
            refine AllReadyH.cons rfl (fun K hK => ?_) AllReadyH.nil
            go_simp
            refine hK.out _ _ (KX.out _ ((save_one w20 g17 (.slice xa xn xc)).below P20.out.bl P20.out.bl.size (fun k e => by have := (P20.out.y1 _ rfl).1; omega))) (fun _ => ?_)
            clear hK K
            refine wpAnyH_ready (rs := [7]) (by kernel_rfl) (by simp) ?_
            refine AllReadyH.cons rfl (fun K hK => ?_) AllReadyH.nil
            go_simp
            refine hK.out _ _ (KX.out _ FD.out.bl) (fun _ => ?_)
            clear hK K
            refine wpAnyH_done (by kernel_rfl) ?_ _
            refine NoPanic.normal ?_
            go_wp2_with fail
            go_meet
            exact ⟨g17, g20, _, _, rfl, rfl, FD⟩
        · go_simp
          have P21 := hid (P18.out.new2)
          refine hK.out _ _ (KS.out _ P21.out.bl) (fun _ => ?_)
          clear hK K P18
          revert P21
          generalize w18.alloc (.cells #[.slice none 0 0] 71) = w21
          generalize w18.heap.size = g21
          intro P21
          refine wpAnyH_ready (rs := [3]) (by kernel_rfl) (by simp) ?_
          refine AllReadyH.cons rfl (fun K hK => ?_) AllReadyH.nil
          · go_simp
            refine (HB1.out w21 P21.out.bl).mono ?_
            rintro e w22 ⟨r22, rfl, hl22, hb22⟩
            have P22 := hid (P21.out.call2 hb22 hl22)
            refine hK.out _ _ (KS.out _ P22.out.bl) (fun _ => ?_)
            clear hK K hl22 hb22 P21
            obtain ⟨⟨k0, k1⟩, k2, k3⟩ := P22.out.cells
            have FD := hid P22.out.stored
            obtain ⟨xa, xn, xc, hx⟩ := (P22.out.x1 _ rfl).form
            obtain ⟨ya, yn, yc, hy⟩ := (P22.out.x2 _ rfl).form
            subst hx
            subst hy
            have KX := hid (fun W' (h : Below W3.heap.size W3 W') => KS.out W' h)
            clear KS HA1 HB1
            refine wpAnyH_ready (rs := [6]) (by kernel_rfl) (by simp) ?_
            refine AllReadyH.cons rfl (fun K hK => ?_) AllReadyH.nil
            go_simp
            refine hK.out _ _ (KX.out _ ((save_one w22 g17 (.slice xa xn xc)).below P22.out.bl P22.out.bl.size (fun k e => by have := (P22.out.y1 _ rfl).1; omega))) (fun _ => ?_)
            clear hK K
            refine wpAnyH_ready (rs := [7]) (by kernel_rfl) (by simp) ?_
            refine AllReadyH.cons rfl (fun K hK => ?_) AllReadyH.nil
            go_simp
            refine hK.out _ _ (KX.out _ FD.out.bl) (fun _ => ?_)
            clear hK K
            refine wpAnyH_done (by kernel_rfl) ?_ _
            refine NoPanic.normal ?_
            go_wp2_with fail
            go_meet
            exact ⟨g17, g21, _, _, rfl, rfl, FD⟩
      · go_simp
        have P23 := hid (P17.out.new2)
        refine hK.out _ _ (KS.out _ P23.out.bl) (fun _ => ?_)
        clear hK K P17
        revert P23
        generalize w17.alloc (.cells #[.slice none 0 0] 71) = w23
        generalize w17.heap.size = g23
        intro P23
        refine wpAnyH_ready (rs := [1]) (by kernel_rfl) (by simp) ?_
        refine AllReadyH.cons rfl (fun K hK => ?_) AllReadyH.nil
        · go_simp
          refine (HA1.out w23 P23.out.bl).mono ?_
          rintro e w24 ⟨r24, rfl, hl24, hb24⟩
          have P24 := hid (P23.out.call1 hb24 hl24)
          refine hK.out _ _ (KS.out _ P24.out.bl) (fun _ => ?_)
          clear hK K hl24 hb24 P23
          refine wpAnyH_ready (rs := [3]) (by kernel_rfl) (by simp) ?_
          refine AllReadyH.cons rfl (fun K hK => ?_) AllReadyH.nil
          · go_simp
            refine (HB1.out w24 P24.out.bl).mono ?_
            rintro e w25 ⟨r25, rfl, hl25, hb25⟩
            have P25 := hid (P24.out.call2 hb25 hl25)
            refine hK.out _ _ (KS.out _ P25.out.bl) (fun _ => ?_)
            clear hK K hl25 hb25 P24
            obtain ⟨⟨k0, k1⟩, k2, k3⟩ := P25.out.cells
            have FD := hid P25.out.stored
            obtain ⟨xa, xn, xc, hx⟩ := (P25.out.x1 _ rfl).form
            obtain ⟨ya, yn, yc, hy⟩ := (P25.out.x2 _ rfl).form
            subst hx
            subst hy
            have KX := hid (fun W' (h : Below W3.heap.size W3 W') => KS.out W' h)
            clear KS HA1 HB1
            refine wpAnyH_ready (rs := [6]) (by kernel_rfl) (by simp) ?_
            refine AllReadyH.cons rfl (fun K hK => ?_) AllReadyH.nil
            go_simp
            refine hK.out _ _ (KX.out _ ((save_one w25 g17 (.slice xa xn xc)).below P25.out.bl P25.out.bl.size (fun k e => by have := (P25.out.y1 _ rfl).1; omega))) (fun _ => ?_)
            clear hK K
            refine wpAnyH_ready (rs := [7]) (by kernel_rfl) (by simp) ?_
            refine AllReadyH.cons rfl (fun K hK => ?_) AllReadyH.nil
            go_simp
            refine hK.out _ _ (KX.out _ FD.out.bl) (fun _ => ?_)
            clear hK K
            refine wpAnyH_done (by kernel_rfl) ?_ _
            refine NoPanic.normal ?_
            go_wp2_with fail
            go_meet
            exact ⟨g17, g23, _, _, rfl, rfl, FD⟩
    · go_simp
      have P26 := hid (P0.out.new2)
      refine hK.out _ _ (KS.out _ P26.out.bl) (fun _ => ?_)
      clear hK K P0
      revert P26
      generalize w0.alloc (.cells #[.slice none 0 0] 71) = w26
      generalize w0.heap.size = g26
      intro P26
      refine wpAnyH_ready (rs := [1, 4]) (by kernel_rfl) (by simp) ?_
      refine AllReadyH.cons rfl (fun K hK => ?_) (AllReadyH.cons rfl (fun K hK => ?_) AllReadyH.nil)
      · go_simp
        refine (HA1.out w26 P26.out.bl).mono ?_
        rintro e w27 ⟨r27, rfl, hl27, hb27⟩
        have P27 := hid (P26.out.call1 hb27 hl27)
        refine hK.out _ _ (KS.out _ P27.out.bl) (fun _ => ?_)
        clear hK K hl27 hb27 P26
        refine wpAnyH_ready (rs := [3, 4]) (by kernel_rfl) (by simp) ?_
        refine AllReadyH.cons rfl (fun K hK => ?_) (AllReadyH.cons rfl (fun K hK => ?_) AllReadyH.nil)
        · go_simp
          refine (HB1.out w27 P27.out.bl).mono ?_
          rintro e w28 ⟨r28, rfl, hl28, hb28⟩
          have P28 := hid (P27.out.call2 hb28 hl28)
          refine hK.out _ _ (KS.out _ P28.out.bl) (fun _ => ?_)
          clear hK K hl28 hb28 P27
          refine wpAnyH_ready (rs := [4]) (by kernel_rfl) (by simp) ?_
          refine AllReadyH.cons rfl (fun K hK => ?_) AllReadyH.nil
          · go_simp
            have P29 := hid (P28.out.new1)
            refine hK.out _ _ (KS.out _ P29.out.bl) (fun _ => ?_)
            clear hK K P28
            revert P29
            generalize w28.alloc (.cells #[.slice none 0 0] 71) = w29
            generalize w28.heap.size = g29
            intro P29
            obtain ⟨⟨k0, k1⟩, k2, k3⟩ := P29.out.cells
            have FD := hid P29.out.stored
            obtain ⟨xa, xn, xc, hx⟩ := (P29.out.x1 _ rfl).form
            obtain ⟨ya, yn, yc, hy⟩ := (P29.out.x2 _ rfl).form
            subst hx
            subst hy
            have KX := hid (fun W' (h : Below W3.heap.size W3 W') => KS.out W' h)
            clear KS HA1 HB1
            refine wpAnyH_ready (rs := [6]) (by kernel_rfl) (by simp) ?_
            refine AllReadyH.cons rfl (fun K hK => ?_) AllReadyH.nil
            go_simp
            refine hK.out _ _ (KX.out _ ((save_one w29 g29 (.slice xa xn xc)).below P29.out.bl P29.out.bl.size (fun k e => by have := (P29.out.y1 _ rfl).1; omega))) (fun _ => ?_)
            clear hK K
            refine wpAnyH_ready (rs := [7]) (by kernel_rfl) (by simp) ?_
            refine AllReadyH.cons rfl (fun K hK => ?_) AllReadyH.nil
            go_simp
            refine hK.out _ _ (KX.out _ FD.out.bl) (fun _ => ?_)
            clear hK K
            refine wpAnyH_done (by kernel_rfl) ?_ _
            refine NoPanic.normal ?_
            go_wp2_with fail
            go_meet
            exact ⟨g29, g26, _, _, rfl, rfl, FD⟩
        · go_simp
          have P30 := hid (P27.out.new1)
          refine hK.out _ _ (KS.out _ P30.out.bl) (fun _ => ?_)
          clear hK K P27
          revert P30
          generalize w27.alloc (.cells #[.slice none 0 0] 71) = w30
          generalize w27.heap.size = g30
          intro P30
          refine wpAnyH_ready (rs := [3]) (by kernel_rfl) (by simp) ?_
          refine AllReadyH.cons rfl (fun K hK => ?_) AllReadyH.nil
          · go_simp
            refine (HB1.out w30 P30.out.bl).mono ?_
            rintro e w31 ⟨r31, rfl, hl31, hb31⟩
            have P31 := hid (P30.out.call2 hb31 hl31)
            refine hK.out _ _ (KS.out _ P31.out.bl) (fun _ => ?_)
            clear hK K hl31 hb31 P30
            obtain ⟨⟨k0, k1⟩, k2, k3⟩ := P31.out.cells
            have FD := hid P31.out.stored
            obtain ⟨xa, xn, xc, hx⟩ := (P31.out.x1 _ rfl).form
            obtain ⟨ya, yn, yc, hy⟩ := (P31.out.x2 _ rfl).form
            subst hx
            subst hy
            have KX := hid (fun W' (h : Below W3.heap.size W3 W') => KS.out W' h)
            clear KS HA1 HB1
            refine wpAnyH_ready (rs := [6]) (by kernel_rfl) (by simp) ?_
            refine AllReadyH.cons rfl (fun K hK => ?_) AllReadyH.nil
            go_simp
            refine hK.out _ _ (KX.out _ ((save_one w31 g30 (.slice xa xn xc)).below P31.out.bl P31.out.bl.size (fun k e => by have := (P31.out.y1 _ rfl).1; omega))) (fun _ => ?_)
            clear hK K
            refine wpAnyH_ready (rs := [7]) (by kernel_rfl) (by simp) ?_
            refine AllReadyH.cons rfl (fun K hK => ?_) AllReadyH.nil
            go_simp
            refine hK.out _ _ (KX.out _ FD.out.bl) (fun _ => ?_)
            clear hK K
            refine wpAnyH_done (by kernel_rfl) ?_ _
            refine NoPanic.normal ?_
            go_wp2_with fail
            go_meet
            exact ⟨g30, g26, _, _, rfl, rfl, FD⟩
      · go_simp
        have P32 := hid (P26.out.new1)
        refine hK.out _ _ (KS.out _ P32.out.bl) (fun _ => ?_)
        clear hK K P26
        revert P32
        generalize w26.alloc (.cells #[.slice none 0 0] 71) = w32
        generalize w26.heap.size = g32
        intro P32
        refine wpAnyH_ready (rs := [1]) (by kernel_rfl) (by simp) ?_
        refine AllReadyH.cons rfl (fun K hK => ?_) AllReadyH.nil
        · go_simp
          refine (HA1.out w32 P32.out.bl).mono ?_
          rintro e w33 ⟨r33, rfl, hl33, hb33⟩
          have P33 := hid (P32.out.call1 hb33 hl33)
          refine hK.out _ _ (KS.out _ P33.out.bl) (fun _ => ?_)
          clear hK K hl33 hb33 P32
          refine wpAnyH_ready (rs := [3]) (by kernel_rfl) (by simp) ?_
          refine AllReadyH.cons rfl (fun K hK => ?_) AllReadyH.nil
          · go_simp
            refine (HB1.out w33 P33.out.bl).mono ?_
            rintro e w34 ⟨r34, rfl, hl34, hb34⟩
            have P34 := hid (P33.out.call2 hb34 hl34)
            refine hK.out _ _ (KS.out _ P34.out.bl) (fun _ => ?_)
            clear hK K hl34 hb34 P33
            obtain ⟨⟨k0, k1⟩, k2, k3⟩ := P34.out.cells
            have FD := hid P34.out.stored
            obtain ⟨xa, xn, xc, hx⟩ := (P34.out.x1 _ rfl).form
            obtain ⟨ya, yn, yc, hy⟩ := (P34.out.x2 _ rfl).form
            subst hx
            subst hy
            have KX := hid (fun W' (h : Below W3.heap.size W3 W') => KS.out W' h)
            clear KS HA1 HB1
            refine wpAnyH_ready (rs := [6]) (by kernel_rfl) (by simp) ?_
            refine AllReadyH.cons rfl (fun K hK => ?_) AllReadyH.nil
            go_simp
            refine hK.out _ _ (KX.out _ ((save_one w34 g32 (.slice xa xn xc)).below P34.out.bl P34.out.bl.size (fun k e => by have := (P34.out.y1 _ rfl).1; omega))) (fun _ => ?_)
            clear hK K
            refine wpAnyH_ready (rs := [7]) (by kernel_rfl) (by simp) ?_
            refine AllReadyH.cons rfl (fun K hK => ?_) AllReadyH.nil
            go_simp
            refine hK.out _ _ (KX.out _ FD.out.bl) (fun _ => ?_)
            clear hK K
            refine wpAnyH_done (by kernel_rfl) ?_ _
            refine NoPanic.normal ?_
            go_wp2_with fail
            go_meet
            exact ⟨g32, g26, _, _, rfl, rfl, FD⟩
  case rest =>
    obtain ⟨gx, gy, rx, ry, rfl, rfl, FD⟩ := hcut
    obtain ⟨q0, q1, q2, q3⟩ := KS.out wc FD.out.bl
    have hsc := FD.out.bl.size
    have mk := fun w => run_make_to (2 ^ n') (2 ^ n') (Nat.le_refl _) PL w
    have HT2 : Hid (∃ T, T = 2 ^ n') := ⟨_, rfl⟩
    have HTn : Hid (2 ^ n' = 2 ^ n') := rfl
    rw [show (∀ b ∈ l', b < 2 ^ n') = (∀ b ∈ l', b < 2 ^ n') from rfl] at HLT
    generalize hT : 2 ^ n' = T at *
    have HTE := hid hT
    clear hT HT2 HTn
    have bA : Below wc.heap.size wc (wc.alloc (.cells (madeCells #[.int .i64 0] T) 3)) := (Below.refl _ _).alloc (Nat.le_refl _) _
    have zA := World.size_alloc wc (.cells (madeCells #[.int .i64 0] T) 3)
    have yA := World.alloc_heap_new wc (.cells (madeCells #[.int .i64 0] T) 3)
    have bB : Below (wc.alloc (.cells (madeCells #[.int .i64 0] T) 3)).heap.size (wc.alloc (.cells (madeCells #[.int .i64 0] T) 3)) ((wc.alloc (.cells (madeCells #[.int .i64 0] T) 3)).alloc (.cells #[.slice (some ⟨wc.heap.size, 0, none⟩) T T] 22)) := (Below.refl _ _).alloc (Nat.le_refl _) _
    have zB := World.size_alloc (wc.alloc (.cells (madeCells #[.int .i64 0] T) 3)) (.cells #[.slice (some ⟨wc.heap.size, 0, none⟩) T T] 22)
    have yB := World.alloc_heap_new (wc.alloc (.cells (madeCells #[.int .i64 0] T) 3)) (.cells #[.slice (some ⟨wc.heap.size, 0, none⟩) T T] 22)
    have yA2 := (bB.block _ (by omega)).trans yA
    rw [zA] at yB zB
    have BW := hid (bA.trans (bB.mono (by omega)))
    have OZ : Hid (Own wc.heap.size ((wc.alloc (.cells (madeCells #[.int .i64 0] T) 3)).alloc (.cells #[.slice (some ⟨wc.heap.size, 0, none⟩) T T] 22)) (.slice (some ⟨wc.heap.size, 0, none⟩) T T) (cntL l' T 0)) := by
      show Own _ _ _ _
      rw [cntL_zero]
      exact own_zeros yA2 (Nat.le_refl _) PL
    have YB := hid yB
    clear bA zA yA bB yA2 yB
    go_wp2_with fail
    revert OZ YB BW zB
    generalize (wc.alloc (.cells (madeCells #[.int .i64 0] T) 3)).alloc (.cells #[.slice (some ⟨wc.heap.size, 0, none⟩) T T] 22) = W4
    intro zB BW OZ YB
    go_loopw [9] (fun jx wr => ∃ i : Nat, i ≤ l'.length ∧ jx = .int .i64 i ∧ Hid (Save (fun g => g = wc.heap.size) W4 wr) ∧ Hid (Own wc.heap.size wr (.slice (some ⟨wc.heap.size, 0, none⟩) T T) (cntL l' T i))) (fun jx _ => l'.length - (intOf jx).toNat)
    case atStart => exact ⟨0, Nat.zero_le _, rfl, Save.refl _ _, OZ⟩
    case round =>
      obtain ⟨i, hi, rfl, HSr, HOr⟩ := hrel
      clear OZ q0 q1 q2 q3
      obtain ⟨q0, q1, q2, q3⟩ := KS.out W4 (FD.out.bl.trans (BW.out.mono FD.out.bl.size))
      have hsr := HSr.out.size
      have p0 := HSr.out.cellX q0 (by show w.heap.size ≠ _; omega)
      have p1 := HSr.out.cellX q1 (by show w.heap.size ≠ _; omega)
      have p2 := HSr.out.cellX q2 (by show w.heap.size + 1 ≠ _; omega)
      have p3 := HSr.out.cellX q3 (by show w.heap.size + 1 ≠ _; omega)
      have p4 := HSr.out.cellX (Boxed.cell YB.out) (by show wc.heap.size + 1 ≠ _; omega)
      clear q0 q1 q2 q3
      by_cases hlt : i < l'.length
      · have hlt' : (i : Int) < (l'.length : Int) := by omega
        have hmeas : l'.length - (i + 1) < l'.length - i := by omega
        have BR : Below W3.heap.size W3 wr := HSr.out.below (FD.out.bl.trans (BW.out.mono FD.out.bl.size)) (by omega) (fun k e => by omega)
        obtain ⟨a2, c2, e2, -, hcc⟩ := (IB.out wr BR).nats
        obtain ⟨rfl, rfl⟩ : a1 = a2 ∧ c1 = c2 := by simpa using e2
        obtain ⟨lb, lo, rfl, hlb, hcell⟩ := hcc (by omega)
        have cL := hcell i hlt
        have hbT := HLT.out _ (show l'.getD i 0 ∈ l' by simp [List.getD, hlt])
        have hz := cntL_new (T := T) HUP.out hlt hbT
        have hat := HOr.out.at (i := l'.getD i 0) (by rw [cntL_len]; exact hbT)
        have hfz := HOr.out.frozenAt (j := l'.getD i 0)
        rw [hz] at hat
        have OP := HOr.out.put (j := l'.getD i 0) (x := 1) (by rw [cntL_len]; exact hbT)
        rw [cntL_step hlt] at OP
        have HOP := hid OP
        have sv := hid (Save.setCell (X := fun g => g = wc.heap.size) HSr.out (p := ⟨wc.heap.size, l'.getD i 0, none⟩) (.inl rfl) (.int .i64 ((1 : Nat) : Int)))
        clear hcc hcell e2 hz OP BR HSr HOr KS HA1 HB1
        generalize l'.getD i 0 = b at *
        have hbT2 : (b : Int) < (T : Int) := by omega
        have cT : wr.cell? ⟨wc.heap.size, b, none⟩ = some (.int .i64 0) := hat
        clear hat
        go_wp2_with fail
        go_region
        go_wp2_with fail
        go_roundw
        case rel => exact ⟨i + 1, hlt, by go_num, sv.out.drew, HOP.out.below ((Below.refl _ _).drew)⟩
        case measure => exact hmeas
      · obtain rfl : i = l'.length := by omega
        have hlt' : ¬ ((l'.length : Nat) : Int) < ((l'.length : Nat) : Int) := by omega
        have hsf := fun (a : Addr) (c : Array Value) (w : World) => run_store Tryz.prog w a (.func (.func 55) #[] c) .plain rfl
        have B4 := hid (FD.out.bl.trans (BW.out.mono FD.out.bl.size))
        have B4r := hid (HSr.out.below B4.out (by omega) (fun k e => by omega))
        have BX := hid (fun k (h1 : k < wc.heap.size) => HSr.out.block k (by omega) (by omega) |>.trans (BW.out.block k h1))
        clear KS HA1 HB1 mk
        obtain ⟨WE, hWE⟩ : ∃ WE, (wr.alloc (.cells #[.slice none 0 0] 22)).alloc (.cells #[.func (.func 55) #[] #[.pointer (some ⟨wr.heap.size, 0, none⟩), .pointer (some ⟨w.heap.size, 0, none⟩), .pointer (some ⟨wc.heap.size + 1, 0, none⟩), .pointer (some ⟨w.heap.size + 1 + 1, 0, none⟩), .pointer (some ⟨w.heap.size + 1, 0, none⟩), .pointer (some ⟨gx, 0, none⟩), .pointer (some ⟨gy, 0, none⟩), .pointer (some ⟨wr.heap.size + 1, 0, none⟩)]] 73) = WE := ⟨_, rfl⟩
        have bE : Below wr.heap.size wr WE := by rw [← hWE]; exact ((Below.refl _ _).alloc (Nat.le_refl _) _).alloc (by rw [World.size_alloc]; omega) _
        have zE : WE.heap.size = wr.heap.size + 2 := by rw [← hWE]; simp
        have yP : Boxed WE wr.heap.size 22 (.slice none 0 0) := by
          show WE.heap[wr.heap.size]? = _
          rw [← hWE, Below.heap_alloc _ _ _ (by simp)]
          exact World.alloc_heap_new wr _
        have yF : Boxed WE (wr.heap.size + 1) 73 (.func (.func 55) #[] #[.pointer (some ⟨wr.heap.size, 0, none⟩), .pointer (some ⟨w.heap.size, 0, none⟩), .pointer (some ⟨wc.heap.size + 1, 0, none⟩), .pointer (some ⟨w.heap.size + 1 + 1, 0, none⟩), .pointer (some ⟨w.heap.size + 1, 0, none⟩), .pointer (some ⟨gx, 0, none⟩), .pointer (some ⟨gy, 0, none⟩), .pointer (some ⟨wr.heap.size + 1, 0, none⟩)]) := by
          rw [← hWE]
          have h := World.alloc_heap_new (wr.alloc (.cells #[.slice none 0 0] 22)) (.cells #[.func (.func 55) #[] #[.pointer (some ⟨wr.heap.size, 0, none⟩), .pointer (some ⟨w.heap.size, 0, none⟩), .pointer (some ⟨wc.heap.size + 1, 0, none⟩), .pointer (some ⟨w.heap.size + 1 + 1, 0, none⟩), .pointer (some ⟨w.heap.size + 1, 0, none⟩), .pointer (some ⟨gx, 0, none⟩), .pointer (some ⟨gy, 0, none⟩), .pointer (some ⟨wr.heap.size + 1, 0, none⟩)]] 73)
          rw [World.size_alloc] at h
          exact h
        have BE := hid (B4r.out.trans (bE.mono B4r.out.size))
        have BWE := hid (HLW.out.trans (BE.out.mono (by omega)))
        have eA : WE.heap[w.heap.size]? = _ := (BE.out.block _ (by omega)).trans xA
        have eB : WE.heap[w.heap.size + 1]? = _ := (BE.out.block _ (by omega)).trans xB
        have eF : Boxed WE (w.heap.size + 1 + 1) _ _ := (BE.out.block (w.heap.size + 2) (by omega)).trans xF
        obtain ⟨e0, e1⟩ := cells2 eA
        obtain ⟨e2, e3⟩ := cells2 eB
        have e4 := yF.cell
        have hsz : wc.heap.size + 2 ≤ wr.heap.size := by have := HSr.out.size; omega
        have B0E := hid (B3.out.trans (BE.out.mono (by omega)))
        by_cases hE : n = n' ∧ l.length = l'.length
        · have HDS : Hid (docG D n l n' l' s0 = (walkO (fun _ => habF (cirL n l) (cirL n' l')) (dorG D l l') n n s0 []).2) := if_pos hE
          obtain ⟨hnn, hEL⟩ := hE
          subst hnn
          have gx1 := FD.out.bx.lt
          have gy1 := FD.out.by'.lt
          have gx2 := FD.out.gx
          have gy2 := FD.out.gy
          have LX : ∀ {r : Value} {L : List (List Nat)}, LL W3.heap.size (fun k => k = gx ∨ k = gy) wc r L → LL W3.heap.size (fun k => wc.heap.size ≤ k) WE r L := fun h =>
            (((h.other (Y := fun k => wc.heap.size ≤ k) (fun k e => .inr e)).save (Y := fun _ => False) (Save.of_below BW.out) (fun _ e => e.elim)).save HSr.out (fun k e => .inl (by show wc.heap.size ≤ k; omega))).save (Y := fun _ => False) (Save.of_below bE) (fun _ e => e.elim)
          have RD : ∀ W, Save (fun k => k = wr.heap.size ∨ D.Z k) WE W → Rdg ⟨wr.heap.size, w.heap.size, wc.heap.size + 1, w.heap.size + 1 + 1, w.heap.size + 1, gx, gy, wr.heap.size + 1, wc.heap.size⟩ (.func (.func D.gf) #[] D.cs) n (.slice a0 l.length c0) l l' rx ry ((List.range n).map (hab (cirL n l))) ((List.range n).map (hab (cirL n l'))) W := fun W hS => by
            have cx : ∀ {p : Addr} {x : Value}, WE.cell? p = some x → p.block ≠ wr.heap.size → w.heap.size ≤ p.block → W.cell? p = some x := fun hc h1 h2 => hS.cellX hc (by
              rintro (h | h)
              · exact h1 h
              · have := (HZ.out _ h).2; omega)
            have lr : ∀ {r : Value} {L : List (List Nat)}, LL W3.heap.size (fun k => wc.heap.size ≤ k) WE r L → (∀ x ∈ L, x.length ≤ 256) → LLr W r L := fun h hl => (h.save hS (by
              rintro k (h | h)
              · exact .inl (by show wc.heap.size ≤ k; omega)
              · exact .inr (by have := (HZ.out _ h).2; omega))).read hl
            have hh : ∀ c : List Nat, ∀ x ∈ (List.range n).map (hab c), x.length ≤ 256 := fun c x hx => by
              obtain ⟨j, _, rfl⟩ := List.mem_map.1 hx
              unfold hab
              simp
            refine ⟨cx e0 (by show w.heap.size ≠ _; omega) (by show _ ≤ w.heap.size; omega), cx e1 (by show w.heap.size ≠ _; omega) (by show _ ≤ w.heap.size; omega), cx e2 (by show w.heap.size + 1 ≠ _; omega) (by show _ ≤ w.heap.size + 1; omega), cx eF.cell (by show w.heap.size + 1 + 1 ≠ _; omega) (by show _ ≤ w.heap.size + 1 + 1; omega), cx e4 (by show wr.heap.size + 1 ≠ _; omega) (by show _ ≤ wr.heap.size + 1; omega), ?_, ?_, lr (LX FD.out.lx) (hh _), lr (LX FD.out.ly) (hh _), ?_, fun t ht => ?_, ?_⟩
            · exact cx (Boxed.cell ((bE.block gx (by omega)).trans ((HSr.out.block gx (by omega) (by show gx ≠ _; omega)).trans ((BW.out.block gx gx1).trans FD.out.bx)))) (by show gx ≠ _; omega) (by show _ ≤ gx; omega)
            · exact cx (Boxed.cell ((bE.block gy (by omega)).trans ((HSr.out.block gy (by omega) (by show gy ≠ _; omega)).trans ((BW.out.block gy gy1).trans FD.out.by')))) (by show gy ≠ _; omega) (by show _ ≤ gy; omega)
            · rw [HTE.out]
              exact cx ((bE.cell (p := ⟨wc.heap.size + 1, 0, none⟩) (by show wc.heap.size + 1 < _; omega)).trans p4) (by show wc.heap.size + 1 ≠ _; omega) (by show _ ≤ wc.heap.size + 1; omega)
            · rw [HTE.out] at ht
              have hat := HOr.out.at (i := t) (by rw [cntL_len]; exact ht)
              rw [cntL_at ht, List.take_length] at hat
              have hc := cx ((bE.cell (p := ⟨wc.heap.size, t, none⟩) (by show wc.heap.size < _; omega)).trans hat) (by show wc.heap.size ≠ _; omega) (by show _ ≤ wc.heap.size; omega)
              rw [hc]
              by_cases hq : t ∈ l'
              · rw [if_pos hq, if_pos hq]; rfl
              · rw [if_neg hq, if_neg hq]; rfl
            · exact HI0.out.below (hS.below B0E.out (by omega) (by
                rintro k (h | h)
                · omega
                · exact (HZ.out _ h).1))
          have KK := HKD.out WE wr.heap.size BWE.out (by omega) (by omega)
          have S0 : OrG D WE wr.heap.size WE (.slice none 0 0) [] s0 := ⟨Save.refl _ _, yP, Own.nil _ _, KK.more _ _ _ _ (HJ.out WE BWE.out) (fun k e => by cases e)⟩
          have D1 := hid (gor_ok D ⟨wr.heap.size, w.heap.size, wc.heap.size + 1, w.heap.size + 1 + 1, w.heap.size + 1, gx, gy, wr.heap.size + 1, wc.heap.size⟩ WE n (.slice a0 l.length c0) l l' rx ry (cirL n l) (cirL n l') hn HFN.out (by show wr.heap.size < _; omega) KK RD n [] s0 WE _ (by simp) (beg_nil n) S0)
          have HKK := hid KK
          clear KK
          have hnq : ((n : Int) == (n : Int)) = true := by simp
          have hlq : ((l.length : Int) == (l'.length : Int)) = true := by rw [hEL]; simp
          clear RD S0 LX eA eB eF yP yF bE FD BW BX HSr HOr YB
          go_upto_region 10 with fail
          clear hWE
          go_wp2_with fail
          refine D1.out.mono ?_
          rintro e W' ⟨rfl, vP', hS'⟩
          have HS := hid hS'
          clear hS' D1
          go_wp2_with fail
          go_end0
          refine ⟨rfl, HS.out.sv.below B0E.out (by omega) (by
            rintro k (h | h)
            · omega
            · exact (HZ.out _ h).1), ?_⟩
          rw [HDS.out]
          exact HKK.out.more _ _ _ _ HS.out.st (fun k e => e.elim)
        · have HDS : Hid (docG D n l n' l' s0 = s0) := if_neg hE
          have HEE : Hid (Below w0.heap.size w0 WE ∧ D.J s0 (fun _ => False) WE) := ⟨B0E.out, HJ.out WE BWE.out⟩
          by_cases hnn : n = n'
          · have hEL : ¬ l.length = l'.length := fun h => hE ⟨hnn, h⟩
            have hnq : ((n : Int) == (n' : Int)) = true := by rw [hnn]; simp
            have hlq : ((l.length : Int) == (l'.length : Int)) = false := by rw [beq_eq_false_iff_ne]; omega
            clear eA eB eF yP yF bE FD BW BX HSr HOr YB hE hnn hEL
            go_upto_region 10 with fail
            clear hWE
            go_wp2_with fail
            go_end0
            exact ⟨rfl, HEE.out.1, by rw [HDS.out]; exact HEE.out.2⟩
          · have hnq : ((n : Int) == (n' : Int)) = false := by rw [beq_eq_false_iff_ne]; omega
            clear eA eB eF yP yF bE FD BW BX HSr HOr YB hE hnn
            go_upto_region 10 with fail
            clear hWE
            go_wp2_with fail
            go_end0
            exact ⟨rfl, HEE.out.1, by rw [HDS.out]; exact HEE.out.2⟩
end Go.Proofs.YthlmnhcnpffjdaaGreat
