/- rotaref.United. -/
import Derived.Test.YthbcnolpjcppoabRefAxCQ
import Derived.Test.YthbcnolpjcppoabRefMinQ
import Derived.Test.YthbcnolpjcppoabPlainAll
import Derived.Test.YthbcnolpjcppoabBothQ
namespace Go.Proofs.Ythbcnolpjcppoab
open Go.RowKit

set_option maxRecDepth 20000 in
set_option maxHeartbeats 2000000 in
theorem United1_any (s p1 p2 T : Nat) (va vb : Value) (r q : Nat → Nat) (w : World) (hT : T ≤ 256) (hs : s < T) (hr8 : ∀ t, r t ≤ 8) (hq8 : ∀ t, q t ≤ 8)
    (h1 : w.cell? ⟨p1, 0, none⟩ = some va) (h2 : w.cell? ⟨p2, 0, none⟩ = some vb) (hA : RkAt w va T r) (hB : RkAt w vb T q) :
    Calls Try.prog 77 #[.int .i64 s, .pointer (some ⟨p1, 0, none⟩), .pointer (some ⟨p2, 0, none⟩)] w fun e w' => e = .returned (.int .i64 (lowR (fun t => r t + q t) s : Nat)) ∧ Below w.heap.size w w' := by
  have hp1 := World.block_lt_of_cell? w _ h1
  have hp2 := World.block_lt_of_cell? w _ h2
  have HA := hid hA
  have HB := hid hB
  obtain ⟨rb, roff, rcap, rfl, -, -⟩ := hA
  obtain ⟨qb, qoff, qcap, rfl, -, -⟩ := hB
  have SZ := hid (fun w' => Size_any s w' (by omega))
  obtain ⟨L, HL⟩ : ∃ L : Nat → Nat, Hid (∀ k, L k = lowF (fun t => r t + q t) s k (pop s)) := ⟨_, fun _ => rfl⟩
  have HE : Hid (lowR (fun t => r t + q t) s = L (s + 1)) := by show _ = _; rw [HL.out]; rfl
  have L0 : L 0 = pop s := HL.out 0
  have HL8 : Hid (∀ k, L k ≤ 8) := fun k => by rw [HL.out]; exact Nat.le_trans (lowF_le _ _ _ _).1 (pop_le s (by omega))
  have HST : Hid (∀ k, subB k s = true → L (k + 1) = min (L k) (r k + q k + pop s - pop k) ∧ pop k ≤ pop s) := fun k hk => by
    rw [HL.out, HL.out, lowF_succ, if_pos hk]
    have := pop_split hk
    refine ⟨?_, by omega⟩
    congr 1
    omega
  have HSN : Hid (∀ k, subB k s = false → L (k + 1) = L k) := fun k hk => by
    rw [HL.out, HL.out, lowF_succ, if_neg (by rw [hk]; simp)]
  rw [HE.out]
  have hs8 := pop_le s (by omega)
  have L0' := hid L0
  clear HE HL L0
  go_enter Try.func77, Try.ntmps77
  go_wp2_with fail
  refine (SZ.out _).mono ?_
  rintro e w1 ⟨rfl, hb1⟩
  have HB1 := hid hb1
  clear hb1
  go_wp2_with fail
  go_loopw [5, 6] (fun u i wr => ∃ k : Nat, k ≤ s + 1 ∧ i = .int .i64 k ∧ u = .int .i64 (L k : Nat) ∧ Hid (Below w.heap.size w wr)) (fun _ i _ => s + 1 - (intOf i).toNat)
  case atStart => exact ⟨0, Nat.zero_le _, rfl, by rw [L0'.out], HB1⟩
  case round =>
    obtain ⟨k, hk, rfl, rfl, HW⟩ := hrel
    by_cases hlt : k ≤ s
    · have hk8 : k < 256 := by omega
      have hki : (k : Int) ≤ (s : Int) := by omega
      have WI := hid (Within_any k s wr hk8 (by omega))
      have ST := hid (HST.out k)
      have SN := hid (HSN.out k)
      have hL := HL8.out k
      have h1r := hr8 k
      have h1q := hq8 k
      generalize subB k s = b1 at *
      rcases b1 with _ | _
      · have SN' := hid (SN.out rfl)
        clear SN ST
        go_wp2_with fail
        refine WI.out.mono ?_
        rintro e w' ⟨rfl, rfl⟩
        go_wp2_with fail
        go_roundw
        case rel => exact ⟨k + 1, by omega, by go_num, by rw [SN'.out], HW⟩
        case measure => simp [intOf]; omega
      · obtain ⟨st, hpk⟩ := ST.out rfl
        have HS1 := hid st
        have SK := hid (fun w' => Size_any k w' hk8)
        have kT : k < T := by omega
        have cA : ∀ x : Later wr, x.now.cell? ⟨rb, roff + k, none⟩ = some (.int .i64 (r k : Nat)) := (HA.out.below HW.out).later kT
        have cB : ∀ x : Later wr, x.now.cell? ⟨qb, qoff + k, none⟩ = some (.int .i64 (q k : Nat)) := (HB.out.below HW.out).later kT
        have c1 : ∀ x : Later wr, x.now.cell? ⟨p1, 0, none⟩ = some (.slice (some ⟨rb, roff, none⟩) T rcap) := fun x => ((HW.out.trans (x.kept.mono HW.out.size)).cell (p := ⟨p1, 0, none⟩) hp1).trans h1
        have c2 : ∀ x : Later wr, x.now.cell? ⟨p2, 0, none⟩ = some (.slice (some ⟨qb, qoff, none⟩) T qcap) := fun x => ((HW.out.trans (x.kept.mono HW.out.size)).cell (p := ⟨p2, 0, none⟩) hp2).trans h2
        have kT' : (k : Int) < (T : Int) := by omega
        clear st ST SN
        generalize r k = x1 at *
        generalize q k = x2 at *
        generalize pop k = x3 at *
        generalize pop s = x6 at *
        generalize L k = x4 at *
        go_wp2_with fail
        refine WI.out.mono ?_
        rintro e w' ⟨rfl, rfl⟩
        go_wp2_with fail
        refine region_later (by kernel_rfl) (by kernel_rfl) ?_
        repeat (go_big_quiet_step ((first
          | (go_at_call 12; with_reducible refine (SZ.out _).mono ?_; rintro e w' ⟨rfl, hb9⟩; exact ⟨rfl, Later.on _ hb9⟩)
          | (go_at_call 12; with_reducible refine (SK.out _).mono ?_; rintro e w' ⟨rfl, hb9⟩; exact ⟨rfl, Later.on _ hb9⟩))))
        refine wpQuiet_nil ?_
        intro w6' hw'
        obtain ⟨⟨y6, hb6⟩, hw''⟩ := hw'
        dsimp only at hw''
        subst hw''
        have HB6 := hid (HW.out.trans (hb6.mono HW.out.size))
        clear hb6 cA cB c1 c2
        go_wp2_with fail
        go_roundw
        case rel =>
          refine ⟨k + 1, by omega, by go_num, ?_, HB6⟩
          have e : (if (x1 : Int) + x2 + x6 - x3 < x4 then (x1 : Int) + x2 + x6 - x3 else x4) = (L (k + 1) : Int) := by
            rw [HS1.out]
            split <;> omega
          rw [e]
        case measure => simp [intOf]; omega
    · obtain rfl : k = s + 1 := by omega
      go_wp2_with fail
      go_ret
      exact ⟨rfl, HW.out⟩
/-- A store into a cell that holds no number leaves ranks as they were. -/
theorem RkAt.setS {w : World} {v : Value} {T : Nat} {r : Nat → Nat} (h : RkAt w v T r) {p : Addr} {a : Option Addr} {n c : Nat} (hp : w.cell? p = some (.slice a n c)) (x : Value) : RkAt (w.setCell p x) v T r := by
  obtain ⟨b, off, cap, rfl, h1, h2⟩ := h
  refine ⟨b, off, cap, rfl, by simpa using h1, fun i hi => ?_⟩
  have hne : p ≠ ⟨b, off + i, none⟩ := fun e => by
    have := h2 i hi
    rw [← e, hp] at this
    cases this
  exact (World.cell?_setCell_other _ _ _ _ hne).trans (h2 i hi)
theorem RkAt.alloc {w : World} {v : Value} {T : Nat} {r : Nat → Nat} (h : RkAt w v T r) (o : Obj) : RkAt (w.alloc o) v T r := h.below ((Below.refl _ _).alloc (Nat.le_refl _) _)
/-- A box that holds nil. -/
def NilAt (W : World) (b : Nat) : Prop := W.cell? ⟨b, 0, none⟩ = some (.slice none 0 0) ∧ W.frozen? ⟨b, 0, none⟩ = false
theorem NilAt.new (W : World) (b : Nat) (hb : W.heap.size = b) : NilAt (W.alloc (.cells #[.slice none 0 0] 22)) b := by
  subst hb
  exact cellN W (.slice none 0 0) 22
theorem NilAt.kept {W W' : World} {b : Nat} (h : NilAt W b) (hb : Below W.heap.size W W') : NilAt W' b := by
  have hlt := World.block_lt_of_cell? W _ h.1
  exact ⟨(hb.cell (p := ⟨b, 0, none⟩) hlt).trans h.1, (froz_below hb hlt).trans h.2⟩
theorem NilAt.alloc {W : World} {b : Nat} (h : NilAt W b) (o : Obj) : NilAt (W.alloc o) b := h.kept ((Below.refl _ _).alloc (Nat.le_refl _) _)
theorem Below.up {w W : World} (h : Below w.heap.size w W) (o : Obj) : Below w.heap.size w (W.alloc o) := h.alloc h.size o
theorem addr_ne {b b' : Nat} (h : b ≠ b') : (⟨b, 0, none⟩ : Addr) ≠ ⟨b', 0, none⟩ := fun e => h (congrArg Addr.block e)
theorem new_cell (W : World) (b : Nat) (x : Value) (hb : W.heap.size = b) : (W.alloc (.cells #[x] 22)).cell? ⟨b, 0, none⟩ = some x := by
  subst hb
  exact (cellN W x 22).1
theorem NilAt.lt {W : World} {b : Nat} (h : NilAt W b) : b < W.heap.size := World.block_lt_of_cell? W _ h.1
theorem NilAt.apart {W : World} {b b' : Nat} (h : NilAt W b) (hne : b' ≠ b) (v : Value) : (W.setCell ⟨b', 0, none⟩ v).cell? ⟨b, 0, none⟩ = some (.slice none 0 0) ∧ (W.setCell ⟨b', 0, none⟩ v).frozen? ⟨b, 0, none⟩ = false :=
  ⟨(World.cell?_setCell_other _ _ _ _ (fun e => hne (congrArg Addr.block e))).trans h.1, (World.frozen?_setCell _ _ _ _).trans h.2⟩
/-- What the first statement of United leaves. -/
def UPost (w W0 : World) (m T : Nat) (va vb : Value) (r q : Nat → Nat) : Exit → Act → World → Prop
  | .normal, act, w' => ∃ (px py : Nat) (p8 o8 d8 p9 o9 d9 : Nat), act = { tmps := #[.agg #[.int .i64 m, va], .agg #[.int .i64 m, vb], .pointer (some ⟨w.heap.size, 0, none⟩), .pointer (some ⟨w.heap.size + 1, 0, none⟩), .pointer (some ⟨w.heap.size + 1 + 1, 0, none⟩), .pointer (some ⟨px, 0, none⟩), .pointer (some ⟨py, 0, none⟩), .agg #[.int .i64 m, va], .slice (some ⟨p8, o8, none⟩) T d8, .agg #[.int .i64 m, vb], .slice (some ⟨p9, o9, none⟩) T d9, undef, undef, undef, undef], defers := [] } ∧ w'.cell? ⟨px, 0, none⟩ = some (.slice (some ⟨p8, o8, none⟩) T d8) ∧ w'.cell? ⟨py, 0, none⟩ = some (.slice (some ⟨p9, o9, none⟩) T d9) ∧ RkAt w' (.slice (some ⟨p8, o8, none⟩) T d8) T r ∧ RkAt w' (.slice (some ⟨p9, o9, none⟩) T d9) T q ∧ Below W0.heap.size W0 w'
  | _, _, _ => False
set_option maxRecDepth 20000 in
set_option maxHeartbeats 4000000 in
theorem United_ok (m : Nat) (v u : Value) (l l' : List Nat) (w : World) (hm : m ≤ 8) (hf : Fam m l) (_hb : Bas l) (h : Ints w v (N l)) (hf' : Fam m l') (_hb' : Bas l') (h' : Ints w u (N l')) :
    Calls Try.prog 31 #[.agg #[.int .i64 m, v], .agg #[.int .i64 m, u]] w fun e w' => ∃ r, e = .returned (.agg #[.int .i64 m, r]) ∧ Own w.heap.size w' r (uniN m l l') ∧ Below w.heap.size w w' := by
  have HI := hid h
  have HI' := hid h'
  obtain ⟨a, cap, hv, -, -⟩ := h.nats
  subst hv
  obtain ⟨a', cap', hv, -, -⟩ := h'.nats
  subst hv
  have RA := hid (fun (W : World) (hW : Below w.heap.size w W) => Ranks_ref m _ l W hm (hf.lt256 hm) (HI.out.below hW))
  have RB := hid (fun (W : World) (hW : Below w.heap.size w W) => Ranks_ref m _ l' W hm (hf'.lt256 hm) (HI'.out.below hW))
  have HB0 := hid ((box2_below w m (.slice a l.length cap) m (.slice a' l'.length cap')).alloc (by rw [box2_size]; omega) (.cells #[.int .i64 0, .slice none 0 0] 24))
  have HX : Hid (∀ w2, Below ((box2 w m (.slice a l.length cap) m (.slice a' l'.length cap')).alloc (.cells #[.int .i64 0, .slice none 0 0] 24)).heap.size ((box2 w m (.slice a l.length cap) m (.slice a' l'.length cap')).alloc (.cells #[.int .i64 0, .slice none 0 0] 24)) w2 → w2.heap[w.heap.size]? = some (.cells #[.int .i64 m, .slice a l.length cap] 24 (0, 0)) ∧ w2.heap[w.heap.size + 1]? = some (.cells #[.int .i64 m, .slice a' l'.length cap'] 24 (0, 0)) ∧ w2.heap[w.heap.size + 1 + 1]? = some (.cells #[.int .i64 0, .slice none 0 0] 24 (0, 0))) := fun w2 hb2 => by
    have hs2 := box2_size w m (.slice a l.length cap) m (.slice a' l'.length cap')
    have h3 : Below (box2 w m (.slice a l.length cap) m (.slice a' l'.length cap')).heap.size (box2 w m (.slice a l.length cap) m (.slice a' l'.length cap')) ((box2 w m (.slice a l.length cap) m (.slice a' l'.length cap')).alloc (.cells #[.int .i64 0, .slice none 0 0] 24)) := (Below.refl _ _).alloc (Nat.le_refl _) _
    obtain ⟨c0, c1⟩ := box2_blocks h3
    have hs3 : ((box2 w m (.slice a l.length cap) m (.slice a' l'.length cap')).alloc (.cells #[.int .i64 0, .slice none 0 0] 24)).heap.size = w.heap.size + 3 := by rw [World.size_alloc, hs2]
    refine ⟨(hb2.block _ (by omega)).trans c0, (hb2.block _ (by omega)).trans c1, (hb2.block _ (by omega)).trans ?_⟩
    have := World.alloc_heap_new (box2 w m (.slice a l.length cap) m (.slice a' l'.length cap')) (.cells #[.int .i64 0, .slice none 0 0] 24)
    rw [hs2] at this
    exact this
  have HSZ : Hid (((box2 w m (.slice a l.length cap) m (.slice a' l'.length cap')).alloc (.cells #[.int .i64 0, .slice none 0 0] 24)).heap.size = w.heap.size + 3) := by show _ = _; rw [World.size_alloc, box2_size]
  obtain ⟨T, HT⟩ : ∃ T, Hid (2 ^ m = T) := ⟨2 ^ m, Eq.refl (2 ^ m)⟩
  rw [HT.out] at RA RB
  go_enter Try.func31, Try.ntmps31
  go_wp2_with fail
  revert HB0 HX HSZ
  rw [show ((w.alloc (.cells #[.int .i64 m, .slice a l.length cap] 24)).alloc (.cells #[.int .i64 m, .slice a' l'.length cap'] 24)) = box2 w m (.slice a l.length cap) m (.slice a' l'.length cap') from rfl]
  generalize (box2 w m (.slice a l.length cap) m (.slice a' l'.length cap')).alloc (.cells #[.int .i64 0, .slice none 0 0] 24) = W0
  intro HB0 HX HSZ
  obtain ⟨k0, k1, k2⟩ := HX.out W0 (Below.refl _ _)
  obtain ⟨x0, x1⟩ := cells2 k0
  obtain ⟨x2, x3⟩ := cells2 k1
  have hlt0 : w.heap.size < W0.heap.size := by rw [HSZ.out]; omega
  have hlt1 : w.heap.size + 1 < W0.heap.size := by rw [HSZ.out]; omega
  have CA : Hid (∀ W, Below W0.heap.size W0 W → Calls Try.prog 74 #[.agg #[.int .i64 m, .slice a l.length cap]] W fun e w' => ∃ p o d, e = .returned (.slice (some ⟨p, o, none⟩) T d) ∧ RkAt w' (.slice (some ⟨p, o, none⟩) T d) T (rk l) ∧ Below W0.heap.size W0 w' ∧ Below W.heap.size W w') := fun W hW => by
    refine (RA.out W (HB0.out.trans (hW.mono HB0.out.size))).mono ?_
    rintro e w' ⟨r, rfl, hr, hb⟩
    obtain ⟨p, o, d, rfl, h1, h2⟩ := hr
    exact ⟨p, o, d, rfl, ⟨p, o, d, rfl, h1, h2⟩, hW.trans (hb.mono hW.size), hb⟩
  have CB : Hid (∀ W, Below W0.heap.size W0 W → Calls Try.prog 74 #[.agg #[.int .i64 m, .slice a' l'.length cap']] W fun e w' => ∃ p o d, e = .returned (.slice (some ⟨p, o, none⟩) T d) ∧ RkAt w' (.slice (some ⟨p, o, none⟩) T d) T (rk l') ∧ Below W0.heap.size W0 w' ∧ Below W.heap.size W w') := fun W hW => by
    refine (RB.out W (HB0.out.trans (hW.mono HB0.out.size))).mono ?_
    rintro e w' ⟨r, rfl, hr, hb⟩
    obtain ⟨p, o, d, rfl, h1, h2⟩ := hr
    exact ⟨p, o, d, rfl, ⟨p, o, d, rfl, h1, h2⟩, hW.trans (hb.mono hW.size), hb⟩
  have CE : Hid (∀ w', Below W0.heap.size W0 w' → w'.cell? ⟨w.heap.size, 0, none⟩ = some (.int .i64 m) ∧ w'.cell? ⟨w.heap.size, 1, none⟩ = some (.slice a l.length cap) ∧ w'.cell? ⟨w.heap.size + 1, 0, none⟩ = some (.int .i64 m) ∧ w'.cell? ⟨w.heap.size + 1, 1, none⟩ = some (.slice a' l'.length cap')) := fun w' hb => ⟨(hb.cell (p := ⟨w.heap.size, 0, none⟩) hlt0).trans x0, (hb.cell (p := ⟨w.heap.size, 1, none⟩) hlt0).trans x1, (hb.cell (p := ⟨w.heap.size + 1, 0, none⟩) hlt1).trans x2, (hb.cell (p := ⟨w.heap.size + 1, 1, none⟩) hlt1).trans x3⟩
  have z1 : W0.heap.size ≠ w.heap.size := by omega
  have z2 : W0.heap.size ≠ w.heap.size + 1 := by omega
  have z3 : W0.heap.size + 1 ≠ w.heap.size := by omega
  have z4 : ¬ W0.heap.size = w.heap.size := z1
  have HPR : Hid (Below W0.heap.size W0 W0) := Below.refl _ _
  have HP0 : Hid (Below W0.heap.size W0 W0.drew) := (Below.refl _ _).drew
  refine Code.wp_mono (Q := UPost w W0 m T (.slice a l.length cap) (.slice a' l'.length cap') (rk l) (rk l')) ?imp ?main
  case main =>
    go_region_held3 (fun w' => w'.cell? ⟨w.heap.size, 0, none⟩ = some (.int .i64 m) ∧ w'.cell? ⟨w.heap.size, 1, none⟩ = some (.slice a l.length cap) ∧ w'.cell? ⟨w.heap.size + 1, 0, none⟩ = some (.int .i64 m) ∧ w'.cell? ⟨w.heap.size + 1, 1, none⟩ = some (.slice a' l'.length cap')) (go_keep)
      (first
        | (go_at_call 74; (with_reducible refine (CA.out _ HP0.out).mono ?_); rintro e wA ⟨p8, o8, d8, rfl, HRA, HBA, hkA⟩; have yA := CE.out wA HBA; obtain ⟨yA0, yA1, yA2, yA3⟩ := yA; have hsA := HBA.size; have z5 : wA.heap.size ≠ w.heap.size := Nat.ne_of_gt (Nat.lt_of_lt_of_le hlt0 hsA); have z6 : wA.heap.size ≠ w.heap.size + 1 := Nat.ne_of_gt (Nat.lt_of_lt_of_le hlt1 hsA); have z7 : wA.heap.size + 1 ≠ w.heap.size := Nat.ne_of_gt (Nat.lt_succ_of_lt (Nat.lt_of_lt_of_le hlt0 hsA)); clear hkA)
        | (go_at_call 74; (with_reducible refine (CA.out _ (Below.drew (Below.up HPR.out _))).mono ?_); rintro e wA ⟨p8, o8, d8, rfl, HRA, HBA, hkA⟩; have yA := CE.out wA HBA; obtain ⟨yA0, yA1, yA2, yA3⟩ := yA; have hsA := HBA.size; have z5 : wA.heap.size ≠ w.heap.size := Nat.ne_of_gt (Nat.lt_of_lt_of_le hlt0 hsA); have z6 : wA.heap.size ≠ w.heap.size + 1 := Nat.ne_of_gt (Nat.lt_of_lt_of_le hlt1 hsA); have z7 : wA.heap.size + 1 ≠ w.heap.size := Nat.ne_of_gt (Nat.lt_succ_of_lt (Nat.lt_of_lt_of_le hlt0 hsA)); have n1 := hid (((NilAt.new W0 W0.heap.size rfl).kept ((Below.refl _ _).drew)).kept hkA); clear hkA)
        | (go_at_call 74; (with_reducible refine (CA.out _ (Below.drew (Below.up (Below.up HPR.out _) _))).mono ?_); rintro e wA ⟨p8, o8, d8, rfl, HRA, HBA, hkA⟩; have yA := CE.out wA HBA; obtain ⟨yA0, yA1, yA2, yA3⟩ := yA; have hsA := HBA.size; have z5 : wA.heap.size ≠ w.heap.size := Nat.ne_of_gt (Nat.lt_of_lt_of_le hlt0 hsA); have z6 : wA.heap.size ≠ w.heap.size + 1 := Nat.ne_of_gt (Nat.lt_of_lt_of_le hlt1 hsA); have z7 : wA.heap.size + 1 ≠ w.heap.size := Nat.ne_of_gt (Nat.lt_succ_of_lt (Nat.lt_of_lt_of_le hlt0 hsA)); have n1 := hid ((((NilAt.new W0 W0.heap.size rfl).alloc (.cells #[.slice none 0 0] 22)).kept ((Below.refl _ _).drew)).kept hkA); have n2 := hid (((NilAt.new (W0.alloc (.cells #[.slice none 0 0] 22)) (W0.heap.size + 1) (World.size_alloc ..)).kept ((Below.refl _ _).drew)).kept hkA); clear hkA)
        | (go_at_call 74; (with_reducible refine (CB.out _ HBA).mono ?_); rintro e wB ⟨p9, o9, d9, rfl, HRB, HBB, hkB⟩; have yB := CE.out wB HBB; obtain ⟨yB0, yB1, yB2, yB3⟩ := yB; have hsB := HBB.size; have z8 : wB.heap.size ≠ w.heap.size := Nat.ne_of_gt (Nat.lt_of_lt_of_le hlt0 hsB); have z9 : wB.heap.size ≠ w.heap.size + 1 := Nat.ne_of_gt (Nat.lt_of_lt_of_le hlt1 hsB); have z10 : wB.heap.size + 1 ≠ w.heap.size := Nat.ne_of_gt (Nat.lt_succ_of_lt (Nat.lt_of_lt_of_le hlt0 hsB)); have HRA2 := HRA.below hkB; have q1 := hid ((n1.out).kept hkB); have q2 := hid ((n2.out).kept hkB); have lwq1 := q1.out.lt; have fq1 := q1.out.1; have gq1 := q1.out.2; have hq1 := hid (NilAt.alloc q1.out (.cells #[.slice none 0 0] 22)); have iq1 := hq1.out.1; have jq1 := hq1.out.2; have uq1 := fun (x : Value) => (NilAt.alloc q1.out (.cells #[x] 22)).1; have vq1 := fun (x : Value) => (NilAt.alloc q1.out (.cells #[x] 22)).2; have kq1 := fun v => (NilAt.apart hq1.out (Nat.ne_of_gt q1.out.lt) v).1; have lq1 := fun v => (NilAt.apart hq1.out (Nat.ne_of_gt q1.out.lt) v).2; have mq1 := fun v => (NilAt.apart (NilAt.new wB wB.heap.size rfl) (Nat.ne_of_lt q1.out.lt) v).1; have oq1 := fun v => (NilAt.apart (NilAt.new wB wB.heap.size rfl) (Nat.ne_of_lt q1.out.lt) v).2; have lwq2 := q2.out.lt; have fq2 := q2.out.1; have gq2 := q2.out.2; have hq2 := hid (NilAt.alloc q2.out (.cells #[.slice none 0 0] 22)); have iq2 := hq2.out.1; have jq2 := hq2.out.2; have uq2 := fun (x : Value) => (NilAt.alloc q2.out (.cells #[x] 22)).1; have vq2 := fun (x : Value) => (NilAt.alloc q2.out (.cells #[x] 22)).2; have kq2 := fun v => (NilAt.apart hq2.out (Nat.ne_of_gt q2.out.lt) v).1; have lq2 := fun v => (NilAt.apart hq2.out (Nat.ne_of_gt q2.out.lt) v).2; have mq2 := fun v => (NilAt.apart (NilAt.new wB wB.heap.size rfl) (Nat.ne_of_lt q2.out.lt) v).1; have oq2 := fun v => (NilAt.apart (NilAt.new wB wB.heap.size rfl) (Nat.ne_of_lt q2.out.lt) v).2; have pq1q2 := fun v => (NilAt.apart q2.out (Nat.ne_of_lt (Nat.lt_succ_self W0.heap.size)) v).1; have rq1q2 := fun v => (NilAt.apart q2.out (Nat.ne_of_lt (Nat.lt_succ_self W0.heap.size)) v).2; have sq1q2 := fun v => (NilAt.apart q1.out (Nat.ne_of_gt (Nat.lt_succ_self W0.heap.size)) v).1; have tq1q2 := fun v => (NilAt.apart q1.out (Nat.ne_of_gt (Nat.lt_succ_self W0.heap.size)) v).2; clear hkB HRA)
        | (go_at_call 74; (with_reducible refine (CB.out _ (Below.up HBA _)).mono ?_); rintro e wB ⟨p9, o9, d9, rfl, HRB, HBB, hkB⟩; have yB := CE.out wB HBB; obtain ⟨yB0, yB1, yB2, yB3⟩ := yB; have hsB := HBB.size; have z8 : wB.heap.size ≠ w.heap.size := Nat.ne_of_gt (Nat.lt_of_lt_of_le hlt0 hsB); have z9 : wB.heap.size ≠ w.heap.size + 1 := Nat.ne_of_gt (Nat.lt_of_lt_of_le hlt1 hsB); have z10 : wB.heap.size + 1 ≠ w.heap.size := Nat.ne_of_gt (Nat.lt_succ_of_lt (Nat.lt_of_lt_of_le hlt0 hsB)); have HRA2 := (HRA.alloc _).below hkB; have q1 := hid (((NilAt.alloc n1.out (.cells #[.slice none 0 0] 22))).kept hkB); have q3 := hid ((NilAt.new wA wA.heap.size rfl).kept hkB); have lwq1 := q1.out.lt; have fq1 := q1.out.1; have gq1 := q1.out.2; have hq1 := hid (NilAt.alloc q1.out (.cells #[.slice none 0 0] 22)); have iq1 := hq1.out.1; have jq1 := hq1.out.2; have uq1 := fun (x : Value) => (NilAt.alloc q1.out (.cells #[x] 22)).1; have vq1 := fun (x : Value) => (NilAt.alloc q1.out (.cells #[x] 22)).2; have kq1 := fun v => (NilAt.apart hq1.out (Nat.ne_of_gt q1.out.lt) v).1; have lq1 := fun v => (NilAt.apart hq1.out (Nat.ne_of_gt q1.out.lt) v).2; have mq1 := fun v => (NilAt.apart (NilAt.new wB wB.heap.size rfl) (Nat.ne_of_lt q1.out.lt) v).1; have oq1 := fun v => (NilAt.apart (NilAt.new wB wB.heap.size rfl) (Nat.ne_of_lt q1.out.lt) v).2; have lwq3 := q3.out.lt; have fq3 := q3.out.1; have gq3 := q3.out.2; have hq3 := hid (NilAt.alloc q3.out (.cells #[.slice none 0 0] 22)); have iq3 := hq3.out.1; have jq3 := hq3.out.2; have uq3 := fun (x : Value) => (NilAt.alloc q3.out (.cells #[x] 22)).1; have vq3 := fun (x : Value) => (NilAt.alloc q3.out (.cells #[x] 22)).2; have kq3 := fun v => (NilAt.apart hq3.out (Nat.ne_of_gt q3.out.lt) v).1; have lq3 := fun v => (NilAt.apart hq3.out (Nat.ne_of_gt q3.out.lt) v).2; have mq3 := fun v => (NilAt.apart (NilAt.new wB wB.heap.size rfl) (Nat.ne_of_lt q3.out.lt) v).1; have oq3 := fun v => (NilAt.apart (NilAt.new wB wB.heap.size rfl) (Nat.ne_of_lt q3.out.lt) v).2; have lpp := n1.out.lt; have pq1q3 := fun v => (NilAt.apart q3.out (Nat.ne_of_lt n1.out.lt) v).1; have rq1q3 := fun v => (NilAt.apart q3.out (Nat.ne_of_lt n1.out.lt) v).2; have sq1q3 := fun v => (NilAt.apart q1.out (Nat.ne_of_gt n1.out.lt) v).1; have tq1q3 := fun v => (NilAt.apart q1.out (Nat.ne_of_gt n1.out.lt) v).2; clear hkB HRA)
        | (go_at_call 74; (with_reducible refine (CB.out _ HBA).mono ?_); rintro e wB ⟨p9, o9, d9, rfl, HRB, HBB, hkB⟩; have yB := CE.out wB HBB; obtain ⟨yB0, yB1, yB2, yB3⟩ := yB; have hsB := HBB.size; have z8 : wB.heap.size ≠ w.heap.size := Nat.ne_of_gt (Nat.lt_of_lt_of_le hlt0 hsB); have z9 : wB.heap.size ≠ w.heap.size + 1 := Nat.ne_of_gt (Nat.lt_of_lt_of_le hlt1 hsB); have z10 : wB.heap.size + 1 ≠ w.heap.size := Nat.ne_of_gt (Nat.lt_succ_of_lt (Nat.lt_of_lt_of_le hlt0 hsB)); have HRA2 := HRA.below hkB; have q1 := hid ((n1.out).kept hkB); have lwq1 := q1.out.lt; have fq1 := q1.out.1; have gq1 := q1.out.2; have hq1 := hid (NilAt.alloc q1.out (.cells #[.slice none 0 0] 22)); have iq1 := hq1.out.1; have jq1 := hq1.out.2; have uq1 := fun (x : Value) => (NilAt.alloc q1.out (.cells #[x] 22)).1; have vq1 := fun (x : Value) => (NilAt.alloc q1.out (.cells #[x] 22)).2; have kq1 := fun v => (NilAt.apart hq1.out (Nat.ne_of_gt q1.out.lt) v).1; have lq1 := fun v => (NilAt.apart hq1.out (Nat.ne_of_gt q1.out.lt) v).2; have mq1 := fun v => (NilAt.apart (NilAt.new wB wB.heap.size rfl) (Nat.ne_of_lt q1.out.lt) v).1; have oq1 := fun v => (NilAt.apart (NilAt.new wB wB.heap.size rfl) (Nat.ne_of_lt q1.out.lt) v).2; clear hkB HRA)
        | (go_at_call 74; (with_reducible refine (CB.out _ (Below.up (Below.up HBA _) _)).mono ?_); rintro e wB ⟨p9, o9, d9, rfl, HRB, HBB, hkB⟩; have yB := CE.out wB HBB; obtain ⟨yB0, yB1, yB2, yB3⟩ := yB; have hsB := HBB.size; have z8 : wB.heap.size ≠ w.heap.size := Nat.ne_of_gt (Nat.lt_of_lt_of_le hlt0 hsB); have z9 : wB.heap.size ≠ w.heap.size + 1 := Nat.ne_of_gt (Nat.lt_of_lt_of_le hlt1 hsB); have z10 : wB.heap.size + 1 ≠ w.heap.size := Nat.ne_of_gt (Nat.lt_succ_of_lt (Nat.lt_of_lt_of_le hlt0 hsB)); have HRA2 := ((HRA.alloc _).alloc _).below hkB; have q3 := hid (((NilAt.new wA wA.heap.size rfl).alloc (.cells #[.slice none 0 0] 22)).kept hkB); have q4 := hid ((NilAt.new (wA.alloc (.cells #[.slice none 0 0] 22)) (wA.heap.size + 1) (World.size_alloc ..)).kept hkB); have lwq3 := q3.out.lt; have fq3 := q3.out.1; have gq3 := q3.out.2; have hq3 := hid (NilAt.alloc q3.out (.cells #[.slice none 0 0] 22)); have iq3 := hq3.out.1; have jq3 := hq3.out.2; have uq3 := fun (x : Value) => (NilAt.alloc q3.out (.cells #[x] 22)).1; have vq3 := fun (x : Value) => (NilAt.alloc q3.out (.cells #[x] 22)).2; have kq3 := fun v => (NilAt.apart hq3.out (Nat.ne_of_gt q3.out.lt) v).1; have lq3 := fun v => (NilAt.apart hq3.out (Nat.ne_of_gt q3.out.lt) v).2; have mq3 := fun v => (NilAt.apart (NilAt.new wB wB.heap.size rfl) (Nat.ne_of_lt q3.out.lt) v).1; have oq3 := fun v => (NilAt.apart (NilAt.new wB wB.heap.size rfl) (Nat.ne_of_lt q3.out.lt) v).2; have lwq4 := q4.out.lt; have fq4 := q4.out.1; have gq4 := q4.out.2; have hq4 := hid (NilAt.alloc q4.out (.cells #[.slice none 0 0] 22)); have iq4 := hq4.out.1; have jq4 := hq4.out.2; have uq4 := fun (x : Value) => (NilAt.alloc q4.out (.cells #[x] 22)).1; have vq4 := fun (x : Value) => (NilAt.alloc q4.out (.cells #[x] 22)).2; have kq4 := fun v => (NilAt.apart hq4.out (Nat.ne_of_gt q4.out.lt) v).1; have lq4 := fun v => (NilAt.apart hq4.out (Nat.ne_of_gt q4.out.lt) v).2; have mq4 := fun v => (NilAt.apart (NilAt.new wB wB.heap.size rfl) (Nat.ne_of_lt q4.out.lt) v).1; have oq4 := fun v => (NilAt.apart (NilAt.new wB wB.heap.size rfl) (Nat.ne_of_lt q4.out.lt) v).2; have pq3q4 := fun v => (NilAt.apart q4.out (Nat.ne_of_lt (Nat.lt_succ_self wA.heap.size)) v).1; have rq3q4 := fun v => (NilAt.apart q4.out (Nat.ne_of_lt (Nat.lt_succ_self wA.heap.size)) v).2; have sq3q4 := fun v => (NilAt.apart q3.out (Nat.ne_of_gt (Nat.lt_succ_self wA.heap.size)) v).1; have tq3q4 := fun v => (NilAt.apart q3.out (Nat.ne_of_gt (Nat.lt_succ_self wA.heap.size)) v).2; clear hkB HRA)
        | (go_at_call 74; (with_reducible refine (CB.out _ (Below.up HBA _)).mono ?_); rintro e wB ⟨p9, o9, d9, rfl, HRB, HBB, hkB⟩; have yB := CE.out wB HBB; obtain ⟨yB0, yB1, yB2, yB3⟩ := yB; have hsB := HBB.size; have z8 : wB.heap.size ≠ w.heap.size := Nat.ne_of_gt (Nat.lt_of_lt_of_le hlt0 hsB); have z9 : wB.heap.size ≠ w.heap.size + 1 := Nat.ne_of_gt (Nat.lt_of_lt_of_le hlt1 hsB); have z10 : wB.heap.size + 1 ≠ w.heap.size := Nat.ne_of_gt (Nat.lt_succ_of_lt (Nat.lt_of_lt_of_le hlt0 hsB)); have HRA2 := (HRA.alloc _).below hkB; have q3 := hid ((NilAt.new wA wA.heap.size rfl).kept hkB); have lwq3 := q3.out.lt; have fq3 := q3.out.1; have gq3 := q3.out.2; have hq3 := hid (NilAt.alloc q3.out (.cells #[.slice none 0 0] 22)); have iq3 := hq3.out.1; have jq3 := hq3.out.2; have uq3 := fun (x : Value) => (NilAt.alloc q3.out (.cells #[x] 22)).1; have vq3 := fun (x : Value) => (NilAt.alloc q3.out (.cells #[x] 22)).2; have kq3 := fun v => (NilAt.apart hq3.out (Nat.ne_of_gt q3.out.lt) v).1; have lq3 := fun v => (NilAt.apart hq3.out (Nat.ne_of_gt q3.out.lt) v).2; have mq3 := fun v => (NilAt.apart (NilAt.new wB wB.heap.size rfl) (Nat.ne_of_lt q3.out.lt) v).1; have oq3 := fun v => (NilAt.apart (NilAt.new wB wB.heap.size rfl) (Nat.ne_of_lt q3.out.lt) v).2; clear hkB HRA)
        | (go_at_call 74; (with_reducible refine (CB.out _ HBA).mono ?_); rintro e wB ⟨p9, o9, d9, rfl, HRB, HBB, hkB⟩; have yB := CE.out wB HBB; obtain ⟨yB0, yB1, yB2, yB3⟩ := yB; have hsB := HBB.size; have z8 : wB.heap.size ≠ w.heap.size := Nat.ne_of_gt (Nat.lt_of_lt_of_le hlt0 hsB); have z9 : wB.heap.size ≠ w.heap.size + 1 := Nat.ne_of_gt (Nat.lt_of_lt_of_le hlt1 hsB); have z10 : wB.heap.size + 1 ≠ w.heap.size := Nat.ne_of_gt (Nat.lt_succ_of_lt (Nat.lt_of_lt_of_le hlt0 hsB)); have HRA2 := HRA.below hkB; clear hkB HRA))
    all_goals refine ⟨_, _, _, _, _, _, _, _, rfl, ?_, ?_, ?_, ?_, ?_⟩
    all_goals (first
      | (repeat (first
          | exact HBB
          | refine Below.up ?_ _
          | (refine Below.setCell ?_ (by first | (show W0.heap.size ≤ W0.heap.size; exact Nat.le_refl _) | (show W0.heap.size ≤ W0.heap.size + 1; exact Nat.le_succ _) | (show W0.heap.size ≤ wA.heap.size; exact hsA) | (show W0.heap.size ≤ wA.heap.size + 1; exact Nat.le_succ_of_le hsA) | (show W0.heap.size ≤ wB.heap.size; exact hsB) | (show W0.heap.size ≤ wB.heap.size + 1; exact Nat.le_succ_of_le hsB)) _)))
      | skip)
    all_goals (first
      | (repeat (first
          | exact HRA2
          | exact HRB
          | refine RkAt.alloc ?_ _
          | (refine RkAt.setS (a := none) (n := 0) (c := 0) ?_ (by first | assumption | simp [*]) _)))
      | skip)
    all_goals (first
      | exact new_cell wB wB.heap.size _ rfl
      | exact new_cell (wB.alloc _) (wB.heap.size + 1) _ (World.size_alloc ..)
      | exact cellA _ (new_cell wB wB.heap.size _ rfl)
      | exact World.cell?_setCell_same' _ _ _ (by first | (rw [mq1]; rfl) | (rw [mq3]; rfl) | (rw [pq1q2]; rfl) | (rw [pq1q3]; rfl) | (rw [pq3q4]; rfl) | (rw [sq1q2]; rfl) | (rw [sq1q3]; rfl) | (rw [sq3q4]; rfl) | (rw [uq1]; rfl) | (rw [uq3]; rfl) | (rw [iq1]; rfl) | (rw [iq3]; rfl) | (rw [fq1]; rfl) | (rw [fq2]; rfl) | (rw [fq3]; rfl) | (rw [fq4]; rfl))
      | exact cellA _ (World.cell?_setCell_same' _ _ _ (by first | (rw [fq1]; rfl) | (rw [fq3]; rfl)))
      | exact new_cell (wB.setCell _ _) wB.heap.size _ (by simp)
      | (refine Eq.trans (World.cell?_setCell_other _ _ _ _ ?_) ?_; exact addr_ne (by omega); first
          | exact new_cell wB wB.heap.size _ rfl
          | exact World.cell?_setCell_same' _ _ _ (by first | (rw [uq1]; rfl) | (rw [uq3]; rfl) | (rw [iq1]; rfl) | (rw [iq3]; rfl) | (rw [fq1]; rfl) | (rw [fq2]; rfl) | (rw [fq3]; rfl) | (rw [fq4]; rfl))))
  case imp =>
    intro e act w1 hU
    obtain rfl : e = .normal := by cases e <;> first | rfl | exact (hU : False).elim
    obtain ⟨px, py, p8, o8, d8, p9, o9, d9, rfl, hx, hy, hr8, hr9, hb1⟩ := hU
    obtain ⟨c0, c1, c2⟩ := HX.out w1 hb1
    obtain ⟨y0, y1⟩ := cells2 c0
    have hpx := World.block_lt_of_cell? w1 _ hx
    have hpy := World.block_lt_of_cell? w1 _ hy
    have HC2 := hid c2
    have HB1 := hid (HB0.out.trans (hb1.mono HB0.out.size))
    have hs1 := hb1.size
    have hsz := HSZ.out
    have OR := hid (OfRank_any m 77 #[.pointer (some ⟨px, 0, none⟩), .pointer (some ⟨py, 0, none⟩)] (uniR l l') w1 hm (fun args w => enters_of Try.func77 (by kernel_rfl) rfl args w)
      (fun x hx' w3 hb3 _ => United1_any x px py T _ _ (rk l) (rk l') w3 (by rw [← HT.out]; exact (pow_wrap m hm).2) (by rw [← HT.out]; exact hx') (rk_le8 l (hf.lt256 hm)) (rk_le8 l' (hf'.lt256 hm)) ((hb3.cell (p := ⟨px, 0, none⟩) hpx).trans hx) ((hb3.cell (p := ⟨py, 0, none⟩) hpy).trans hy) (hr8.below hb3) (hr9.below hb3)))
    rw [show basR m (uniR l l') = uniN m l l' from rfl] at OR
    clear c0 c1 c2 hr8 hr9 hb1
    obtain ⟨acc, HACC⟩ : ∃ acc : List Nat, Hid (uniN m l l' = acc) := ⟨_, rfl⟩
    rw [HACC.out] at OR
    go_wp2_with fail
    refine OR.out.mono ?_
    rintro e w2 ⟨v2, rfl, ho2, hb2⟩
    obtain ⟨ra, rc, hr⟩ := ownsRow_form' ho2
    subst hr
    have hx2 := (hb2.block (w.heap.size + 1 + 1) (by omega)).trans HC2.out
    obtain ⟨q2, q3, g2, g3⟩ := two_cells hx2
    have HC := hid (set_two (x := .int .i64 m) (y := .slice ra acc.length rc) hx2)
    have HD := hid (below_two (b := w.heap.size + 1 + 1) (x := .int .i64 m) (y := .slice ra acc.length rc) (HB1.out.trans (hb2.mono HB1.out.size)) (by omega))
    have HII := hid ((ho2.set2 (b := w.heap.size + 1 + 1) (x := .int .i64 m) (y := .slice ra acc.length rc) (by omega)).mono (by omega : w.heap.size ≤ _))
    clear hb2 ho2 hx2
    go_wp2_with fail
    obtain ⟨k5, k6⟩ := HC.out
    refine bodyPost_ret (v := .agg #[.int .i64 m, .slice ra _ rc]) ?_ rfl ⟨_, rfl, by rw [HACC.out]; exact HII.out, HD.out⟩
    simp [results, Try.f31, go_sem, k5, k6]
end Go.Proofs.Ythbcnolpjcppoab
