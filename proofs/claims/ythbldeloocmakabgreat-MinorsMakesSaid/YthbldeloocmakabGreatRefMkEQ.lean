/- The document's sum of two matroids: rotaref.Summed. -/
import Derived.Test.YthbldeloocmakabGreatRfUQ
import Derived.Test.YthbldeloocmakabGreatRefMkAQ
import Derived.Test.YthbldeloocmakabGreatPlainAll
namespace Go.Proofs.YthbldeloocmakabGreat
open Go.RowKit

set_option maxRecDepth 20000 in
set_option maxHeartbeats 2000000 in
theorem SummedQ_ok (s p1 bM p2 n k : Nat) (va vb : Value) (r q : Nat → Nat) (w : World) (hnk : n + k ≤ 8) (hs : s < 2 ^ (n + k)) (hr8 : ∀ t, r t ≤ 8) (hq8 : ∀ t, q t ≤ 8)
    (h1 : w.cell? ⟨p1, 0, none⟩ = some va) (hM : w.cell? ⟨bM, 0, none⟩ = some (.int .i64 n)) (h2 : w.cell? ⟨p2, 0, none⟩ = some vb) (hA : RkAt w va (2 ^ n) r) (hB : RkAt w vb (2 ^ k) q) :
    Calls Tryz.prog 42 #[.int .i64 s, .pointer (some ⟨p1, 0, none⟩), .pointer (some ⟨bM, 0, none⟩), .pointer (some ⟨p2, 0, none⟩)] w fun e w' => e = .returned (.int .i64 (sumR n r q s : Nat)) ∧ Below w.heap.size w w' := by
  have hn : n ≤ 8 := by omega
  have s8 := lt256 hnk hs
  obtain ⟨rb, roff, rcap, rfl, a1, a2⟩ := hA
  obtain ⟨qb, qoff, qcap, rfl, b1, b2⟩ := hB
  have hR1 : ∀ x : Later w, x.now.cell? ⟨p1, 0, none⟩ = some (.slice (some ⟨rb, roff, none⟩) (2 ^ n) rcap) := fun x => (x.kept.cell (p := ⟨p1, 0, none⟩) (World.block_lt_of_cell? w _ h1)).trans h1
  have hR2 : ∀ x : Later w, x.now.cell? ⟨p2, 0, none⟩ = some (.slice (some ⟨qb, qoff, none⟩) (2 ^ k) qcap) := fun x => (x.kept.cell (p := ⟨p2, 0, none⟩) (World.block_lt_of_cell? w _ h2)).trans h2
  have hM' : ∀ x : Later w, x.now.cell? ⟨bM, 0, none⟩ = some (.int .i64 n) := fun x => (x.kept.cell (p := ⟨bM, 0, none⟩) (World.block_lt_of_cell? w _ hM)).trans hM
  have l1 := mod_ltn n s
  have l2 := div_ltn hs
  have c1 : ∀ x : Later w, x.now.cell? ⟨rb, roff + s % 2 ^ n, none⟩ = some (.int .i64 (r (s % 2 ^ n) : Nat)) := fun x => (x.kept.cell (p := ⟨rb, roff + s % 2 ^ n, none⟩) a1).trans (a2 _ l1)
  have c2 : ∀ x : Later w, x.now.cell? ⟨qb, qoff + s / 2 ^ n, none⟩ = some (.int .i64 (q (s / 2 ^ n) : Nat)) := fun x => (x.kept.cell (p := ⟨qb, qoff + s / 2 ^ n, none⟩) b1).trans (b2 _ l2)
  have AL := hid (fun w' => All_ref n w' hn)
  have f8 := lt256 hn (full_lt n)
  have hand : bits .and .i64 (s : Int) ((2 ^ n - 1 : Nat) : Int) = ((s % 2 ^ n : Nat) : Int) := by
    rw [i64_and_nat _ _ (by omega) (by omega), Nat.and_two_pow_sub_one_eq_mod]
  have hshr : (s : Int) / 2 ^ n = ((s / 2 ^ n : Nat) : Int) := by
    rw [Int.natCast_ediv]
    simp
  have i1 : ((s % 2 ^ n : Nat) : Int) < ((2 ^ n : Nat) : Int) := Int.ofNat_lt.2 l1
  have i2 : ((s / 2 ^ n : Nat) : Int) < ((2 ^ k : Nat) : Int) := Int.ofNat_lt.2 l2
  have q1 := hr8 (s % 2 ^ n)
  have q2 := hq8 (s / 2 ^ n)
  have hn0 : (0 : Int) ≤ (n : Int) := by omega
  have hn64 : (n : Int) ≤ 64 := by omega
  have E : Hid (sumR n r q s = r (s % 2 ^ n) + q (s / 2 ^ n)) := rfl
  rw [E.out]
  clear a2 b2 E hs
  generalize r (s % 2 ^ n) = x at *
  generalize q (s / 2 ^ n) = y at *
  generalize s % 2 ^ n = sm at *
  generalize s / 2 ^ n = sd at *
  generalize 2 ^ n - 1 = fm at *
  generalize (2 : Nat) ^ n = T at *
  generalize (2 : Nat) ^ k = T' at *
  go_enter Tryz.func42, Tryz.ntmps42
  go_wp2_with fail
  refine region_later (by kernel_rfl) (by kernel_rfl) ?_
  repeat (go_big_quiet_step ((go_at_call 28; refine (AL.out _).mono ?_; rintro e w' ⟨rfl, rfl⟩; exact ⟨rfl, Later.on _ (Below.refl _ _)⟩)))
  refine wpQuiet_nil ?_
  intro w6 hw'
  obtain ⟨⟨y6, hb6⟩, hw''⟩ := hw'
  dsimp only at hw''
  subst hw''
  have HB := hid hb6
  clear hb6
  go_wp2_with fail
  go_ret
  exact ⟨ret_int (by omega), HB.out⟩
def SPost (w W0 : World) (m k T T' : Nat) (va vb : Value) (r q : Nat → Nat) : Exit → Act → World → Prop
  | .normal, act, w' => ∃ (px py : Nat) (p8 o8 d8 p9 o9 d9 : Nat), act = { tmps := #[.agg #[.int .i64 m, va], .agg #[.int .i64 k, vb], .pointer (some ⟨w.heap.size, 0, none⟩), .pointer (some ⟨w.heap.size + 1, 0, none⟩), .pointer (some ⟨w.heap.size + 1 + 1, 0, none⟩), .pointer (some ⟨px, 0, none⟩), .pointer (some ⟨py, 0, none⟩), .agg #[.int .i64 m, va], .slice (some ⟨p8, o8, none⟩) T d8, .agg #[.int .i64 k, vb], .slice (some ⟨p9, o9, none⟩) T' d9, undef, undef, undef, undef, undef, undef, undef], defers := [] } ∧ w'.cell? ⟨px, 0, none⟩ = some (.slice (some ⟨p8, o8, none⟩) T d8) ∧ w'.cell? ⟨py, 0, none⟩ = some (.slice (some ⟨p9, o9, none⟩) T' d9) ∧ RkAt w' (.slice (some ⟨p8, o8, none⟩) T d8) T r ∧ RkAt w' (.slice (some ⟨p9, o9, none⟩) T' d9) T' q ∧ Below W0.heap.size W0 w'
  | _, _, _ => False
set_option maxRecDepth 20000 in
set_option maxHeartbeats 4000000 in
theorem Summed_ref (m k : Nat) (v u : Value) (l l' : List Nat) (w : World) (hmk : m + k ≤ 8) (hf : Fam m l) (_hb0 : Bas l) (h : Ints w v (N l)) (hf' : Fam k l') (_hb0' : Bas l') (h' : Ints w u (N l')) :
    Calls Tryz.prog 13 #[.agg #[.int .i64 m, v], .agg #[.int .i64 k, u]] w fun e w' => ∃ r, e = .returned (.agg #[.int .i64 ((m + k : Nat) : Int), r]) ∧ Own w.heap.size w' r (sumL m l k l') ∧ Below w.heap.size w w' := by
  have hm : m ≤ 8 := by omega
  have hk : k ≤ 8 := by omega
  obtain ⟨M, HM, hM1⟩ : ∃ M : Nat, Hid (m + k = M) ∧ (m : Int) + (k : Int) = (M : Int) := ⟨m + k, Eq.refl (m + k), by omega⟩
  rw [HM.out]
  have HI := hid h
  have HI' := hid h'
  obtain ⟨a, cap, hv, -, -⟩ := h.nats
  subst hv
  obtain ⟨a', cap', hv, -, -⟩ := h'.nats
  subst hv
  have RA := hid (fun (W : World) (hW : Below w.heap.size w W) => Ranks_ref m _ l W hm (hf.lt256 hm) (HI.out.below hW))
  have RB := hid (fun (W : World) (hW : Below w.heap.size w W) => Ranks_ref k _ l' W hk (hf'.lt256 hk) (HI'.out.below hW))
  have HB0 := hid ((box2_below w m (.slice a l.length cap) k (.slice a' l'.length cap')).alloc (by rw [box2_size]; omega) (.cells #[.int .i64 0, .slice none 0 0] 24))
  have HX : Hid (∀ w2, Below ((box2 w m (.slice a l.length cap) k (.slice a' l'.length cap')).alloc (.cells #[.int .i64 0, .slice none 0 0] 24)).heap.size ((box2 w m (.slice a l.length cap) k (.slice a' l'.length cap')).alloc (.cells #[.int .i64 0, .slice none 0 0] 24)) w2 → w2.heap[w.heap.size]? = some (.cells #[.int .i64 m, .slice a l.length cap] 24 (0, 0)) ∧ w2.heap[w.heap.size + 1]? = some (.cells #[.int .i64 k, .slice a' l'.length cap'] 24 (0, 0)) ∧ w2.heap[w.heap.size + 1 + 1]? = some (.cells #[.int .i64 0, .slice none 0 0] 24 (0, 0))) := fun w2 hb2 => by
    have hs2 := box2_size w m (.slice a l.length cap) k (.slice a' l'.length cap')
    have h3 : Below (box2 w m (.slice a l.length cap) k (.slice a' l'.length cap')).heap.size (box2 w m (.slice a l.length cap) k (.slice a' l'.length cap')) ((box2 w m (.slice a l.length cap) k (.slice a' l'.length cap')).alloc (.cells #[.int .i64 0, .slice none 0 0] 24)) := (Below.refl _ _).alloc (Nat.le_refl _) _
    obtain ⟨c0, c1⟩ := box2_blocks h3
    have hs3 : ((box2 w m (.slice a l.length cap) k (.slice a' l'.length cap')).alloc (.cells #[.int .i64 0, .slice none 0 0] 24)).heap.size = w.heap.size + 3 := by rw [World.size_alloc, hs2]
    refine ⟨(hb2.block _ (by omega)).trans c0, (hb2.block _ (by omega)).trans c1, (hb2.block _ (by omega)).trans ?_⟩
    have := World.alloc_heap_new (box2 w m (.slice a l.length cap) k (.slice a' l'.length cap')) (.cells #[.int .i64 0, .slice none 0 0] 24)
    rw [hs2] at this
    exact this
  have HSZ : Hid (((box2 w m (.slice a l.length cap) k (.slice a' l'.length cap')).alloc (.cells #[.int .i64 0, .slice none 0 0] 24)).heap.size = w.heap.size + 3) := by show _ = _; rw [World.size_alloc, box2_size]
  obtain ⟨T, HT⟩ : ∃ T, Hid (2 ^ m = T) := ⟨2 ^ m, Eq.refl (2 ^ m)⟩
  obtain ⟨T', HT'⟩ : ∃ T', Hid (2 ^ k = T') := ⟨2 ^ k, Eq.refl (2 ^ k)⟩
  rw [HT.out] at RA
  rw [HT'.out] at RB
  go_enter Tryz.func13, Tryz.ntmps13
  go_wp2_with fail
  revert HB0 HX HSZ
  rw [show ((w.alloc (.cells #[.int .i64 m, .slice a l.length cap] 24)).alloc (.cells #[.int .i64 k, .slice a' l'.length cap'] 24)) = box2 w m (.slice a l.length cap) k (.slice a' l'.length cap') from rfl]
  generalize (box2 w m (.slice a l.length cap) k (.slice a' l'.length cap')).alloc (.cells #[.int .i64 0, .slice none 0 0] 24) = W0
  intro HB0 HX HSZ
  obtain ⟨k0, k1, k2⟩ := HX.out W0 (Below.refl _ _)
  obtain ⟨x0, x1⟩ := cells2 k0
  obtain ⟨x2, x3⟩ := cells2 k1
  have hlt0 : w.heap.size < W0.heap.size := by rw [HSZ.out]; omega
  have hlt1 : w.heap.size + 1 < W0.heap.size := by rw [HSZ.out]; omega
  have CA : Hid (∀ W, Below W0.heap.size W0 W → Calls Tryz.prog 27 #[.agg #[.int .i64 m, .slice a l.length cap]] W fun e w' => ∃ p o d, e = .returned (.slice (some ⟨p, o, none⟩) T d) ∧ RkAt w' (.slice (some ⟨p, o, none⟩) T d) T (rk l) ∧ Below W0.heap.size W0 w' ∧ Below W.heap.size W w') := fun W hW => by
    refine (RA.out W (HB0.out.trans (hW.mono HB0.out.size))).mono ?_
    rintro e w' ⟨r, rfl, hr, hb⟩
    obtain ⟨p, o, d, rfl, h1, h2⟩ := hr
    exact ⟨p, o, d, rfl, ⟨p, o, d, rfl, h1, h2⟩, hW.trans (hb.mono hW.size), hb⟩
  have CB : Hid (∀ W, Below W0.heap.size W0 W → Calls Tryz.prog 27 #[.agg #[.int .i64 k, .slice a' l'.length cap']] W fun e w' => ∃ p o d, e = .returned (.slice (some ⟨p, o, none⟩) T' d) ∧ RkAt w' (.slice (some ⟨p, o, none⟩) T' d) T' (rk l') ∧ Below W0.heap.size W0 w' ∧ Below W.heap.size W w') := fun W hW => by
    refine (RB.out W (HB0.out.trans (hW.mono HB0.out.size))).mono ?_
    rintro e w' ⟨r, rfl, hr, hb⟩
    obtain ⟨p, o, d, rfl, h1, h2⟩ := hr
    exact ⟨p, o, d, rfl, ⟨p, o, d, rfl, h1, h2⟩, hW.trans (hb.mono hW.size), hb⟩
  have CE : Hid (∀ w', Below W0.heap.size W0 w' → w'.cell? ⟨w.heap.size, 0, none⟩ = some (.int .i64 m) ∧ w'.cell? ⟨w.heap.size, 1, none⟩ = some (.slice a l.length cap) ∧ w'.cell? ⟨w.heap.size + 1, 0, none⟩ = some (.int .i64 k) ∧ w'.cell? ⟨w.heap.size + 1, 1, none⟩ = some (.slice a' l'.length cap')) := fun w' hb => ⟨(hb.cell (p := ⟨w.heap.size, 0, none⟩) hlt0).trans x0, (hb.cell (p := ⟨w.heap.size, 1, none⟩) hlt0).trans x1, (hb.cell (p := ⟨w.heap.size + 1, 0, none⟩) hlt1).trans x2, (hb.cell (p := ⟨w.heap.size + 1, 1, none⟩) hlt1).trans x3⟩
  have z1 : W0.heap.size ≠ w.heap.size := by omega
  have z2 : W0.heap.size ≠ w.heap.size + 1 := by omega
  have z3 : W0.heap.size + 1 ≠ w.heap.size := by omega
  have z4 : ¬ W0.heap.size = w.heap.size := z1
  have HPR : Hid (Below W0.heap.size W0 W0) := Below.refl _ _
  have HP0 : Hid (Below W0.heap.size W0 W0.drew) := (Below.refl _ _).drew
  refine Code.wp_mono (Q := SPost w W0 m k T T' (.slice a l.length cap) (.slice a' l'.length cap') (rk l) (rk l')) ?imp ?main
  case main =>
    go_region_held3 (fun w' => w'.cell? ⟨w.heap.size, 0, none⟩ = some (.int .i64 m) ∧ w'.cell? ⟨w.heap.size, 1, none⟩ = some (.slice a l.length cap) ∧ w'.cell? ⟨w.heap.size + 1, 0, none⟩ = some (.int .i64 k) ∧ w'.cell? ⟨w.heap.size + 1, 1, none⟩ = some (.slice a' l'.length cap')) (go_keep)
      (first
        | (go_at_call 27; (with_reducible refine (CA.out _ HP0.out).mono ?_); rintro e wA ⟨p8, o8, d8, rfl, HRA, HBA, hkA⟩; have yA := CE.out wA HBA; obtain ⟨yA0, yA1, yA2, yA3⟩ := yA; have hsA := HBA.size; have z5 : wA.heap.size ≠ w.heap.size := Nat.ne_of_gt (Nat.lt_of_lt_of_le hlt0 hsA); have z6 : wA.heap.size ≠ w.heap.size + 1 := Nat.ne_of_gt (Nat.lt_of_lt_of_le hlt1 hsA); have z7 : wA.heap.size + 1 ≠ w.heap.size := Nat.ne_of_gt (Nat.lt_succ_of_lt (Nat.lt_of_lt_of_le hlt0 hsA)); clear hkA)
        | (go_at_call 27; (with_reducible refine (CA.out _ (Below.drew (Below.up HPR.out _))).mono ?_); rintro e wA ⟨p8, o8, d8, rfl, HRA, HBA, hkA⟩; have yA := CE.out wA HBA; obtain ⟨yA0, yA1, yA2, yA3⟩ := yA; have hsA := HBA.size; have z5 : wA.heap.size ≠ w.heap.size := Nat.ne_of_gt (Nat.lt_of_lt_of_le hlt0 hsA); have z6 : wA.heap.size ≠ w.heap.size + 1 := Nat.ne_of_gt (Nat.lt_of_lt_of_le hlt1 hsA); have z7 : wA.heap.size + 1 ≠ w.heap.size := Nat.ne_of_gt (Nat.lt_succ_of_lt (Nat.lt_of_lt_of_le hlt0 hsA)); have n1 := hid (((NilAt.new W0 W0.heap.size rfl).kept ((Below.refl _ _).drew)).kept hkA); clear hkA)
        | (go_at_call 27; (with_reducible refine (CA.out _ (Below.drew (Below.up (Below.up HPR.out _) _))).mono ?_); rintro e wA ⟨p8, o8, d8, rfl, HRA, HBA, hkA⟩; have yA := CE.out wA HBA; obtain ⟨yA0, yA1, yA2, yA3⟩ := yA; have hsA := HBA.size; have z5 : wA.heap.size ≠ w.heap.size := Nat.ne_of_gt (Nat.lt_of_lt_of_le hlt0 hsA); have z6 : wA.heap.size ≠ w.heap.size + 1 := Nat.ne_of_gt (Nat.lt_of_lt_of_le hlt1 hsA); have z7 : wA.heap.size + 1 ≠ w.heap.size := Nat.ne_of_gt (Nat.lt_succ_of_lt (Nat.lt_of_lt_of_le hlt0 hsA)); have n1 := hid ((((NilAt.new W0 W0.heap.size rfl).alloc (.cells #[.slice none 0 0] 22)).kept ((Below.refl _ _).drew)).kept hkA); have n2 := hid (((NilAt.new (W0.alloc (.cells #[.slice none 0 0] 22)) (W0.heap.size + 1) (World.size_alloc ..)).kept ((Below.refl _ _).drew)).kept hkA); clear hkA)
        | (go_at_call 27; (with_reducible refine (CB.out _ HBA).mono ?_); rintro e wB ⟨p9, o9, d9, rfl, HRB, HBB, hkB⟩; have yB := CE.out wB HBB; obtain ⟨yB0, yB1, yB2, yB3⟩ := yB; have hsB := HBB.size; have z8 : wB.heap.size ≠ w.heap.size := Nat.ne_of_gt (Nat.lt_of_lt_of_le hlt0 hsB); have z9 : wB.heap.size ≠ w.heap.size + 1 := Nat.ne_of_gt (Nat.lt_of_lt_of_le hlt1 hsB); have z10 : wB.heap.size + 1 ≠ w.heap.size := Nat.ne_of_gt (Nat.lt_succ_of_lt (Nat.lt_of_lt_of_le hlt0 hsB)); have HRA2 := HRA.below hkB; have q1 := hid ((n1.out).kept hkB); have q2 := hid ((n2.out).kept hkB); have lwq1 := q1.out.lt; have fq1 := q1.out.1; have gq1 := q1.out.2; have hq1 := hid (NilAt.alloc q1.out (.cells #[.slice none 0 0] 22)); have iq1 := hq1.out.1; have jq1 := hq1.out.2; have uq1 := fun (x : Value) => (NilAt.alloc q1.out (.cells #[x] 22)).1; have vq1 := fun (x : Value) => (NilAt.alloc q1.out (.cells #[x] 22)).2; have kq1 := fun v => (NilAt.apart hq1.out (Nat.ne_of_gt q1.out.lt) v).1; have lq1 := fun v => (NilAt.apart hq1.out (Nat.ne_of_gt q1.out.lt) v).2; have mq1 := fun v => (NilAt.apart (NilAt.new wB wB.heap.size rfl) (Nat.ne_of_lt q1.out.lt) v).1; have oq1 := fun v => (NilAt.apart (NilAt.new wB wB.heap.size rfl) (Nat.ne_of_lt q1.out.lt) v).2; have lwq2 := q2.out.lt; have fq2 := q2.out.1; have gq2 := q2.out.2; have hq2 := hid (NilAt.alloc q2.out (.cells #[.slice none 0 0] 22)); have iq2 := hq2.out.1; have jq2 := hq2.out.2; have uq2 := fun (x : Value) => (NilAt.alloc q2.out (.cells #[x] 22)).1; have vq2 := fun (x : Value) => (NilAt.alloc q2.out (.cells #[x] 22)).2; have kq2 := fun v => (NilAt.apart hq2.out (Nat.ne_of_gt q2.out.lt) v).1; have lq2 := fun v => (NilAt.apart hq2.out (Nat.ne_of_gt q2.out.lt) v).2; have mq2 := fun v => (NilAt.apart (NilAt.new wB wB.heap.size rfl) (Nat.ne_of_lt q2.out.lt) v).1; have oq2 := fun v => (NilAt.apart (NilAt.new wB wB.heap.size rfl) (Nat.ne_of_lt q2.out.lt) v).2; have pq1q2 := fun v => (NilAt.apart q2.out (Nat.ne_of_lt (Nat.lt_succ_self W0.heap.size)) v).1; have rq1q2 := fun v => (NilAt.apart q2.out (Nat.ne_of_lt (Nat.lt_succ_self W0.heap.size)) v).2; have sq1q2 := fun v => (NilAt.apart q1.out (Nat.ne_of_gt (Nat.lt_succ_self W0.heap.size)) v).1; have tq1q2 := fun v => (NilAt.apart q1.out (Nat.ne_of_gt (Nat.lt_succ_self W0.heap.size)) v).2; clear hkB HRA)
        | (go_at_call 27; (with_reducible refine (CB.out _ (Below.up HBA _)).mono ?_); rintro e wB ⟨p9, o9, d9, rfl, HRB, HBB, hkB⟩; have yB := CE.out wB HBB; obtain ⟨yB0, yB1, yB2, yB3⟩ := yB; have hsB := HBB.size; have z8 : wB.heap.size ≠ w.heap.size := Nat.ne_of_gt (Nat.lt_of_lt_of_le hlt0 hsB); have z9 : wB.heap.size ≠ w.heap.size + 1 := Nat.ne_of_gt (Nat.lt_of_lt_of_le hlt1 hsB); have z10 : wB.heap.size + 1 ≠ w.heap.size := Nat.ne_of_gt (Nat.lt_succ_of_lt (Nat.lt_of_lt_of_le hlt0 hsB)); have HRA2 := (HRA.alloc _).below hkB; have q1 := hid (((NilAt.alloc n1.out (.cells #[.slice none 0 0] 22))).kept hkB); have q3 := hid ((NilAt.new wA wA.heap.size rfl).kept hkB); have lwq1 := q1.out.lt; have fq1 := q1.out.1; have gq1 := q1.out.2; have hq1 := hid (NilAt.alloc q1.out (.cells #[.slice none 0 0] 22)); have iq1 := hq1.out.1; have jq1 := hq1.out.2; have uq1 := fun (x : Value) => (NilAt.alloc q1.out (.cells #[x] 22)).1; have vq1 := fun (x : Value) => (NilAt.alloc q1.out (.cells #[x] 22)).2; have kq1 := fun v => (NilAt.apart hq1.out (Nat.ne_of_gt q1.out.lt) v).1; have lq1 := fun v => (NilAt.apart hq1.out (Nat.ne_of_gt q1.out.lt) v).2; have mq1 := fun v => (NilAt.apart (NilAt.new wB wB.heap.size rfl) (Nat.ne_of_lt q1.out.lt) v).1; have oq1 := fun v => (NilAt.apart (NilAt.new wB wB.heap.size rfl) (Nat.ne_of_lt q1.out.lt) v).2; have lwq3 := q3.out.lt; have fq3 := q3.out.1; have gq3 := q3.out.2; have hq3 := hid (NilAt.alloc q3.out (.cells #[.slice none 0 0] 22)); have iq3 := hq3.out.1; have jq3 := hq3.out.2; have uq3 := fun (x : Value) => (NilAt.alloc q3.out (.cells #[x] 22)).1; have vq3 := fun (x : Value) => (NilAt.alloc q3.out (.cells #[x] 22)).2; have kq3 := fun v => (NilAt.apart hq3.out (Nat.ne_of_gt q3.out.lt) v).1; have lq3 := fun v => (NilAt.apart hq3.out (Nat.ne_of_gt q3.out.lt) v).2; have mq3 := fun v => (NilAt.apart (NilAt.new wB wB.heap.size rfl) (Nat.ne_of_lt q3.out.lt) v).1; have oq3 := fun v => (NilAt.apart (NilAt.new wB wB.heap.size rfl) (Nat.ne_of_lt q3.out.lt) v).2; have lpp := n1.out.lt; have pq1q3 := fun v => (NilAt.apart q3.out (Nat.ne_of_lt n1.out.lt) v).1; have rq1q3 := fun v => (NilAt.apart q3.out (Nat.ne_of_lt n1.out.lt) v).2; have sq1q3 := fun v => (NilAt.apart q1.out (Nat.ne_of_gt n1.out.lt) v).1; have tq1q3 := fun v => (NilAt.apart q1.out (Nat.ne_of_gt n1.out.lt) v).2; clear hkB HRA)
        | (go_at_call 27; (with_reducible refine (CB.out _ HBA).mono ?_); rintro e wB ⟨p9, o9, d9, rfl, HRB, HBB, hkB⟩; have yB := CE.out wB HBB; obtain ⟨yB0, yB1, yB2, yB3⟩ := yB; have hsB := HBB.size; have z8 : wB.heap.size ≠ w.heap.size := Nat.ne_of_gt (Nat.lt_of_lt_of_le hlt0 hsB); have z9 : wB.heap.size ≠ w.heap.size + 1 := Nat.ne_of_gt (Nat.lt_of_lt_of_le hlt1 hsB); have z10 : wB.heap.size + 1 ≠ w.heap.size := Nat.ne_of_gt (Nat.lt_succ_of_lt (Nat.lt_of_lt_of_le hlt0 hsB)); have HRA2 := HRA.below hkB; have q1 := hid ((n1.out).kept hkB); have lwq1 := q1.out.lt; have fq1 := q1.out.1; have gq1 := q1.out.2; have hq1 := hid (NilAt.alloc q1.out (.cells #[.slice none 0 0] 22)); have iq1 := hq1.out.1; have jq1 := hq1.out.2; have uq1 := fun (x : Value) => (NilAt.alloc q1.out (.cells #[x] 22)).1; have vq1 := fun (x : Value) => (NilAt.alloc q1.out (.cells #[x] 22)).2; have kq1 := fun v => (NilAt.apart hq1.out (Nat.ne_of_gt q1.out.lt) v).1; have lq1 := fun v => (NilAt.apart hq1.out (Nat.ne_of_gt q1.out.lt) v).2; have mq1 := fun v => (NilAt.apart (NilAt.new wB wB.heap.size rfl) (Nat.ne_of_lt q1.out.lt) v).1; have oq1 := fun v => (NilAt.apart (NilAt.new wB wB.heap.size rfl) (Nat.ne_of_lt q1.out.lt) v).2; clear hkB HRA)
        | (go_at_call 27; (with_reducible refine (CB.out _ (Below.up (Below.up HBA _) _)).mono ?_); rintro e wB ⟨p9, o9, d9, rfl, HRB, HBB, hkB⟩; have yB := CE.out wB HBB; obtain ⟨yB0, yB1, yB2, yB3⟩ := yB; have hsB := HBB.size; have z8 : wB.heap.size ≠ w.heap.size := Nat.ne_of_gt (Nat.lt_of_lt_of_le hlt0 hsB); have z9 : wB.heap.size ≠ w.heap.size + 1 := Nat.ne_of_gt (Nat.lt_of_lt_of_le hlt1 hsB); have z10 : wB.heap.size + 1 ≠ w.heap.size := Nat.ne_of_gt (Nat.lt_succ_of_lt (Nat.lt_of_lt_of_le hlt0 hsB)); have HRA2 := ((HRA.alloc _).alloc _).below hkB; have q3 := hid (((NilAt.new wA wA.heap.size rfl).alloc (.cells #[.slice none 0 0] 22)).kept hkB); have q4 := hid ((NilAt.new (wA.alloc (.cells #[.slice none 0 0] 22)) (wA.heap.size + 1) (World.size_alloc ..)).kept hkB); have lwq3 := q3.out.lt; have fq3 := q3.out.1; have gq3 := q3.out.2; have hq3 := hid (NilAt.alloc q3.out (.cells #[.slice none 0 0] 22)); have iq3 := hq3.out.1; have jq3 := hq3.out.2; have uq3 := fun (x : Value) => (NilAt.alloc q3.out (.cells #[x] 22)).1; have vq3 := fun (x : Value) => (NilAt.alloc q3.out (.cells #[x] 22)).2; have kq3 := fun v => (NilAt.apart hq3.out (Nat.ne_of_gt q3.out.lt) v).1; have lq3 := fun v => (NilAt.apart hq3.out (Nat.ne_of_gt q3.out.lt) v).2; have mq3 := fun v => (NilAt.apart (NilAt.new wB wB.heap.size rfl) (Nat.ne_of_lt q3.out.lt) v).1; have oq3 := fun v => (NilAt.apart (NilAt.new wB wB.heap.size rfl) (Nat.ne_of_lt q3.out.lt) v).2; have lwq4 := q4.out.lt; have fq4 := q4.out.1; have gq4 := q4.out.2; have hq4 := hid (NilAt.alloc q4.out (.cells #[.slice none 0 0] 22)); have iq4 := hq4.out.1; have jq4 := hq4.out.2; have uq4 := fun (x : Value) => (NilAt.alloc q4.out (.cells #[x] 22)).1; have vq4 := fun (x : Value) => (NilAt.alloc q4.out (.cells #[x] 22)).2; have kq4 := fun v => (NilAt.apart hq4.out (Nat.ne_of_gt q4.out.lt) v).1; have lq4 := fun v => (NilAt.apart hq4.out (Nat.ne_of_gt q4.out.lt) v).2; have mq4 := fun v => (NilAt.apart (NilAt.new wB wB.heap.size rfl) (Nat.ne_of_lt q4.out.lt) v).1; have oq4 := fun v => (NilAt.apart (NilAt.new wB wB.heap.size rfl) (Nat.ne_of_lt q4.out.lt) v).2; have pq3q4 := fun v => (NilAt.apart q4.out (Nat.ne_of_lt (Nat.lt_succ_self wA.heap.size)) v).1; have rq3q4 := fun v => (NilAt.apart q4.out (Nat.ne_of_lt (Nat.lt_succ_self wA.heap.size)) v).2; have sq3q4 := fun v => (NilAt.apart q3.out (Nat.ne_of_gt (Nat.lt_succ_self wA.heap.size)) v).1; have tq3q4 := fun v => (NilAt.apart q3.out (Nat.ne_of_gt (Nat.lt_succ_self wA.heap.size)) v).2; clear hkB HRA)
        | (go_at_call 27; (with_reducible refine (CB.out _ (Below.up HBA _)).mono ?_); rintro e wB ⟨p9, o9, d9, rfl, HRB, HBB, hkB⟩; have yB := CE.out wB HBB; obtain ⟨yB0, yB1, yB2, yB3⟩ := yB; have hsB := HBB.size; have z8 : wB.heap.size ≠ w.heap.size := Nat.ne_of_gt (Nat.lt_of_lt_of_le hlt0 hsB); have z9 : wB.heap.size ≠ w.heap.size + 1 := Nat.ne_of_gt (Nat.lt_of_lt_of_le hlt1 hsB); have z10 : wB.heap.size + 1 ≠ w.heap.size := Nat.ne_of_gt (Nat.lt_succ_of_lt (Nat.lt_of_lt_of_le hlt0 hsB)); have HRA2 := (HRA.alloc _).below hkB; have q3 := hid ((NilAt.new wA wA.heap.size rfl).kept hkB); have lwq3 := q3.out.lt; have fq3 := q3.out.1; have gq3 := q3.out.2; have hq3 := hid (NilAt.alloc q3.out (.cells #[.slice none 0 0] 22)); have iq3 := hq3.out.1; have jq3 := hq3.out.2; have uq3 := fun (x : Value) => (NilAt.alloc q3.out (.cells #[x] 22)).1; have vq3 := fun (x : Value) => (NilAt.alloc q3.out (.cells #[x] 22)).2; have kq3 := fun v => (NilAt.apart hq3.out (Nat.ne_of_gt q3.out.lt) v).1; have lq3 := fun v => (NilAt.apart hq3.out (Nat.ne_of_gt q3.out.lt) v).2; have mq3 := fun v => (NilAt.apart (NilAt.new wB wB.heap.size rfl) (Nat.ne_of_lt q3.out.lt) v).1; have oq3 := fun v => (NilAt.apart (NilAt.new wB wB.heap.size rfl) (Nat.ne_of_lt q3.out.lt) v).2; clear hkB HRA)
        | (go_at_call 27; (with_reducible refine (CB.out _ HBA).mono ?_); rintro e wB ⟨p9, o9, d9, rfl, HRB, HBB, hkB⟩; have yB := CE.out wB HBB; obtain ⟨yB0, yB1, yB2, yB3⟩ := yB; have hsB := HBB.size; have z8 : wB.heap.size ≠ w.heap.size := Nat.ne_of_gt (Nat.lt_of_lt_of_le hlt0 hsB); have z9 : wB.heap.size ≠ w.heap.size + 1 := Nat.ne_of_gt (Nat.lt_of_lt_of_le hlt1 hsB); have z10 : wB.heap.size + 1 ≠ w.heap.size := Nat.ne_of_gt (Nat.lt_succ_of_lt (Nat.lt_of_lt_of_le hlt0 hsB)); have HRA2 := HRA.below hkB; clear hkB HRA))
    all_goals refine ⟨_, _, _, _, _, _, _, _, rfl, ?_, ?_, ?_, ?_, ?_⟩
    all_goals (first
      | (repeat (first
          | exact HBB
          | refine Below.up ?_ _
          | (refine Below.setCell ?_ (by first | (show W0.heap.size ≤ W0.heap.size; exact Nat.le_refl _) | (show W0.heap.size ≤ W0.heap.size + 1; exact Nat.le_succ _) | (show W0.heap.size ≤ wA.heap.size; exact hsA) | (show W0.heap.size ≤ wA.heap.size + 1; exact Nat.le_succ_of_le hsA) | (show W0.heap.size ≤ wB.heap.size; exact hsB) | (show W0.heap.size ≤ wB.heap.size + 1; exact Nat.le_succ_of_le hsB)) _)))
      | skip)
    all_goals (first
      | (repeat (first
          | exact HRA2
          | exact HRB
          | refine RkAt.alloc ?_ _
          | (refine RkAt.setS (a := none) (n := 0) (c := 0) ?_ (by first | assumption | simp [*]) _)))
      | skip)
    all_goals (first
      | exact new_cell wB wB.heap.size _ rfl
      | exact new_cell (wB.alloc _) (wB.heap.size + 1) _ (World.size_alloc ..)
      | exact cellA _ (new_cell wB wB.heap.size _ rfl)
      | exact World.cell?_setCell_same' _ _ _ (by first | (rw [mq1]; rfl) | (rw [mq3]; rfl) | (rw [pq1q2]; rfl) | (rw [pq1q3]; rfl) | (rw [pq3q4]; rfl) | (rw [sq1q2]; rfl) | (rw [sq1q3]; rfl) | (rw [sq3q4]; rfl) | (rw [uq1]; rfl) | (rw [uq3]; rfl) | (rw [iq1]; rfl) | (rw [iq3]; rfl) | (rw [fq1]; rfl) | (rw [fq2]; rfl) | (rw [fq3]; rfl) | (rw [fq4]; rfl))
      | exact cellA _ (World.cell?_setCell_same' _ _ _ (by first | (rw [fq1]; rfl) | (rw [fq3]; rfl)))
      | exact new_cell (wB.setCell _ _) wB.heap.size _ (by simp)
      | (refine Eq.trans (World.cell?_setCell_other _ _ _ _ ?_) ?_; exact addr_ne (by omega); first
          | exact new_cell wB wB.heap.size _ rfl
          | exact World.cell?_setCell_same' _ _ _ (by first | (rw [uq1]; rfl) | (rw [uq3]; rfl) | (rw [iq1]; rfl) | (rw [iq3]; rfl) | (rw [fq1]; rfl) | (rw [fq2]; rfl) | (rw [fq3]; rfl) | (rw [fq4]; rfl))))
  case imp =>
    intro e act w1 hU
    obtain rfl : e = .normal := by cases e <;> first | rfl | exact (hU : False).elim
    obtain ⟨px, py, p8, o8, d8, p9, o9, d9, rfl, hx, hy, hr8, hr9, hb1⟩ := hU
    obtain ⟨c0, c1, c2⟩ := HX.out w1 hb1
    obtain ⟨y0, y1⟩ := cells2 c0
    have hpx := World.block_lt_of_cell? w1 _ hx
    have hpy := World.block_lt_of_cell? w1 _ hy
    have HC2 := hid c2
    have HB1 := hid (HB0.out.trans (hb1.mono HB0.out.size))
    have hs1 := hb1.size
    have hsz := HSZ.out
    obtain ⟨y2, y3⟩ := cells2 c1
    have OR := hid (OfRank_any M 42 #[.pointer (some ⟨px, 0, none⟩), .pointer (some ⟨w.heap.size, 0, none⟩), .pointer (some ⟨py, 0, none⟩)] (sumR m (rk l) (rk l')) w1 (by rw [← HM.out]; exact hmk) (fun args w => enters_of Tryz.func42 (by kernel_rfl) rfl args w)
      (fun x hx' w3 hb3 _ => SummedQ_ok x px w.heap.size py m k _ _ (rk l) (rk l') w3 hmk (by rw [HM.out]; exact hx') (rk_le8 l (hf.lt256 hm)) (rk_le8 l' (hf'.lt256 hk)) ((hb3.cell (p := ⟨px, 0, none⟩) hpx).trans hx) ((hb3.cell (p := ⟨w.heap.size, 0, none⟩) (by show w.heap.size < _; omega)).trans y0) ((hb3.cell (p := ⟨py, 0, none⟩) hpy).trans hy) (by rw [HT.out]; exact hr8.below hb3) (by rw [HT'.out]; exact hr9.below hb3)))
    rw [show basR M (sumR m (rk l) (rk l')) = sumL m l k l' by rw [← HM.out]; rfl] at OR
    clear c0 c1 c2 hr8 hr9 hb1
    obtain ⟨acc, HACC⟩ : ∃ acc : List Nat, Hid (sumL m l k l' = acc) := ⟨_, rfl⟩
    rw [HACC.out] at OR
    go_wp2_with fail
    refine OR.out.mono ?_
    rintro e w2 ⟨v2, rfl, ho2, hb2⟩
    obtain ⟨ra, rc, hr⟩ := ownsRow_form' ho2
    subst hr
    have hx2 := (hb2.block (w.heap.size + 1 + 1) (by omega)).trans HC2.out
    obtain ⟨q2, q3, g2, g3⟩ := two_cells hx2
    have HC := hid (set_two (x := .int .i64 M) (y := .slice ra acc.length rc) hx2)
    have HD := hid (below_two (b := w.heap.size + 1 + 1) (x := .int .i64 M) (y := .slice ra acc.length rc) (HB1.out.trans (hb2.mono HB1.out.size)) (by omega))
    have HII := hid ((ho2.set2 (b := w.heap.size + 1 + 1) (x := .int .i64 M) (y := .slice ra acc.length rc) (by omega)).mono (by omega : w.heap.size ≤ _))
    clear hb2 ho2 hx2
    go_wp2_with fail
    obtain ⟨k5, k6⟩ := HC.out
    refine bodyPost_ret (v := .agg #[.int .i64 M, .slice ra _ rc]) ?_ rfl ⟨_, rfl, by rw [HACC.out]; exact HII.out, HD.out⟩
    simp [results, Tryz.f13, go_sem, k5, k6]
end Go.Proofs.YthbldeloocmakabGreat
