/- same.eachOrder, same.keepsRanks. -/
import Derived.Test.YthlmnhcnpffjdaaGreatOrdEQ
import Derived.Test.YthlmnhcnpffjdaaGreatPlainAll
import Derived.Test.YthlmnhcnpffjdaaGreatIndQ
import Derived.Test.YthlmnhcnpffjdaaGreatBothQ
import Derived.Test.YthlmnhcnpffjdaaGreatOrdVQ
namespace Go.Proofs.YthlmnhcnpffjdaaGreat
open Go.RowKit

set_option maxHeartbeats 1000000 in
theorem each_ok {σ : Type} (n ff gf : Nat) (cf cg : Array Value) (fit : σ → List Nat → Bool) (fnd : σ → List Nat → Bool × σ) (Inv : Nat → Nat → σ → World → Prop) (s0 : σ) (w : World) (hn : n ≤ 8) (ef : Enters ff) (eg : Enters gf)
    (hst : ∀ gN gI s W W', Inv gN gI s W → Save (fun k => k = gN ∨ k = gI) W W' → Inv gN gI s W')
    (hfit : ∀ gN gI s p W, Inv gN gI s W → Beg n p → 0 < p.length → OrdAt w.heap.size W gN gI n p → w.heap.size ≤ W.heap.size → Calls Tryz.prog ff (#[ordV gN gI n p] ++ cf) W fun e W' => e = .returned (.bool (fit s p)) ∧ Inv gN gI s W' ∧ Save (fun k => k < w.heap.size) W W')
    (hfnd : ∀ gN gI s p W, Inv gN gI s W → Beg n p → p.length = n → OrdAt w.heap.size W gN gI n p → w.heap.size ≤ W.heap.size → Calls Tryz.prog gf (#[ordV gN gI n p] ++ cg) W fun e W' => e = .returned (.bool (fnd s p).1) ∧ Inv gN gI (fnd s p).2 W' ∧ Save (fun k => k < w.heap.size) W W')
    (hI : ∀ gN gI W, w.heap.size ≤ gN → w.heap.size ≤ gI → Below w.heap.size w W → Inv gN gI s0 W) :
    Calls Tryz.prog 44 #[.int .i64 n, .func (.func ff) #[] cf, .func (.func gf) #[] cg] w fun e W' => e = .returned (.tuple #[]) ∧ (∃ gN gI, Inv gN gI (walkO fit fnd n n s0 []).2 W') ∧ w.heap.size ≤ W'.heap.size := by
  have B1 := hid (begin_ok n w hn)
  have G1 := hid (fun gN gI (hne : gN ≠ gI) w1 (h1 : Inv gN gI s0 w1) h2 h3 => goOn_ok n gN gI w.heap.size ff gf cf cg fit fnd (Inv gN gI) hn ef eg hne (hst gN gI) (hfit gN gI) (hfnd gN gI) n s0 [] w1 (by simp) (beg_nil n) h1 h2 h3)
  have HI := hid hI
  clear hst hfit hfnd hI ef eg
  go_enter Tryz.func44, Tryz.ntmps44
  go_wp2_with fail
  refine B1.out.mono ?_
  rintro e w1 ⟨gN, gI, rfl, ho, hne, hb⟩
  have G2 := hid (G1.out gN gI hne w1 (HI.out gN gI w1 ho.num.lt.1 ho.img.lt.1 hb) ho hb.size)
  have hs1 := hb.size
  clear B1 G1 ho hb
  generalize ordV gN gI n [] = ov at *
  go_wp2_with fail
  refine G2.out.mono ?_
  rintro e w2 ⟨rfl, h2, -, h3⟩
  have H2 := hid h2
  have hs2 := h3.size
  have hs3 : w.heap.size ≤ w2.heap.size := Nat.le_trans hs1 hs2
  clear h2 h3 G2
  go_wp2_with fail
  go_end0
  exact ⟨rfl, ⟨gN, gI, H2.out⟩, hs3⟩
theorem keep_iff {rA rB : Nat → Nat} {q : List Nat} : keepB rA rB q = true ↔ ∀ s, s < 2 ^ q.length → 2 ^ q.length / 2 ≤ s → rA s = rB (image q s) := by
  unfold keepB
  rw [List.all_eq_true]
  constructor
  · intro h s h1 h2
    have := h s (List.mem_range.2 h1)
    rw [Bool.or_eq_true, decide_eq_true_eq, beq_iff_eq] at this
    omega
  · intro h s hs
    rw [Bool.or_eq_true, decide_eq_true_eq, beq_iff_eq]
    by_cases c : s < 2 ^ q.length / 2
    · exact .inl c
    · exact .inr (h s (List.mem_range.1 hs) (by omega))
set_option maxHeartbeats 1000000 in
theorem keepsRanks_ok (n gN gI B : Nat) (p : List Nat) (vA vB : Value) (rA rB : Nat → Nat) (w : World) (hn : n ≤ 8) (hp : p.length ≤ n) (hb : Beg n p) (hO : OrdAt B w gN gI n p) (hA : RkAt w vA (2 ^ n) rA) (hB : RkAt w vB (2 ^ n) rB) :
    Calls Tryz.prog 65 #[.slice (some ⟨gI, 0, none⟩) (2 ^ p.length) (2 ^ n), vA, vB] w fun e w' => e = .returned (.bool (keepB rA rB p)) ∧ Below w.heap.size w w' := by
  obtain ⟨ba, oa, ca, rfl, hba, hca⟩ := hA
  obtain ⟨bb, ob, cb, rfl, hbb, hcb⟩ := hB
  have hgI := hO.img.lt.2
  have HC : Hid (∀ s, s < 2 ^ p.length → w.cell? ⟨gI, s, none⟩ = some (.int .i64 (image p s : Nat)) ∧ image p s < 2 ^ n ∧ s < 2 ^ n) := fun s hs => by
    have h1 := hO.img.at (i := s) (by rw [imgs_len _ p rfl]; exact hs)
    rw [imgs_at _ p rfl s hs] at h1
    exact ⟨h1, hb.image_lt s, Nat.lt_of_lt_of_le hs (Nat.pow_le_pow_right (by decide) hp)⟩
  have KI := hid (keep_iff (rA := rA) (rB := rB) (q := p))
  have hK8 : 2 ^ p.length ≤ 2 ^ n := Nat.pow_le_pow_right (by decide) hp
  have hT := (pow_wrap n hn).2
  have HCA := hid hca
  have HCB := hid hcb
  clear hO hb hca hcb
  generalize 2 ^ p.length = K at *
  generalize 2 ^ n = T at *
  go_enter Tryz.func65, Tryz.ntmps65
  go_wp2_with fail
  rw [show (K : Int) / 2 = ((K / 2 : Nat) : Int) by omega]
  go_loopw [7] (fun j wr => ∃ i : Nat, j = .int .i64 i ∧ K / 2 ≤ i ∧ i ≤ K ∧ Hid (∀ s, s < i → K / 2 ≤ s → rA s = rB (image p s)) ∧ Hid (Below w.heap.size w wr)) (fun j _ => K - (intOf j).toNat)
  case atStart => exact ⟨K / 2, rfl, Nat.le_refl _, by omega, fun s h1 h2 => by omega, Below.refl _ _⟩
  case round =>
    obtain ⟨i, rfl, h1, h2, HA, HW⟩ := hrel
    by_cases hlt : i < K
    · have hlt' : (i : Int) < (K : Int) := by omega
      obtain ⟨hc, hi1, hi2⟩ := HC.out i hlt
      have hmeas : K - (i + 1) < K - i := by omega
      have c1 := (HW.out.cell (p := ⟨gI, i, none⟩) hgI).trans hc
      have c2 := (HW.out.cell (p := ⟨ba, oa + i, none⟩) hba).trans (HCA.out i hi2)
      have c3 := (HW.out.cell (p := ⟨bb, ob + image p i, none⟩) hbb).trans (HCB.out _ hi1)
      have HWD : Hid (∀ q, Below w.heap.size w (wr.drewN q)) := fun q => HW.out.trans ⟨rfl, rfl, rfl, Nat.le_refl _, fun _ _ => rfl⟩
      have hi1' : (image p i : Int) < (T : Int) := by omega
      have hi2' : (i : Int) < (T : Int) := by omega
      have HA2 : Hid (rA i = rB (image p i) → ∀ s, s < i + 1 → K / 2 ≤ s → rA s = rB (image p s)) := fun e s hs h => by
        by_cases c : s < i
        · exact HA.out s c h
        · obtain rfl : s = i := by omega
          exact e
      have HN : Hid (rA i ≠ rB (image p i) → keepB rA rB p = false) := fun e => Bool.eq_false_iff.2 fun h => e (KI.out.1 h i hlt h1)
      clear HCA HCB HC hc KI
      generalize image p i = y at *
      generalize rA i = a at *
      generalize rB y = b at *
      by_cases hab : a = b
      · have hab' : ((a : Int) != (b : Int)) = false := by simp [hab]
        have HA3 := hid (HA2.out hab)
        clear hab HA2 HN
        go_wp2_with fail
        go_quiet (fail)
        go_wp2_with fail
        go_roundw
        case rel => exact ⟨i + 1, by go_num, by omega, hlt, HA3, HWD.out _⟩
        case measure => exact hmeas
      · have hab' : ((a : Int) != (b : Int)) = true := by rw [bne_iff_ne]; omega
        have HN2 := hid (HN.out hab)
        clear hab HA2 HN
        go_wp2_with fail
        go_quiet (fail)
        go_wp2_with fail
        go_ret
        exact ⟨ret_bool (by rw [HN2.out]), HWD.out _⟩
    · obtain rfl : i = K := by omega
      have hlt' : ¬ (i : Int) < (i : Int) := by omega
      have HT2 : Hid (keepB rA rB p = true) := KI.out.2 fun s hs h => HA.out s hs h
      clear HC KI
      go_wp2_with fail
      go_ret
      exact ⟨ret_bool (by rw [HT2.out]), HW.out⟩
end Go.Proofs.YthlmnhcnpffjdaaGreat

namespace Go.Proofs.YthlmnhcnpffjdaaGreat
open Go.RowKit

/-- A table of ranks that lies from block B on. -/
def RkOw (B : Nat) (w : World) (v : Value) (T : Nat) (r : Nat → Nat) : Prop := ∃ b off cap, v = .slice (some ⟨b, off, none⟩) T cap ∧ B ≤ b ∧ b < w.heap.size ∧ ∀ i, i < T → w.cell? ⟨b, off + i, none⟩ = some (.int .i64 (r i : Nat))
theorem RkOw.rkAt {B : Nat} {w : World} {v : Value} {T : Nat} {r : Nat → Nat} (h : RkOw B w v T r) : RkAt w v T r := by
  obtain ⟨b, off, cap, rfl, _, h1, h2⟩ := h
  exact ⟨b, off, cap, rfl, h1, h2⟩
theorem RkOw.below {B : Nat} {w w' : World} {v : Value} {T : Nat} {r : Nat → Nat} (h : RkOw B w v T r) (hb : Below w.heap.size w w') : RkOw B w' v T r := by
  obtain ⟨b, off, cap, rfl, h0, h1, h2⟩ := h
  exact ⟨b, off, cap, rfl, h0, Nat.lt_of_lt_of_le h1 hb.size, fun i hi => (hb.cell (p := ⟨b, off + i, none⟩) h1).trans (h2 i hi)⟩
theorem RkOw.mono {B B' : Nat} {w : World} {v : Value} {T : Nat} {r : Nat → Nat} (h : RkOw B w v T r) (hB : B' ≤ B) : RkOw B' w v T r := by
  obtain ⟨b, off, cap, rfl, h0, h1, h2⟩ := h
  exact ⟨b, off, cap, rfl, Nat.le_trans hB h0, h1, h2⟩
theorem RkOw.save {X : Nat → Prop} {B : Nat} {w w' : World} {v : Value} {T : Nat} {r : Nat → Nat} (h : RkOw B w v T r) (hs : Save X w w') (hX : ∀ k, X k → k < B) : RkOw B w' v T r := by
  obtain ⟨b, off, cap, rfl, h0, h1, h2⟩ := h
  exact ⟨b, off, cap, rfl, h0, Nat.lt_of_lt_of_le h1 hs.size, fun i hi => (World.cell?_of_block (w := w) (hs.block b h1 fun hx => by have := hX b hx; omega)).trans (h2 i hi)⟩
theorem Tbl.rkOw {B g : Nat} {w : World} {T cap : Nat} {f : Nat → Nat} (h : Tbl g w T f) (hB : B ≤ g) : RkOw B w (.slice (some ⟨g, 0, none⟩) T cap) T f := ⟨g, 0, cap, rfl, hB, h.size, fun i hi => by rw [Nat.zero_add]; exact h.cell i hi⟩

set_option maxRecDepth 20000 in
set_option maxHeartbeats 4000000 in
theorem ranks_own (n : Nat) (v : Value) (l : List Nat) (w : World) (hn : n ≤ 8) (hl : ∀ s ∈ l, s < 256) (h : Ints w v (N l)) :
    Calls Tryz.prog 97 #[.agg #[.int .i64 n, v]] w fun e w' => ∃ r, e = .returned r ∧ RkOw w.heap.size w' r (2 ^ n) (rk l) ∧ Below w.heap.size w w' := by
  obtain ⟨T, HT, hT2, hT1, hTw⟩ : ∃ T : Nat, Hid (T = 2 ^ n) ∧ T ≤ 256 ∧ 1 ≤ T ∧ wrap64 (2 ^ n) = (T : Int) := ⟨2 ^ n, rfl, (pow_wrap _ hn).2, Nat.one_le_two_pow, (pow_wrap _ hn).1⟩
  rw [← HT.out]
  obtain ⟨a, cap, rfl, hlen, hc⟩ := h.nats
  clear h
  have hmk := fun w => run_make_row' (P := Tryz.prog) 22 3 (.int .i64 0) 8 Tryz.underlying22 Tryz.infoInt rfl .i64 .i64 T (by omega) (by omega) w
  go_enter Tryz.func97, Tryz.ntmps97
  go_wp2_with fail
  obtain ⟨W1, hW1⟩ : ∃ W1, (w.alloc (.cells #[.int .i64 n, .slice a l.length cap] 24)).alloc (.cells (madeCells #[.int .i64 0] T) 3) = W1 := ⟨_, rfl⟩
  have hx1 : W1.cell? ⟨w.heap.size, 1, none⟩ = some (.slice a l.length cap) := by
    rw [← hW1]
    exact cellA _ (by rw [World.cell?_alloc_at _ _ _ _ rfl]; rfl)
  have tb : Tbl (w.heap.size + 1) W1 T (fun i => if i < 0 then rk l i else 0) := by
    have := Tbl.new (w.alloc (.cells #[.int .i64 n, .slice a l.length cap] 24)) T
    rw [World.size_alloc, hW1] at this
    exact this.congr (by simp)
  have hB0 : Below w.heap.size w W1 := by
    rw [← hW1]
    exact ((Below.refl _ w).alloc (Nat.le_refl _) _).alloc (by simp) _
  have hsz : W1.heap.size = w.heap.size + 1 + 1 := by rw [← hW1]; simp
  rw [hW1]
  clear hW1 hmk
  go_loopw [13] (fun i wr => ∃ k : Nat, k ≤ T ∧ i = .int .i64 k ∧ Tbl (w.heap.size + 1) wr T (fun i => if i < k then rk l i else 0) ∧ Below (w.heap.size + 1) W1 wr) (fun i _ => T - (intOf i).toNat)
  case atStart => exact ⟨0, Nat.zero_le _, rfl, tb, Below.refl _ _⟩
  case round =>
    obtain ⟨k, hk, rfl, htb, hnx⟩ := hrel
    have hx : wr.cell? ⟨w.heap.size, 1, none⟩ = some (.slice a l.length cap) := (hnx.cell (p := ⟨w.heap.size, 1, none⟩) (by show w.heap.size < _; omega)).trans hx1
    by_cases hlt : k < T
    · go_wp2_with fail
      go_loopw [19] (fun i wr => ∃ j : Nat, j ≤ l.length ∧ i = .int .i64 j ∧ Tbl (w.heap.size + 1) wr T (fun i => if i < k then rk l i else if i = k then rkTo l j k else 0) ∧ Below (w.heap.size + 1) W1 wr) (fun i _ => l.length - (intOf i).toNat)
      case atStart => exact ⟨0, Nat.zero_le _, rfl, htb.congr (fun i hi => by
        by_cases h1 : i < k
        · simp [h1]
        · by_cases h2 : i = k <;> simp [h1, h2, rkTo, rk]), hnx⟩
      case round =>
        rename_i wr0 _
        obtain ⟨j, hj, rfl, htb', hnx'⟩ := hrel
        by_cases hlt' : j < l.length
        · obtain ⟨b, off, rfl, hb, hcell⟩ := hc (by omega)
          have hck : wr.cell? ⟨b, off + j, none⟩ = some (.int .i64 (l.getD j 0 : Nat)) := (hnx'.cell (p := ⟨b, off + j, none⟩) (by show b < _; omega)).trans ((hB0.cell (p := ⟨b, off + j, none⟩) hb).trans (hcell j hlt'))
          have hcr := htb'.cell k hlt
          have hfr := htb'.frozen k
          simp only [Nat.lt_irrefl, if_false, if_true] at hcr
          have R := hid (rkTo_succ hlt' k)
          have hx8 := getD_lt hl j
          have h8 : rkTo l j k ≤ 8 := rk_le8 _ (fun s hs => hl s (List.mem_of_mem_take hs)) k
          clear hcell
          generalize l.getD j 0 = x at *
          generalize rkTo l j k = y at *
          have hand : bits .and .i64 (k : Int) (x : Int) = ((k &&& x : Nat) : Int) := i64_and_nat k x (by omega) (by omega)
          have hkx : k &&& x < 256 := and_lt (by omega)
          have hp8 := pop_le _ hkx
          generalize k &&& x = z at *
          have fin : ∀ (u : Nat), max y (pop z) = u → (∃ j_1 : Nat, j_1 ≤ l.length ∧ ((j : Int) + 1) = (j_1 : Int) ∧ (Tbl (w.heap.size + 1) (wr.setCell ⟨w.heap.size + 1, k, none⟩ (Value.int IntKind.i64 (u : Int))).drew T fun i => if i < k then rk l i else if i = k then rkTo l j_1 k else 0) ∧ Below (w.heap.size + 1) W1 (wr.setCell ⟨w.heap.size + 1, k, none⟩ (Value.int IntKind.i64 (u : Int))).drew) ∧ l.length - (intOf (Value.int IntKind.i64 ((j : Int) + 1))).toNat < l.length - (intOf (Value.int IntKind.i64 (j : Int))).toNat := fun u hu => by
            refine ⟨⟨j + 1, by omega, by omega, (htb'.set k u hlt (fun i hi => ?_)).drew, (hnx'.setCell (p := ⟨w.heap.size + 1, k, none⟩) (Nat.le_refl _) _).drew⟩, by simp [intOf]; omega⟩
            by_cases h1 : i < k
            · simp [h1]; omega
            · by_cases h2 : i = k
              · subst h2; simp [R.out, hu]
              · have h3 : ¬ k = i := fun e => h2 e.symm
                simp [h1, h2, h3]
          have FIN := hid fin
          clear fin
          go_wp2_with fail
          go_region_with (go_at_call 82; refine (size_any _ _ (by assumption)).mono ?_; rintro e w' ⟨rfl, rfl⟩)
          all_goals go_wp2_with fail
          all_goals first
            | exact FIN.out _ (Nat.max_eq_right (by omega))
            | exact FIN.out _ (Nat.max_eq_left (by omega))
        · have hj' : j = l.length := by omega
          subst hj'
          have HT' := hid (htb'.congr (f' := fun i => if i < k + 1 then rk l i else 0) (fun i hi => by
            by_cases h1 : i < k
            · have h3 : i < k + 1 := by omega
              simp [h1, h3]
            · by_cases h2 : i = k
              · subst h2; simp [rkTo]
              · have h3 : ¬ i < k + 1 := by omega
                simp [h1, h2, h3]))
          go_wp2_with fail
          go_roundw
          case rel => exact ⟨k + 1, by omega, by go_num, HT'.out, hnx'⟩
          case measure => simp [intOf]; omega
    · have hk' : k = T := by omega
      subst hk'
      have HT' := hid (htb.congr (f' := rk l) (fun i hi => by simp [hi]))
      go_wp2_with fail
      go_ret
      exact ⟨_, rfl, HT'.out.rkOw (by omega), hB0.trans (hnx.mono (by omega))⟩
set_option maxHeartbeats 1000000 in
theorem Ranks_own (m : Nat) (v : Value) (l : List Nat) (w : World) (hm : m ≤ 8) (hf : Fam m l) (hb : Bas l) (h : Ints w v (N l)) :
    Calls Tryz.prog 84 #[.agg #[.int .i64 m, v]] w fun e w' => ∃ r, e = .returned (.tuple #[r, .int .i64 0]) ∧ RkOw w.heap.size w' r (2 ^ m) (rk l) ∧ Below w.heap.size w w' := by
  have HI := hid h
  obtain ⟨a, cap, hv, _, _⟩ := h
  rw [N_len] at hv
  subst hv
  have hB0 : Below w.heap.size w (w.alloc (.cells #[.int .i64 m, .slice a l.length cap] 24)) := (Below.refl _ _).alloc (Nat.le_refl _) _
  have HC := hid (check_any m _ (N l) _ (HI.out.below hB0))
  have H0 := hid (chk_mk hm hf hb)
  have HR := hid (fun w' (hb' : Below w.heap.size w w') => ranks_own m _ l w' hm (hf.lt256 hm) (HI.out.below hb'))
  have HB0 := hid hB0
  clear hB0
  generalize 2 ^ m = T at *
  go_enter Tryz.func84, Tryz.ntmps84
  go_wp2_with fail
  refine HC.out.mono ?_
  rw [H0.out]
  rintro e w2 ⟨rfl, hb2⟩
  obtain ⟨x0, x1⟩ := box_cells hb2
  have HB2 := hid (HB0.out.trans (hb2.mono HB0.out.size))
  clear hb2
  go_wp2_with fail
  refine (HR.out _ HB2.out).mono ?_
  rintro e w3 ⟨r, rfl, hr, hb3⟩
  have HB3 := hid (HB2.out.trans (hb3.mono HB2.out.size))
  have HRK := hid (hr.mono HB2.out.size)
  obtain ⟨rb, roff, rcap, rfl, _, _, _⟩ := hr
  clear hb3
  go_wp2_with fail
  go_ret2
  exact ⟨_, rfl, HRK.out, HB3.out⟩
set_option maxHeartbeats 1000000 in
theorem both_own (m k : Nat) (v u : Value) (l l' : List Nat) (w : World) (hm : m ≤ 8) (hf : Fam m l) (hb : Bas l) (h : Ints w v (N l)) (hk : k ≤ 8) (hf' : Fam k l') (hb' : Bas l') (h' : Ints w u (N l')) :
    Calls Tryz.prog 63 #[.agg #[.int .i64 m, v], .agg #[.int .i64 k, u]] w fun e w' => ∃ r r', e = .returned (.tuple #[r, r', .int .i64 0]) ∧ RkOw w.heap.size w' r (2 ^ m) (rk l) ∧ RkOw w.heap.size w' r' (2 ^ k) (rk l') ∧ Below w.heap.size w w' := by
  have HI := hid h
  have HI' := hid h'
  obtain ⟨a, cap, hv, _, _⟩ := h
  obtain ⟨a', cap', hv', _, _⟩ := h'
  rw [N_len] at hv hv'
  subst hv
  subst hv'
  have HB0 := hid (box2_below w m (.slice a l.length cap) k (.slice a' l'.length cap'))
  have R1 := hid (Ranks_own m _ l _ hm hf hb (HI.out.below HB0.out))
  have R2 := hid (fun w' (hb0 : Below w.heap.size w w') => Ranks_own k _ l' w' hk hf' hb' (HI'.out.below hb0))
  generalize 2 ^ m = T at *
  generalize 2 ^ k = T' at *
  go_enter Tryz.func63, Tryz.ntmps63
  go_wp2_with fail
  refine R1.out.mono ?_
  rintro e w1 ⟨r, rfl, hr, hb1⟩
  obtain ⟨b1, b2⟩ := box2_blocks hb1
  obtain ⟨x0, x1⟩ := cells2 b1
  obtain ⟨y0, y1⟩ := cells2 b2
  have HB1 := hid (HB0.out.trans (hb1.mono HB0.out.size))
  have HR := hid (hr.mono HB0.out.size)
  obtain ⟨rb, roff, rcap, rfl, _, _, _⟩ := hr
  clear hb1 b1 b2
  go_wp2_with fail
  refine (R2.out _ HB1.out).mono ?_
  rintro e w2 ⟨r', rfl, hr', hb2⟩
  have HB2 := hid (HB1.out.trans (hb2.mono HB1.out.size))
  have HR1 := hid (HR.out.below hb2)
  have HR2 := hid (hr'.mono HB1.out.size)
  obtain ⟨rb', roff', rcap', rfl, _, _, _⟩ := hr'
  clear hb2
  go_wp2_with fail
  refine bodyPost_ret (v := .tuple #[.slice (some ⟨rb, roff, none⟩) T rcap, .slice (some ⟨rb', roff', none⟩) T' rcap', .int .i64 0]) ?_ rfl ⟨_, _, rfl, HR1.out, HR2.out, HB2.out⟩
  simp [results, Tryz.f63, go_sem]
end Go.Proofs.YthlmnhcnpffjdaaGreat
