/- minors.leastOf, partition, for whatever function answers as T does. -/
import Derived.Test.YtpmpfnbgjgjlgabMarksQ
import Derived.Test.YtpmpfnbgjgjlgabWithoutQ
import Derived.Test.YtpmpfnbgjgjlgabSortOwnQ
import Derived.Test.YtpmpfnbgjgjlgabPlainAll
import Derived.OwnWalkIn
namespace Go.Proofs.Ytpmpfnbgjgjlgab
open Go.RowKit
attribute [local go_sem] Oper.semAt_some

/-- A function value that answers of two single elements as T does. -/
def AnswersT (n B : Nat) (w : World) (g : Nat) (cs : Array Value) (T : Nat → Nat → Bool) : Prop :=
  ∀ i j, i < n → j < n → ∀ w1, Below B w w1 → B ≤ w1.heap.size → Calls Try.prog g (#[.int .i64 (bt i : Nat), .int .i64 (bt j : Nat)] ++ cs) w1 fun e w2 => e = .returned (.bool (T i j)) ∧ Below w1.heap.size w1 w2
theorem own_row {B : Nat} {w : World} {v : Value} {l : List Nat} (h : Own B w v l) {k : Nat} (e : v.ownBlock = some k) : ∃ c t p, w.heap[k]? = some (.cells c t p) := by
  obtain ⟨h0, h1⟩ := h
  rcases h1 with ⟨rfl, _⟩ | ⟨g, cap, cur, rfl, _, hheap, _⟩
  · cases e
  · cases e
    exact ⟨_, _, _, hheap⟩
theorem Shuts.grow {B : Nat} {w w' : World} {Ds : List Nat} (h : Shuts B w Ds) {row : Option Nat} (hg : w.grownBy w' row) (hr : ∀ k, row = some k → ∃ c t p, w.heap[k]? = some (.cells c t p)) : Shuts B w' Ds :=
  ⟨h.1, fun E hE => ⟨(h.2 E hE).1, (hg.block E (Array.getElem?_eq_some_iff.1 (h.2 E hE).2).1 (fun e => by
    obtain ⟨c, t, p, hc⟩ := hr E e.symm
    rw [(h.2 E hE).2] at hc
    cases hc)).trans (h.2 E hE).2⟩⟩
theorem pop_less {rest p i : Nat} (h8 : rest < 256) (h1 : rest.testBit i = true) (h2 : p.testBit i = true) : pop (dif rest p) + 1 ≤ pop rest := by
  have h3 := pop_dif rest p
  have h4 : pop (rest &&& p) ≠ 0 := fun e => by
    have := (pop_pos _ (and_lt h8)).1 e
    have h5 : (rest &&& p).testBit i = true := by rw [and_bit, h1, h2]; rfl
    rw [this] at h5
    simp at h5
  omega
def preT {c : Nat} (T : Nat → Nat → Bool) (i : Nat) (pre : List (El c)) : Nat := clsR T i (pre.map (·.1))
theorem preT_snoc {c : Nat} (T : Nat → Nat → Bool) (i : Nat) (pre : List (El c)) (x : El c) : preT T i (pre ++ [x]) = if T i x.1 = true then preT T i pre ||| bt x.1 else preT T i pre := by
  unfold preT
  rw [List.map_append, List.map_singleton, clsR_snoc]
  rfl
theorem preT_lt {c : Nat} (T : Nat → Nat → Bool) (i : Nat) (hi : i < 8) (pre : List (El c)) : preT T i pre < 256 := lt_of_bits (n := 8) fun j hj => by
  unfold preT at hj
  rw [clsR_bit] at hj
  rcases Bool.or_eq_true_iff.1 hj with e | e
  · rw [decide_eq_true_eq] at e; omega
  · simp only [Bool.and_eq_true, decide_eq_true_eq, List.mem_map] at e
    obtain ⟨⟨a, _, rfl⟩, _⟩ := e
    exact el_lt a

set_option maxRecDepth 100000 in
set_option maxHeartbeats 4000000 in
theorem part_any (n g : Nat) (cs : Array Value) (T : Nat → Nat → Bool) (w : World) (hn : n ≤ 8) (eg : Enters g) (hg : AnswersT n w.heap.size w g cs T) :
    Calls Try.prog 29 #[.int .i64 n, .func (.func g) #[] cs] w fun e w' => ∃ r L L', e = .returned r ∧ Prts T (2 ^ n - 1) L ∧ L'.Perm L ∧ L'.Pairwise (· ≤ ·) ∧ Own w.heap.size w' r L' ∧ Below w.heap.size w w' := by
  obtain ⟨i0, hi0, hz0, hz1, hz2⟩ := info_parts Try.infoInt
  have HG := hid hg
  have EG := hid eg
  clear hg eg
  obtain ⟨F, HF, hF8⟩ : ∃ F : Nat, Hid (F = 2 ^ n - 1) ∧ F < 256 := ⟨_, rfl, lt256 hn (full_lt n)⟩
  have WS := hid (fun w' => wholeSet_any n w' hn)
  rw [← HF.out] at WS ⊢
  refine (callsIn_wide (n := 6)).1 ?_
  refine callsIn_of_wp_marks Try.func29 rfl trivial ?_ rfl
  simp only [Try.ntmps29, List.size_toArray, List.length_cons, List.length_nil, Nat.reduceAdd, Nat.reduceSub, Array.replicate_succ, Array.replicate_zero, List.push_toArray, List.append_toArray, List.nil_append, List.cons_append]
  gi_wp2_with (refine ⟨trivial, ?_⟩; gi_at_call 44; refine (callsIn_wide.2 (WS.out _)).mono ?_; rintro e w1 ⟨rfl, h1⟩; obtain rfl := h1.symm)
  have hbG : Boxed (w.alloc (.cells #[.func (.func g) #[] cs] 57)) w.heap.size 57 (.func (.func g) #[] cs) := Boxed.new w _ _
  have hB0 : Below w.heap.size w (w.alloc (.cells #[.func (.func g) #[] cs] 57)) := (Below.refl _ _).alloc (Nat.le_refl _) _
  have hs0 : (w.alloc (.cells #[.func (.func g) #[] cs] 57)).heap.size = w.heap.size + 1 := by simp
  revert hbG hB0 hs0
  generalize w.alloc (.cells #[.func (.func g) #[] cs] 57) = W1
  intro hbG hB0 hs0
  refine wpIn_loop (fun a' wr => ∃ (rest : Nat) (acc : List Nat) (Ds : List Nat) (v u7 u8 u12 u13 u14 u15 u16 u17 u18 u19 u20 u29 u30 u31 u32 u33 u34 u35 : Value), rest ≤ F ∧ Own (w.heap.size + 1) wr v acc ∧ acc.length + pop rest ≤ 8 ∧ Hid (∀ L, Prts T rest L → Prts T F (acc ++ L)) ∧ Shuts (w.heap.size + 1) wr Ds ∧ Below (w.heap.size + 1) W1 wr ∧
    a' = { tmps := #[.int .i64 n, .func (.func g) #[] cs, undef, .pointer (some ⟨w.heap.size, 0, none⟩), .slice none 0 0, v, .int .i64 rest, u7, u8, undef, .int .i64 n, .int .i64 F, u12, u13, u14, u15, u16, u17, u18, u19, u20, undef, undef, undef, undef, undef, undef, undef, undef, u29, u30, u31, u32, u33, u34, u35, undef, undef, undef], defers := Ds.map markOf })
    (fun a' _ => (intOf (a'.tmps.getD 6 undef)).toNat) ?start ?round
  case start => exact ⟨F, [], [], _, undef, undef, undef, undef, undef, undef, undef, undef, undef, undef, undef, undef, undef, undef, undef, undef, undef, undef, Nat.le_refl _, Own.nil _ _, by simpa using pop_le F hF8, fun L h => h, Shuts.nil _ _, Below.refl _ _, rfl⟩
  case round =>
    rintro a' wr ⟨rest, acc, Ds, v, u7, u8, u12, u13, u14, u15, u16, u17, u18, u19, u20, u29, u30, u31, u32, u33, u34, u35, hr, hown, hcnt, HP, HS, hnx, rfl⟩
    have hr8 : rest < 256 := by omega
    have hwr : w.heap.size + 1 ≤ wr.heap.size := by have := hnx.size; omega
    by_cases h0 : rest = 0
    · subst h0
      have HPF : Hid (Prts T F acc) := by have := HP.out [] Prts.nil; rwa [List.append_nil] at this
      have SO := hid (Sort_own hown (by have := Nat.le_add_right acc.length (pop 0); omega))
      have HSR := hid (fun w5 (hg : wr.grownBy w5 v.ownBlock) => HS.grow hg (fun k e => own_row hown e))
      clear hown HS
      gi_wp2_with (refine ⟨trivial, ?_⟩; gi_at_call 54; refine (callsIn_wide.2 SO.out).mono ?_)
      rintro e w5 ⟨rfl, l', hperm, hpair, ho5, hbel, hgr⟩
      have HB5 := hid (hB0.trans ((hbel W1 hnx hwr).mono (by omega)))
      have HS5 := hid (HSR.out w5 hgr)
      have HO5 := hid (ho5.mono (by omega : w.heap.size ≤ w.heap.size + 1))
      have HPP := hid hperm
      have HPQ := hid hpair
      clear ho5 hbel hgr hperm hpair
      gi_wp2
      refine leaves_marks (B := w.heap.size + 1) (fun W => Own w.heap.size W v l' ∧ Below w.heap.size w W) ?_ ?_ Ds w5 ⟨HO5.out, HB5.out⟩ HS5.out
      · rintro W D ⟨h1, h2⟩ hD hK
        exact ⟨ownsRow_putObj h1 _ hK rfl, h2.trans (belowK_b (w := w) (Nat.le_refl _) W D _ _ (by omega) hK rfl rfl)⟩
      · rintro W ⟨h1, h2⟩
        exact ⟨_, results_tmp rfl _ _ _, v, acc, l', rfl, HPF.out, HPP.out, HPQ.out, h1, h2⟩
    · have hi8 := tz_lt rest hr8 (by omega)
      have LO := hid (fun w' => low_any rest w' hr8 (by omega))
      have hrn : ((rest : Int) != 0) = true := by rw [bne_iff_ne]; omega
      have PR : Hid (partR T rest = clsR T (tz rest) (els (dif rest (2 ^ tz rest)))) := rfl
      have PL := hid (rest_less (T := T) hr8 (by omega))
      have PC := hid (fun L h => Prts.cons (T := T) (rest := rest) (L := L) h0 h)
      have PB := hid (tz_bit rest hr8 (by omega))
      generalize tz rest = i at *
      have hrn2 : rest < 2 ^ n := by have := HF.out; have := Nat.two_pow_pos n; omega
      have HIN : Hid (i < n) := bit_n hrn2 PB.out
      have HCN : Hid (∀ j, j ∈ els (dif rest (bt i)) → j < n) := fun j hj => by
        rw [mem_els (dif_lt hr8), dif_bit, Bool.and_eq_true] at hj
        exact bit_n hrn2 hj.1
      clear hrn2
      have hbt := bt_lt hi8
      have hand : bits .andNot .i64 (rest : Int) (bt i : Int) = ((dif rest (bt i) : Nat) : Int) := i64_andNot_nat rest (bt i) (by omega) (by omega)
      have hc8 : dif rest (bt i) < 256 := dif_lt hr8
      have HCE : Hid (els (dif rest (bt i)) = els (dif rest (2 ^ i))) := rfl
      generalize dif rest (bt i) = c at *
      gi_wp2_with (first
        | (refine ⟨trivial, ?_⟩; gi_at_call 37; refine (callsIn_wide.2 (LO.out _)).mono ?_; rintro e w1 ⟨rfl, h1⟩; obtain rfl := h1.symm)
        | (refine ⟨trivial, ?_⟩; gi_at_call 53; refine (callsIn_wide.2 (sing_any c _)).mono ?_; rintro e w' ⟨rfl, rfl⟩))
      have b0 := ((Boxed.new wr 3 (.int .i64 (bt i : Nat))).alloc (.cells #[.int .i64 (bt i : Nat)] 3)).alloc (.cells #[.int .i64 c] 3)
      have b1 := (Boxed.new (wr.alloc (.cells #[.int .i64 (bt i : Nat)] 3)) 3 (.int .i64 (bt i : Nat))).alloc (.cells #[.int .i64 c] 3)
      have b2 := Boxed.new ((wr.alloc (.cells #[.int .i64 (bt i : Nat)] 3)).alloc (.cells #[.int .i64 (bt i : Nat)] 3)) 3 (.int .i64 c)
      have hBr : Below wr.heap.size wr (((wr.alloc (.cells #[.int .i64 (bt i : Nat)] 3)).alloc (.cells #[.int .i64 (bt i : Nat)] 3)).alloc (.cells #[.int .i64 c] 3)) := (((Below.refl _ wr).alloc (Nat.le_refl _) _).alloc (by simp) _).alloc (by simp; omega) _
      have hsz : (((wr.alloc (.cells #[.int .i64 (bt i : Nat)] 3)).alloc (.cells #[.int .i64 (bt i : Nat)] 3)).alloc (.cells #[.int .i64 c] 3)).heap.size = wr.heap.size + 3 := by simp
      rw [World.size_alloc] at b1
      rw [World.size_alloc, World.size_alloc] at b2
      revert b0 b1 b2 hBr hsz
      generalize (((wr.alloc (.cells #[.int .i64 (bt i : Nat)] 3)).alloc (.cells #[.int .i64 (bt i : Nat)] 3)).alloc (.cells #[.int .i64 c] 3)) = W0
      intro b0 b1 b2 hBr hsz
      have hBGr : Boxed wr w.heap.size 57 (.func (.func g) #[] cs) := (hnx.block _ (by omega)).trans hbG
      have hWw : Below w.heap.size w wr := hB0.trans (hnx.mono (by omega))
      refine wpIn_rangeFunc_ownF rfl (by decide) (gf := 69) (lb := #[.pointer (some ⟨wr.heap.size + 1 + 1, 0, none⟩)]) rfl trivial (enters_of Try.func69 (by kernel_rfl) rfl)
        (sing_stops 5 (by decide) c (wr.heap.size + 1 + 1) hc8 _ (by omega) b2.cell) (fun _ _ => trivial) (fun _ _ _ _ _ _ _ _ => trivial) (Below.refl _ _) (fun _ => rfl)
        (fun pre W => (Boxed W wr.heap.size 3 (.int .i64 (bt i : Nat)) ∧ Boxed W (wr.heap.size + 1) 3 (.int .i64 (preT T i pre : Nat))) ∧ Below wr.heap.size wr W)
        (fun _ _ _ => False)
        (OwnFrom.and (OwnFrom.and ((boxed_ownF _ _ (fun _ => Value.int .i64 (bt i : Nat))).from _) ((boxed_ownF _ _ _).from _)) (ownFrom_below (Nat.le_refl _) (by omega)))
        (fun _ _ _ _ _ hs _ _ => hs)
        ⟨⟨b0, b1⟩, hBr⟩
        (fun x => { tmps := #[.int .i64 n, .func (.func g) #[] cs, undef, .pointer (some ⟨w.heap.size, 0, none⟩), .slice none 0 0, v, .int .i64 rest, .pointer (some ⟨wr.heap.size, 0, none⟩), .pointer (some ⟨wr.heap.size + 1, 0, none⟩), .int .i64 (bt x.1 : Nat), .int .i64 n, .int .i64 F, .int .i64 rest, .bool true, .int .i64 rest, .int .i64 (bt i : Nat), .int .i64 (bt i : Nat), .int .i64 rest, .int .i64 (bt i : Nat), .int .i64 c, .func (.func 69) #[] #[.pointer (some ⟨wr.heap.size + 1 + 1, 0, none⟩)], .int .i64 (bt x.1 : Nat), undef, undef, undef, undef, undef, undef, undef, u29, u30, u31, u32, u33, u34, u35, undef, undef, undef], defers := [] }) ?assign ?body ?done ?stop
      case assign =>
        intro l x W K hK
        dsimp only [enc1]
        gi_wp2
        exact hK
      case body =>
        rintro l pre x W ⟨⟨h0, h1⟩, hB⟩ _
        have hx8 := bt_lt (el_lt x)
        have ho8 := preT_lt T i hi8 pre
        have hor : bits .or .i64 (preT T i pre : Int) (bt x.1 : Int) = ((preT T i pre ||| bt x.1 : Nat) : Int) := i64_or_nat _ (bt x.1) (by omega) (by omega)
        have SN := hid (preT_snoc T i pre x)
        have hgc : W.cell? ⟨w.heap.size, 0, none⟩ = some (.func (.func g) #[] cs) := (hB.cell (p := ⟨w.heap.size, 0, none⟩) (by show w.heap.size < _; omega)).trans hBGr.cell
        have hxc := h0.cell
        have AN := hid (HG.out i x.1 HIN.out (HCN.out x.1 x.2) W (hWw.trans (hB.mono hWw.size)) (by have := hB.size; omega))
        have eg := EG.out
        unfold Enters at eg
        have HB := hid hB
        have H0 := hid h0
        have H1 := hid h1
        have hWs : wr.heap.size + 1 < W.heap.size := by
          have := h1.cell
          exact World.block_lt_of_cell? W _ this
        generalize preT T i pre = o at *
        rcases hq : T i x.1 with _ | _
        · rw [hq] at AN
          rw [if_neg (by rw [hq]; simp)] at SN
          gi_wp2_with (refine ⟨trivial, ?_⟩; refine (CallsIn.inRound l (callsIn_wide.2 AN.out)).mono ?_)
          rintro e W' ⟨rfl, hb'⟩
          have HK := hid (keeps_below hb')
          have HB' := hid (HB.out.trans (hb'.mono HB.out.size))
          have R0 : Hid (Boxed W' wr.heap.size 3 (.int .i64 (bt i : Nat))) := (hb'.block _ (by omega)).trans H0.out
          have R1 : Hid (Boxed W' (wr.heap.size + 1) 3 (.int .i64 o)) := (hb'.block _ (by omega)).trans H1.out
          clear hb'
          gi_wp2
          exact ⟨HK.out, trivial, ⟨R0.out, by rw [SN.out]; exact R1.out⟩, HB'.out⟩
        · rw [hq] at AN
          rw [if_pos hq] at SN
          gi_wp2_with (refine ⟨trivial, ?_⟩; refine (CallsIn.inRound l (callsIn_wide.2 AN.out)).mono ?_)
          rintro e W' ⟨rfl, hb'⟩
          have HK := hid (keeps_below hb')
          have HB' := hid (HB.out.trans (hb'.mono HB.out.size))
          have R0 : Hid (Boxed W' wr.heap.size 3 (.int .i64 (bt i : Nat))) := (hb'.block _ (by omega)).trans H0.out
          have R1 : Hid (Boxed W' (wr.heap.size + 1) 3 (.int .i64 o)) := (hb'.block _ (by omega)).trans H1.out
          have r1c := R1.out.cell
          have r1f := R1.out.frozen
          clear hb'
          gi_wp2
          exact ⟨HK.out.trans (KeepsOthers.setCell _ _ _), trivial, ⟨boxed_apart R0.out _ (by omega), by rw [SN.out]; exact R1.out.set _⟩, HB'.out.setCell (p := ⟨wr.heap.size + 1, 0, none⟩) (by simp) _⟩
      case done =>
        rintro D ys W hD hys ⟨⟨h0', h1⟩, hB⟩ hK
        have hp : preT T i ys = partR T rest := by unfold preT; rw [hys, HCE.out]; exact PR.out.symm
        rw [hp] at h1
        have hp8 : partR T rest < 256 := by rw [← hp]; exact preT_lt T i hi8 ys
        have hPB : (partR T rest).testBit i = true := by rw [PR.out, clsR_bit]; simp
        have hcnt2 := pop_less hr8 PB.out hPB
        have hdr : bits .andNot .i64 (rest : Int) ((partR T rest : Nat) : Int) = ((dif rest (partR T rest) : Nat) : Int) := i64_andNot_nat rest _ (by omega) (by omega)
        have hWs : wr.heap.size + 1 < W.heap.size := World.block_lt_of_cell? W _ h1.cell
        have SH : Hid (Shuts (w.heap.size + 1) W (D :: Ds)) := HS.cons (by omega) hK (by omega) (fun E hE => (hB.block E (Array.getElem?_eq_some_iff.1 (HS.2 E hE).2).1).trans (HS.2 E hE).2)
        have HO := hid (hown.below hB)
        have HOR := hid hown
        have hXW : Below (w.heap.size + 1) W1 W := hnx.trans (hB.mono hwr)
        have hpc := h1.cell
        have H1 := hid h1
        have PLo := PL.out
        clear hnx HS hown hB
        generalize hpp : partR T rest = p at *
        generalize hdd : dif rest p = d at *
        gi_wp2_with (gi_at_builtin; refine wpListIn_append_own _ rfl _ _ 22 rfl (w.heap.size + 1) 3 i0 (.int .i64 0) 1 8 Try.underlying22 hi0 hz0 hz1 hz2 rfl (by decide) _ _ _ rfl (HO.out.alloc _) ⟨W.heap.size, 0, none⟩ 1 1 [.int .i64 (p : Nat)] rfl rfl ?c1 ?c2 ?c3 ?c4 ?c5 ?_)
        case c1 => exact cell_one_new _ _ _
        case c2 => intro u hu; simp at hu; subst hu; rfl
        case c3 => unfold maxLen; omega
        case c4 => omega
        case c5 => simp; omega
        intro v' w4 hown' hgrow _
        have R3 := hid (Own.snoc hown')
        have R4 := hid (Own.grown HO.out hXW (by omega) hgrow)
        have SH4 : Hid (Shuts (w.heap.size + 1) w4 (D :: Ds)) := (SH.out.grow (World.grownBy_alloc W _ none) (fun k e => by cases e)).grow hgrow (fun k e => by
          obtain ⟨c1, t1, p1, hc1⟩ := own_row HO.out e
          exact ⟨c1, t1, p1, (Below.heap_alloc _ _ _ (Array.getElem?_eq_some_iff.1 hc1).1).trans hc1⟩)
        have hpc4 := (show Boxed w4 (wr.heap.size + 1) 3 (.int .i64 p) from (hgrow.block (wr.heap.size + 1) (by simp; omega) (fun e => by
          obtain ⟨c1, t1, p1, hc1⟩ := own_row HOR.out e.symm
          have := (Array.getElem?_eq_some_iff.1 hc1).1
          omega)).trans (H1.out.alloc _)).cell
        clear hown' hgrow
        gi_wp2
        refine ⟨⟨d, acc ++ [p], D :: Ds, v', _, _, _, _, _, _, _, _, _, _, _, _, _, _, _, _, _, _, by omega, R3.out, by simp; omega, fun L hL => ?_, SH4.out, R4.out, rfl⟩, by simp [intOf]; omega⟩
        rw [List.append_assoc]
        refine HP.out _ ?_
        exact PC.out L hL
      case stop =>
        rintro D c pre W _ _ h _
        exact h.elim
end Go.Proofs.Ytpmpfnbgjgjlgab
