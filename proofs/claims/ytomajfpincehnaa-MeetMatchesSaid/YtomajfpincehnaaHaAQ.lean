/- hall.unions. -/
import Derived.Test.YtomajfpincehnaaFewW
import Derived.Test.YtomajfpincehnaaPlainAll
import Derived.Test.YtomajfpincehnaaOrdBW
namespace Go.Proofs.Ytomajfpincehnaa
open Go.RowKit

/-- append of one number: in the same block, or in a new one, and then all lies as it was. -/
theorem run_snocK {B : Nat} {w : World} {l : List Nat} {g c b : Nat} {ad : Addr} (ty : TypeId) (h : Own B w (.slice (some ⟨g, 0, none⟩) l.length c) l) (hc : w.cell? ad = some (.int .i64 b)) (hl : l.length ≤ 256) (hB : B ≤ w.heap.size) :
    ∃ g' c' w', (Builtin.append_ #[28, 28] ty #[.slice (some ⟨g, 0, none⟩) l.length c, .slice (some ad) 1 1]).run Try.prog w = .ok (.slice (some ⟨g', 0, none⟩) (l.length + 1) c') w' ∧ Own B w' (.slice (some ⟨g', 0, none⟩) (l.length + 1) c') (l ++ [b]) ∧ w.grownBy w' (some g) ∧ (g' = g ∨ w.grownBy w' none) := by
  obtain ⟨i0, hi, hz0, hz1, hz2⟩ := info_parts Try.infoInt
  by_cases hr : l.length + 1 ≤ c
  · obtain ⟨w', h1, h2, h3⟩ := run_room ty h hc hr
    exact ⟨g, c, w', h1, h2, h3, Or.inl rfl⟩
  · have hnews : ∀ j u, ([.int .i64 b] : List Value)[j]? = some u → w.cell? (ad.add j) = some u := fun j u hu => by
      have hj : j < 1 := (List.getElem?_eq_some_iff.1 hu).1
      obtain rfl : j = 0 := by omega
      simp only [List.getElem?_cons_zero] at hu
      rw [← hu, ← hc]
      simp [Addr.add]
    obtain ⟨v', w', hrun, r1, r2, r3⟩ := run_append_own (P := Try.prog) w B 28 ty 3 i0 (.int .i64 0) 1 8 Try.underlying28 hi hz0 hz1 hz2 rfl (by decide) (.slice (some ⟨g, 0, none⟩) l.length c) l.length (V l) h ad 1 1 [.int .i64 b] rfl hnews
      (by intro u hu; simp at hu; subst hu; rfl) (by unfold maxLen; omega) (by omega) hB
    have hr2 := run_append_grow (P := Try.prog) w 28 ty 3 i0 (.int .i64 0) Try.underlying28 hi hz0 ⟨g, 0, none⟩ l.length c (V l) (by rw [V_len, hz1, Nat.mul_one]) (h.cells (g := g) rfl) ad 1 1 [.int .i64 b] (by rw [hz1]; rfl) hnews (by omega) (by omega) (by
      have := growslice_fits (need := l.length + 1) (old := c) (bytes := i0.bytes) (by omega) (by rw [hz2]; omega)
      exact this)
    have e := hrun.symm.trans hr2
    cases e
    exact ⟨_, _, _, hrun, Own.snoc r1, r2, Or.inr ⟨rfl, rfl, rfl, by simp, fun k hk _ => heap_alloc_old w.drew _ k hk⟩⟩
theorem wpList_snocK {B : Nat} {w : World} {l : List Nat} {g c b : Nat} {ad : Addr} {ops : Array Oper} {rest : List Oper} {o : Oper} {a : Act} {Q : Exit → Act → World → Prop} (hgd : o.guard = none) (s x : Operand)
    (ho : o.op = .call { callee := .builtin .append, args := #[s, x], argTypes := #[28, 28] }) (hs : a.eval s = .slice (some ⟨g, 0, none⟩) l.length c) (hx : a.eval x = .slice (some ad) 1 1) (h : Own B w (.slice (some ⟨g, 0, none⟩) l.length c) l) (hc : w.cell? ad = some (.int .i64 b)) (hl : l.length ≤ 256) (hB : B ≤ w.heap.size)
    (hK : ∀ g' c' w', Own B w' (.slice (some ⟨g', 0, none⟩) (l.length + 1) c') (l ++ [b]) → w.grownBy w' (some g) → (g' = g ∨ w.grownBy w' none) → wpList Try.prog ops Q rest (a.put o.dst (.slice (some ⟨g', 0, none⟩) (l.length + 1) c')) w') : wpList Try.prog ops Q (o :: rest) a w := by
  refine wpList_plain hgd fun K hk => ?_
  obtain ⟨g', c', w', hrun, r1, r2, r3⟩ := run_snocK o.type h hc hl hB
  unfold Oper.wp
  simp [execOp, ho, resolve, invoke, builtin, hs, hx, hrun, Result.andThen]
  exact hk _ _ (hK g' c' w' r1 r2 r3)
/-- The first numbers of a block. -/
def AtG (w : World) (g : Nat) (T : List Nat) : Prop := g < w.heap.size ∧ ∀ i, i < T.length → w.cell? ⟨g, i, none⟩ = some (.int .i64 (T.getD i 0 : Nat))
theorem getD_front {T q : List Nat} {i : Nat} (h : i < T.length) : (T ++ q).getD i 0 = T.getD i 0 := by
  rw [List.getD_eq_getElem?_getD, List.getD_eq_getElem?_getD, List.getElem?_append_left h]
theorem AtG.ofOwn {B : Nat} {w : World} {g n c : Nat} {T q : List Nat} (h : Own B w (.slice (some ⟨g, 0, none⟩) n c) (T ++ q)) : AtG w g T :=
  ⟨h.lt.2, fun i hi => by rw [h.at (by rw [List.length_append]; omega), getD_front hi]⟩
theorem AtG.alloc {w : World} {g : Nat} {T : List Nat} (h : AtG w g T) (o : Obj) : AtG (w.alloc o) g T :=
  ⟨by rw [World.size_alloc]; exact Nat.lt_succ_of_lt h.1, fun i hi => ((Below.refl w.heap.size w).alloc (Nat.le_refl _) o |>.cell (p := ⟨g, i, none⟩) h.1).trans (h.2 i hi)⟩
theorem AtG.grown {w w' : World} {g : Nat} {T : List Nat} {row : Option Nat} (h : AtG w g T) (hg : w.grownBy w' row) (hr : row ≠ some g) : AtG w' g T := by
  have hb := hg.block g h.1 (Ne.symm hr)
  refine ⟨Nat.lt_of_lt_of_le h.1 hg.size, fun i hi => ?_⟩
  rw [← h.2 i hi]
  simp only [World.cell?, hb]
theorem AtG.snocK {B : Nat} {w w' : World} {g h0 g' n' c' : Nat} {T q : List Nat} (h : AtG w h0 T) (h1 : Own B w' (.slice (some ⟨g', 0, none⟩) n' c') (T ++ q)) (h2 : w.grownBy w' (some g)) (h3 : g' = g ∨ w.grownBy w' none) : AtG w' h0 T := by
  by_cases e : g = h0
  · subst e
    rcases h3 with rfl | h3
    · exact AtG.ofOwn h1
    · exact h.grown h3 (by simp)
  · exact h.grown h2 (by simp; exact e)
theorem map_snoc_take {f : Nat → Nat} {l : List Nat} {k : Nat} (h : k < l.length) : (l.take (k + 1)).map f = (l.take k).map f ++ [f (l.getD k 0)] := by
  rw [List.take_add_one, List.map_append, List.getD_eq_getElem?_getD, List.getElem?_eq_getElem h]
  rfl
theorem Own.one0 {B : Nat} (w : World) (h : B ≤ w.heap.size) : Own B (w.alloc (.cells #[.int .i64 0] 3)) (.slice (some ⟨w.heap.size, 0, none⟩) 1 1) [0] :=
  World.ownsRow_lit w #[.int .i64 0] 1 h (by unfold maxLen; omega) rfl
set_option maxRecDepth 20000 in
set_option maxHeartbeats 2000000 in
theorem unions_ok (v : Value) (l : List Nat) (w : World) (hk8 : l.length ≤ 8) (hl : ∀ x ∈ l, x < 256) (h : Ints w v (N l)) :
    Calls Try.prog 45 #[v] w fun e w' => ∃ g c, e = .returned (.slice (some ⟨g, 0, none⟩) (2 ^ l.length) c) ∧ Own w.heap.size w' (.slice (some ⟨g, 0, none⟩) (2 ^ l.length) c) (unT l l.length) ∧ Below w.heap.size w w' := by
  obtain ⟨a, cap, rfl, hlen, hc⟩ := h.nats
  clear h
  have HO0 := hid (Own.one0 w (Nat.le_refl _))
  have HB0 := hid ((Below.refl w.heap.size w).alloc (Nat.le_refl _) (.cells #[.int .i64 0] 3))
  have HZ := hid (un_zero l)
  have HST : Hid (∀ k, k < l.length → unT l (k + 1) = unT l k ++ (unT l k).map (· ||| l.getD k 0)) := fun k hk => un_step hk
  have HLN : Hid (∀ k, (unT l k).length = 2 ^ k) := un_len l
  have HLT : Hid (∀ k, ∀ x ∈ unT l k, x < 256) := fun k => un_lt (n := 8) hl k
  have HXL : Hid (∀ k, l.getD k 0 < 256) := fun k => getD_lt hl k
  have HP : Hid (∀ k, k < l.length → 2 ^ k ≤ 128) := fun k hk => Nat.pow_le_pow_right (by decide) (by omega : k ≤ 7)
  go_enter Try.func45, Try.ntmps45
  go_wp2_with fail
  revert HO0 HB0
  generalize w.alloc (.cells #[.int .i64 0] 3) = W0
  intro HO0 HB0
  go_loopw [3, 5, 7, 11] (fun u _ _ i wr => ∃ (k g c : Nat), k ≤ l.length ∧ i = .int .i64 k ∧ u = .slice (some ⟨g, 0, none⟩) (2 ^ k) c ∧ Hid (Own w.heap.size wr (.slice (some ⟨g, 0, none⟩) (2 ^ k) c) (unT l k)) ∧ Hid (Below w.heap.size w wr)) (fun _ _ _ i _ => l.length - (intOf i).toNat)
  case atStart => exact ⟨0, w.heap.size, 1, Nat.zero_le _, rfl, rfl, by show Own _ _ _ _; rw [HZ.out]; exact HO0.out, HB0.out⟩
  case round =>
    obtain ⟨k, g0, c0, hk, rfl, rfl, HO, HW⟩ := hrel
    by_cases hlt : k < l.length
    · obtain ⟨b, off, rfl, hb, hcell⟩ := hc (by omega)
      have x1 := (HW.out.cell (p := ⟨b, off + k, none⟩) hb).trans (hcell k hlt)
      have ST := hid (HST.out k hlt)
      have LN := hid (HLN.out k)
      have LT := hid (HLT.out k)
      have hxl := HXL.out k
      have h2 := HP.out k hlt
      have hki : (k : Int) < (l.length : Int) := by omega
      clear hcell hc
      have HG : Hid (AtG wr g0 (unT l k)) := AtG.ofOwn (q := []) (by rw [List.append_nil]; exact HO.out)
      obtain ⟨P, HPE⟩ : ∃ P, Hid (2 ^ k = P) := ⟨2 ^ k, Eq.refl (2 ^ k)⟩
      have HP2 : Hid (2 ^ (k + 1) = P + P) := by show _ = _; rw [Nat.pow_succ, HPE.out]; omega
      rw [HPE.out] at HO LN h2
      rw [HPE.out]
      generalize unT l k = T at *
      generalize l.getD k 0 = x at *
      have hln := LN.out
      go_wp2_with fail
      go_loopw [3, 7, 17] (fun u _ i wr => ∃ (j g c : Nat), j ≤ P ∧ i = .int .i64 j ∧ u = .slice (some ⟨g, 0, none⟩) (P + j) c ∧ Hid (Own w.heap.size wr (.slice (some ⟨g, 0, none⟩) (P + j) c) (T ++ (T.take j).map (· ||| x))) ∧ Hid (AtG wr g0 T) ∧ Hid (Below w.heap.size w wr)) (fun _ _ i _ => P - (intOf i).toNat)
      case atStart => exact ⟨0, g0, c0, Nat.zero_le _, rfl, rfl, by show Own _ _ _ _; rw [List.take_zero, List.map_nil, List.append_nil]; exact HO.out, HG.out, HW.out⟩
      case round =>
        obtain ⟨j, g, c, hj, rfl, rfl, HOj, HGj, HWj⟩ := hrel
        by_cases hjl : j < P
        · have x2 := HGj.out.2 j (by omega)
          have hy := LT.out (T.getD j 0) (by rw [List.getD_eq_getElem?_getD, List.getElem?_eq_getElem (by omega)]; exact List.getElem_mem _)
          have hor : bits .or .i64 (T.getD j 0 : Nat) (x : Int) = ((T.getD j 0 ||| x : Nat) : Int) := i64_or_nat _ _ (by omega) (by omega)
          have hs2 := HWj.out.size
          have MS := hid (map_snoc_take (f := (· ||| x)) (l := T) (k := j) (by omega))
          have hlen2 : (T ++ (T.take j).map (· ||| x)).length = P + j := by rw [List.length_append, List.length_map, List.length_take]; omega
          have hjP : (j : Int) < (P : Int) := by omega
          generalize T.getD j 0 = y at *
          generalize (T.take j).map (· ||| x) = q at *
          go_wp2_with (at_builtin; refine wpList_snocK (B := w.heap.size) (l := T ++ q) (g := g) (c := c) (b := y ||| x) (ad := ⟨wr.heap.size, 0, none⟩) rfl (.tmp 21) (.tmp 25) rfl ?h1 rfl ?h2 ?h3 ?h4 ?h5 ?_)
          case h1 => rw [hlen2]; rfl
          case h2 => rw [hlen2]; exact HOj.out.below ((Below.refl _ _).alloc (Nat.le_refl _) _)
          case h3 => exact (Boxed.new wr 3 _).cell
          case h4 => omega
          case h5 => simp; omega
          intro g' c' w5 hown' hgrow hcase
          have R3 := hid hown'
          have R4 := hid (Own.grown HOj.out HWj.out (by omega) hgrow)
          have R5 := hid ((HGj.out.alloc _).snocK hown' hgrow hcase)
          clear hown' hgrow hcase
          go_wp2_with fail
          go_roundw
          case rel => exact ⟨j + 1, g', c', by omega, by go_num, by rw [Nat.add_assoc], by show Own _ _ _ _; rw [MS.out, ← Nat.add_assoc]; exact R3.out, R5.out, R4.out⟩
          case measure => simp [intOf]; omega
        · obtain rfl : j = P := by omega
          have R3 : Hid (Own w.heap.size wr (.slice (some ⟨g, 0, none⟩) (2 ^ (k + 1)) c) (unT l (k + 1))) := by
            show Own _ _ _ _
            rw [ST.out, HP2.out]
            have := HOj.out
            rw [List.take_of_length_le (by omega)] at this
            exact this
          go_wp2_with fail
          go_roundw
          case rel => exact ⟨k + 1, g, c, by omega, by go_num, by rw [HP2.out], R3.out, HWj.out⟩
          case measure => simp [intOf]; omega
    · obtain rfl : k = l.length := by omega
      go_wp2_with fail
      go_ret
      exact ⟨g0, c0, rfl, HO.out, HW.out⟩
end Go.Proofs.Ytomajfpincehnaa
