/- Tables of truths; same.isNoGreater; slices.Clone at []bool; Canon's own functions. -/
import Derived.Test.YthlmnhcnpffjdaaGreatOrdXQ
import Derived.Test.YthlmnhcnpffjdaaGreatPlainAll
import Derived.Test.YthlmnhcnpffjdaaGreatOrdNQ
namespace Go.Proofs.YthlmnhcnpffjdaaGreat
open Go.RowKit

/-- The block g holds p's truths, T of them or more. -/
def BT (T : Nat) (W : World) (g : Nat) (p : Nat → Bool) : Prop := ∃ cur : Array Value, W.heap[g]? = some (.cells cur 4 (0, 0)) ∧ ∀ s, s < T → cur[s]? = some (.bool (p s))
theorem BT.lt {T : Nat} {W : World} {g : Nat} {p : Nat → Bool} (h : BT T W g p) : g < W.heap.size := by
  obtain ⟨cur, h1, _⟩ := h
  exact (Array.getElem?_eq_some_iff.1 h1).1
theorem BT.same {T : Nat} {W W' : World} {g : Nat} {p : Nat → Bool} (h : BT T W g p) (e : W'.heap[g]? = W.heap[g]?) : BT T W' g p := by
  obtain ⟨cur, h1, h2⟩ := h
  exact ⟨cur, e.trans h1, h2⟩
theorem BT.save {X : Nat → Prop} {T : Nat} {W W' : World} {g : Nat} {p : Nat → Bool} (h : BT T W g p) (hs : Save X W W') (hx : ¬ X g) : BT T W' g p := h.same (hs.block g h.lt hx)
theorem BT.below {T : Nat} {W W' : World} {g : Nat} {p : Nat → Bool} (h : BT T W g p) (hb : Below W.heap.size W W') : BT T W' g p := h.same (hb.block g h.lt)
theorem BT.cell {T : Nat} {W : World} {g s : Nat} {p : Nat → Bool} (h : BT T W g p) (hs : s < T) : W.cell? ⟨g, s, none⟩ = some (.bool (p s)) := by
  obtain ⟨cur, h1, h2⟩ := h
  simp only [World.cell?, h1]
  exact h2 s hs
theorem BT.frozen {T : Nat} {W : World} {g s : Nat} {p : Nat → Bool} (h : BT T W g p) : W.frozen? ⟨g, s, none⟩ = false := by
  obtain ⟨cur, h1, _⟩ := h
  simp [World.frozen?, h1]
theorem BT.put {T : Nat} {W : World} {g j : Nat} {p q : Nat → Bool} {x : Bool} (h : BT T W g p) (hq : ∀ s, s < T → q s = if s = j then x else p s) : BT T (W.setCell ⟨g, j, none⟩ (.bool x)) g q := by
  obtain ⟨cur, h1, h2⟩ := h
  refine ⟨cur.set! j (.bool x), ?_, fun s hs => ?_⟩
  · obtain ⟨hlt, hk⟩ := Array.getElem?_eq_some_iff.1 h1
    simp only [World.setCell, Array.getElem?_modify, ↓reduceIte, h1, Option.map_some]
    rfl
  · have hlt : s < cur.size := (Array.getElem?_eq_some_iff.1 (h2 s hs)).1
    rw [hq s hs, Array.set!_eq_setIfInBounds, Array.getElem?_setIfInBounds]
    by_cases e : j = s
    · subst e
      simp [hlt]
    · rw [if_neg e, if_neg (fun c => e c.symm), h2 s hs]
theorem BT.congr {T : Nat} {W : World} {g : Nat} {p q : Nat → Bool} (h : BT T W g p) (e : ∀ s, s < T → p s = q s) : BT T W g q := by
  obtain ⟨cur, h1, h2⟩ := h
  exact ⟨cur, h1, fun s hs => by rw [← e s hs]; exact h2 s hs⟩
set_option maxHeartbeats 1000000 in
theorem isNoGreater_ok (n gN gI B gB gL cB cL : Nat) (p : List Nat) (pB pL : Nat → Bool) (w : World) (hn : n ≤ 8) (hp : p.length ≤ n) (hb : Beg n p) (hO : OrdAt B w gN gI n p) (hB : BT (2 ^ n) w gB pB) (hL : BT (2 ^ n) w gL pL) :
    Calls Tryz.prog 46 #[.slice (some ⟨gI, 0, none⟩) (2 ^ p.length) (2 ^ n), .slice (some ⟨gB, 0, none⟩) (2 ^ n) cB, .slice (some ⟨gL, 0, none⟩) (2 ^ n) cL] w fun e w' => e = .returned (.bool (noGr (fun s => pB (image p s)) pL (List.range (2 ^ p.length)))) ∧ Below w.heap.size w w' := by
  have hgI := hO.img.lt.2
  have HC : Hid (∀ s, s < 2 ^ p.length → w.cell? ⟨gI, s, none⟩ = some (.int .i64 (image p s : Nat)) ∧ image p s < 2 ^ n ∧ s < 2 ^ n) := fun s hs => by
    have h1 := hO.img.at (i := s) (by rw [imgs_len _ p rfl]; exact hs)
    rw [imgs_at _ p rfl s hs] at h1
    exact ⟨h1, hb.image_lt s, Nat.lt_of_lt_of_le hs (Nat.pow_le_pow_right (by decide) hp)⟩
  have HF : Hid (∀ i, i < 2 ^ p.length → (∀ t, t < i → pB (image p t) = pL t) → pB (image p i) ≠ pL i → noGr (fun s => pB (image p s)) pL (List.range (2 ^ p.length)) = pB (image p i)) := fun i h1 h2 h3 => noGr_first h1 h2 h3
  have HE : Hid ((∀ t, t < 2 ^ p.length → pB (image p t) = pL t) → noGr (fun s => pB (image p s)) pL (List.range (2 ^ p.length)) = true) := fun h => noGr_all h
  have hK8 : 2 ^ p.length ≤ 2 ^ n := Nat.pow_le_pow_right (by decide) hp
  have hT := (pow_wrap n hn).2
  have HB := hid hB
  have HL := hid hL
  have hgB := hB.lt
  have hgL := hL.lt
  clear hO hb hB hL
  generalize noGr (fun s => pB (image p s)) pL (List.range (2 ^ p.length)) = R at *
  generalize 2 ^ p.length = K at *
  generalize 2 ^ n = T at *
  go_enter Tryz.func46, Tryz.ntmps46
  go_wp2_with fail
  go_loopw [11] (fun j wr => ∃ i : Nat, j = .int .i64 i ∧ i ≤ K ∧ Hid (∀ s, s < i → pB (image p s) = pL s) ∧ Hid (Below w.heap.size w wr)) (fun j _ => K - (intOf j).toNat)
  case atStart => exact ⟨0, rfl, Nat.zero_le _, fun s h1 => by omega, Below.refl _ _⟩
  case round =>
    obtain ⟨i, rfl, h2, HA, HW⟩ := hrel
    by_cases hlt : i < K
    · have hlt' : (i : Int) < (K : Int) := by omega
      obtain ⟨hc, hi1, hi2⟩ := HC.out i hlt
      have hmeas : K - (i + 1) < K - i := by omega
      have c1 := (HW.out.cell (p := ⟨gI, i, none⟩) hgI).trans hc
      have c2 := (HW.out.cell (p := ⟨gB, image p i, none⟩) hgB).trans (HB.out.cell hi1)
      have c3 := (HW.out.cell (p := ⟨gL, i, none⟩) hgL).trans (HL.out.cell hi2)
      have HWD : Hid (∀ q, Below w.heap.size w (wr.drewN q)) := fun q => HW.out.trans ⟨rfl, rfl, rfl, Nat.le_refl _, fun _ _ => rfl⟩
      have HWC : Hid (∀ q, (wr.drewN q).cell? ⟨gB, image p i, none⟩ = some (.bool (pB (image p i)))) := fun q => c2
      have hi1' : (image p i : Int) < (T : Int) := by omega
      have hi2' : (i : Int) < (T : Int) := by omega
      have HA2 : Hid (pB (image p i) = pL i → ∀ s, s < i + 1 → pB (image p s) = pL s) := fun e s hs => by
        by_cases c : s < i
        · exact HA.out s c
        · obtain rfl : s = i := by omega
          exact e
      have HN := hid (HF.out i hlt HA.out)
      clear HC HB HL hc HF HE HA
      generalize hy : image p i = y at *
      generalize hA : pB y = a at *
      generalize hB2 : pL i = b at *
      clear hy hA hB2
      by_cases hab : a = b
      · have hab' : (a != b) = false := by simp [hab]
        have HA3 := hid (HA2.out hab)
        clear HA2 HN
        subst hab
        go_wp2_with fail
        go_quiet (fail)
        go_wp2_with fail
        go_roundw
        case rel => exact ⟨i + 1, by go_num, hlt, HA3, HWD.out _⟩
        case measure => exact hmeas
      · have HN2 := hid (HN.out hab)
        have hab2 : b = !a := by cases a <;> cases b <;> simp_all
        clear hab HA2 HN
        subst hab2
        go_wp2_with fail
        go_quiet (fail)
        have c4 := HWC.out
        cases a <;> (go_wp2_with fail; go_ret; exact ⟨ret_bool (by rw [HN2.out]), HWD.out _⟩)
    · obtain rfl : i = K := by omega
      have hlt' : ¬ (i : Int) < (i : Int) := by omega
      have HT2 := hid (HE.out HA.out)
      clear HC HF HE
      go_wp2_with fail
      go_ret
      exact ⟨ret_bool (by rw [HT2.out]), HW.out⟩
end Go.Proofs.YthlmnhcnpffjdaaGreat

namespace Go.Proofs.YthlmnhcnpffjdaaGreat
open Go.RowKit

theorem Tryz.infoBool : (Tryz.prog.info? 4).map (fun i => (i.zero, i.size, i.bytes)) = some (some (.bool false), 1, 1) := by kernel_rfl
theorem BT.of_row {B T : Nat} {W : World} {v : Value} {p : Nat → Bool} (hT : 0 < T) (h : W.ownsRow B 4 1 v T ((List.range T).map fun s => .bool (p s))) : ∃ g c, v = .slice (some ⟨g, 0, none⟩) T c ∧ T ≤ c ∧ B ≤ g ∧ BT T W g p := by
  obtain ⟨h0, h1⟩ := h
  rcases h1 with ⟨_, hn⟩ | ⟨g, cap, cur, hv, hg, hh, hn, hm, hs, ht⟩
  · omega
  · refine ⟨g, cap, hv, hn, hg, cur, hh, fun s hs2 => ?_⟩
    rw [Nat.mul_one] at ht hs
    rw [← Array.getElem?_toList, ← List.getElem?_take_of_lt hs2, ht]
    simp [hs2]
theorem BT.cur {T : Nat} {W : World} {g : Nat} {p : Nat → Bool} (h : BT T W g p) : ∀ j u, ((List.range T).map fun s => Value.bool (p s))[j]? = some u → W.cell? ((⟨g, 0, none⟩ : Addr).add j) = some u := fun j u hu => by
  have hj : j < T := by have := (List.getElem?_eq_some_iff.1 hu).1; simpa using this
  have := h.cell hj
  rw [List.getElem?_map, List.getElem?_range hj] at hu
  rw [← hu]
  simp only [Option.map_some]
  rw [← this]
  simp only [Addr.add]
  split
  · rename_i e; simp_all
  · simp
theorem wpList_appB {T : Nat} {w : World} {g0 g c : Nat} {p : Nat → Bool} {ops : Array Oper} {rest : List Oper} {o : Oper} {a : Act} {Q : Exit → Act → World → Prop} (hgd : o.guard = none) (s x : Operand) (hT : 0 < T) (hT2 : T ≤ 256)
    (ho : o.op = .call { callee := .builtin .append, args := #[s, x], argTypes := #[64, 64] }) (hs : a.eval s = .slice (some ⟨g0, 0, none⟩) 0 0) (hx : a.eval x = .slice (some ⟨g, 0, none⟩) T c) (h : w.ownsRow g0 4 1 (.slice (some ⟨g0, 0, none⟩) 0 0) 0 []) (hq : BT T w g p) (hB : g0 ≤ w.heap.size)
    (hK : ∀ g' c' w', T ≤ c' → g0 ≤ g' → BT T w' g' p → w.grownBy w' (some g0) → wpList Tryz.prog ops Q rest (a.put o.dst (.slice (some ⟨g', 0, none⟩) T c')) w') : wpList Tryz.prog ops Q (o :: rest) a w := by
  refine wpList_plain hgd fun K hk => ?_
  obtain ⟨i0, hi, hz0, hz1, hz2⟩ := info_parts Tryz.infoBool
  obtain ⟨v', w', hrun, r1, r2, -⟩ := run_append_own (P := Tryz.prog) w g0 64 o.type 4 i0 (.bool false) 1 1 Tryz.underlying64 hi hz0 hz1 hz2 rfl (by decide) (.slice (some ⟨g0, 0, none⟩) 0 0) 0 [] h ⟨g, 0, none⟩ T c ((List.range T).map fun s => .bool (p s))
    (by simp) hq.cur (fun u hu => by obtain ⟨x, _, rfl⟩ := List.mem_map.1 hu; rfl) (by unfold maxLen; omega) (by omega) hB
  rw [Nat.zero_add, List.nil_append] at r1
  obtain ⟨g', c', rfl, e2, e3, e4⟩ := BT.of_row hT r1
  unfold Oper.wp
  simp [execOp, ho, resolve, invoke, builtin, hs, hx, hrun, Result.andThen]
  exact hk _ _ (hK g' c' w' e2 e3 e4 r2)
set_option maxRecDepth 20000 in
theorem CloneB_ok (T g c : Nat) (p : Nat → Bool) (w : World) (hq : BT T w g p) (hT : 0 < T) (hl : T ≤ 256) :
    Calls Tryz.prog 43 #[.slice (some ⟨g, 0, none⟩) T c] w fun e w' => ∃ g' c', e = .returned (.slice (some ⟨g', 0, none⟩) T c') ∧ w.heap.size ≤ g' ∧ BT T w' g' p ∧ Below w.heap.size w w' := by
  have HQ := hid hq
  have hnil : ∀ W, (binOp .eql 64 (.slice (some ⟨g, 0, none⟩) T c) (.slice none 0 0)).run Tryz.prog W = .ok (.bool false) W := fun W => Lib.run_eql_slice_nil W _ _ _ _ _ _ _ Tryz.underlying64
  clear hq
  go_enter Tryz.func43, Tryz.ntmps43
  have OE : (w.alloc (.cells #[] 4)).ownsRow w.heap.size 4 1 (.slice (some ⟨w.heap.size, 0, none⟩) 0 0) 0 [] := ⟨rfl, .inr ⟨w.heap.size, 0, #[], rfl, Nat.le_refl _, World.alloc_heap_new w _, Nat.le_refl _, Nat.zero_le _, rfl, rfl⟩⟩
  have HOE := hid OE
  have HQ2 := hid (HQ.out.below ((Below.refl _ _).alloc (Nat.le_refl _) (.cells #[] 4)))
  clear OE HQ
  go_wp2_with (at_builtin; refine wpList_appB rfl (.tmp 5) (.tmp 6) hT hl rfl rfl rfl HOE.out HQ2.out (by simp) ?_)
  intro g' c' w' hc hge ho hg
  have H1 := hid ho
  have H2 : Hid (Below w.heap.size w w') := ((Below.refl _ w).alloc (Nat.le_refl _) _).grown hg (by simp) (fun k e => by cases e; exact Nat.le_refl _)
  clear ho hg
  go_wp2_with fail
  go_ret
  exact ⟨g', c', rfl, hge, H1.out, H2.out⟩
/-- What Canon's variables hold: bB, bL the boxes, gB, gL the tables. -/
structure CanI (w : World) (T bB bL gB gL cB cL : Nat) (pB : Nat → Bool) (gN gI : Nat) (L : Nat → Bool) (W : World) : Prop where
  low : Below w.heap.size w W
  new : w.heap.size ≤ gL ∧ gL ≠ gB ∧ gL ≠ bB ∧ gL ≠ bL
  oth : (bB ≠ gN ∧ bL ≠ gN ∧ gB ≠ gN ∧ gL ≠ gN) ∧ bB ≠ gI ∧ bL ≠ gI ∧ gB ≠ gI ∧ gL ≠ gI
  old : w.heap.size ≤ gN ∧ w.heap.size ≤ gI
  xB : Boxed W bB 64 (.slice (some ⟨gB, 0, none⟩) T cB)
  xL : Boxed W bL 64 (.slice (some ⟨gL, 0, none⟩) T cL)
  tB : BT T W gB pB
  tL : BT T W gL L
variable {w : World} {T bB bL gB gL cB cL : Nat} {pB : Nat → Bool} {gN gI : Nat} {L : Nat → Bool} {W W' : World}
theorem CanI.save (h : CanI w T bB bL gB gL cB cL pB gN gI L W) (hs : Save (fun k => k = gN ∨ k = gI) W W') : CanI w T bB bL gB gL cB cL pB gN gI L W' := by
  obtain ⟨a1, a2, a3, a4⟩ := h.oth.1
  obtain ⟨b1, b2, b3, b4⟩ := h.oth.2
  have ho := h.old
  refine ⟨hs.below h.low h.low.size (fun k hk => by omega), h.new, h.oth, h.old, (hs.block _ h.xB.lt (by omega)).trans h.xB, (hs.block _ h.xL.lt (by omega)).trans h.xL, h.tB.save hs (by omega), h.tL.save hs (by omega)⟩
theorem CanI.put (h : CanI w T bB bL gB gL cB cL pB gN gI L W) (hs : Save (fun k => k = gL) W W') {L' : Nat → Bool} (hL : BT T W' gL L') : CanI w T bB bL gB gL cB cL pB gN gI L' W' := by
  obtain ⟨n1, n2, n3, n4⟩ := h.new
  refine ⟨hs.below h.low h.low.size (fun k hk => by omega), h.new, h.oth, h.old, (hs.block _ h.xB.lt (by omega)).trans h.xB, (hs.block _ h.xL.lt (by omega)).trans h.xL, h.tB.save hs (by omega), hL⟩
set_option maxRecDepth 20000 in
set_option maxHeartbeats 1000000 in
theorem canF1_ok (n B : Nat) (A p : List Nat) (hn : n ≤ 8) (hp : p.length ≤ n) (hb : Beg n p) (hI : CanI w (2 ^ n) bB bL gB gL cB cL (fun s => memB s A) gN gI L W) (hO : OrdAt B W gN gI n p) :
    Calls Tryz.prog 45 #[ordV gN gI n p, .pointer (some ⟨bB, 0, none⟩), .pointer (some ⟨bL, 0, none⟩)] W fun e W' => e = .returned (.bool (canF A L p)) ∧ Below W.heap.size W W' := by
  have B1 : Below W.heap.size W (W.alloc (.cells #[.slice (some ⟨gN, 0, none⟩) p.length n, .slice (some ⟨gI, 0, none⟩) (2 ^ p.length) (2 ^ n)] 58)) := (Below.refl _ _).alloc (Nat.le_refl _) _
  have K1 := hid (isNoGreater_ok n gN gI B gB gL cB cL p _ L _ hn hp hb (hO.save (X := fun _ => False) (Save.of_below B1) id id) (hI.tB.below B1) (hI.tL.below B1))
  have cA := (B1.cell (p := ⟨bB, 0, none⟩) hI.xB.lt).trans hI.xB.cell
  have cC := (B1.cell (p := ⟨bL, 0, none⟩) hI.xL.lt).trans hI.xL.cell
  have HB1 := hid B1
  have hE : noGr (fun s => memB (image p s) A) L (List.range (2 ^ p.length)) = canF A L p := rfl
  rw [hE] at K1
  clear hO hb B1 hI hE
  unfold ordV
  generalize 2 ^ p.length = K at *
  generalize 2 ^ n = T at *
  go_enter Tryz.func45, Tryz.ntmps45
  go_wp2_with fail
  refine K1.out.mono ?_
  rintro e w2 ⟨rfl, hb2⟩
  have HB2 := hid (HB1.out.trans (hb2.mono HB1.out.size))
  clear hb2 K1
  go_wp2_with fail
  go_ret
  exact ⟨rfl, HB2.out⟩
set_option maxRecDepth 20000 in
set_option maxHeartbeats 1000000 in
theorem canF2_ok (n B : Nat) (A p : List Nat) (hn : n ≤ 8) (hp : p.length = n) (hb : Beg n p) (hI : CanI w (2 ^ n) bB bL gB gL cB cL (fun s => memB s A) gN gI L W) (hO : OrdAt B W gN gI n p) :
    Calls Tryz.prog 47 #[ordV gN gI n p, .pointer (some ⟨bB, 0, none⟩), .pointer (some ⟨bL, 0, none⟩)] W fun e W' => e = .returned (.bool true) ∧ CanI w (2 ^ n) bB bL gB gL cB cL (fun s => memB s A) gN gI (vecB A p) W' ∧ Save (fun k => k = gL) W W' := by
  have HB1 : Hid (Below W.heap.size W (W.alloc (.cells #[.slice (some ⟨gN, 0, none⟩) p.length n, .slice (some ⟨gI, 0, none⟩) (2 ^ p.length) (2 ^ n)] 58))) := (Below.refl _ _).alloc (Nat.le_refl _) _
  have hgI := hO.img.lt.2
  obtain ⟨n1, n2, n3, n4⟩ := hI.new
  obtain ⟨⟨a1, a2, a3, a4⟩, b1, b2, b3, b4⟩ := hI.oth
  have HC : Hid (∀ s, s < 2 ^ n → W.cell? ⟨gI, s, none⟩ = some (.int .i64 (image p s : Nat)) ∧ image p s < 2 ^ n) := fun s hs => by
    have h1 := hO.img.at (i := s) (by rw [imgs_len _ p rfl, hp]; exact hs)
    rw [imgs_at _ p rfl s (by rw [hp]; exact hs)] at h1
    exact ⟨h1, hb.image_lt s⟩
  have HI := hid hI
  have hT := (pow_wrap n hn).2
  have lB := hI.xB.lt
  have lL := hI.xL.lt
  have mB := hI.tB.lt
  have mL := hI.tL.lt
  have HP : Hid (∀ (i : Nat) (s : Nat), s < 2 ^ n → (if s < i + 1 then vecB A p s else L s) = if s = i then memB (image p i) A else if s < i then vecB A p s else L s) := fun i s _ => by
    by_cases e : s = i
    · subst e
      rw [if_pos (by omega), if_pos rfl]
      rfl
    · rw [if_neg e]
      by_cases c : s < i
      · rw [if_pos (by omega), if_pos c]
      · rw [if_neg (by omega), if_neg c]
  have HV : Hid (∀ s, s < 2 ^ n → (if s < 2 ^ n then vecB A p s else L s) = vecB A p s) := fun s hs => if_pos hs
  clear hO hb hI
  unfold ordV
  rw [hp] at HB1 ⊢
  generalize 2 ^ n = T at *
  go_enter Tryz.func47, Tryz.ntmps47
  go_wp2_with fail
  go_loopw [10] (fun j wr => ∃ i : Nat, j = .int .i64 i ∧ i ≤ T ∧ Hid (BT T wr gL (fun s => if s < i then vecB A p s else L s)) ∧ Hid (Save (fun k => k = gL) W wr)) (fun j _ => T - (intOf j).toNat)
  case atStart => exact ⟨0, rfl, Nat.zero_le _, (HI.out.tL.below HB1.out).congr (fun s _ => by simp), Save.of_below HB1.out⟩
  case round =>
    obtain ⟨i, rfl, h2, HT, HS⟩ := hrel
    clear HB1
    by_cases hlt : i < T
    · have hlt' : (i : Int) < (T : Int) := by omega
      obtain ⟨hc, hi1⟩ := HC.out i hlt
      have hmeas : T - (i + 1) < T - i := by omega
      have c1 := (World.cell?_of_block (a := ⟨gI, i, none⟩) (HS.out.block gI hgI (by omega))).trans hc
      have x1 := (World.cell?_of_block (a := ⟨bB, 0, none⟩) (HS.out.block bB lB (by omega))).trans HI.out.xB.cell
      have x2 := (World.cell?_of_block (a := ⟨bL, 0, none⟩) (HS.out.block bL lL (by omega))).trans HI.out.xL.cell
      have c2 := (World.cell?_of_block (a := ⟨gB, image p i, none⟩) (HS.out.block gB mB (by omega))).trans (HI.out.tB.cell hi1)
      have c3 := HT.out.cell hlt
      have f3 := HT.out.frozen (s := i)
      have hi1' : (image p i : Int) < (T : Int) := by omega
      have HN : Hid (BT T (wr.setCell ⟨gL, i, none⟩ (.bool (memB (image p i) A))).drew gL (fun s => if s < i + 1 then vecB A p s else L s)) := (BT.put HT.out (fun s hs => HP.out i s hs)).same rfl
      have HS2 : Hid (Save (fun k => k = gL) W (wr.setCell ⟨gL, i, none⟩ (.bool (memB (image p i) A))).drew) := (Save.setCell (X := fun k => k = gL) HS.out (p := ⟨gL, i, none⟩) (.inl rfl) _).drew
      clear HC HT hc HP HV
      generalize memB (image p i) A = x at *
      generalize image p i = y at *
      go_wp2_with fail
      go_region_with fail
      all_goals
        go_wp2_with fail
        go_roundw
        case rel => exact ⟨i + 1, by go_num, hlt, HN, HS2⟩
        case measure => exact hmeas
    · obtain rfl : i = T := by omega
      have hlt' : ¬ (i : Int) < (i : Int) := by omega
      have HR := hid (HI.out.put HS.out (HT.out.congr HV.out))
      clear HC HP HV
      go_wp2_with fail
      go_ret
      exact ⟨rfl, HR.out, HS.out⟩
set_option maxHeartbeats 1000000 in
theorem canF3_ok (s : Nat) (hs : s < T) (_hT : T ≤ 256) (hb : Boxed W bL 64 (.slice (some ⟨gL, 0, none⟩) T cL)) (hL : BT T W gL L) :
    Calls Tryz.prog 49 #[.int .i64 (s : Nat), .pointer (some ⟨bL, 0, none⟩)] W fun e W' => e = .returned (.bool (L s)) ∧ W' = W := by
  have c1 := hb.cell
  have c2 := hL.cell hs
  have hs' : (s : Int) < (T : Int) := by omega
  clear hb hL
  generalize L s = x at *
  go_enter Tryz.func49, Tryz.ntmps49
  go_wp2_with fail
  go_ret
  exact ⟨rfl, rfl⟩
end Go.Proofs.YthlmnhcnpffjdaaGreat

namespace Go.Proofs.YthlmnhcnpffjdaaGreat
open Go.RowKit

/-- What is refused. -/
def BadS (w : World) (q : Int) (e : Ending) (w' : World) : Prop := e = .returned (.tuple #[.agg #[.int .i64 0, .slice none 0 0], .int .i64 q]) ∧ Below w.heap.size w w'
theorem run_make_bool (c : Nat) (hc : c ≤ 256) (w : World) : (Instr.makeSlice 64 (.int .i64 (c : Int)) (.int .i64 (c : Int))).run Tryz.prog w = .ok (.slice (some ⟨w.heap.size, 0, none⟩) c c) (w.alloc (.cells (madeCells #[.bool false] c) 4)) := by
  obtain ⟨i0, hi, hz0, hz1, hz2⟩ := info_parts Tryz.infoBool
  have h := run_make (P := Tryz.prog) w 64 4 i0 (.bool false) Tryz.underlying64 hi hz0 .i64 .i64 c c (by omega) (by omega) (by rw [hz2]; omega) (by omega)
  simp only [Int.toNat_natCast, hz1, Nat.mul_one] at h
  exact h
theorem BT.made {T : Nat} {W : World} {g : Nat} (h : W.heap[g]? = some (.cells (madeCells #[.bool false] T) 4 (0, 0))) : BT T W g (fun _ => false) := by
  refine ⟨_, h, fun s hs => ?_⟩
  unfold madeCells
  simp [hs, Nat.mod_one]
theorem mem_take {l : List Nat} {j s : Nat} (h : j < l.length) : memB s (l.take (j + 1)) = if s = l.getD j 0 then true else memB s (l.take j) := by
  unfold memB
  rw [take_snoc h]
  by_cases e : s = l.getD j 0
  · rw [if_pos e]; simp [e]
  · rw [if_neg e, Bool.eq_iff_iff, decide_eq_true_iff, decide_eq_true_iff, List.mem_append, List.mem_singleton]
    exact ⟨fun h => h.resolve_right e, .inl⟩
set_option maxRecDepth 20000 in
set_option maxHeartbeats 4000000 in
theorem Canon_ok (m : Nat) (v : Value) (l : List Nat) (w : World) (hm : m ≤ 8) (hf : Fam m l) (hb : Bas l) (h : Ints w v (N l)) :
    Calls Tryz.prog 15 #[.agg #[.int .i64 m, v]] w (GivesO w m (canL m l)) := by
  have B0 := boxM_below w m v
  have HB0 := hid B0
  have HSZ := hid (boxM_size w m v)
  have HBK : Hid (∀ w2, Below (boxM w m v).heap.size (boxM w m v) w2 → _) := fun w2 h => boxM_blocks h
  have CK := hid (check_any m v (N l) _ (h.below B0))
  rw [chk_mk hm hf hb] at CK
  have HLT : Hid (∀ b ∈ l, b < 2 ^ m) := hf.lt
  have hll := fam_len hm hf
  obtain ⟨T, HT, hT2, hT⟩ : ∃ T : Nat, Hid (2 ^ m = T) ∧ T ≤ 256 ∧ wrap64 (2 ^ m) = (T : Int) := ⟨2 ^ m, Eq.refl (2 ^ m), (pow_wrap _ hm).2, (pow_wrap _ hm).1⟩
  have hT1 : 1 ≤ T := by rw [← HT.out]; exact Nat.one_le_two_pow
  have mk := fun w => run_make_bool T hT2 w
  obtain ⟨a0, cap, hv, -, hcl⟩ := h.nats
  subst hv
  have HCL := hid hcl
  rw [HT.out] at HLT
  clear hf hb h hcl B0
  obtain ⟨acc, HACC⟩ : ∃ acc, Hid (canL m l = acc) := ⟨_, Eq.refl (canL m l)⟩
  rw [HACC.out]
  go_enter Tryz.func15, Tryz.ntmps15
  go_wp2_with fail
  refine CK.out.mono ?_
  rintro e w1 ⟨rfl, hb1⟩
  obtain ⟨y0, y1⟩ := HBK.out w1 hb1
  have B1 := hid (HB0.out.trans (hb1.mono HB0.out.size))
  have hs1 : w.heap.size + 2 ≤ w1.heap.size := by rw [← HSZ.out]; exact hb1.size
  have Y0 := hid y0
  have Y1 := hid y1
  obtain ⟨x0, x1⟩ := cells2 y0
  clear hb1 CK HB0 HSZ HBK y0 y1
  have bn : Below w1.heap.size w1 ((w1.alloc (.cells (madeCells #[.bool false] T) 4)).alloc (.cells #[.slice (some ⟨w1.heap.size, 0, none⟩) T T] 64)) := ((Below.refl _ _).alloc (Nat.le_refl _) _).alloc (by simp) _
  have hzn : ((w1.alloc (.cells (madeCells #[.bool false] T) 4)).alloc (.cells #[.slice (some ⟨w1.heap.size, 0, none⟩) T T] 64)).heap.size = w1.heap.size + 2 := by simp
  have XB : Hid (Boxed ((w1.alloc (.cells (madeCells #[.bool false] T) 4)).alloc (.cells #[.slice (some ⟨w1.heap.size, 0, none⟩) T T] 64)) (w1.heap.size + 1) 64 (.slice (some ⟨w1.heap.size, 0, none⟩) T T)) := by
    have := Boxed.new (w1.alloc (.cells (madeCells #[.bool false] T) 4)) 64 (.slice (some ⟨w1.heap.size, 0, none⟩) T T)
    rwa [World.size_alloc] at this
  have TB : Hid (BT T ((w1.alloc (.cells (madeCells #[.bool false] T) 4)).alloc (.cells #[.slice (some ⟨w1.heap.size, 0, none⟩) T T] 64)) w1.heap.size (fun _ => false)) := BT.made ((Below.heap_alloc _ _ _ (by simp)).trans (World.alloc_heap_new w1 _))
  have w0 := (bn.cell (p := ⟨w.heap.size, 0, none⟩) (by show w.heap.size < _; omega)).trans x0
  have w1' := (bn.cell (p := ⟨w.heap.size, 1, none⟩) (by show w.heap.size < _; omega)).trans x1
  have HBN := hid bn
  clear bn
  go_wp2_with fail
  revert hzn XB TB w0 w1' HBN
  generalize ((w1.alloc (.cells (madeCells #[.bool false] T) 4)).alloc (.cells #[.slice (some ⟨w1.heap.size, 0, none⟩) T T] 64)) = WA
  intro hzn XB TB w0 w1' HBN
  have hTs := hT
  rw [hT]
  clear hT w0 w1' x0 x1
  go_loopw [7, 22] (fun _ jx wr => ∃ j : Nat, j ≤ l.length ∧ jx = .int .i64 j ∧ Hid (BT T wr w1.heap.size (fun s => memB s (l.take j))) ∧ Hid (Boxed wr (w1.heap.size + 1) 64 (.slice (some ⟨w1.heap.size, 0, none⟩) T T)) ∧ Hid (Below w1.heap.size w1 wr) ∧ Hid (w1.heap.size + 2 ≤ wr.heap.size)) (fun _ jx _ => l.length - (intOf jx).toNat)
  case atStart => exact ⟨0, Nat.zero_le _, rfl, TB.out.congr (fun s _ => by simp [memB]), XB, HBN, by show _ ≤ _; omega⟩
  case round =>
    obtain ⟨j, hj, rfl, TBr, XBr, HBr, HZr⟩ := hrel
    clear XB TB HBN hzn
    have hzr := HZr.out
    by_cases hlt : j < l.length
    · have hlt' : (j : Int) < (l.length : Int) := by omega
      have hmeas : l.length - (j + 1) < l.length - j := by omega
      obtain ⟨lb, lo, rfl, hlb, hcell⟩ := HCL.out (by omega)
      have cL := (HBr.out.cell (p := ⟨lb, lo + j, none⟩) (by show lb < _; omega)).trans ((B1.out.cell (p := ⟨lb, lo + j, none⟩) hlb).trans (hcell j hlt))
      have hbT : l.getD j 0 < T := HLT.out _ (by simp [List.getD, hlt])
      have HMT : Hid (∀ s, s < T → memB s (l.take (j + 1)) = if s = l.getD j 0 then true else memB s (l.take j)) := fun s _ => mem_take hlt
      have cB := XBr.out.cell
      generalize l.getD j 0 = b at *
      have c3 := TBr.out.cell hbT
      have f3 := TBr.out.frozen (s := b)
      have hbT' : (b : Int) < (T : Int) := by omega
      have HN : Hid (BT T (wr.setCell ⟨w1.heap.size, b, none⟩ (.bool true)) w1.heap.size (fun s => memB s (l.take (j + 1)))) := BT.put TBr.out HMT.out
      have HX : Hid (Boxed (wr.setCell ⟨w1.heap.size, b, none⟩ (.bool true)) (w1.heap.size + 1) 64 (.slice (some ⟨w1.heap.size, 0, none⟩) T T)) := (Below.heap_setCell _ _ _ _ (by show w1.heap.size + 1 ≠ w1.heap.size; omega)).trans XBr.out
      have HBw : Hid (Below w1.heap.size w1 (wr.setCell ⟨w1.heap.size, b, none⟩ (.bool true))) := HBr.out.setCell (p := ⟨w1.heap.size, b, none⟩) (Nat.le_refl _) _
      have HZ2 : Hid (w1.heap.size + 2 ≤ (wr.setCell ⟨w1.heap.size, b, none⟩ (.bool true)).heap.size) := by
        show _ ≤ _
        rw [show (wr.setCell ⟨w1.heap.size, b, none⟩ (.bool true)).heap.size = wr.heap.size by simp [World.setCell]]
        exact hzr
      clear HMT HCL hcell TBr
      go_wp2_with fail
      go_roundw
      case rel => exact ⟨j + 1, hlt, by go_num, HN, HX, HBw, HZ2⟩
      case measure => exact hmeas
    · obtain rfl : j = l.length := by omega
      have hlt' : ¬ ((l.length : Nat) : Int) < ((l.length : Nat) : Int) := by omega
      rw [List.take_length] at TBr
      have cB := XBr.out.cell
      have CL := hid (CloneB_ok T w1.heap.size T _ wr TBr.out hT1 hT2)
      clear HCL HLT
      go_wp2_with fail
      refine CL.out.mono ?_
      rintro e w3 ⟨gL, cL, rfl, hgL, hTL, hb3⟩
      have hs3 := hb3.size
      have B3 := HBr.out.trans (hb3.mono (by omega))
      have bn : Below w3.heap.size w3 (w3.alloc (.cells #[.slice (some ⟨gL, 0, none⟩) T cL] 64)) := (Below.refl _ _).alloc (Nat.le_refl _) _
      have hzn : (w3.alloc (.cells #[.slice (some ⟨gL, 0, none⟩) T cL] 64)).heap.size = w3.heap.size + 1 := World.size_alloc ..
      have hgL3 := hTL.lt
      have CI : Hid (∀ gN gI W, w3.heap.size + 1 ≤ gN → w3.heap.size + 1 ≤ gI → Below (w3.heap.size + 1) (w3.alloc (.cells #[.slice (some ⟨gL, 0, none⟩) T cL] 64)) W → CanI w1 T (w1.heap.size + 1) w3.heap.size w1.heap.size gL T cL (fun s => memB s l) gN gI (fun s => memB s l) W) := fun gN gI W h1 h2 h3 => by
        refine ⟨B3.trans ((bn.mono (by omega)).trans (h3.mono (by omega))), by omega, by omega, by omega, ?_, ?_, ?_, ?_⟩
        · exact (h3.block _ (by omega)).trans ((bn.block _ (by omega)).trans ((hb3.block _ (by omega)).trans XBr.out))
        · exact (h3.block _ (by omega)).trans (Boxed.new w3 64 _)
        · exact TBr.out.same ((h3.block _ (by omega)).trans ((bn.block _ (by omega)).trans (hb3.block _ (by omega))))
        · exact hTL.same ((h3.block _ (by omega)).trans (bn.block _ (by omega)))
      have EO := hid (each_ok m 45 47 #[.pointer (some ⟨w1.heap.size + 1, 0, none⟩), .pointer (some ⟨w3.heap.size, 0, none⟩)] #[.pointer (some ⟨w1.heap.size + 1, 0, none⟩), .pointer (some ⟨w3.heap.size, 0, none⟩)] (canF l) (canG l) (fun gN gI L W => CanI w1 T (w1.heap.size + 1) w3.heap.size w1.heap.size gL T cL (fun s => memB s l) gN gI L W) (fun s => memB s l) (w3.alloc (.cells #[.slice (some ⟨gL, 0, none⟩) T cL] 64)) hm
        (fun args w => enters_of Tryz.func45 (by kernel_rfl) rfl args w) (fun args w => enters_of Tryz.func47 (by kernel_rfl) rfl args w)
        (fun gN gI s W W' h hs => h.save hs)
        (fun gN gI s p W hI hbg hp0 hO hs => by
          have hI' := hI
          rw [← HT.out] at hI'
          refine (canF1_ok m _ l p hm hO.num.cap hbg hI' hO).mono ?_
          rintro e W' ⟨rfl, hb⟩
          exact ⟨rfl, hI.save (Save.of_below hb), Save.of_below hb⟩)
        (fun gN gI s p W hI hbg hp0 hO hs => by
          have hI' := hI
          rw [← HT.out] at hI'
          refine (canF2_ok m _ l p hm hp0 hbg hI' hO).mono ?_
          rintro e W' ⟨rfl, h3, h4⟩
          rw [HT.out] at h3
          exact ⟨rfl, h3, h4.mono (fun k hk => by omega)⟩)
        (fun gN gI W h1 h2 h3 => by rw [hzn] at h1 h2 h3; exact CI.out gN gI W h1 h2 h3))
      obtain ⟨x0, x1⟩ := cells2 (((B3.trans (bn.mono (by omega))).block w.heap.size (by omega)).trans Y0.out)
      clear CI hTL TBr XBr hb3 CL
      go_wp2_with fail
      refine EO.out.mono ?_
      rintro e w5 ⟨rfl, ⟨gN, gI, hI5⟩, hs5⟩
      rw [show (walkO (canF l) (canG l) m m (fun s => memB s l) []).2 = canV m l from rfl] at hI5
      have hB5 := hI5.low
      have SV := hid (Sieve_any m 49 #[.pointer (some ⟨w3.heap.size, 0, none⟩)] (canV m l) w5.drew hm (fun args w => enters_of Tryz.func49 (by kernel_rfl) rfl args w) (by
        rw [HT.out]
        intro x hx wx hbx hsx
        refine (canF3_ok x hx hT2 ((hbx.block _ hI5.xL.lt).trans hI5.xL) ((hI5.tL.same (W' := w5.drew) rfl).below hbx)).mono ?_
        rintro e W' ⟨rfl, rfl⟩
        exact ⟨rfl, Below.refl _ _⟩))
      rw [show (List.range (2 ^ m)).filter (canV m l) = canL m l from rfl] at SV
      rw [HACC.out] at SV
      obtain ⟨x0, x1⟩ := cells2 ((hB5.block w.heap.size (by omega)).trans Y0.out)
      have HY := hid ((hB5.block (w.heap.size + 1) (by omega)).trans Y1.out)
      have HB2d : Hid (Below w.heap.size w w5.drew) := (B1.out.trans (hB5.mono (by omega))).drew
      have hsd : w5.drew.heap.size = w5.heap.size := rfl
      have hs5' : w.heap.size + 2 ≤ w5.heap.size := by have := hB5.size; omega
      clear EO hI5 HACC
      go_wp2_with fail
      go_region_held3 (fun w' => w'.cell? ⟨w.heap.size, 0, none⟩ = some (.int .i64 m)) (go_keep)
       (first
        | (go_at_call 48; refine SV.out.mono ?_; rintro e w4 ⟨r4, rfl, hr4, hb4⟩; have q0 := (show w4.cell? ⟨w.heap.size, 0, none⟩ = some (.int .i64 m) from (hb4.cell (p := ⟨w.heap.size, 0, none⟩) (by show w.heap.size < _; omega)).trans x0); obtain ⟨ra, rc, hr⟩ := ownsRow_form' hr4; subst hr; have hx1 := (hb4.block (w.heap.size + 1) (by omega)).trans (show w5.drew.heap[w.heap.size + 1]? = _ from HY.out); obtain ⟨y2, y3, g2, g3⟩ := two_cells hx1; have HC := hid (set_two (x := .int .i64 m) (y := .slice ra acc.length rc) hx1); have HB4 := hid (HB2d.out.trans (hb4.mono HB2d.out.size)); have HD := hid (below_two (b := w.heap.size + 1) (x := .int .i64 m) (y := .slice ra acc.length rc) HB4.out (by omega)); have HII := hid ((hr4.set2 (b := w.heap.size + 1) (x := .int .i64 m) (y := .slice ra acc.length rc) (by omega)).mono (by omega : w.heap.size ≤ _)); clear hb4 hr4 hx1))
      go_wp2_with fail
      obtain ⟨c0, c1⟩ := HC.out
      refine bodyPost_ret (v := .tuple #[.agg #[.int .i64 m, .slice ra _ rc], .int .i64 0]) ?_ rfl ⟨_, rfl, HII.out, HD.out⟩
      simp [results, Tryz.f15, go_sem, c0, c1]
set_option maxHeartbeats 800000 in
theorem Canon_bad (n : Int) (v : Value) (zs : List Int) (w : World) (h : Ints w v zs) (hc : chkR n zs ≠ 0) :
    Calls Tryz.prog 15 #[.agg #[.int .i64 n, v]] w (BadS w (chkR n zs)) := by
  have HI := hid h
  obtain ⟨a, cap, rfl, _, _⟩ := h
  have HB0 := hid (boxM_below w n (.slice a zs.length cap))
  have HC := hid (check_any n _ zs _ (HI.out.below HB0.out))
  have HX : Hid (∀ w2, Below (boxM w n (.slice a zs.length cap)).heap.size (boxM w n (.slice a zs.length cap)) w2 → _) := fun w2 h => boxM_blocks h
  generalize chkR n zs = q at *
  have hc' : (q != 0) = true := by simp [hc]
  go_enter Tryz.func15, Tryz.ntmps15
  go_wp2_with fail
  refine HC.out.mono ?_
  rintro e w4 ⟨rfl, hb4⟩
  obtain ⟨_, hx1⟩ := HX.out w4 hb4
  have HB4 := hid (HB0.out.trans (hb4.mono HB0.out.size))
  have HC := hid (set_two (x := .int .i64 0) (y := .slice none 0 0) hx1)
  have HD := hid (below_two (b := w.heap.size + 1) (x := .int .i64 0) (y := .slice none 0 0) HB4.out (by omega))
  obtain ⟨y2, y3, g2, g3⟩ := two_cells hx1
  clear hb4 hx1
  go_wp2_with fail
  obtain ⟨c0, c1⟩ := HC.out
  refine bodyPost_ret (v := .tuple #[.agg #[.int .i64 0, .slice none 0 0], .int .i64 q]) ?_ rfl ⟨rfl, HD.out⟩
  simp [results, Tryz.f15, go_sem, c0, c1]
set_option maxHeartbeats 800000 in
theorem Rename_bad (n : Int) (v u : Value) (zs : List Int) (w : World) (h : Ints w v zs) (hc : chkR n zs ≠ 0) :
    Calls Tryz.prog 11 #[.agg #[.int .i64 n, v], u] w (BadS w (chkR n zs)) := by
  have HI := hid h
  obtain ⟨a, cap, rfl, _, _⟩ := h
  have HB0 := hid (boxM_below w n (.slice a zs.length cap))
  have HC := hid (check_any n _ zs _ (HI.out.below HB0.out))
  have HX : Hid (∀ w2, Below (boxM w n (.slice a zs.length cap)).heap.size (boxM w n (.slice a zs.length cap)) w2 → _) := fun w2 h => boxM_blocks h
  generalize chkR n zs = q at *
  have hc' : (q != 0) = true := by simp [hc]
  go_enter Tryz.func11, Tryz.ntmps11
  go_wp2_with fail
  refine HC.out.mono ?_
  rintro e w4 ⟨rfl, hb4⟩
  obtain ⟨_, hx1⟩ := HX.out w4 hb4
  have HB4 := hid (HB0.out.trans (hb4.mono HB0.out.size))
  have HC := hid (set_two (x := .int .i64 0) (y := .slice none 0 0) hx1)
  have HD := hid (below_two (b := w.heap.size + 1) (x := .int .i64 0) (y := .slice none 0 0) HB4.out (by omega))
  obtain ⟨y2, y3, g2, g3⟩ := two_cells hx1
  clear hb4 hx1
  go_wp2_with fail
  obtain ⟨c0, c1⟩ := HC.out
  refine bodyPost_ret (v := .tuple #[.agg #[.int .i64 0, .slice none 0 0], .int .i64 q]) ?_ rfl ⟨rfl, HD.out⟩
  simp [results, Tryz.f11, go_sem, c0, c1]
set_option maxHeartbeats 800000 in
theorem Rename_arg (m : Nat) (v u : Value) (l : List Nat) (ps : List Int) (w : World) (hm : m ≤ 8) (hf : Fam m l) (hb : Bas l) (h : Ints w v (N l)) (hu : Ints w u ps) (hno : ¬ OrdZ m ps) :
    Calls Tryz.prog 11 #[.agg #[.int .i64 m, v], u] w (BadS w 1) := by
  have B0 := boxM_below w m v
  have HB0 := hid B0
  have HSZ := hid (boxM_size w m v)
  have HBK : Hid (∀ w2, Below (boxM w m v).heap.size (boxM w m v) w2 → _) := fun w2 h => boxM_blocks h
  have CK := hid (check_any m v (N l) _ (h.below B0))
  rw [chk_mk hm hf hb] at CK
  have IO := hid (fun w' (hb0 : Below w.heap.size w w') => IsOrder_full m u ps w' hm (hu.below hb0))
  have HNO := hid hno
  obtain ⟨a0, cap, hv, -, -⟩ := h.nats
  obtain ⟨a1, cap1, hu', -, -⟩ := hu
  subst hv
  subst hu'
  clear hf hb h B0 hno
  go_enter Tryz.func11, Tryz.ntmps11
  go_wp2_with fail
  refine CK.out.mono ?_
  rintro e w1 ⟨rfl, hb1⟩
  obtain ⟨y0, y1⟩ := HBK.out w1 hb1
  have B1 := hid (HB0.out.trans (hb1.mono HB0.out.size))
  have hs1 : w.heap.size + 2 ≤ w1.heap.size := by rw [← HSZ.out]; exact hb1.size
  have Y1 := hid y1
  obtain ⟨x0, x1⟩ := cells2 y0
  have IO1 := hid (IO.out w1 B1.out)
  clear hb1 CK HB0 HSZ HBK IO y0 y1
  go_wp2_with fail
  refine IO1.out.mono ?_
  rintro e w' ⟨⟨q, rfl, hq⟩, hw'⟩
  obtain rfl := hw'.symm
  obtain rfl : q = false := Bool.eq_false_iff.2 fun e => HNO.out (hq.1 e)
  have HC := hid (set_two (x := .int .i64 0) (y := .slice none 0 0) Y1.out)
  have HD := hid (below_two (b := w.heap.size + 1) (x := .int .i64 0) (y := .slice none 0 0) B1.out (by omega))
  obtain ⟨y2, y3, g2, g3⟩ := two_cells Y1.out
  clear IO1 hq HNO
  go_wp2_with fail
  obtain ⟨c0, c1⟩ := HC.out
  refine bodyPost_ret (v := .tuple #[.agg #[.int .i64 0, .slice none 0 0], .int .i64 1]) ?_ rfl ⟨rfl, HD.out⟩
  simp [results, Tryz.f11, go_sem, c0, c1]
end Go.Proofs.YthlmnhcnpffjdaaGreat
