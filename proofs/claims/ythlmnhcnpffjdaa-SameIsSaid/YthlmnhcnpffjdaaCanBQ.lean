/- slices.Clone at []bool; Canon's own functions. -/
import Derived.Test.YthlmnhcnpffjdaaCanAQ
namespace Go.Proofs.Ythlmnhcnpffjdaa
open Go.RowKit

theorem Try.infoBool : (Try.prog.info? 4).map (fun i => (i.zero, i.size, i.bytes)) = some (some (.bool false), 1, 1) := by kernel_rfl
theorem BT.of_row {B T : Nat} {W : World} {v : Value} {p : Nat → Bool} (hT : 0 < T) (h : W.ownsRow B 4 1 v T ((List.range T).map fun s => .bool (p s))) : ∃ g c, v = .slice (some ⟨g, 0, none⟩) T c ∧ T ≤ c ∧ B ≤ g ∧ BT T W g p := by
  obtain ⟨h0, h1⟩ := h
  rcases h1 with ⟨_, hn⟩ | ⟨g, cap, cur, hv, hg, hh, hn, hm, hs, ht⟩
  · omega
  · refine ⟨g, cap, hv, hn, hg, cur, hh, fun s hs2 => ?_⟩
    rw [Nat.mul_one] at ht hs
    rw [← Array.getElem?_toList, ← List.getElem?_take_of_lt hs2, ht]
    simp [hs2]
theorem BT.cur {T : Nat} {W : World} {g : Nat} {p : Nat → Bool} (h : BT T W g p) : ∀ j u, ((List.range T).map fun s => Value.bool (p s))[j]? = some u → W.cell? ((⟨g, 0, none⟩ : Addr).add j) = some u := fun j u hu => by
  have hj : j < T := by have := (List.getElem?_eq_some_iff.1 hu).1; simpa using this
  have := h.cell hj
  rw [List.getElem?_map, List.getElem?_range hj] at hu
  rw [← hu]
  simp only [Option.map_some]
  rw [← this]
  simp only [Addr.add]
  split
  · rename_i e; simp_all
  · simp
theorem wpList_appB {T : Nat} {w : World} {g0 g c : Nat} {p : Nat → Bool} {ops : Array Oper} {rest : List Oper} {o : Oper} {a : Act} {Q : Exit → Act → World → Prop} (hgd : o.guard = none) (s x : Operand) (hT : 0 < T) (hT2 : T ≤ 256)
    (ho : o.op = .call { callee := .builtin .append, args := #[s, x], argTypes := #[70, 70] }) (hs : a.eval s = .slice (some ⟨g0, 0, none⟩) 0 0) (hx : a.eval x = .slice (some ⟨g, 0, none⟩) T c) (h : w.ownsRow g0 4 1 (.slice (some ⟨g0, 0, none⟩) 0 0) 0 []) (hq : BT T w g p) (hB : g0 ≤ w.heap.size)
    (hK : ∀ g' c' w', T ≤ c' → g0 ≤ g' → BT T w' g' p → w.grownBy w' (some g0) → wpList Try.prog ops Q rest (a.put o.dst (.slice (some ⟨g', 0, none⟩) T c')) w') : wpList Try.prog ops Q (o :: rest) a w := by
  refine wpList_plain hgd fun K hk => ?_
  obtain ⟨i0, hi, hz0, hz1, hz2⟩ := info_parts Try.infoBool
  obtain ⟨v', w', hrun, r1, r2, -⟩ := run_append_own (P := Try.prog) w g0 70 o.type 4 i0 (.bool false) 1 1 Try.underlying70 hi hz0 hz1 hz2 rfl (by decide) (.slice (some ⟨g0, 0, none⟩) 0 0) 0 [] h ⟨g, 0, none⟩ T c ((List.range T).map fun s => .bool (p s))
    (by simp) hq.cur (fun u hu => by obtain ⟨x, _, rfl⟩ := List.mem_map.1 hu; rfl) (by unfold maxLen; omega) (by omega) hB
  rw [Nat.zero_add, List.nil_append] at r1
  obtain ⟨g', c', rfl, e2, e3, e4⟩ := BT.of_row hT r1
  unfold Oper.wp
  simp [execOp, ho, resolve, invoke, builtin, hs, hx, hrun, Result.andThen]
  exact hk _ _ (hK g' c' w' e2 e3 e4 r2)
set_option maxRecDepth 20000 in
theorem CloneB_ok (T g c : Nat) (p : Nat → Bool) (w : World) (hq : BT T w g p) (hT : 0 < T) (hl : T ≤ 256) :
    Calls Try.prog 44 #[.slice (some ⟨g, 0, none⟩) T c] w fun e w' => ∃ g' c', e = .returned (.slice (some ⟨g', 0, none⟩) T c') ∧ w.heap.size ≤ g' ∧ BT T w' g' p ∧ Below w.heap.size w w' := by
  have HQ := hid hq
  have hnil : ∀ W, (binOp .eql 70 (.slice (some ⟨g, 0, none⟩) T c) (.slice none 0 0)).run Try.prog W = .ok (.bool false) W := fun W => Lib.run_eql_slice_nil W _ _ _ _ _ _ _ Try.underlying70
  clear hq
  go_enter Try.func44, Try.ntmps44
  have OE : (w.alloc (.cells #[] 4)).ownsRow w.heap.size 4 1 (.slice (some ⟨w.heap.size, 0, none⟩) 0 0) 0 [] := ⟨rfl, .inr ⟨w.heap.size, 0, #[], rfl, Nat.le_refl _, World.alloc_heap_new w _, Nat.le_refl _, Nat.zero_le _, rfl, rfl⟩⟩
  have HOE := hid OE
  have HQ2 := hid (HQ.out.below ((Below.refl _ _).alloc (Nat.le_refl _) (.cells #[] 4)))
  clear OE HQ
  go_wp2_with (at_builtin; refine wpList_appB rfl (.tmp 5) (.tmp 6) hT hl rfl rfl rfl HOE.out HQ2.out (by simp) ?_)
  intro g' c' w' hc hge ho hg
  have H1 := hid ho
  have H2 : Hid (Below w.heap.size w w') := ((Below.refl _ w).alloc (Nat.le_refl _) _).grown hg (by simp) (fun k e => by cases e; exact Nat.le_refl _)
  clear ho hg
  go_wp2_with fail
  go_ret
  exact ⟨g', c', rfl, hge, H1.out, H2.out⟩
/-- What Canon's variables hold: bB, bL the boxes, gB, gL the tables. -/
structure CanI (w : World) (T bB bL gB gL cB cL : Nat) (pB : Nat → Bool) (gN gI : Nat) (L : Nat → Bool) (W : World) : Prop where
  low : Below w.heap.size w W
  new : w.heap.size ≤ gL ∧ gL ≠ gB ∧ gL ≠ bB ∧ gL ≠ bL
  oth : (bB ≠ gN ∧ bL ≠ gN ∧ gB ≠ gN ∧ gL ≠ gN) ∧ bB ≠ gI ∧ bL ≠ gI ∧ gB ≠ gI ∧ gL ≠ gI
  old : w.heap.size ≤ gN ∧ w.heap.size ≤ gI
  xB : Boxed W bB 70 (.slice (some ⟨gB, 0, none⟩) T cB)
  xL : Boxed W bL 70 (.slice (some ⟨gL, 0, none⟩) T cL)
  tB : BT T W gB pB
  tL : BT T W gL L
variable {w : World} {T bB bL gB gL cB cL : Nat} {pB : Nat → Bool} {gN gI : Nat} {L : Nat → Bool} {W W' : World}
theorem CanI.save (h : CanI w T bB bL gB gL cB cL pB gN gI L W) (hs : Save (fun k => k = gN ∨ k = gI) W W') : CanI w T bB bL gB gL cB cL pB gN gI L W' := by
  obtain ⟨a1, a2, a3, a4⟩ := h.oth.1
  obtain ⟨b1, b2, b3, b4⟩ := h.oth.2
  have ho := h.old
  refine ⟨hs.below h.low h.low.size (fun k hk => by omega), h.new, h.oth, h.old, (hs.block _ h.xB.lt (by omega)).trans h.xB, (hs.block _ h.xL.lt (by omega)).trans h.xL, h.tB.save hs (by omega), h.tL.save hs (by omega)⟩
theorem CanI.put (h : CanI w T bB bL gB gL cB cL pB gN gI L W) (hs : Save (fun k => k = gL) W W') {L' : Nat → Bool} (hL : BT T W' gL L') : CanI w T bB bL gB gL cB cL pB gN gI L' W' := by
  obtain ⟨n1, n2, n3, n4⟩ := h.new
  refine ⟨hs.below h.low h.low.size (fun k hk => by omega), h.new, h.oth, h.old, (hs.block _ h.xB.lt (by omega)).trans h.xB, (hs.block _ h.xL.lt (by omega)).trans h.xL, h.tB.save hs (by omega), hL⟩
set_option maxRecDepth 20000 in
set_option maxHeartbeats 1000000 in
theorem canF1_ok (n B : Nat) (A p : List Nat) (hn : n ≤ 8) (hp : p.length ≤ n) (hb : Beg n p) (hI : CanI w (2 ^ n) bB bL gB gL cB cL (fun s => memB s A) gN gI L W) (hO : OrdAt B W gN gI n p) :
    Calls Try.prog 46 #[ordV gN gI n p, .pointer (some ⟨bB, 0, none⟩), .pointer (some ⟨bL, 0, none⟩)] W fun e W' => e = .returned (.bool (canF A L p)) ∧ Below W.heap.size W W' := by
  have B1 : Below W.heap.size W (W.alloc (.cells #[.slice (some ⟨gN, 0, none⟩) p.length n, .slice (some ⟨gI, 0, none⟩) (2 ^ p.length) (2 ^ n)] 67)) := (Below.refl _ _).alloc (Nat.le_refl _) _
  have K1 := hid (isNoGreater_ok n gN gI B gB gL cB cL p _ L _ hn hp hb (hO.save (X := fun _ => False) (Save.of_below B1) id id) (hI.tB.below B1) (hI.tL.below B1))
  have cA := (B1.cell (p := ⟨bB, 0, none⟩) hI.xB.lt).trans hI.xB.cell
  have cC := (B1.cell (p := ⟨bL, 0, none⟩) hI.xL.lt).trans hI.xL.cell
  have HB1 := hid B1
  have hE : noGr (fun s => memB (image p s) A) L (List.range (2 ^ p.length)) = canF A L p := rfl
  rw [hE] at K1
  clear hO hb B1 hI hE
  unfold ordV
  generalize 2 ^ p.length = K at *
  generalize 2 ^ n = T at *
  go_enter Try.func46, Try.ntmps46
  go_wp2_with fail
  refine K1.out.mono ?_
  rintro e w2 ⟨rfl, hb2⟩
  have HB2 := hid (HB1.out.trans (hb2.mono HB1.out.size))
  clear hb2 K1
  go_wp2_with fail
  go_ret
  exact ⟨rfl, HB2.out⟩
set_option maxRecDepth 20000 in
set_option maxHeartbeats 1000000 in
theorem canF2_ok (n B : Nat) (A p : List Nat) (hn : n ≤ 8) (hp : p.length = n) (hb : Beg n p) (hI : CanI w (2 ^ n) bB bL gB gL cB cL (fun s => memB s A) gN gI L W) (hO : OrdAt B W gN gI n p) :
    Calls Try.prog 48 #[ordV gN gI n p, .pointer (some ⟨bB, 0, none⟩), .pointer (some ⟨bL, 0, none⟩)] W fun e W' => e = .returned (.bool true) ∧ CanI w (2 ^ n) bB bL gB gL cB cL (fun s => memB s A) gN gI (vecB A p) W' ∧ Save (fun k => k = gL) W W' := by
  have HB1 : Hid (Below W.heap.size W (W.alloc (.cells #[.slice (some ⟨gN, 0, none⟩) p.length n, .slice (some ⟨gI, 0, none⟩) (2 ^ p.length) (2 ^ n)] 67))) := (Below.refl _ _).alloc (Nat.le_refl _) _
  have hgI := hO.img.lt.2
  obtain ⟨n1, n2, n3, n4⟩ := hI.new
  obtain ⟨⟨a1, a2, a3, a4⟩, b1, b2, b3, b4⟩ := hI.oth
  have HC : Hid (∀ s, s < 2 ^ n → W.cell? ⟨gI, s, none⟩ = some (.int .i64 (image p s : Nat)) ∧ image p s < 2 ^ n) := fun s hs => by
    have h1 := hO.img.at (i := s) (by rw [imgs_len _ p rfl, hp]; exact hs)
    rw [imgs_at _ p rfl s (by rw [hp]; exact hs)] at h1
    exact ⟨h1, hb.image_lt s⟩
  have HI := hid hI
  have hT := (pow_wrap n hn).2
  have lB := hI.xB.lt
  have lL := hI.xL.lt
  have mB := hI.tB.lt
  have mL := hI.tL.lt
  have HP : Hid (∀ (i : Nat) (s : Nat), s < 2 ^ n → (if s < i + 1 then vecB A p s else L s) = if s = i then memB (image p i) A else if s < i then vecB A p s else L s) := fun i s _ => by
    by_cases e : s = i
    · subst e
      rw [if_pos (by omega), if_pos rfl]
      rfl
    · rw [if_neg e]
      by_cases c : s < i
      · rw [if_pos (by omega), if_pos c]
      · rw [if_neg (by omega), if_neg c]
  have HV : Hid (∀ s, s < 2 ^ n → (if s < 2 ^ n then vecB A p s else L s) = vecB A p s) := fun s hs => if_pos hs
  clear hO hb hI
  unfold ordV
  rw [hp] at HB1 ⊢
  generalize 2 ^ n = T at *
  go_enter Try.func48, Try.ntmps48
  go_wp2_with fail
  go_loopw [10] (fun j wr => ∃ i : Nat, j = .int .i64 i ∧ i ≤ T ∧ Hid (BT T wr gL (fun s => if s < i then vecB A p s else L s)) ∧ Hid (Save (fun k => k = gL) W wr)) (fun j _ => T - (intOf j).toNat)
  case atStart => exact ⟨0, rfl, Nat.zero_le _, (HI.out.tL.below HB1.out).congr (fun s _ => by simp), Save.of_below HB1.out⟩
  case round =>
    obtain ⟨i, rfl, h2, HT, HS⟩ := hrel
    clear HB1
    by_cases hlt : i < T
    · have hlt' : (i : Int) < (T : Int) := by omega
      obtain ⟨hc, hi1⟩ := HC.out i hlt
      have hmeas : T - (i + 1) < T - i := by omega
      have c1 := (World.cell?_of_block (a := ⟨gI, i, none⟩) (HS.out.block gI hgI (by omega))).trans hc
      have x1 := (World.cell?_of_block (a := ⟨bB, 0, none⟩) (HS.out.block bB lB (by omega))).trans HI.out.xB.cell
      have x2 := (World.cell?_of_block (a := ⟨bL, 0, none⟩) (HS.out.block bL lL (by omega))).trans HI.out.xL.cell
      have c2 := (World.cell?_of_block (a := ⟨gB, image p i, none⟩) (HS.out.block gB mB (by omega))).trans (HI.out.tB.cell hi1)
      have c3 := HT.out.cell hlt
      have f3 := HT.out.frozen (s := i)
      have hi1' : (image p i : Int) < (T : Int) := by omega
      have HN : Hid (BT T (wr.setCell ⟨gL, i, none⟩ (.bool (memB (image p i) A))).drew gL (fun s => if s < i + 1 then vecB A p s else L s)) := (BT.put HT.out (fun s hs => HP.out i s hs)).same rfl
      have HS2 : Hid (Save (fun k => k = gL) W (wr.setCell ⟨gL, i, none⟩ (.bool (memB (image p i) A))).drew) := (Save.setCell (X := fun k => k = gL) HS.out (p := ⟨gL, i, none⟩) (.inl rfl) _).drew
      clear HC HT hc HP HV
      generalize memB (image p i) A = x at *
      generalize image p i = y at *
      go_wp2_with fail
      go_region_with fail
      all_goals
        go_wp2_with fail
        go_roundw
        case rel => exact ⟨i + 1, by go_num, hlt, HN, HS2⟩
        case measure => exact hmeas
    · obtain rfl : i = T := by omega
      have hlt' : ¬ (i : Int) < (i : Int) := by omega
      have HR := hid (HI.out.put HS.out (HT.out.congr HV.out))
      clear HC HP HV
      go_wp2_with fail
      go_ret
      exact ⟨rfl, HR.out, HS.out⟩
set_option maxHeartbeats 1000000 in
theorem canF3_ok (s : Nat) (hs : s < T) (_hT : T ≤ 256) (hb : Boxed W bL 70 (.slice (some ⟨gL, 0, none⟩) T cL)) (hL : BT T W gL L) :
    Calls Try.prog 50 #[.int .i64 (s : Nat), .pointer (some ⟨bL, 0, none⟩)] W fun e W' => e = .returned (.bool (L s)) ∧ W' = W := by
  have c1 := hb.cell
  have c2 := hL.cell hs
  have hs' : (s : Int) < (T : Int) := by omega
  clear hb hL
  generalize L s = x at *
  go_enter Try.func50, Try.ntmps50
  go_wp2_with fail
  go_ret
  exact ⟨rfl, rfl⟩
end Go.Proofs.Ythlmnhcnpffjdaa
