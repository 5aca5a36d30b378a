/- rotaref.Stand's own function. -/
import Derived.Test.YtjajloefplbkgaaRefQ
import Derived.Test.YtjajloefplbkgaaHaFQ
import Derived.Test.YtjajloefplbkgaaPlainAll
import Derived.Lib.SmallJoins
namespace Go.Proofs.Ytjajloefplbkgaa
open Go.RowKit

/-- append of a whole list. -/
theorem run_appH {B B' : Nat} {w : World} {v : Value} {g c : Nat} {l q : List Nat} (h : Own B w v l) (hq : Own B' w (.slice (some ⟨g, 0, none⟩) q.length c) q) (hl : l.length + q.length ≤ 256) (hB : B ≤ w.heap.size) (ty : TypeId) :
    ∃ v' w', (Builtin.append_ #[22, 22] ty #[v, .slice (some ⟨g, 0, none⟩) q.length c]).run Try.prog w = .ok v' w' ∧ Own B w' v' (l ++ q) ∧ w.grownBy w' v.ownBlock := by
  obtain ⟨i0, hi, hz0, hz1, hz2⟩ := info_parts Try.infoInt
  obtain ⟨v', w', hrun, r1, r2, r3⟩ := run_append_own (P := Try.prog) w B 22 ty 3 i0 (.int .i64 0) 1 8 Try.underlying22 hi hz0 hz1 hz2 rfl (by decide) v l.length (V l) h ⟨g, 0, none⟩ q.length c (V q)
    (by rw [V_len, Nat.mul_one]) (fun j u hu => by
      have hj : j < (V q).length := (List.getElem?_eq_some_iff.1 hu).1
      rw [V_len] at hj
      rw [← hu]
      have := World.ownsRow.cellAt hq j (by rw [Nat.mul_one]; exact hj)
      rw [← this]
      simp only [Addr.add]
      split
      · rename_i e; simp_all
      · simp)
    (fun u hu => by obtain ⟨x, _, rfl⟩ := List.mem_map.1 hu; rfl) (by unfold maxLen; omega) (by omega) hB
  refine ⟨v', w', hrun, ?_, r2⟩
  unfold Own
  rw [List.length_append, show V (l ++ q) = V l ++ V q by simp [V]]
  exact r1
theorem wpList_appH {B B' : Nat} {w : World} {v : Value} {g c : Nat} {l q : List Nat} {ops : Array Oper} {rest : List Oper} {o : Oper} {a : Act} {Q : Exit → Act → World → Prop} (hgd : o.guard = none) (s x : Operand)
    (ho : o.op = .call { callee := .builtin .append, args := #[s, x], argTypes := #[22, 22] }) (hs : a.eval s = v) (hx : a.eval x = .slice (some ⟨g, 0, none⟩) q.length c) (h : Own B w v l) (hq : Own B' w (.slice (some ⟨g, 0, none⟩) q.length c) q) (hl : l.length + q.length ≤ 256) (hB : B ≤ w.heap.size)
    (hK : ∀ v' w', Own B w' v' (l ++ q) → w.grownBy w' v.ownBlock → wpList Try.prog ops Q rest (a.put o.dst v') w') : wpList Try.prog ops Q (o :: rest) a w := by
  refine wpList_plain hgd fun K hk => ?_
  obtain ⟨v', w', hrun, h1, h2⟩ := run_appH h hq hl hB o.type
  unfold Oper.wp
  simp [execOp, ho, resolve, invoke, builtin, hs, hx, hrun, Result.andThen]
  exact hk _ _ (hK v' w' h1 h2)
theorem Own.zero (w : World) {B : Nat} (h : B ≤ w.heap.size) : Own B (w.alloc (.cells #[] 3)) (.slice (some ⟨w.heap.size, 0, none⟩) 0 0) [] :=
  World.ownsRow_lit w #[] 0 h (by unfold maxLen; omega) rfl
theorem neq_nil (W : World) (b : Nat) (n c : Nat) : (binOp .neq 22 (.slice (some ⟨b, 0, none⟩) n c) (.slice none 0 0)).run Try.prog W = .ok (.bool true) W := run_neq_slice_nil W _ _ _ _ _ Try.underlying22
theorem nil_nil (W : World) : (binOp .neq 22 (.slice none 0 0) (.slice none 0 0)).run Try.prog W = .ok (.bool false) W := run_neq_slice_nil W _ _ _ _ _ Try.underlying22
/-- What Stand's variables hold. -/
structure SEnv (W : World) (bL bN bG bF : Nat) (n : Nat) (v gv fv : Value) : Prop where
  xl : Boxed W bL 22 v
  xn : Boxed W bN 3 (.int .i64 n)
  xg : Boxed W bG 33 gv
  xf : Boxed W bF 48 fv
theorem SEnv.below {W W' : World} {bL bN bG bF n : Nat} {v gv fv : Value} (h : SEnv W bL bN bG bF n v gv fv) (hb : Below W.heap.size W W') : SEnv W' bL bN bG bF n v gv fv :=
  ⟨(hb.block _ h.xl.lt).trans h.xl, (hb.block _ h.xn.lt).trans h.xn, (hb.block _ h.xg.lt).trans h.xg, (hb.block _ h.xf.lt).trans h.xf⟩
/-- The function value. -/
def staV (bL bN bG bF : Nat) : Value := .func (.func 27) #[] #[.pointer (some ⟨bL, 0, none⟩), .pointer (some ⟨bN, 0, none⟩), .pointer (some ⟨bG, 0, none⟩), .pointer (some ⟨bF, 0, none⟩)]
/-- What is answered of a list that is sought: nil, or a list that is none. -/
def RfsE (w : World) (o : Option (List Nat)) (e : Ending) (w' : World) : Prop := ((o = none → e = .returned (.slice none 0 0)) ∧ (∀ L, o = some L → ∃ g c, e = .returned (.slice (some ⟨g, 0, none⟩) L.length c) ∧ Own w.heap.size w' (.slice (some ⟨g, 0, none⟩) L.length c) L)) ∧ Below w.heap.size w w'
theorem RfsE.no {w w' : World} {e : Ending} (h : RfsE w none e w') : e = .returned (.slice none 0 0) ∧ Below w.heap.size w w' := ⟨h.1.1 rfl, h.2⟩
theorem RfsE.yes {w w' : World} {e : Ending} {L : List Nat} (h : RfsE w (some L) e w') : ∃ g c, e = .returned (.slice (some ⟨g, 0, none⟩) L.length c) ∧ Own w.heap.size w' (.slice (some ⟨g, 0, none⟩) L.length c) L ∧ Below w.heap.size w w' := by
  obtain ⟨g, c, h1, h2⟩ := h.1.2 L rfl
  exact ⟨g, c, h1, h2, h.2⟩
theorem rfs_len {g : Nat → Bool} {n : Nat} : ∀ (l : List Nat) (u : Nat) (L : List Nat), rfsF g n l u = some L → L.length = l.length
  | [], _, L, h => by obtain rfl : [] = L := Option.some.inj h; rfl
  | x :: l, u, L, h => by
    rw [rfsF] at h
    obtain ⟨i, _, h2⟩ := List.exists_of_findSome?_eq_some h
    unfold tryF at h2
    split at h2
    · obtain ⟨L', h3, rfl⟩ := Option.map_eq_some_iff.1 h2
      simp [rfs_len l _ L' h3]
    · cases h2
set_option maxRecDepth 20000 in
set_option maxHeartbeats 4000000 in
theorem std1_ok (w0 : World) (bL bN bG bF n : Nat) (a : Option Addr) (cap : Nat) (l : List Nat) (gn : Nat) (cs : Array Value) (g : Nat → Bool) (hn : n ≤ 8) (hk8 : l.length ≤ 8) (hl : ∀ x ∈ l, x < 2 ^ n) (hI : Ints w0 (.slice a l.length cap) (N l)) (hE : SEnv w0 bL bN bG bF n (.slice a l.length cap) (.func (.func gn) #[] cs) (staV bL bN bG bF)) (eg : Enters gn)
    (hG : ∀ s, s < 2 ^ n → ∀ W, Below w0.heap.size w0 W → Calls Try.prog gn (#[.int .i64 s] ++ cs) W fun e w' => e = .returned (.bool (g s)) ∧ Below W.heap.size W w') :
    ∀ (l' : List Nat) (k u : Nat) (W : World), l.drop k = l' → k + l'.length = l.length → u < 2 ^ n → Below w0.heap.size w0 W →
    Calls Try.prog 27 #[.int .i64 k, .int .i64 u, .pointer (some ⟨bL, 0, none⟩), .pointer (some ⟨bN, 0, none⟩), .pointer (some ⟨bG, 0, none⟩), .pointer (some ⟨bF, 0, none⟩)] W (RfsE W (rfsF g n l' u)) := by
  intro l'
  induction l' with
  | nil =>
    intro k u W hd hk hu hW
    have hkl : k = l.length := by simpa using hk
    subst hkl
    have hEW := hE.below hW
    have x1 := hEW.xl.cell
    clear hE hG hI hl hd hk hEW
    go_enter Try.func27, Try.ntmps27
    go_wp2_with fail
    go_ret
    refine ⟨⟨(fun h => by cases h), fun L hL => ?_⟩, (Below.refl _ _).alloc (Nat.le_refl _) _⟩
    obtain rfl : [] = L := Option.some.inj hL
    exact ⟨W.heap.size, 0, rfl, Own.zero W (Nat.le_refl _)⟩
  | cons x l' ih =>
    intro k u W hd hk hu hW
    simp only [List.length_cons] at hk
    have hkl : k < l.length := by omega
    have hdr := dropN hkl
    rw [hd] at hdr
    have hx0 : l.getD k 0 = x := (List.cons.inj hdr).1.symm
    have hd2 : l.drop (k + 1) = l' := (List.cons.inj hdr).2.symm
    have hx : x < 2 ^ n := by rw [← hx0]; exact hl _ (by rw [List.getD_eq_getElem?_getD, List.getElem?_eq_getElem hkl]; exact List.getElem_mem _)
    have hT : 2 ^ n ≤ 256 := Nat.pow_le_pow_right (by decide) hn
    have hpn : ∀ i, i < n → 2 ^ i < 2 ^ n := fun i hi => Nat.pow_lt_pow_right (by decide) hi
    have hTB : ∀ i, i < n → u ||| 2 ^ i < 2 ^ n := fun i hi => or_ltn hu (hpn i hi)
    have IH := hid (fun i W (hi : i < n) hW => ih (k + 1) (u ||| 2 ^ i) W hd2 (by omega) (hTB i hi) hW)
    have GG := hid (fun i W (hi : i < n) hW => hG (u ||| 2 ^ i) (hTB i hi) W hW)
    have TB := hid hTB
    have INX := hid (fun i w hi => In_any x i w (by omega) hi)
    have INU := hid (fun i w hi => In_any u i w (by omega) hi)
    obtain ⟨f, hf⟩ : ∃ f : Nat → Option (List Nat), f = tryF g x u (rfsF g n l') := ⟨_, rfl⟩
    have HF : Hid (∀ i, f i = if (x.testBit i && !u.testBit i && g (u ||| 2 ^ i)) = true then (rfsF g n l' (u ||| 2 ^ i)).map (i :: ·) else none) := fun i => by rw [hf]; rfl
    have HR : Hid (rfsF g n (x :: l') u = (List.range n).findSome? f) := by rw [hf]; rfl
    have HYES : Hid (∀ i L, i < n → (∀ j, j < i → f j = none) → f i = some L → rfsF g n (x :: l') u = some L) := fun i L hi h1 h2 => by rw [HR.out]; exact some_range_step hi h1 h2
    have HNO : Hid ((∀ j, j < n → f j = none) → rfsF g n (x :: l') u = none) := fun h => by rw [HR.out]; exact some_range_none h
    have HEW := hid (hE.below hW)
    have HIW := hid (hI.below hW)
    have HWW := hid hW
    have hne : ((k : Int) == (l.length : Int)) = false := by rw [beq_eq_false_iff_ne]; omega
    have HXE : Hid (l.getD k 0 = x) := hx0
    have eg' := eg
    unfold Enters at eg'
    clear hf hE hG hI hl hW ih hd hd2 hdr hx0 hTB hpn HR eg
    generalize rfsF g n (x :: l') u = R at *
    go_enter Try.func27, Try.ntmps27
    have x1 := HEW.out.xl.cell
    go_wp2_with fail
    go_loopw [9] (fun ii wr => ∃ i : Nat, i ≤ n ∧ ii = .int .i64 i ∧ Hid (∀ j, j < i → f j = none) ∧ Hid (Below W.heap.size W wr)) (fun ii _ => n - (intOf ii).toNat)
    case atStart => exact ⟨0, Nat.zero_le _, rfl, fun j hj => absurd hj (Nat.not_lt_zero _), Below.refl _ _⟩
    case round =>
      obtain ⟨i, hin, rfl, HN, HB⟩ := hrel
      have HEr := hid (HEW.out.below HB.out)
      have y1 := HEr.out.xl.cell
      have y2 := HEr.out.xn.cell
      have y3 := HEr.out.xg.cell
      by_cases hlt : i < n
      · have hii : (i : Int) < (n : Int) := by omega
        have hi8 : i < 8 := by omega
        obtain ⟨_, _, ea, _, hcl⟩ := HIW.out.nats
        obtain ⟨rfl, rfl⟩ : a = _ ∧ cap = _ := by simpa using ea
        obtain ⟨b, off, rfl, hb, hcc⟩ := hcl (by omega)
        have y4 := (HB.out.cell (p := ⟨b, off + k, none⟩) hb).trans (hcc k hkl)
        rw [HXE.out] at y4
        clear hcl hcc ea
        have cL : ∀ z : Later wr, z.now.cell? ⟨bL, 0, none⟩ = some (.slice (some ⟨b, off, none⟩) l.length cap) := fun z => (z.kept.cell (p := ⟨bL, 0, none⟩) HEr.out.xl.lt).trans y1
        have cX : ∀ z : Later wr, z.now.cell? ⟨b, off + k, none⟩ = some (.int .i64 x) := fun z => (z.kept.cell (p := ⟨b, off + k, none⟩) (Nat.lt_of_lt_of_le hb HB.out.size)).trans y4
        have cG : ∀ z : Later wr, z.now.cell? ⟨bG, 0, none⟩ = some (.func (.func gn) #[] cs) := fun z => (z.kept.cell (p := ⟨bG, 0, none⟩) HEr.out.xg.lt).trans y3
        have IX := hid (fun w => INX.out i w hi8)
        have IU := hid (fun w => INU.out i w hi8)
        have FI := hid (HF.out i)
        have hki : (k : Int) < (l.length : Int) := by omega
        have HBW := hid (HWW.out.trans (HB.out.mono HWW.out.size))
        cases hb1 : x.testBit i with
        | false =>
          rw [hb1] at IX
          have NO : Hid (f i = none) := by show _ = _; rw [FI.out, hb1]; rfl
          clear hb1 FI y1 y2 y3 y4
          have y2 := HEr.out.xn.cell
          go_wp2_with fail
          refine region_later (by kernel_rfl) (by kernel_rfl) ?_
          repeat (go_big_quiet_step ((go_at_call 28; (with_reducible refine (IX.out _).mono ?_); rintro e w' ⟨rfl, rfl⟩; exact ⟨rfl, Later.on _ (Below.refl _ _)⟩)))
          refine wpQuiet_nil ?_
          intro w6' hw'
          obtain ⟨⟨w6, hb6⟩, hw''⟩ := hw'
          dsimp only at hw''
          subst hw''
          have HB6 := hid (HB.out.trans (hb6.mono HB.out.size))
          clear hb6 cL cX cG
          have FIN : Hid (∀ j, j < i + 1 → f j = none) := fun j hj => by
            by_cases e : j = i
            · rw [e]; exact NO.out
            · exact HN.out j (by omega)
          go_wp2_with fail
          go_roundw
          case rel => exact ⟨i + 1, by omega, by go_num, FIN.out, HB6⟩
          case measure => simp [intOf]; omega
        | true =>
          rw [hb1] at IX
          cases hb2 : u.testBit i with
          | true =>
            rw [hb2] at IU
            have NO : Hid (f i = none) := by show _ = _; rw [FI.out, hb1, hb2]; rfl
            clear hb1 hb2 FI y1 y2 y3 y4
            have y2 := HEr.out.xn.cell
            go_wp2_with fail
            refine region_later (by kernel_rfl) (by kernel_rfl) ?_
            repeat (go_big_quiet_step ((first
              | (go_at_call 28; (with_reducible refine (IX.out _).mono ?_); rintro e w' ⟨rfl, rfl⟩; exact ⟨rfl, Later.on _ (Below.refl _ _)⟩)
              | (go_at_call 28; (with_reducible refine (IU.out _).mono ?_); rintro e w' ⟨rfl, rfl⟩; exact ⟨rfl, Later.on _ (Below.refl _ _)⟩))))
            refine wpQuiet_nil ?_
            intro w6' hw'
            obtain ⟨⟨w6, hb6⟩, hw''⟩ := hw'
            dsimp only at hw''
            subst hw''
            have HB6 := hid (HB.out.trans (hb6.mono HB.out.size))
            clear hb6 cL cX cG
            have FIN : Hid (∀ j, j < i + 1 → f j = none) := fun j hj => by
              by_cases e : j = i
              · rw [e]; exact NO.out
              · exact HN.out j (by omega)
            go_wp2_with fail
            go_roundw
            case rel => exact ⟨i + 1, by omega, by go_num, FIN.out, HB6⟩
            case measure => simp [intOf]; omega
          | false =>
            rw [hb2] at IU
            have hp : 2 ^ i ≤ 128 := Nat.pow_le_pow_right (by decide) (by omega : i ≤ 7)
            have hw1 := (pow_wrap i (by omega)).1
            have hor : bits .or .i64 (u : Int) ((2 : Int) ^ i) = ((u ||| 2 ^ i : Nat) : Int) := by
              rw [show (2 : Int) ^ i = ((2 ^ i : Nat) : Int) by simp]
              exact i64_or_nat _ _ (Nat.lt_of_lt_of_le hu (Nat.le_trans hT (by decide))) (Nat.lt_of_le_of_lt hp (by decide))
            have hwk : IntKind.i64.wrap ((k : Int) + 1) = (k : Int) + 1 := IntWalk.i64_in _ (by omega)
            have hw3 : IntKind.i64.wrap ((2 : Int) ^ i) = (2 : Int) ^ i := by
              rw [show (2 : Int) ^ i = ((2 ^ i : Nat) : Int) by simp]
              exact IntWalk.i64_in _ ⟨Int.le_trans (by decide) (Int.natCast_nonneg _), Int.le_trans (Int.ofNat_le.2 hp) (by decide)⟩
            have GI := hid (fun z : Later wr => GG.out i z.now hlt (HBW.out.trans (z.kept.mono HBW.out.size)))
            have htb := TB.out i hlt
            have IH1 := hid (fun W' (hb : Below wr.heap.size wr W') => IH.out i W' hlt (HBW.out.trans (hb.mono HBW.out.size)))
            have cF : ∀ z : Later wr, z.now.cell? ⟨bF, 0, none⟩ = some (staV bL bN bG bF) := fun z => (z.kept.cell (p := ⟨bF, 0, none⟩) HEr.out.xf.lt).trans HEr.out.xf.cell
            unfold staV at cF
            rw [hb1, hb2] at FI
            generalize u ||| 2 ^ i = U at *
            cases hb3 : g U with
            | false =>
              rw [hb3] at GI
              have NO : Hid (f i = none) := by show _ = _; rw [FI.out, hb3]; rfl
              clear hb1 hb2 hb3 FI y1 y2 y3 y4 IH1
              have y2 := HEr.out.xn.cell
              go_wp2_with fail
              refine region_later (by kernel_rfl) (by kernel_rfl) ?_
              repeat (go_big_quiet_step ((first
                | (go_at_call 28; (with_reducible refine (IX.out _).mono ?_); rintro e w' ⟨rfl, rfl⟩; exact ⟨rfl, Later.on _ (Below.refl _ _)⟩)
                | (go_at_call 28; (with_reducible refine (IU.out _).mono ?_); rintro e w' ⟨rfl, rfl⟩; exact ⟨rfl, Later.on _ (Below.refl _ _)⟩)
                | ((with_reducible refine (GI.out _).mono ?_); rintro e w' ⟨rfl, hb9⟩; exact ⟨rfl, Later.on _ hb9⟩))))
              refine wpQuiet_nil ?_
              intro w6' hw'
              obtain ⟨⟨w6, hb6⟩, hw''⟩ := hw'
              dsimp only at hw''
              subst hw''
              have HB6 := hid (HB.out.trans (hb6.mono HB.out.size))
              clear hb6 cL cX cG
              have FIN : Hid (∀ j, j < i + 1 → f j = none) := fun j hj => by
                by_cases e : j = i
                · rw [e]; exact NO.out
                · exact HN.out j (by omega)
              go_wp2_with fail
              go_roundw
              case rel => exact ⟨i + 1, by omega, by go_num, FIN.out, HB6⟩
              case measure => simp [intOf]; omega
            | true =>
              rw [hb3] at GI
              have hfi : f i = (rfsF g n l' U).map (i :: ·) := by rw [FI.out, hb3]; rfl
              rcases hrest : rfsF g n l' U with _ | L
              · rw [hrest] at hfi IH1
                have NO : Hid (f i = none) := hfi
                have IH2 := hid (fun W' hb => (IH1.out W' hb).mono fun e w' h => h.no)
                rw [show ((k + 1 : Nat) : Int) = (k : Int) + 1 by omega] at IH2
                clear hb1 hb2 hb3 FI y1 y2 y3 y4 IH1 hrest hfi
                have y2 := HEr.out.xn.cell
                have hnil := nil_nil
                go_wp2_with fail
                refine region_later (by kernel_rfl) (by kernel_rfl) ?_
                repeat (go_big_quiet_step ((first
                | (go_at_call 28; (with_reducible refine (IX.out _).mono ?_); rintro e w' ⟨rfl, rfl⟩; exact ⟨rfl, Later.on _ (Below.refl _ _)⟩)
                | (go_at_call 28; (with_reducible refine (IU.out _).mono ?_); rintro e w' ⟨rfl, rfl⟩; exact ⟨rfl, Later.on _ (Below.refl _ _)⟩)
                | ((with_reducible refine (GI.out _).mono ?_); rintro e w' ⟨rfl, hb9⟩; exact ⟨rfl, Later.on _ hb9⟩))))
                refine wpQuiet_nil ?_
                intro w6' hw'
                obtain ⟨⟨w6, hb6⟩, hw''⟩ := hw'
                dsimp only at hw''
                subst hw''
                have HB6 := hid hb6
                have z5 := cF ⟨w6', hb6⟩
                dsimp only at z5
                clear hb6 cL cX cG cF
                have FIN : Hid (∀ j, j < i + 1 → f j = none) := fun j hj => by
                  by_cases e : j = i
                  · rw [e]; exact NO.out
                  · exact HN.out j (by omega)
                go_wp2_with fail
                go_region_with ((refine (IH2.out _ (by first | exact HB6.out.drew | exact HB6.out)).mono ?_); rintro e w7 ⟨rfl, h7⟩; have H7 := hid h7; clear h7)
                have HB7 := hid (HB.out.trans ((HB6.out.drew.trans (H7.out.mono HB6.out.drew.size)).mono HB.out.size))
                clear z5
                go_wp2_with fail
                go_roundw
                case rel => exact ⟨i + 1, by omega, by go_num, FIN.out, HB7⟩
                case measure => simp [intOf]; omega
              · rw [hrest] at hfi IH1
                have HLl := hid (rfs_len l' U L hrest)
                have YES := hid (HYES.out i (i :: L) hlt HN.out hfi)
                have IH2 := hid (fun W' hb => (IH1.out W' hb).mono fun e w' h => h.yes)
                rw [show ((k + 1 : Nat) : Int) = (k : Int) + 1 by omega] at IH2
                clear hb1 hb2 hb3 FI y1 y2 y3 y4 IH1 hrest hfi
                have y2 := HEr.out.xn.cell
                have hnil := neq_nil
                go_wp2_with fail
                refine region_later (by kernel_rfl) (by kernel_rfl) ?_
                repeat (go_big_quiet_step ((first
                | (go_at_call 28; (with_reducible refine (IX.out _).mono ?_); rintro e w' ⟨rfl, rfl⟩; exact ⟨rfl, Later.on _ (Below.refl _ _)⟩)
                | (go_at_call 28; (with_reducible refine (IU.out _).mono ?_); rintro e w' ⟨rfl, rfl⟩; exact ⟨rfl, Later.on _ (Below.refl _ _)⟩)
                | ((with_reducible refine (GI.out _).mono ?_); rintro e w' ⟨rfl, hb9⟩; exact ⟨rfl, Later.on _ hb9⟩))))
                refine wpQuiet_nil ?_
                intro w6' hw'
                obtain ⟨⟨w6, hb6⟩, hw''⟩ := hw'
                dsimp only at hw''
                subst hw''
                have HB6 := hid hb6
                have z5 := cF ⟨w6', hb6⟩
                dsimp only at z5
                clear hb6 cL cX cG cF
                go_wp2_with fail
                go_region_with ((refine (IH2.out _ (by first | exact HB6.out.drew | exact HB6.out)).mono ?_); rintro e w7 ⟨g7, c7, rfl, ho7, h7⟩; have H7 := hid h7; have HO7 := hid ho7; clear h7 ho7)
                have HB7 := hid (HB.out.trans ((HB6.out.drew.trans (H7.out.mono HB6.out.drew.size)).mono HB.out.size))
                have hs7 := HB7.out.size
                have O1 := hid (Own.one1 w7 i (B := W.heap.size) hs7)
                have O2 := hid (HO7.out.below ((Below.refl _ _).alloc (Nat.le_refl _) (.cells #[.int .i64 (i : Nat)] 3)))
                clear z5
                go_wp2_with (at_builtin; refine wpList_appH rfl (.tmp 52) (.tmp 53) rfl rfl rfl O1.out O2.out ?c1 ?c2 ?_)
                case c1 => rw [HLl.out]; simp; omega
                case c2 => rw [World.size_alloc]; omega
                intro v' w' h1 h2
                have hb8 := (HB7.out.alloc hs7 _).grown h2 (by rw [World.size_alloc]; omega) (fun j hj => (World.ownsRow.lt O1.out j hj).1)
                have HB8 := hid hb8
                have HO8 := hid h1
                clear h1 h2 hb8 O1 O2
                go_wp2_with fail
                go_ret
                refine ⟨⟨fun h => ?_, fun L' hL' => ?_⟩, HB8.out⟩
                · rw [YES.out] at h
                  cases h
                · rw [YES.out] at hL'
                  obtain rfl := Option.some.inj hL'
                  have ho := HO8.out
                  rcases Go.Joins.ownsRow_forms ho with ⟨rfl, h0⟩ | ⟨g9, c9, rfl⟩
                  · simp at h0
                  · exact ⟨g9, c9, rfl, ho⟩
      · obtain rfl : i = n := by omega
        have NO := hid (HNO.out HN.out)
        clear y1 y3
        go_wp2_with fail
        go_ret
        refine ⟨⟨fun _ => rfl, fun L hL => ?_⟩, HB.out⟩
        rw [NO.out] at hL
        cases hL
end Go.Proofs.Ytjajloefplbkgaa
