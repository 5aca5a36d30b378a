/- same.Orbits. -/
import Derived.Test.YthlmnhcnpffjdaaGreatCmpOQ
import Derived.Test.YthlmnhcnpffjdaaGreatOrdXQ
import Derived.Test.YthlmnhcnpffjdaaGreatOrdNQ
import Derived.Test.YthlmnhcnpffjdaaGreatPlainAll
namespace Go.Proofs.YthlmnhcnpffjdaaGreat
open Go.RowKit

/-- The block g holds eight numbers. -/
def IT (W : World) (g : Nat) (p : Nat → Nat) : Prop := ∃ cur : Array Value, W.heap[g]? = some (.cells cur 63 (0, 0)) ∧ ∀ s, s < 8 → cur[s]? = some (.int .i64 (p s : Nat))
theorem IT.lt {W : World} {g : Nat} {p : Nat → Nat} (h : IT W g p) : g < W.heap.size := by
  obtain ⟨cur, h1, _⟩ := h
  exact (Array.getElem?_eq_some_iff.1 h1).1
theorem IT.same {W W' : World} {g : Nat} {p : Nat → Nat} (h : IT W g p) (e : W'.heap[g]? = W.heap[g]?) : IT W' g p := by
  obtain ⟨cur, h1, h2⟩ := h
  exact ⟨cur, e.trans h1, h2⟩
theorem IT.cell {W : World} {g s : Nat} {p : Nat → Nat} (h : IT W g p) (hs : s < 8) : W.cell? ⟨g, s, none⟩ = some (.int .i64 (p s : Nat)) := by
  obtain ⟨cur, h1, h2⟩ := h
  simp only [World.cell?, h1]
  exact h2 s hs
theorem IT.frozen {W : World} {g s : Nat} {p : Nat → Nat} (h : IT W g p) : W.frozen? ⟨g, s, none⟩ = false := by
  obtain ⟨cur, h1, _⟩ := h
  simp [World.frozen?, h1]
theorem IT.put {W : World} {g j x : Nat} {p q : Nat → Nat} (h : IT W g p) (hq : ∀ s, s < 8 → q s = if s = j then x else p s) : IT (W.setCell ⟨g, j, none⟩ (.int .i64 (x : Nat))) g q := by
  obtain ⟨cur, h1, h2⟩ := h
  refine ⟨cur.set! j (.int .i64 (x : Nat)), ?_, fun s hs => ?_⟩
  · obtain ⟨hlt, hk⟩ := Array.getElem?_eq_some_iff.1 h1
    simp only [World.setCell, Array.getElem?_modify, ↓reduceIte, h1, Option.map_some]
    rfl
  · have hlt : s < cur.size := (Array.getElem?_eq_some_iff.1 (h2 s hs)).1
    rw [hq s hs, Array.set!_eq_setIfInBounds, Array.getElem?_setIfInBounds]
    by_cases e : j = s
    · subst e
      simp [hlt]
    · rw [if_neg e, if_neg (fun c => e c.symm), h2 s hs]
theorem IT.congr {W : World} {g : Nat} {p q : Nat → Nat} (h : IT W g p) (e : ∀ s, s < 8 → p s = q s) : IT W g q := by
  obtain ⟨cur, h1, h2⟩ := h
  exact ⟨cur, h1, fun s hs => by rw [← e s hs]; exact h2 s hs⟩
theorem pow_w (x X : Nat) (hx : x < 8) (h : 2 ^ x = X) : wrap64 (2 ^ x) = (X : Int) := by rw [← h]; exact (pow_wrap x (Nat.le_of_lt hx)).1
theorem pow_w2 (x X : Nat) (hx : x < 8) (h : 2 ^ x = X) : IntKind.i64.wrap (2 ^ x) = (X : Int) := by
  have h2 := (pow_wrap x (Nat.le_of_lt hx)).2
  rw [show (2 : Int) ^ x = ((2 ^ x : Nat) : Int) by simp, h]
  rw [h] at h2
  exact wrap_i64_nat _ (by omega)
/-- What an order more makes of it. -/
def obtS (s : Nat → Nat) (p : List Nat) (k i : Nat) : Nat := if i < k then s i ||| 2 ^ p.getD i 0 else s i
def obtF (s : Nat → Nat) (p : List Nat) : Bool × (Nat → Nat) := (true, obtS s p p.length)
theorem obt_loop {n : Nat} : ∀ (L : List (List Nat)) (s : Nat → Nat), (∀ q ∈ L, q.length = n) → ∀ i, (loopL obtF L s).2 i = if i < n then L.foldl (fun u q => u ||| 2 ^ q.getD i 0) (s i) else s i
  | [], s, _, i => by
    rw [loopL, List.foldl_nil]
    split <;> rfl
  | q :: L, s, h, i => by
    rw [loopL, if_pos (show (obtF s q).1 = true from rfl), obt_loop L _ fun r hr => h r (List.mem_cons_of_mem _ hr), List.foldl_cons]
    show (if i < n then L.foldl _ (obtS s q q.length i) else obtS s q q.length i) = _
    unfold obtS
    rw [h q List.mem_cons_self]
    by_cases hi : i < n
    · rw [if_pos hi, if_pos hi, if_pos hi]
    · rw [if_neg hi, if_neg hi, if_neg hi]
/-- What Orbits' variables hold. -/
structure ObI (w : World) (m : Nat) (v : Value) (gN gI : Nat) (s : Nat → Nat) (W : World) : Prop where
  low : Below w.heap.size w W
  oth : w.heap.size + 2 ≤ gN ∧ w.heap.size + 2 ≤ gI
  mat : W.heap[w.heap.size]? = some (.cells #[.int .i64 m, v] 24 (0, 0))
  tab : IT W (w.heap.size + 1) s
  few : ∀ i, i < 8 → s i < 256
variable {w : World} {m : Nat} {v : Value} {gN gI : Nat} {s : Nat → Nat} {W W' : World}
theorem ObI.save (h : ObI w m v gN gI s W) (hs : Save (fun k => k = gN ∨ k = gI) W W') : ObI w m v gN gI s W' := by
  obtain ⟨o1, o2⟩ := h.oth
  have hl := h.tab.lt
  refine ⟨hs.below h.low h.low.size (fun k hk => by omega), h.oth, (hs.block _ (by omega) (by omega)).trans h.mat, h.tab.same (hs.block _ hl (by omega)), h.few⟩
theorem ObI.put (h : ObI w m v gN gI s W) (hs : Save (fun k => k = w.heap.size + 1) W W') {s' : Nat → Nat} (ht : IT W' (w.heap.size + 1) s') (hf : ∀ i, i < 8 → s' i < 256) : ObI w m v gN gI s' W' := by
  have hl := h.tab.lt
  refine ⟨hs.below h.low h.low.size (fun k hk => by omega), h.oth, (hs.block _ (by omega) (by omega)).trans h.mat, ht, hf⟩
set_option maxRecDepth 20000 in
set_option maxHeartbeats 1000000 in
theorem obtF_ok (n B : Nat) (p : List Nat) (hn : n ≤ 8) (hp : p.length = n) (hb : Beg n p) (hI : ObI w m v gN gI s W) (hO : OrdAt B W gN gI n p) :
    Calls Tryz.prog 41 #[ordV gN gI n p, .pointer (some ⟨w.heap.size + 1, 0, none⟩)] W fun e W' => e = .returned (.bool true) ∧ ObI w m v gN gI (obtS s p p.length) W' ∧ Save (fun k => k = w.heap.size + 1) W W' := by
  have HB1 : Hid (Below W.heap.size W (W.alloc (.cells #[.slice (some ⟨gN, 0, none⟩) p.length n, .slice (some ⟨gI, 0, none⟩) (2 ^ p.length) (2 ^ n)] 58))) := (Below.refl _ _).alloc (Nat.le_refl _) _
  have hgN := hO.num.lt.2
  obtain ⟨o1, o2⟩ := hI.oth
  have HC : Hid (∀ i, i < p.length → W.cell? ⟨gN, i, none⟩ = some (.int .i64 (p.getD i 0 : Nat)) ∧ p.getD i 0 < 8) := fun i hi => ⟨hO.num.at hi, Nat.lt_of_lt_of_le (hb.at hi) hn⟩
  have HI := hid hI
  have lT := hI.tab.lt
  have HFW : Hid (∀ k, k ≤ p.length → ∀ i, i < 8 → obtS s p k i < 256) := fun k hk i hi => by
    have h1 := hI.few i hi
    unfold obtS
    split
    · rename_i h
      exact Nat.or_lt_two_pow (n := 8) h1 (Nat.pow_lt_pow_right (by decide) (Nat.lt_of_lt_of_le (hb.at (by omega)) hn))
    · exact h1
  have HP : Hid (∀ k i, i < 8 → obtS s p (k + 1) i = if i = k then obtS s p k k ||| 2 ^ p.getD k 0 else obtS s p k i) := fun k i _ => by
    unfold obtS
    by_cases e : i = k
    · subst e
      rw [if_pos (by omega), if_pos rfl, if_neg (by omega)]
    · rw [if_neg e]
      by_cases c : i < k
      · rw [if_pos (by omega), if_pos c]
      · rw [if_neg (by omega), if_neg c]
  clear hO hb hI
  unfold ordV
  have hp8 : p.length ≤ 8 := by omega
  clear hp
  generalize 2 ^ p.length = K at *
  generalize 2 ^ n = T at *
  go_enter Tryz.func41, Tryz.ntmps41
  go_wp2_with fail
  go_loopw [9] (fun j wr => ∃ i : Nat, j = .int .i64 i ∧ i ≤ p.length ∧ Hid (IT wr (w.heap.size + 1) (obtS s p i)) ∧ Hid (Save (fun k => k = w.heap.size + 1) W wr)) (fun j _ => p.length - (intOf j).toNat)
  case atStart => exact ⟨0, rfl, Nat.zero_le _, (HI.out.tab.same (HB1.out.block _ lT)).congr (fun s _ => by simp [obtS]), Save.of_below HB1.out⟩
  case round =>
    obtain ⟨i, rfl, h2, HT, HS⟩ := hrel
    clear HB1
    by_cases hlt : i < p.length
    · have hlt' : (i : Int) < (p.length : Int) := by omega
      obtain ⟨hc, hx8⟩ := HC.out i hlt
      have hmeas : p.length - (i + 1) < p.length - i := by omega
      have c1 := (World.cell?_of_block (a := ⟨gN, i, none⟩) (HS.out.block gN hgN (by omega))).trans hc
      have c3 := HT.out.cell (s := i) (by omega)
      have f3 := HT.out.frozen (s := i)
      have hi8 : (i : Int) < 8 := by omega
      have hu := HFW.out i h2 i (by omega)
      have HP2 := hid (HP.out i)
      have HN : Hid (IT (wr.setCell ⟨w.heap.size + 1, i, none⟩ (.int .i64 ((obtS s p i i ||| 2 ^ p.getD i 0 : Nat) : Int))).drew (w.heap.size + 1) (obtS s p (i + 1))) := (IT.put HT.out HP2.out).same rfl
      have HS2 : Hid (Save (fun k => k = w.heap.size + 1) W (wr.setCell ⟨w.heap.size + 1, i, none⟩ (.int .i64 ((obtS s p i i ||| 2 ^ p.getD i 0 : Nat) : Int))).drew) := (Save.setCell (X := fun k => k = w.heap.size + 1) HS.out (p := ⟨w.heap.size + 1, i, none⟩) (.inl rfl) _).drew
      clear HC HT hc HP HP2 HFW
      generalize obtS s p i i = u at *
      generalize p.getD i 0 = x at *
      obtain ⟨X, HX, hX⟩ : ∃ X : Nat, Hid (2 ^ x = X) ∧ X ≤ 256 := ⟨2 ^ x, Eq.refl (2 ^ x), (pow_wrap x (by omega)).2⟩
      rw [HX.out] at HN HS2
      have hor : bits .or .i64 (u : Int) (X : Int) = ((u ||| X : Nat) : Int) := i64_or_nat _ _ (by omega) (by omega)
      have hsh := pow_w x X hx8 HX.out
      have hsh2 := pow_w2 x X hx8 HX.out
      go_wp2_with fail
      go_region
      all_goals
        go_wp2_with fail
        go_roundw
        case rel => exact ⟨i + 1, by go_num, hlt, HN, HS2⟩
        case measure => exact hmeas
    · obtain rfl : i = p.length := by omega
      have hlt' : ¬ ((p.length : Nat) : Int) < ((p.length : Nat) : Int) := by omega
      have HR := hid (HI.out.put HS.out HT.out (HFW.out _ (Nat.le_refl _)))
      clear HC HP HFW
      go_wp2_with fail
      go_ret
      exact ⟨rfl, HR.out, HS.out⟩
/-- append of a list that lies anywhere. -/
theorem wpList_appC {B : Nat} {w : World} {v : Value} {g c : Nat} {l q : List Nat} {ops : Array Oper} {rest : List Oper} {o : Oper} {a : Act} {Q : Exit → Act → World → Prop} (hgd : o.guard = none) (s x : Operand)
    (ho : o.op = .call { callee := .builtin .append, args := #[s, x], argTypes := #[22, 22] }) (hs : a.eval s = v) (hx : a.eval x = .slice (some ⟨g, 0, none⟩) q.length c) (h : Own B w v l) (hq : ∀ j, j < q.length → w.cell? ⟨g, j, none⟩ = some (.int .i64 (q.getD j 0 : Nat))) (hl : l.length + q.length ≤ 256) (hB : B ≤ w.heap.size)
    (hK : ∀ v' w', Own B w' v' (l ++ q) → w.grownBy w' v.ownBlock → wpList Tryz.prog ops Q rest (a.put o.dst v') w') : wpList Tryz.prog ops Q (o :: rest) a w := by
  obtain ⟨i0, hi, hz0, hz1, hz2⟩ := info_parts Tryz.infoInt
  obtain ⟨v', w', hrun, r1, r2, -⟩ := run_append_own (P := Tryz.prog) w B 22 o.type 3 i0 (.int .i64 0) 1 8 Tryz.underlying22 hi hz0 hz1 hz2 rfl (by decide) v l.length (V l) h ⟨g, 0, none⟩ q.length c (V q)
    (by rw [V_len, Nat.mul_one]) (fun j u hu => by
      have hj : j < (V q).length := (List.getElem?_eq_some_iff.1 hu).1
      rw [V_len] at hj
      rw [← hu]
      have h1 := hq j hj
      have e : (V q)[j]? = some (.int .i64 (q.getD j 0 : Nat)) := by simp [V, List.getD, hj]
      rw [e, ← h1]
      simp only [Addr.add]
      split
      · rename_i e; simp_all
      · simp)
    (fun u hu => by obtain ⟨x, _, rfl⟩ := List.mem_map.1 hu; rfl) (by unfold maxLen; omega) (by omega) hB
  refine wpList_plain hgd fun K hk => ?_
  unfold Oper.wp
  simp [execOp, ho, resolve, invoke, builtin, hs, hx, hrun, Result.andThen]
  refine hk _ _ (hK v' w' ?_ r2)
  unfold Own
  rw [List.length_append, show V (l ++ q) = V l ++ V q by simp [V]]
  exact r1
set_option maxRecDepth 20000 in
theorem Clone_cells (g c : Nat) (q : List Nat) (w : World) (hg : g < w.heap.size) (hq : ∀ j, j < q.length → w.cell? ⟨g, j, none⟩ = some (.int .i64 (q.getD j 0 : Nat))) (hl : q.length ≤ 256) :
    Calls Tryz.prog 39 #[.slice (some ⟨g, 0, none⟩) q.length c] w fun e w' => ∃ r, e = .returned r ∧ Own w.heap.size w' r q ∧ Below w.heap.size w w' := by
  have hnil : ∀ W, (binOp .eql 22 (.slice (some ⟨g, 0, none⟩) q.length c) (.slice none 0 0)).run Tryz.prog W = .ok (.bool false) W := fun W => Lib.run_eql_slice_nil W _ _ _ _ _ _ _ Tryz.underlying22
  have HQ2 : Hid (∀ j, j < q.length → (w.alloc (.cells #[] 3)).cell? ⟨g, j, none⟩ = some (.int .i64 (q.getD j 0 : Nat))) := fun j hj => (((Below.refl w.heap.size w).alloc (Nat.le_refl _) (.cells #[] 3)).cell (p := ⟨g, j, none⟩) hg).trans (hq j hj)
  clear hq
  go_enter Tryz.func39, Tryz.ntmps39
  have OE : Own w.heap.size (w.alloc (.cells #[] 3)) (.slice (some ⟨w.heap.size, 0, none⟩) 0 0) [] := ⟨rfl, .inr ⟨w.heap.size, 0, #[], rfl, Nat.le_refl _, World.alloc_heap_new w _, Nat.le_refl _, Nat.zero_le _, rfl, rfl⟩⟩
  have HOE := hid OE
  clear OE
  go_wp2_with (at_builtin; refine wpList_appC rfl (.tmp 5) (.tmp 6) rfl rfl rfl HOE.out HQ2.out (by simp; omega) (by simp) ?_)
  intro v' w' ho hg2
  have H1 : Hid (Own w.heap.size w' v' q) := ho
  have H2 : Hid (Below w.heap.size w w') := ((Below.refl _ w).alloc (Nat.le_refl _) _).grown hg2 (by simp) (fun k e => by cases e; exact Nat.le_refl _)
  obtain ⟨ra, rc, rfl⟩ := ownsRow_form' H1.out
  clear ho hg2
  go_wp2_with fail
  go_ret
  exact ⟨_, rfl, H1.out, H2.out⟩
theorem boxO_cells (w : World) (m : Int) (v : Value) : Below w.heap.size w ((w.alloc (.cells #[.int .i64 m, v] 24)).alloc (.cells #[.int .i64 0, .int .i64 0, .int .i64 0, .int .i64 0, .int .i64 0, .int .i64 0, .int .i64 0, .int .i64 0] 63)) ∧ ((w.alloc (.cells #[.int .i64 m, v] 24)).alloc (.cells #[.int .i64 0, .int .i64 0, .int .i64 0, .int .i64 0, .int .i64 0, .int .i64 0, .int .i64 0, .int .i64 0] 63)).heap.size = w.heap.size + 2 ∧ ((w.alloc (.cells #[.int .i64 m, v] 24)).alloc (.cells #[.int .i64 0, .int .i64 0, .int .i64 0, .int .i64 0, .int .i64 0, .int .i64 0, .int .i64 0, .int .i64 0] 63)).heap[w.heap.size]? = some (.cells #[.int .i64 m, v] 24 (0, 0)) ∧ IT ((w.alloc (.cells #[.int .i64 m, v] 24)).alloc (.cells #[.int .i64 0, .int .i64 0, .int .i64 0, .int .i64 0, .int .i64 0, .int .i64 0, .int .i64 0, .int .i64 0] 63)) (w.heap.size + 1) (fun _ => 0) := by
  refine ⟨((Below.refl _ _).alloc (Nat.le_refl _) _).alloc (by simp) _, by simp, (Below.heap_alloc _ _ _ (by simp)).trans (World.alloc_heap_new w _), ?_⟩
  have := World.alloc_heap_new (w.alloc (.cells #[.int .i64 m, v] 24)) (.cells #[.int .i64 0, .int .i64 0, .int .i64 0, .int .i64 0, .int .i64 0, .int .i64 0, .int .i64 0, .int .i64 0] 63)
  rw [World.size_alloc] at this
  refine ⟨_, this, fun s hs => ?_⟩
  match s, hs with
  | 0, _ => rfl
  | 1, _ => rfl
  | 2, _ => rfl
  | 3, _ => rfl
  | 4, _ => rfl
  | 5, _ => rfl
  | 6, _ => rfl
  | 7, _ => rfl
theorem orb_sorted {m : Nat} {A L l : List Nat} (hp : l.Perm ((List.range m).map (orbS m A))) (h1 : L.Pairwise (· < ·)) (h2 : ∀ x, x ∈ L ↔ x ∈ l) : L = orbL m A := by
  refine sorted_ext h1 (orb_fam m A).up fun x => ?_
  rw [h2, hp.mem_iff, mem_orb, List.mem_map]
  constructor
  · rintro ⟨i, hi, e⟩
    exact ⟨i, List.mem_range.1 hi, e⟩
  · rintro ⟨i, hi, e⟩
    exact ⟨i, List.mem_range.2 hi, e⟩
set_option maxRecDepth 20000 in
set_option maxHeartbeats 1000000 in
theorem Orbits_ok (m : Nat) (v : Value) (l : List Nat) (w : World) (hm : m ≤ 8) (hf : Fam m l) (hb : Bas l) (h : Ints w v (N l)) :
    Calls Tryz.prog 14 #[.agg #[.int .i64 m, v]] w fun e w' => ∃ r, e = .returned (.tuple #[r, .int .i64 0]) ∧ Own w.heap.size w' r (orbL m l) ∧ Below w.heap.size w w' := by
  obtain ⟨BW, hsz, hblk, hbox⟩ := boxO_cells w m v
  have hCL : ∀ i, i < m → (loopL obtF (isoK m l m l) (fun _ => 0)).2 i = orbS m l i := fun i hi => by
    unfold isoK
    rw [if_pos rfl, obt_loop (n := m) _ _ (fun q hq => (isoL_mem.1 hq).1.2), if_pos hi]
    rfl
  obtain ⟨x0, x1⟩ := cells2 hblk
  have E1 := hid (between_ok m m 41 #[.pointer (some ⟨w.heap.size + 1, 0, none⟩)] v v l l obtF (fun gN gI s W => ObI w m v gN gI s W) (fun _ => 0) _ hm hf hb (h.below BW) hm hf hb (h.below BW)
    (fun args w => enters_of Tryz.func41 (by kernel_rfl) rfl args w)
    (fun gN gI s W W' h hs => h.save hs)
    (fun B gN gI s p W hB hI hbg hp hO hBW => by
      rw [hsz]
      refine (obtF_ok m B p hm hp hbg hI hO).mono ?_
      rintro e W' ⟨rfl, h3, h4⟩
      exact ⟨rfl, h3, h4.mono (fun k hk => by omega)⟩)
    (fun gN gI W h1 h2 h3 => by
      rw [hsz] at h1 h2 h3
      exact ⟨BW.trans (h3.mono (by omega)), ⟨h1, h2⟩, (h3.block _ (by omega)).trans hblk, hbox.same (h3.block _ (by omega)), fun _ _ => by decide⟩))
  obtain ⟨a0, cap, hv, -, -⟩ := h.nats
  subst hv
  generalize (loopL obtF (isoK m l m l) (fun _ => 0)).2 = S at *
  have HSO := hid (fun l' L h1 h2 h3 => orb_sorted (m := m) (A := l) (L := L) (l := l') h1 h2 h3)
  have HCL := hid hCL
  clear hf hb h BW hsz hbox hblk hCL
  go_enter Tryz.func14, Tryz.ntmps14
  go_wp2_with fail
  refine E1.out.mono ?_
  rintro e w2 ⟨rfl, ⟨gN, gI, hI⟩, -⟩
  have HI := hid hI
  obtain ⟨x0, x1⟩ := cells2 hI.mat
  have hm' : (m : Int) ≤ 8 := by omega
  clear E1 hI
  have hqe : (List.range m).map S = (List.range m).map (orbS m l) := List.map_congr_left fun i hi => HCL.out i (List.mem_range.1 hi)
  have CL := Clone_cells (w.heap.size + 1) 8 ((List.range m).map (orbS m l)) w2 HI.out.tab.lt (fun j hj => by
    rw [List.length_map, List.length_range] at hj
    rw [HI.out.tab.cell (by omega), HCL.out j hj]
    simp [List.getD, hj]) (by simp; omega)
  rw [List.length_map, List.length_range] at CL
  have HCC := hid CL
  clear CL hqe HCL
  have HB2 := hid HI.out.low
  have hs2 := HB2.out.size
  clear HI
  obtain ⟨q, Hq⟩ : ∃ q, Hid ((List.range m).map (orbS m l) = q) := ⟨_, Eq.refl ((List.range m).map (orbS m l))⟩
  rw [Hq.out] at HCC HSO
  have hq8 : q.length ≤ 8 := by rw [← Hq.out]; simp; omega
  have hq2 : Hid (q.length = m) := by show _ = _; rw [← Hq.out]; simp
  clear Hq
  go_wp2_with fail
  refine HCC.out.mono ?_
  rintro e w3 ⟨r, rfl, ho3, hb3⟩
  obtain ⟨ra, rc, rfl⟩ := ownsRow_form' ho3
  have SO := hid (Sort_own ho3 (by omega))
  have HB3 := hid (HB2.out.trans (hb3.mono hs2))
  have hs3 := hb3.size
  have HB23 := hid hb3
  clear HCC ho3 hb3
  go_wp2_with fail
  refine SO.out.mono ?_
  rintro e w4 ⟨rfl, l4, hperm, hsort, ho4, hbel, hgr⟩
  have hl4 : l4.length ≤ 8 := by rw [hperm.length_eq]; exact hq8
  have HB4 := hid (hbel w2 HB23.out hs3)
  have CO := hid (Compact_own ho4 (by omega) hsort)
  have HL := hid (fun L h1 h2 => HSO.out l4 L hperm h1 h2)
  have HO4 : Hid (∀ w5, w4.grownBy w5 (Value.slice ra q.length rc).ownBlock → Below w.heap.size w w5) := fun w5 hg => HB2.out.trans ((HB4.out.grown hg HB4.out.size (fun j hj => (World.ownsRow.lt ho4 j hj).1)).mono hs2)
  clear SO hperm hsort ho4 hbel hgr HSO
  go_wp2_with fail
  refine CO.out.mono ?_
  rintro e w5 ⟨v5, L, rfl, h1, h2, ho5, hg5⟩
  have HB5 := hid (HO4.out w5 hg5)
  have hL := HL.out L h1 h2
  subst hL
  have HO5 := hid (ho5.mono hs2)
  obtain ⟨rb, rd, rfl⟩ := ownsRow_form' ho5
  clear CO h1 h2 ho5 hg5 HL HO4
  go_wp2_with fail
  go_ret2
  exact ⟨_, rfl, HO5.out, HB5.out⟩
set_option maxHeartbeats 1000000 in
theorem Orbits_bad (n : Int) (v : Value) (zs : List Int) (w : World) (h : Ints w v zs) (hc : chkR n zs ≠ 0) :
    Calls Tryz.prog 14 #[.agg #[.int .i64 n, v]] w fun e w' => e = .returned (.tuple #[.slice none 0 0, .int .i64 (chkR n zs)]) ∧ Below w.heap.size w w' := by
  obtain ⟨BW, hsz, hblk, hbox⟩ := boxO_cells w n v
  have hc2 : chk2 n zs n zs = chkR n zs := by unfold chk2; rw [if_neg hc]
  obtain ⟨x0, x1⟩ := cells2 hblk
  have E1 := hid (between_bad n n v v zs zs (.func (.func 41) #[] #[.pointer (some ⟨w.heap.size + 1, 0, none⟩)]) _ (h.below BW) (h.below BW) (by rw [hc2]; exact hc))
  rw [hc2] at E1
  have HBW := hid BW
  obtain ⟨a0, cap, rfl, -, -⟩ := h
  generalize chkR n zs = q at *
  have hc' : (q != 0) = true := by simp [hc]
  clear BW hbox hblk hc2
  go_enter Tryz.func14, Tryz.ntmps14
  go_wp2_with fail
  refine E1.out.mono ?_
  rintro e w2 ⟨rfl, hb2⟩
  have H1 := hid (HBW.out.trans (hb2.mono HBW.out.size))
  clear hb2 E1 x0 x1
  go_wp2_with fail
  go_ret2
  exact ⟨rfl, H1.out⟩
end Go.Proofs.YthlmnhcnpffjdaaGreat
