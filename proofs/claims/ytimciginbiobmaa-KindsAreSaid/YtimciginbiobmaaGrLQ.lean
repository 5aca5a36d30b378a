/- greedy.Ladder. -/
import Derived.Test.YtimciginbiobmaaGrSQ
import Derived.Test.YtimciginbiobmaaMarksQ
import Derived.OwnWalkIn
import Derived.Deep.RegionHeld3
namespace Go.Proofs.Ytimciginbiobmaa
open Go.RowKit Go.Shelf
attribute [local go_sem] Oper.semAt_some

theorem boxedF {β : Type} (B : Nat) (t : TypeId) (f : β → Value) : Go.Own (fun (s : β) W => Boxed W B t (f s)) := by
  rintro s X Y row hv hg hrow
  refine hv.kept hg (fun e' => ?_)
  obtain ⟨o, ho, hc⟩ := hrow B e'.symm
  rw [show X.heap[B]? = _ from hv] at ho; cases ho; cases hc
theorem Own.lit1 {B : Nat} (w : World) (a : Nat) (h : B ≤ w.heap.size) : Own B (w.alloc (.cells #[.int .i64 a] 3)) (.slice (some ⟨w.heap.size, 0, none⟩) 1 1) [a] :=
  ⟨rfl, .inr ⟨w.heap.size, 1, #[.int .i64 a], rfl, h, World.alloc_heap_new w _, Nat.le_refl _, by unfold maxLen; omega, rfl, rfl⟩⟩
theorem setCell_other (W : World) {A k : Nat} (x : Value) (h : k ≠ A) : (W.setCell ⟨A, 0, none⟩ x).heap[k]? = W.heap[k]? := by
  unfold World.setCell
  dsimp only
  rw [Array.getElem?_modify]
  simp [Ne.symm h]
theorem own_rowL {B : Nat} {w : World} {v : Value} {l : List Nat} (h : Own B w v l) {k : Nat} (e : v.ownBlock = some k) : ∃ c t p, w.heap[k]? = some (.cells c t p) := by
  obtain ⟨h0, h1⟩ := h
  rcases h1 with ⟨rfl, _⟩ | ⟨g, cap, cur, rfl, _, hheap, _⟩
  · cases e
  · cases e
    exact ⟨_, _, _, hheap⟩
theorem Shuts.growL {B : Nat} {w w' : World} {Ds : List Nat} (h : Shuts B w Ds) {row : Option Nat} (hg : w.grownBy w' row) (hr : ∀ k, row = some k → ∃ c t p, w.heap[k]? = some (.cells c t p)) : Shuts B w' Ds :=
  ⟨h.1, fun E hE => ⟨(h.2 E hE).1, (hg.block E (Array.getElem?_eq_some_iff.1 (h.2 E hE).2).1 (fun e => by
    obtain ⟨c, t, p, hc⟩ := hr E e.symm
    rw [(h.2 E hE).2] at hc
    cases hc)).trans (h.2 E hE).2⟩⟩
/-- All that lay in w is as it was, but for block A. -/
def Bar (A : Nat) (w W : World) : Prop := w.heap.size ≤ W.heap.size ∧ ∀ k, k < w.heap.size → k ≠ A → W.heap[k]? = w.heap[k]?
theorem Bar.own {A B : Nat} {w W : World} {v : Value} {l : List Nat} (h : Bar A w W) (ho : Go.Proofs.Ytimciginbiobmaa.Own B w v l) (hA : A < B) : Go.Proofs.Ytimciginbiobmaa.Own B W v l := by
  obtain ⟨h0, h1⟩ := ho
  rcases h1 with ⟨rfl, h2⟩ | ⟨g, cap, cur, rfl, h3, hheap, h4⟩
  · exact ⟨h0, .inl ⟨rfl, h2⟩⟩
  · exact ⟨h0, .inr ⟨g, cap, cur, rfl, h3, (h.2 g (Array.getElem?_eq_some_iff.1 hheap).1 (by omega)).trans hheap, h4⟩⟩
theorem Bar.shuts {A B : Nat} {w W : World} {Ds : List Nat} (h : Bar A w W) (hs : Shuts B w Ds) (hA : A < B) : Shuts B W Ds :=
  ⟨hs.1, fun E hE => ⟨(hs.2 E hE).1, (h.2 E (Array.getElem?_eq_some_iff.1 (hs.2 E hE).2).1 (by have := (hs.2 E hE).1; omega)).trans (hs.2 E hE).2⟩⟩
theorem Bar.from {β : Type} {A B : Nat} {w : World} (hB : w.heap.size ≤ B) : OwnFrom B (fun (_ : β) W => Bar A w W) := fun _ W W' row hs hg hr =>
  ⟨Nat.le_trans hs.1 hg.size, fun k hk hA => (hg.block k (Nat.lt_of_lt_of_le hk hs.1) (fun e => by have := (hr k e.symm).1; omega)).trans (hs.2 k hk hA)⟩
theorem Bar.of {A : Nat} {w W : World} (h : Below w.heap.size w W) : Bar A w W := ⟨h.size, fun k hk _ => h.block k hk⟩
theorem Bar.set {A : Nat} {w W : World} (h : Bar A w W) (x : Value) : Bar A w (W.setCell ⟨A, 0, none⟩ x) :=
  ⟨by rw [World.size_setCell]; exact h.1, fun k hk hA => (setCell_other _ _ hA).trans (h.2 k hk hA)⟩
/-- The world when Ladder's parameters are laid. -/
def boxL (w : World) (m a b : Int) (v : Value) : World := ((w.alloc (.cells #[.int .i64 m, v] 34)).alloc (.cells #[.int .i64 a] 3)).alloc (.cells #[.int .i64 a, .int .i64 b] 3)
theorem boxL_is (w : World) (m a b : Int) (v : Value) : Below w.heap.size w (boxL w m a b v) ∧ (boxL w m a b v).heap.size = w.heap.size + 3 ∧ (boxL w m a b v).heap[w.heap.size]? = some (.cells #[.int .i64 m, v] 34 (0, 0)) ∧ Boxed (boxL w m a b v) (w.heap.size + 1) 3 (.int .i64 a) ∧ Ints (boxL w m a b v) (.slice (some ⟨w.heap.size + 1 + 1, 0, none⟩) 2 2) [a, b] := by
  have c0 := World.alloc_heap_new w (.cells #[.int .i64 m, v] 34)
  have c1 := (Boxed.new (w.alloc (.cells #[.int .i64 m, v] 34)) 3 (.int .i64 a)).alloc (.cells #[.int .i64 a, .int .i64 b] 3)
  have L := Ints.lit2 ((w.alloc (.cells #[.int .i64 m, v] 34)).alloc (.cells #[.int .i64 a] 3)) a b
  simp only [World.size_alloc] at c1 L
  unfold boxL
  exact ⟨(((Below.refl _ w).alloc (Nat.le_refl _) _).alloc (by simp) _).alloc (by simp; omega) _, by simp, (Below.heap_alloc _ _ _ (by simp; omega)).trans ((Below.heap_alloc _ _ _ (by simp)).trans c0), c1, L⟩
set_option maxRecDepth 100000 in
set_option maxHeartbeats 4000000 in
theorem Ladder_ok (m a b : Nat) (v : Value) (l : List Nat) (w : World) (h : Ints w v (N l)) (hm : m ≤ 8) (hf : Fam m l) (hbs : Bas l) (hal : a ∈ l) (hbl : b ∈ l) :
    Calls Try.prog 40 #[.agg #[.int .i64 m, v], .int .i64 a, .int .i64 b] w fun e w' => ∃ r, e = .returned (.tuple #[r, .int .i64 0]) ∧ Own w.heap.size w' r (ladder l a b) ∧ Below w.heap.size w w' := by
  obtain ⟨i0, hi0, hz0, hz1, hz2⟩ := info_parts Try.infoInt
  obtain ⟨b1, b2, b3, b4, b5⟩ := boxL_is w m a b v
  have HC := hid (checkBases_any m v (N l) _ [(a : Int), (b : Int)] _ (h.below b1) b5)
  rw [show cbR m (N l) [(a : Int), (b : Int)] = 0 from cb_mk (ys := [a, b]) hm hf hbs (by simp [hal, hbl])] at HC
  have HV := hid h
  obtain ⟨sa, scap, rfl, _, _⟩ := h
  have hb8 := hbs.lt b hbl
  refine (callsIn_wide (n := 6)).1 ?_
  refine callsIn_of_wp_marks Try.func40 rfl trivial ?_ rfl
  simp only [Try.ntmps40, List.size_toArray, List.length_cons, List.length_nil, Nat.reduceAdd, Nat.reduceSub, Array.replicate_succ, Array.replicate_zero, List.push_toArray, List.append_toArray, List.nil_append, List.cons_append]
  gi_wp2
  refine ⟨trivial, (callsIn_wide.2 HC.out).mono ?_⟩
  rintro e w1 ⟨rfl, hb1⟩
  have hs1 := hb1.size
  have hB1 := b1.trans (hb1.mono b1.size)
  have kM := (hb1.block w.heap.size (by omega)).trans b3
  have kA : Boxed w1 (w.heap.size + 1) 3 (.int .i64 a) := (hb1.block (w.heap.size + 1) (by omega)).trans b4
  have kc := kA.cell
  rw [b2] at hs1
  clear HC b1 b2 b3 b4 b5 hb1
  gi_wp2
  have kM2 := (Below.heap_alloc w1 (.cells #[.int .i64 a] 3) _ (by omega : w.heap.size < w1.heap.size)).trans kM
  have kA2 := kA.alloc (.cells #[.int .i64 a] 3)
  have kO2 := Own.lit1 w1 a (Nat.le_refl _)
  have hB2 := hB1.alloc (by omega : w.heap.size ≤ w1.heap.size) (.cells #[.int .i64 a] 3)
  have hs2 : w1.heap.size ≤ (w1.alloc (.cells #[.int .i64 a] 3)).heap.size := by simp
  revert kM2 kA2 kO2 hB2 hs2
  generalize w1.alloc (.cells #[.int .i64 a] 3) = W1
  intro kM2 kA2 kO2 hB2 hs2
  clear kM kA kc hB1
  refine wpIn_loop (fun a' wr => ∃ (cur : Nat) (acc : List Nat) (Ds : List Nat) (v u10 u22 u23 u24 u25 u26 u27 u28 u29 u30 u31 u32 u33 u34 u44 u45 u46 u47 : Value), cur ∈ l ∧ Own w1.heap.size wr v (acc ++ [cur]) ∧ acc.length + pop (dif cur b) ≤ 8 ∧ Hid (acc ++ ladder l cur b = ladder l a b) ∧ Shuts w1.heap.size wr Ds ∧ Below w.heap.size w wr ∧ Boxed wr (w.heap.size + 1) 3 (.int .i64 cur) ∧ wr.heap[w.heap.size]? = some (.cells #[.int .i64 m, .slice sa (N l).length scap] 34 (0, 0)) ∧ w1.heap.size ≤ wr.heap.size ∧
    a' = { tmps := #[.agg #[.int .i64 m, .slice sa (N l).length scap], .int .i64 a, .int .i64 b, .pointer (some ⟨w.heap.size, 0, none⟩), .pointer (some ⟨w.heap.size + 1, 0, none⟩), undef, .slice none 0 0, .int .i64 0, .int .i64 0, v, u10, undef, .agg #[.int .i64 m, .slice sa (N l).length scap], .int .i64 a, .int .i64 b, .slice (some ⟨w.heap.size + 1 + 1, 0, none⟩) 2 2, .int .i64 0, .int .i64 0, .bool false, undef, .int .i64 a, .slice (some ⟨w1.heap.size, 0, none⟩) 1 1, u22, u23, u24, u25, u26, u27, u28, u29, u30, u31, u32, u33, u34, undef, undef, undef, undef, undef, undef, undef, undef, undef, u44, u45, u46, u47, undef], defers := Ds.map markOf })
    (fun _ wr => pop (dif (intOf ((wr.cell? ⟨w.heap.size + 1, 0, none⟩).getD undef)).toNat b)) ?start ?round
  case start => exact ⟨a, [], [], _, undef, undef, undef, undef, undef, undef, undef, undef, undef, undef, undef, undef, undef, undef, undef, undef, undef, undef, hal, kO2, by have := pop_le _ (dif_lt (b := b) (hbs.lt a hal)); simpa using this, rfl, Shuts.nil _ _, hB2, kA2, kM2, hs2, rfl⟩
  case round =>
    rintro a' wr ⟨cur, acc, Ds, v, u10, u22, u23, u24, u25, u26, u27, u28, u29, u30, u31, u32, u33, u34, u44, u45, u46, u47, hcl, hown, hcnt, HP, HS, hnx, hbA, hbM, hwr, rfl⟩
    have hc8 := hbs.lt cur hcl
    have hcA := hbA.cell
    by_cases h0 : cur = b
    · subst h0
      have HL : Hid (ladder l a cur = acc ++ [cur]) := by show _ = _; rw [← HP.out, ladder_end]
      have HO := hid (hown.mono (by omega : w.heap.size ≤ w1.heap.size))
      rw [← HL.out] at HO
      have HB := hid hnx
      have HS5 := hid HS
      clear hown hnx HS HP hcnt hbs
      gi_wp2
      refine leaves_marks (B := w1.heap.size) (fun W => Own w.heap.size W v (ladder l a cur) ∧ Below w.heap.size w W) ?_ ?_ Ds wr ⟨HO.out, HB.out⟩ HS5.out
      · rintro W D ⟨h1, h2⟩ hD hK
        exact ⟨ownsRow_putObj h1 _ hK rfl, h2.trans (belowK_b (w := w) (Nat.le_refl _) W D _ _ (by omega) hK rfl rfl)⟩
      · rintro W ⟨h1, h2⟩
        exact ⟨_, results_tmp2 rfl _ _ _, v, rfl, h1, h2⟩
    · have hne : ((cur : Int) != (b : Int)) = true := by rw [bne_iff_ne]; omega
      have hd0 := dif_pos hc8 hb8 (hbs.size cur hcl b hbl) h0
      have LO := hid (fun w' => low_any (dif cur b) w' (dif_lt hc8) hd0)
      have hab : bits .andNot .i64 (cur : Int) (b : Int) = ((dif cur b : Nat) : Int) := i64_andNot_nat cur b (by omega) (by omega)
      have hba : bits .andNot .i64 (b : Int) (cur : Int) = ((dif b cur : Nat) : Int) := i64_andNot_nat b cur (by omega) (by omega)
      have hbt := bt_lt (tz_lt _ (dif_lt (b := b) hc8) hd0)
      have ne1 : ¬ wr.heap.size = w.heap.size + 1 := by omega
      have ne2 : ¬ w.heap.size + 1 = wr.heap.size := by omega
      have hle : bits .andNot .i64 (cur : Int) (bt (tz (dif cur b)) : Int) = ((downR l cur b : Nat) : Int) := i64_andNot_nat cur _ (by omega) (by omega)
      gi_wp2
      refine wpIn_wide.2 (wp_mono (Q := fun e a' w' => e = .normal ∧ a' = { tmps := #[.agg #[.int .i64 m, .slice sa (N l).length scap], .int .i64 a, .int .i64 b, .pointer (some ⟨w.heap.size, 0, none⟩), .pointer (some ⟨w.heap.size + 1, 0, none⟩), undef, .slice none 0 0, .int .i64 0, .int .i64 0, v, .pointer (some ⟨wr.heap.size, 0, none⟩), undef, .agg #[.int .i64 m, .slice sa (N l).length scap], .int .i64 a, .int .i64 b, .slice (some ⟨w.heap.size + 1 + 1, 0, none⟩) 2 2, .int .i64 0, .int .i64 0, .bool false, undef, .int .i64 a, .slice (some ⟨w1.heap.size, 0, none⟩) 1 1, .int .i64 cur, .int .i64 b, .bool true, .int .i64 cur, .int .i64 cur, .int .i64 b, .int .i64 (dif cur b : Nat), .int .i64 (bt (tz (dif cur b)) : Nat), .int .i64 (downR l cur b : Nat), u31, u32, u33, u34, undef, undef, undef, undef, undef, undef, undef, undef, undef, u44, u45, u46, u47, undef], defers := Ds.map markOf } ∧ w' = (wr.alloc (.cells #[.int .i64 (downR l cur b : Nat)] 3)).drew) ?_ ?_)
      · go_region_held3 (fun w' => w'.cell? ⟨w.heap.size + 1, 0, none⟩ = some (.int .i64 cur)) (go_keep) ((go_at_call 86; refine (LO.out _).mono ?_; rintro e w' ⟨rfl, h1⟩; obtain rfl := h1.symm))
        all_goals exact ⟨rfl, rfl, rfl⟩
      rintro _ _ _ ⟨rfl, rfl, rfl⟩
      obtain ⟨y0, y1, y2, y3, y4, y5, y6⟩ := next_is hbs hcl hbl h0
      have ND := next_dif hbs hcl hbl h0
      have LS := hid (ladder_step hbs hcl hbl h0)
      have hl8 : downR l cur b < 256 := dif_lt hc8
      have c8 : dif b cur < 256 := dif_lt hb8
      generalize hle0 : downR l cur b = le at *
      have HLE := hid hle0
      generalize hcc0 : dif b cur = c at *
      have HCC := hid hcc0
      have q0 : Boxed (wr.alloc (.cells #[.int .i64 le] 3)).drew wr.heap.size 3 (.int .i64 le) := Boxed.new wr 3 (.int .i64 le)
      have qA : Boxed (wr.alloc (.cells #[.int .i64 le] 3)).drew (w.heap.size + 1) 3 (.int .i64 cur) := hbA.alloc _
      have qB : Below wr.heap.size wr (wr.alloc (.cells #[.int .i64 le] 3)).drew := ((Below.refl _ _).alloc (Nat.le_refl _) _).drew
      have qs : (wr.alloc (.cells #[.int .i64 le] 3)).drew.heap.size = wr.heap.size + 1 := by simp [World.drew]
      revert q0 qA qB qs
      generalize (wr.alloc (.cells #[.int .i64 le] 3)).drew = W2
      intro q0 qA qB qs
      have qAc := qA.cell
      gi_wp2_with (refine ⟨trivial, ?_⟩; gi_at_call 87; refine (callsIn_wide.2 (sing_any c _)).mono ?_; rintro e w' ⟨rfl, rfl⟩)

      have p0 := q0.alloc (.cells #[.int .i64 c] 3)
      have pA := qA.alloc (.cells #[.int .i64 c] 3)
      have pC := Boxed.new W2 3 (.int .i64 c)
      rw [qs] at pC
      have pB := qB.alloc (by omega : wr.heap.size ≤ W2.heap.size) (.cells #[.int .i64 c] 3)
      have ps : (W2.alloc (.cells #[.int .i64 c] 3)).heap.size = wr.heap.size + 2 := by simp [qs]
      revert p0 pA pC pB ps
      generalize W2.alloc (.cells #[.int .i64 c] 3) = W3
      intro p0 pA pC pB ps
      clear q0 qA qB qs qAc
      have hVr := hid (HV.out.below hnx)
      refine wpIn_rangeFunc_ownF rfl (by decide) (gf := 103) (lb := #[.pointer (some ⟨wr.heap.size + 1, 0, none⟩)]) rfl trivial (enters_of Try.func103 (by kernel_rfl) rfl)
        (sing_stops 5 (by decide) c (wr.heap.size + 1) c8 _ (by omega) pC.cell) (fun _ _ => trivial) (fun _ _ _ _ _ _ _ _ => trivial) (Below.refl _ _) (fun _ => rfl)
        (fun pre W => (∀ y ∈ pre, memB (le ||| 2 ^ y.1) l = false) ∧ Boxed W wr.heap.size 3 (.int .i64 le) ∧ Below wr.heap.size wr W)
        (fun cd pre W => cd = .exit 2 ∧ (∃ pre' x, pre = pre' ++ [x] ∧ (∀ y ∈ pre', memB (le ||| 2 ^ y.1) l = false) ∧ memB (le ||| 2 ^ x.1) l = true ∧ Boxed W (w.heap.size + 1) 3 (.int .i64 (le ||| 2 ^ x.1 : Nat))) ∧ Bar (w.heap.size + 1) wr W ∧ Below w.heap.size w W)
        (OwnFrom.and (fun _ _ _ _ hs _ _ => hs) (OwnFrom.and ((boxedF _ _ (fun _ => Value.int .i64 le)).from _) (ownFrom_below (Nat.le_refl _) (by omega))))
        (fun cd => OwnFrom.and (fun _ _ _ _ hs _ _ => hs) (OwnFrom.and (fun pre W W' row hs hg hr => by
            obtain ⟨pre', x, e1, e2, e3, e4⟩ := hs
            exact ⟨pre', x, e1, e2, e3, boxedF (w.heap.size + 1) 3 (fun _ : Unit => Value.int .i64 (le ||| 2 ^ x.1 : Nat)) () W W' row e4 hg (fun r e => (hr r e).2)⟩) (OwnFrom.and (Bar.from (by omega)) (ownFrom_below (by omega) (by omega)))))
        ⟨by simp, p0, pB⟩
        (fun x => { tmps := #[.agg #[.int .i64 m, .slice sa (N l).length scap], .int .i64 a, .int .i64 b, .pointer (some ⟨w.heap.size, 0, none⟩), .pointer (some ⟨w.heap.size + 1, 0, none⟩), undef, .slice none 0 0, .int .i64 0, .int .i64 0, v, .pointer (some ⟨wr.heap.size, 0, none⟩), .int .i64 (bt x.1 : Nat), .agg #[.int .i64 m, .slice sa (N l).length scap], .int .i64 a, .int .i64 b, .slice (some ⟨w.heap.size + 1 + 1, 0, none⟩) 2 2, .int .i64 0, .int .i64 0, .bool false, undef, .int .i64 a, .slice (some ⟨w1.heap.size, 0, none⟩) 1 1, .int .i64 cur, .int .i64 b, .bool true, .int .i64 cur, .int .i64 cur, .int .i64 b, .int .i64 (dif cur b : Nat), .int .i64 (bt (tz (dif cur b)) : Nat), .int .i64 le, .int .i64 b, .int .i64 cur, .int .i64 c, .func (.func 103) #[] #[.pointer (some ⟨wr.heap.size + 1, 0, none⟩)], .int .i64 (bt x.1 : Nat), undef, undef, undef, undef, undef, undef, undef, undef, u44, u45, u46, u47, undef], defers := [] }) ?assign ?body ?done ?stop
      case assign =>
        intro l x W K hK
        dsimp only [enc1]
        gi_wp2
        exact hK
      case body =>
        rintro l0 pre x W ⟨hpre, hbL, hB⟩ _
        have hx8 := bt_lt (el_lt x)
        have hor : bits .or .i64 (le : Int) (bt x.1 : Int) = ((le ||| bt x.1 : Nat) : Int) := i64_or_nat _ (bt x.1) (by omega) (by omega)
        have hLc := hbL.cell
        obtain ⟨z0, z1, _, _⟩ := two_cells ((hB.block w.heap.size (by omega)).trans hbM)
        have HIB := hid (isBasis_any m _ (N l) ((le ||| bt x.1 : Nat) : Int) W (hVr.out.below hB))
        rw [memZ_N] at HIB
        have HB := hid hB
        have hWs := hB.size
        have HBW : Hid (Below w.heap.size w W) := hnx.trans (hB.mono (by omega))
        have hbA2 : Boxed W (w.heap.size + 1) 3 (.int .i64 cur) := (hB.block (w.heap.size + 1) (by omega)).trans hbA
        have HZ : Hid (le ||| bt x.1 = le ||| 2 ^ x.1) := rfl
        rcases hq : memB (le ||| bt x.1) l with _ | _
        · have HQ := hid hq
          rw [hq] at HIB
          generalize le ||| bt x.1 = z at *
          gi_wp2_with (refine ⟨trivial, ?_⟩; gi_at_call 85; refine (CallsIn.inRound l0 (callsIn_wide.2 HIB.out)).mono ?_)
          rintro e W' ⟨rfl, hb'⟩
          have HK := hid (keeps_below hb')
          have HB' := hid (HB.out.trans (hb'.mono HB.out.size))
          have R0 : Hid (Boxed W' wr.heap.size 3 (.int .i64 le)) := (hb'.block _ (World.block_lt_of_cell? W _ hLc)).trans hbL
          clear hb'
          gi_wp2
          exact ⟨HK.out, trivial, (fun y hy => by rw [List.mem_append, List.mem_singleton] at hy; rcases hy with hy | rfl; exact hpre y hy; rw [← HZ.out]; exact HQ.out), R0.out, HB'.out⟩
        · have HQ := hid hq
          rw [hq] at HIB
          generalize le ||| bt x.1 = z at *
          gi_wp2_with (refine ⟨trivial, ?_⟩; gi_at_call 85; refine (CallsIn.inRound l0 (callsIn_wide.2 HIB.out)).mono ?_)
          rintro e W' ⟨rfl, hb'⟩
          have HK := hid (keeps_below hb')
          have HB' := hid (HB.out.trans (hb'.mono HB.out.size))
          have R0 : Boxed W' wr.heap.size 3 (.int .i64 le) := (hb'.block _ (World.block_lt_of_cell? W _ hLc)).trans hbL
          have R1 : Boxed W' (w.heap.size + 1) 3 (.int .i64 cur) := (hb'.block _ (by omega)).trans hbA2
          have R0c := R0.cell
          have R1c := R1.cell
          have R1f := R1.frozen
          have HBW' := hid (HBW.out.trans (hb'.mono HBW.out.size))
          clear hb'
          gi_wp2
          refine ⟨HK.out.trans (KeepsOthers.setCell _ _ _), rfl, ⟨pre, x, rfl, hpre, by rw [← HZ.out]; exact HQ.out, ?_⟩, (Bar.of HB'.out).set _, HBW'.out.setCell (p := ⟨w.heap.size + 1, 0, none⟩) (by simp) _⟩
          rw [← HZ.out]
          exact R1.set _
      case done =>
        rintro D ys W hD hys ⟨hne2, _, _⟩ hK
        exfalso
        have h1 := List.find?_some y1
        rw [← hys, List.mem_map] at y2
        obtain ⟨y', hy', rfl⟩ := y2
        rw [hne2 y' hy'] at h1
        cases h1
      case stop =>
        rintro D cd pre W hD hpre ⟨rfl, ⟨pre', x, rfl, e2, e3, e4⟩, hBar, hBW⟩ hK
        have hxn : le ||| 2 ^ x.1 = nextR l cur b := by
          obtain ⟨suf, hsuf⟩ := hpre
          rw [List.map_append, List.append_assoc] at hsuf
          rw [← hsuf, List.find?_append, List.find?_eq_none.2 (fun z hz => by
            rw [List.mem_map] at hz
            obtain ⟨z', hz', rfl⟩ := hz
            rw [e2 z' hz']
            simp)] at y1
          simp only [List.map_cons, List.map_nil, List.cons_append, List.nil_append, List.find?_cons, e3, Option.none_or, Option.some.injEq] at y1
          rw [y3, ← y1]
        rw [hxn] at e4
        have HA4 := hid e4
        have hWs := hBar.1
        have hAc := e4.cell
        have hO4 := hBar.own hown (by omega)
        have hM4 := (hBar.2 w.heap.size (by omega) (by omega)).trans hbM
        have SH : Hid (Shuts w1.heap.size W (D :: Ds)) := (show Shuts w1.heap.size wr Ds from HS).cons (by omega) hK (by omega) (fun E hE => ((hBar.shuts HS (by omega)).2 E hE).2)
        have hnx8 := hbs.lt _ y4
        have HO := hid hO4
        have HBW := hid hBW
        have HCA := hid hcA
        clear hown hbA hcA HS hBar hO4 hBW
        have HY4 := hid y4
        have HND := hid ND
        clear y1 y2 y3 y4 y5 y6 ND hxn
        generalize nextR l cur b = nx at *
        gi_wp2_with (gi_at_builtin; refine wpListIn_append_own _ rfl _ _ 32 rfl w1.heap.size 3 i0 (.int .i64 0) 1 8 Try.underlying32 hi0 hz0 hz1 hz2 rfl (by decide) _ _ _ rfl (HO.out.alloc _) ⟨W.heap.size, 0, none⟩ 1 1 [.int .i64 (nx : Nat)] rfl rfl ?c1 ?c2 ?c3 ?c4 ?c5 ?_)
        case c1 => exact cell_one_new _ _ _
        case c2 => intro u hu; simp at hu; subst hu; rfl
        case c3 => unfold maxLen; simp; omega
        case c4 => simp; omega
        case c5 => simp; omega
        intro v' w4 hown' hgrow _
        have R3 := hid (Own.snoc (l := acc ++ [cur]) (s := nx) (by rw [List.length_append]; exact hown'))
        have R4 := hid (Own.grown (HO.out.mono (by omega : w.heap.size ≤ w1.heap.size)) HBW.out HBW.out.size hgrow)
        have SH4 : Hid (Shuts w1.heap.size w4 (D :: Ds)) := (SH.out.growL (World.grownBy_alloc W _ none) (fun k e => by cases e)).growL hgrow (fun k e => by
          obtain ⟨c1, t1, p1, hc1⟩ := own_rowL HO.out e
          exact ⟨c1, t1, p1, (Below.heap_alloc _ _ _ (Array.getElem?_eq_some_iff.1 hc1).1).trans hc1⟩)
        have lAw : w.heap.size + 1 < W.heap.size := by omega
        have hbA4 : Boxed w4 (w.heap.size + 1) 3 (.int .i64 nx) := (hgrow.block (w.heap.size + 1) (by simp; omega) (fun e => by
          obtain ⟨g, hg1, hg2⟩ : ∃ g, v.ownBlock = some g ∧ w1.heap.size ≤ g := by
            obtain ⟨_, h1⟩ := HO.out
            rcases h1 with ⟨rfl, _⟩ | ⟨g, _, _, rfl, h3, _⟩
            · cases e
            · exact ⟨g, rfl, h3⟩
          rw [hg1] at e
          cases e
          omega)).trans (HA4.out.alloc _)
        have hbM4 : w4.heap[w.heap.size]? = some (.cells #[.int .i64 m, .slice sa (N l).length scap] 34 (0, 0)) := (hgrow.block w.heap.size (by simp; omega) (fun e => by
          obtain ⟨g, hg1, hg2⟩ : ∃ g, v.ownBlock = some g ∧ w1.heap.size ≤ g := by
            obtain ⟨_, h1⟩ := HO.out
            rcases h1 with ⟨rfl, _⟩ | ⟨g, _, _, rfl, h3, _⟩
            · cases e
            · exact ⟨g, rfl, h3⟩
          rw [hg1] at e
          cases e
          omega)).trans ((Below.heap_alloc _ _ _ (by omega)).trans hM4)
        have hs4 : w1.heap.size ≤ w4.heap.size := by have := hgrow.size; simp at this; omega
        have hc4 := hbA4.cell
        clear hown' hgrow
        gi_wp2
        refine ⟨⟨nx, acc ++ [cur], D :: Ds, v', _, _, _, _, _, _, _, _, _, _, _, _, _, _, _, _, _, _, HY4.out, R3.out, ?_, ?_, SH4.out, R4.out, hbA4, hbM4, hs4, rfl⟩, ?_⟩
        · rw [List.length_append]
          have := HND.out.1
          simp
          omega
        · show _ = _
          rw [← HP.out, LS.out, List.append_assoc]
          rfl
        · rw [hc4, HCA.out]
          have := HND.out.1
          show pop (dif nx b) < pop (dif cur b)
          omega
end Go.Proofs.Ytimciginbiobmaa
