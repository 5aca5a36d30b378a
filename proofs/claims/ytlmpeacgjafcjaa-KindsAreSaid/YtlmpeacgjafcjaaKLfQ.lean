/- slices.IndexFunc: the first that is not nought; kinds.areFree. -/
import Derived.Test.YtlmpeacgjafcjaaKLnQ
import Derived.Test.YtlmpeacgjafcjaaSieveQ
import Derived.Test.YtlmpeacgjafcjaaOrdBQ
namespace Go.Proofs.Ytlmpeacgjafcjaa
open Go.RowKit

/-- The first place that is not nought, or -1. -/
def firstI (zs : List Int) (k : Nat) : Int := if k < zs.length then (if zs.getD k 0 != 0 then (k : Int) else firstI zs (k + 1)) else -1
termination_by zs.length - k
theorem firstI_end {zs : List Int} {k : Nat} (h : ¬ k < zs.length) : firstI zs k = -1 := by rw [firstI, if_neg h]
theorem firstI_hit {zs : List Int} {k : Nat} (h : k < zs.length) (hz : zs.getD k 0 ≠ 0) : firstI zs k = k := by rw [firstI, if_pos h, if_pos (by simpa using hz)]
theorem firstI_miss {zs : List Int} {k : Nat} (h : k < zs.length) (hz : zs.getD k 0 = 0) : firstI zs k = firstI zs (k + 1) := by rw [firstI, if_pos h, if_neg (by simp only [hz]; decide)]
theorem free1_any (x : Int) (w : World) : Calls Try.prog 38 #[.int .i64 x] w fun e w' => e = .returned (.bool (x != 0)) ∧ w' = w := by
  go_enter Try.func38, Try.ntmps38
  go_wp2_with fail
  go_ret
  exact ⟨rfl, rfl⟩
theorem enters_free1 : Enters 38 := fun args w => enters_of Try.func38 (by kernel_rfl) rfl args w
set_option maxRecDepth 20000 in
set_option maxHeartbeats 800000 in
theorem IndexFirst_any (v : Value) (zs : List Int) (w : World) (h : Ints w v zs) :
    Calls Try.prog 37 #[v, .func (.func 38) #[] #[]] w fun e w' => e = .returned (.int .i64 (firstI zs 0)) ∧ w' = w := by
  obtain ⟨a, cap, rfl, hlen, hc⟩ := h
  have eg := enters_free1
  unfold Enters at eg
  go_enter Try.func37, Try.ntmps37
  go_wp2_with fail
  go_loop [5, 8] (fun _ i => ∃ k : Nat, k ≤ zs.length ∧ i = .int .i64 k ∧ Hid (firstI zs 0 = firstI zs k)) (fun _ i => zs.length - (intOf i).toNat)
  case atStart => exact ⟨0, Nat.zero_le _, rfl, rfl⟩
  case round =>
    obtain ⟨k, hk, rfl, R⟩ := hrel
    by_cases hlt : k < zs.length
    · obtain ⟨b, off, rfl, hb, hcell⟩ := hc (by omega)
      have hck := hcell k hlt
      have HH := hid (fun w => free1_any (zs.getD k 0) w)
      have hki : (k : Int) < (zs.length : Int) := by omega
      have F1 := hid (fun hz => firstI_hit hlt hz)
      have F2 := hid (fun hz => firstI_miss hlt hz)
      clear hcell hc
      generalize zs.getD k 0 = x at *
      by_cases hx : x = 0
      · have hx' : (x != 0) = false := by rw [hx]; rfl
        have D2 : Hid (firstI zs 0 = firstI zs (k + 1)) := R.out.trans (F2.out hx)
        rw [hx'] at HH
        clear hx hx' F1 F2
        go_wp2_with fail
        refine (HH.out _).mono ?_
        rintro e w2 ⟨rfl, h2⟩
        obtain rfl := h2.symm
        go_wp2_with fail
        go_round
        case rel => exact ⟨k + 1, by omega, by go_num, D2.out⟩
        case measure => simp [intOf]; omega
      · have hx' : (x != 0) = true := by rw [bne_iff_ne]; exact hx
        have D2 : Hid (firstI zs 0 = (k : Int)) := R.out.trans (F1.out hx)
        rw [hx'] at HH
        clear hx hx' F1 F2
        go_wp2_with fail
        refine (HH.out _).mono ?_
        rintro e w2 ⟨rfl, h2⟩
        obtain rfl := h2.symm
        go_wp2_with fail
        go_ret
        exact ⟨by rw [D2.out]; rfl, rfl⟩
    · have D2 : Hid (firstI zs 0 = -1) := R.out.trans (firstI_end hlt)
      go_wp2_with fail
      go_ret
      exact ⟨by rw [D2.out]; rfl, rfl⟩
theorem first_lead (f : Nat → Int) : firstI ((List.range 6).map f) 0 = if leadN f = 6 then -1 else (leadN f : Int) := by
  have key : ∀ k, k ≤ 6 → (∀ r, r < k → f r = 0) → firstI ((List.range 6).map f) k = if leadN f = 6 then -1 else (leadN f : Int) := fun k hk => by
    induction hd : 6 - k generalizing k with
    | zero =>
      intro h0
      obtain rfl : k = 6 := by omega
      rw [firstI_end (by simp)]
      have : leadN f = 6 := Classical.byContradiction fun c => by
        obtain ⟨h1, h2⟩ := leadN_some c
        exact h2 (h0 _ h1)
      rw [if_pos this]
    | succ d ih =>
      intro h0
      have hlt : k < ((List.range 6).map f).length := by simp; omega
      have hg : ((List.range 6).map f).getD k 0 = f k := by simp [List.getD, show k < 6 by omega]
      by_cases hz : f k = 0
      · rw [firstI_miss hlt (by rw [hg]; exact hz)]
        exact ih (k + 1) (by omega) (by omega) fun r hr => by
          rcases Nat.lt_or_ge r k with h | h
          · exact h0 r h
          · obtain rfl : r = k := by omega
            exact hz
      · rw [firstI_hit hlt (by rw [hg]; exact hz)]
        have hl : leadN f = k := by
          have hne : leadN f ≠ 6 := fun e => hz (leadN_none e k (by omega))
          obtain ⟨h1, h2⟩ := leadN_some hne
          rcases Nat.lt_trichotomy (leadN f) k with h | h | h
          · exact absurd (h0 _ h) h2
          · exact h
          · exfalso
            unfold leadN at h
            cases e : (List.range 6).find? fun r => f r != 0 with
            | none =>
              have := List.find?_eq_none.1 e k (List.mem_range.2 (by omega))
              simp at this
              exact hz this
            | some x =>
              rw [e, Option.getD_some] at h
              have hh := List.find?_eq_some_iff_append.1 e
              obtain ⟨_, l1, l2, hab, has⟩ := hh
              have hmem : k ∈ l1 := by
                have hp : (l1 ++ x :: l2).Pairwise (· < ·) := by rw [← hab]; exact List.pairwise_lt_range
                have hk2 : k ∈ l1 ++ x :: l2 := by rw [← hab]; exact List.mem_range.2 (by omega)
                rw [List.mem_append, List.mem_cons] at hk2
                rcases hk2 with h3 | h3 | h3
                · exact h3
                · omega
                · rw [List.pairwise_append, List.pairwise_cons] at hp
                  have := hp.2.1.1 k h3
                  omega
              have := has k hmem
              simp at this
              exact hz this
        rw [if_neg (by omega), hl]
  exact key 0 (by omega) (fun r hr => by omega)
/-- A block that holds columns, one behind the other. -/
def ColsAt (W : World) (g L : Nat) (o : Nat → Nat → Int) : Prop := ∃ cur : Array Value, W.heap[g]? = some (.cells cur 62 (0, 0)) ∧ ∀ k, k < L → ∀ r, r < 6 → cur[k * 6 + r]? = some (.int .i64 (o k r))
theorem ColsAt.cell {W : World} {g L : Nat} {o : Nat → Nat → Int} (h : ColsAt W g L o) {k r : Nat} (hk : k < L) (hr : r < 6) : W.cell? ⟨g, k * 6 + r, none⟩ = some (.int .i64 (o k r)) := by
  obtain ⟨cur, h1, h2⟩ := h
  simp only [World.cell?, h1]
  exact h2 k hk r hr
theorem ColsAt.frozen {W : World} {g L : Nat} {o : Nat → Nat → Int} (h : ColsAt W g L o) (i : Nat) : W.frozen? ⟨g, i, none⟩ = false := by
  obtain ⟨cur, h1, h2⟩ := h
  simp [World.frozen?, h1]
theorem ColsAt.lt {W : World} {g L : Nat} {o : Nat → Nat → Int} (h : ColsAt W g L o) : g < W.heap.size := by
  obtain ⟨cur, h1, h2⟩ := h
  exact (Array.getElem?_eq_some_iff.1 h1).1
theorem ColsAt.below {W W' : World} {g L : Nat} {o : Nat → Nat → Int} (h : ColsAt W g L o) (hb : Below W.heap.size W W') : ColsAt W' g L o := by
  have hl := h.lt
  obtain ⟨cur, h1, h2⟩ := h
  exact ⟨cur, (hb.block g hl).trans h1, h2⟩
theorem ColAt.ints {W : World} {g : Nat} {f : Nat → Int} (h : ColAt W g f) : Ints W (.slice (some ⟨g, 0, none⟩) 6 6) ((List.range 6).map f) := by
  refine ⟨_, _, by rw [List.length_map, List.length_range], by rw [List.length_map, List.length_range]; decide, fun _ => ⟨g, 0, rfl, h.lt, fun i hi => ?_⟩⟩
  rw [List.length_map, List.length_range] at hi
  rw [Nat.zero_add, h.cell hi]
  simp [List.getD, hi]
/-- A column is stored among columns. -/
def putC (W : World) (g k : Nat) (x : Nat → Int) : World := (((((W.setCell ⟨g, k * 6, none⟩ (.int .i64 (x 0))).setCell ⟨g, k * 6 + 1, none⟩ (.int .i64 (x 1))).setCell ⟨g, k * 6 + 2, none⟩ (.int .i64 (x 2))).setCell ⟨g, k * 6 + 3, none⟩ (.int .i64 (x 3))).setCell ⟨g, k * 6 + 4, none⟩ (.int .i64 (x 4))).setCell ⟨g, k * 6 + 5, none⟩ (.int .i64 (x 5))
theorem ColsAt.set {W : World} {g L : Nat} {o : Nat → Nat → Int} (h : ColsAt W g L o) {k r : Nat} (hk : k < L) (hr : r < 6) (x : Int) : ColsAt (W.setCell ⟨g, k * 6 + r, none⟩ (.int .i64 x)) g L (fun k' r' => if k' = k ∧ r' = r then x else o k' r') := by
  obtain ⟨cur, h1, h2⟩ := h
  refine ⟨cur.setIfInBounds (k * 6 + r) (.int .i64 x), ?_, fun k' hk' r' hr' => ?_⟩
  · simp only [World.setCell, Array.getElem?_modify, ↓reduceIte, h1, Option.map_some]
    rfl
  · rw [Array.getElem?_setIfInBounds]
    have hin := h2 k hk r hr
    have hsz : k * 6 + r < cur.size := (Array.getElem?_eq_some_iff.1 hin).1
    by_cases e : k' = k ∧ r' = r
    · obtain ⟨rfl, rfl⟩ := e
      rw [if_pos rfl, if_pos hsz]
      show _ = some (Value.int .i64 (if _ then _ else _))
      rw [if_pos ⟨rfl, rfl⟩]
    · rw [if_neg (by omega)]
      show _ = some (Value.int .i64 (if _ then _ else _))
      rw [if_neg e]
      exact h2 k' hk' r' hr'
theorem ColsAt.congr {W : World} {g L : Nat} {o o' : Nat → Nat → Int} (h : ColsAt W g L o) (ho : ∀ k, k < L → ∀ r, r < 6 → o k r = o' k r) : ColsAt W g L o' := by
  obtain ⟨cur, h1, h2⟩ := h
  exact ⟨cur, h1, fun k hk r hr => by rw [← ho k hk r hr]; exact h2 k hk r hr⟩
theorem ColsAt.putC {W : World} {g L : Nat} {o : Nat → Nat → Int} (h : ColsAt W g L o) {k : Nat} (hk : k < L) (x : Nat → Int) : ColsAt (putC W g k x) g L (fun k' r => if k' = k then x r else o k' r) := by
  have h0 := h.set hk (r := 0) (by omega) (x 0)
  rw [Nat.add_zero] at h0
  refine (((((h0.set hk (r := 1) (by omega) (x 1)).set hk (r := 2) (by omega) (x 2)).set hk (r := 3) (by omega) (x 3)).set hk (r := 4) (by omega) (x 4)).set hk (r := 5) (by omega) (x 5)).congr fun k' _ r hr => ?_
  by_cases e : k' = k
  · subst e
    have : r = 0 ∨ r = 1 ∨ r = 2 ∨ r = 3 ∨ r = 4 ∨ r = 5 := by omega
    rcases this with rfl | rfl | rfl | rfl | rfl | rfl <;> simp
  · simp [e]
theorem below_putC {B : Nat} {w W : World} {g k : Nat} (x : Nat → Int) (h : Below B w W) (hg : B ≤ g) : Below B w (putC W g k x) :=
  (((((h.setCell (p := ⟨g, k * 6, none⟩) hg _).setCell (p := ⟨g, k * 6 + 1, none⟩) hg _).setCell (p := ⟨g, k * 6 + 2, none⟩) hg _).setCell (p := ⟨g, k * 6 + 3, none⟩) hg _).setCell (p := ⟨g, k * 6 + 4, none⟩) hg _).setCell (p := ⟨g, k * 6 + 5, none⟩) hg _
theorem ColAt.putC {W : World} {c g k : Nat} {f : Nat → Int} (h : ColAt W c f) (hne : c ≠ g) (x : Nat → Int) : ColAt (putC W g k x) c f :=
  (((((h.other hne _ _).other hne _ _).other hne _ _).other hne _ _).other hne _ _).other hne _ _
theorem ColsAt.six {W : World} {g L : Nat} {o : Nat → Nat → Int} (h : ColsAt W g L o) {k : Nat} (hk : k < L) : (W.cell? ⟨g, k * 6, none⟩ = some (.int .i64 (o k 0)) ∧ W.cell? ⟨g, k * 6 + 1, none⟩ = some (.int .i64 (o k 1)) ∧ W.cell? ⟨g, k * 6 + 2, none⟩ = some (.int .i64 (o k 2))) ∧ W.cell? ⟨g, k * 6 + 3, none⟩ = some (.int .i64 (o k 3)) ∧ W.cell? ⟨g, k * 6 + 4, none⟩ = some (.int .i64 (o k 4)) ∧ W.cell? ⟨g, k * 6 + 5, none⟩ = some (.int .i64 (o k 5)) :=
  ⟨⟨h.cell hk (r := 0) (by omega), h.cell hk (by omega), h.cell hk (by omega)⟩, h.cell hk (by omega), h.cell hk (by omega), h.cell hk (by omega)⟩
theorem ColsAt.other6 {W : World} {g g' L : Nat} {o : Nat → Nat → Int} (h : ColsAt W g L o) (hne : g ≠ g') (x : Nat → Int) : ColsAt (put6 W g' x) g L o := by
  have hb : (put6 W g' x).heap[g]? = W.heap[g]? := by
    unfold put6
    rw [Below.heap_setCell _ _ _ _ (by simpa using hne), Below.heap_setCell _ _ _ _ (by simpa using hne), Below.heap_setCell _ _ _ _ (by simpa using hne), Below.heap_setCell _ _ _ _ (by simpa using hne), Below.heap_setCell _ _ _ _ (by simpa using hne), Below.heap_setCell _ _ _ _ (by simpa using hne)]
  obtain ⟨cur, h1, h2⟩ := h
  exact ⟨cur, hb.trans h1, h2⟩
def freeTo (p : Int) (o : Nat → Nat → Int) (L : Nat) : Bool := (List.range L).all fun i => leadN (elimV p o i i) != 6
theorem freeTo_iff (p : Int) (o : Nat → Nat → Int) (L : Nat) : freeTo p o L = true ↔ ∀ i, i < L → leadN (elimV p o i i) ≠ 6 := by
  unfold freeTo
  rw [List.all_eq_true]
  exact ⟨fun h i hi => by simpa using h i (List.mem_range.2 hi), fun h i hi => by simpa using h i (List.mem_range.1 hi)⟩
set_option maxRecDepth 20000 in
set_option maxHeartbeats 4000000 in
theorem areFree_any {p : Int} (hp : isP p) (B g L cap : Nat) {o : Nat → Nat → Int} (ho : ∀ k r, 0 ≤ o k r ∧ o k r < p) (w : World) (h : ColsAt w g L o) (hB : B ≤ g) (hL : L ≤ 8) :
    Calls Try.prog 21 #[.int .i64 p, .slice (some ⟨g, 0, none⟩) L cap] w fun e w' => e = .returned (.bool (freeTo p o L)) ∧ Below B w w' := by
  have HP := hid hp
  have HO := hid ho
  have HC := hid h
  have HL := hid h.lt
  clear hp ho h
  go_enter Try.func21, Try.ntmps21
  go_wp2_with fail
  go_loopw [5, 6, 7, 8, 11] (fun _ _ _ _ i wr => ∃ j : Nat, j ≤ L ∧ i = .int .i64 j ∧ Hid (ColsAt wr g L (elimV p o j)) ∧ Hid (∀ i, i < j → leadN (elimV p o i i) ≠ 6) ∧ Hid (Below B w wr)) (fun _ _ _ _ i _ => L - (intOf i).toNat)
  case atStart => exact ⟨0, Nat.zero_le _, rfl, HC.out, fun i hi => absurd hi (Nat.not_lt_zero i), Below.refl _ _⟩
  case round =>
    obtain ⟨j, hj, rfl, HJ, HA, HW⟩ := hrel
    clear HC
    by_cases hlt : j < L
    · have hji : (j : Int) < (L : Int) := by omega
      obtain ⟨⟨c0, c1, c2⟩, c3, c4, c5⟩ := HJ.out.six hlt
      obtain ⟨F, hF⟩ : ∃ F, elimV p o j j = F := ⟨_, rfl⟩
      rw [hF] at c0 c1 c2 c3 c4 c5
      have HF := hid hF
      clear hF
      have hgl := HJ.out.lt
      have HI : Hid (∀ r, 0 ≤ F r ∧ F r < p) := by
        have := elimV_in HP.out HO.out j j
        rw [HF.out] at this
        exact this
      have HN := hid (ColAt.new wr F)
      have HJ2 := hid (HJ.out.below ((Below.refl _ wr).alloc (Nat.le_refl _) (.cells (colC F) 62)))
      have HW2 := hid (HW.out.alloc (show B ≤ wr.heap.size by omega) (.cells (colC F) 62))
      clear HJ HW
      unfold colC at HN HJ2 HW2
      obtain ⟨W1, HW1⟩ : ∃ W1, Hid (wr.alloc (.cells #[.int .i64 (F 0), .int .i64 (F 1), .int .i64 (F 2), .int .i64 (F 3), .int .i64 (F 4), .int .i64 (F 5)] 62) = W1) := ⟨_, rfl⟩
      go_wp2_with fail
      rw [HW1.out] at HN HJ2 HW2 ⊢
      clear HW1 c0 c1 c2 c3 c4 c5
      generalize wr.heap.size = cb at *
      have HX := hid (IndexFirst_any _ _ W1 HN.out.ints)
      rw [first_lead] at HX
      by_cases h6 : leadN F = 6
      · rw [if_pos h6] at HX
        refine HX.out.mono ?_
        rintro e w2 ⟨rfl, h2⟩
        obtain rfl := h2.symm
        have HR : Hid (freeTo p o L = false) := by
          rw [Hid, Bool.eq_false_iff]
          intro c
          have := (freeTo_iff p o L).1 c j hlt
          rw [HF.out] at this
          exact this h6
        clear HX h6
        go_wp2_with fail
        go_ret
        exact ⟨by rw [HR.out]; rfl, HW2.out⟩
      · rw [if_neg h6] at HX
        obtain ⟨k0, hk0⟩ : ∃ k0, leadN F = k0 := ⟨_, rfl⟩
        obtain ⟨hk6, hkn⟩ := leadN_some h6
        rw [hk0] at HX hk6 hkn
        refine HX.out.mono ?_
        rintro e w2 ⟨rfl, h2⟩
        obtain rfl := h2.symm
        have HK := hid hk0
        have H6 := hid h6
        clear HX h6 hk0
        have hk0i : ¬ (k0 : Int) < 0 := by omega
        have hw1 : IntKind.i64.wrap ((j : Int) + 1) = ((j + 1 : Nat) : Int) := by rw [IntWalk.i64_in _ (by omega)]; omega
        go_wp2_with fail
        go_loopw [8] (fun i wr2 => ∃ k : Nat, j + 1 ≤ k ∧ k ≤ L ∧ i = .int .i64 k ∧ Hid (ColsAt wr2 g L (fun m r => if m < k then elimV p o (j + 1) m r else elimV p o j m r)) ∧ Hid (ColAt wr2 cb F) ∧ Hid (Below B w wr2)) (fun i _ => L - (intOf i).toNat)
        case atStart => exact ⟨j + 1, Nat.le_refl _, by omega, by go_num, HJ2.out.congr fun m _ r _ => by
            by_cases e : m < j + 1
            · rw [if_pos e]
              show elimV p o j m r = (if j < m then _ else elimV p o j m) r
              rw [if_neg (by omega)]
            · rw [if_neg e], HN.out, HW2.out⟩
        case round =>
          obtain ⟨k, hk1, hk2, rfl, HJ, HC, HB⟩ := hrel
          clear HJ2 HN HW2
          by_cases hlk : k < L
          · have hki : (k : Int) < (L : Int) := by omega
            obtain ⟨⟨c0, c1, c2⟩, c3, c4, c5⟩ := HJ.out.six hlk
            simp only [Nat.lt_irrefl, if_false] at c0 c1 c2 c3 c4 c5
            obtain ⟨⟨d0, d1, d2⟩, d3, d4, d5⟩ := HC.out.six
            obtain ⟨G, hG⟩ : ∃ G, elimV p o j k = G := ⟨_, rfl⟩
            obtain ⟨H, hH⟩ : ∃ H, clrF p G F k0 = H := ⟨_, rfl⟩
            have HI2 : Hid (∀ r, 0 ≤ G r ∧ G r < p) := by
              have := elimV_in HP.out HO.out j k
              rw [hG] at this
              exact this
            have HE : Hid (elimV p o (j + 1) k = H) := by
              show (if j < k then _ else _) = _
              rw [if_pos (by omega), hG, HF.out, HK.out, hH]
            have HH := hid fun w => cleared_any p G F k0 w HP.out.pos hk6 HI2.out HI.out
            rw [hG] at c0 c1 c2 c3 c4 c5
            rw [hH] at HH
            unfold colV colC at HH
            clear hG hH HI2
            have G1 : Hid (∀ w4, Below wr.heap.size wr w4 → ColsAt (putC w4 g k H) g L (fun m r => if m < k + 1 then elimV p o (j + 1) m r else elimV p o j m r) ∧ ColAt (putC w4 g k H) cb F ∧ Below B w (putC w4 g k H)) := fun w4 hb4 => by
              refine ⟨((HJ.out.below hb4).putC hlk H).congr fun m _ r _ => ?_, (HC.out.below hb4).putC (by omega) H, below_putC H (HB.out.trans (hb4.mono (Nat.le_trans hB (Nat.le_of_lt HJ.out.lt)))) hB⟩
              by_cases e : m = k
              · subst e; rw [if_pos rfl, if_pos (by omega), HE.out]
              · rw [if_neg e]
                by_cases e2 : m < k
                · rw [if_pos e2, if_pos (by omega)]
                · rw [if_neg e2, if_neg (by omega)]
            have G2 : Hid (∀ w4, Below wr.heap.size wr w4 → ∀ i, w4.frozen? ⟨g, i, none⟩ = false) := fun w4 hb4 i => (HJ.out.below hb4).frozen i
            have G3 : Hid (∀ w4, Below wr.heap.size wr w4 → ColsAt w4 g L (fun m r => if m < k then elimV p o (j + 1) m r else elimV p o j m r)) := fun w4 hb4 => HJ.out.below hb4
            have hw2 : IntKind.i64.wrap ((k : Int) + 1) = ((k + 1 : Nat) : Int) := by rw [IntWalk.i64_in _ (by omega)]; omega
            clear HJ HC HB HE
            unfold putC at G1
            go_wp2_with fail
            go_region_with (go_at_call 39; refine (HH.out _).mono ?_; rintro e w4 ⟨rfl, hb4⟩; have HB4 : Hid (Below wr.heap.size wr w4) := (Below.refl _ wr).drew.trans hb4; clear hb4; have f0 := G2.out _ HB4.out (k * 6); have f1 := G2.out _ HB4.out (k * 6 + 1); have f2 := G2.out _ HB4.out (k * 6 + 2); have f3 := G2.out _ HB4.out (k * 6 + 3); have f4 := G2.out _ HB4.out (k * 6 + 4); have f5 := G2.out _ HB4.out (k * 6 + 5); obtain ⟨⟨c0, c1, c2⟩, c3, c4, c5⟩ := (G3.out _ HB4.out).six hlk)
            all_goals go_wp2_with fail
            all_goals exact ⟨⟨k + 1, by omega, by omega, by go_num, (G1.out _ HB4.out).1, (G1.out _ HB4.out).2.1, (G1.out _ HB4.out).2.2⟩, by simp [intOf]; omega⟩
          · have hke : k = L := by omega
            have hki : ¬ (k : Int) < (L : Int) := by omega
            have HJ5 : Hid (ColsAt wr g L (elimV p o (j + 1))) := HJ.out.congr fun m hm r _ => by rw [if_pos (by omega)]
            have HA5 : Hid (∀ i, i < j + 1 → leadN (elimV p o i i) ≠ 6) := fun i hi => by
              by_cases e : i = j
              · subst e; rw [HF.out]; exact H6.out
              · exact HA.out i (by omega)
            clear HJ HA HC
            go_wp2_with fail
            exact ⟨⟨j + 1, by omega, by go_num, HJ5.out, HA5.out, HB.out⟩, by simp [intOf]; omega⟩
    · have hje : j = L := by omega
      have hji : ¬ (j : Int) < (L : Int) := by omega
      have HR : Hid (freeTo p o L = true) := (freeTo_iff p o L).2 fun i hi => HA.out i (by omega)
      clear HA HJ
      go_wp2_with fail
      go_ret
      exact ⟨by rw [HR.out]; rfl, HW.out⟩
set_option maxRecDepth 20000 in
theorem areFree_nil (p : Int) (w : World) : Calls Try.prog 21 #[.int .i64 p, .slice none 0 0] w fun e w' => e = .returned (.bool true) ∧ w' = w := by
  go_enter Try.func21, Try.ntmps21
  go_wp2_with fail
  go_loop [11] (fun i => i = .int .i64 0) (fun _ => 0)
  case atStart => rfl
  case round =>
    obtain rfl := hrel
    go_wp2_with fail
    go_ret
    exact ⟨rfl, rfl⟩
end Go.Proofs.Ytlmpeacgjafcjaa
