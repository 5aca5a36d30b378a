/- Tables of truths; same.isNoGreater; slices.Clone at []bool; Canon's own functions. -/
import Derived.Test.YthlmnhcnpffjdaaOrdMQ
import Derived.Test.YthlmnhcnpffjdaaPlainAll
namespace Go.Proofs.Ythlmnhcnpffjdaa
open Go.RowKit

/-- The block g holds p's truths, T of them or more. -/
def BT (T : Nat) (W : World) (g : Nat) (p : Nat → Bool) : Prop := ∃ cur : Array Value, W.heap[g]? = some (.cells cur 4 (0, 0)) ∧ ∀ s, s < T → cur[s]? = some (.bool (p s))
theorem BT.lt {T : Nat} {W : World} {g : Nat} {p : Nat → Bool} (h : BT T W g p) : g < W.heap.size := by
  obtain ⟨cur, h1, _⟩ := h
  exact (Array.getElem?_eq_some_iff.1 h1).1
theorem BT.same {T : Nat} {W W' : World} {g : Nat} {p : Nat → Bool} (h : BT T W g p) (e : W'.heap[g]? = W.heap[g]?) : BT T W' g p := by
  obtain ⟨cur, h1, h2⟩ := h
  exact ⟨cur, e.trans h1, h2⟩
theorem BT.save {X : Nat → Prop} {T : Nat} {W W' : World} {g : Nat} {p : Nat → Bool} (h : BT T W g p) (hs : Save X W W') (hx : ¬ X g) : BT T W' g p := h.same (hs.block g h.lt hx)
theorem BT.below {T : Nat} {W W' : World} {g : Nat} {p : Nat → Bool} (h : BT T W g p) (hb : Below W.heap.size W W') : BT T W' g p := h.same (hb.block g h.lt)
theorem BT.cell {T : Nat} {W : World} {g s : Nat} {p : Nat → Bool} (h : BT T W g p) (hs : s < T) : W.cell? ⟨g, s, none⟩ = some (.bool (p s)) := by
  obtain ⟨cur, h1, h2⟩ := h
  simp only [World.cell?, h1]
  exact h2 s hs
theorem BT.frozen {T : Nat} {W : World} {g s : Nat} {p : Nat → Bool} (h : BT T W g p) : W.frozen? ⟨g, s, none⟩ = false := by
  obtain ⟨cur, h1, _⟩ := h
  simp [World.frozen?, h1]
theorem BT.put {T : Nat} {W : World} {g j : Nat} {p q : Nat → Bool} {x : Bool} (h : BT T W g p) (hq : ∀ s, s < T → q s = if s = j then x else p s) : BT T (W.setCell ⟨g, j, none⟩ (.bool x)) g q := by
  obtain ⟨cur, h1, h2⟩ := h
  refine ⟨cur.set! j (.bool x), ?_, fun s hs => ?_⟩
  · obtain ⟨hlt, hk⟩ := Array.getElem?_eq_some_iff.1 h1
    simp only [World.setCell, Array.getElem?_modify, ↓reduceIte, h1, Option.map_some]
    rfl
  · have hlt : s < cur.size := (Array.getElem?_eq_some_iff.1 (h2 s hs)).1
    rw [hq s hs, Array.set!_eq_setIfInBounds, Array.getElem?_setIfInBounds]
    by_cases e : j = s
    · subst e
      simp [hlt]
    · rw [if_neg e, if_neg (fun c => e c.symm), h2 s hs]
theorem BT.congr {T : Nat} {W : World} {g : Nat} {p q : Nat → Bool} (h : BT T W g p) (e : ∀ s, s < T → p s = q s) : BT T W g q := by
  obtain ⟨cur, h1, h2⟩ := h
  exact ⟨cur, h1, fun s hs => by rw [← e s hs]; exact h2 s hs⟩
set_option maxHeartbeats 1000000 in
theorem isNoGreater_ok (n gN gI B gB gL cB cL : Nat) (p : List Nat) (pB pL : Nat → Bool) (w : World) (hn : n ≤ 8) (hp : p.length ≤ n) (hb : Beg n p) (hO : OrdAt B w gN gI n p) (hB : BT (2 ^ n) w gB pB) (hL : BT (2 ^ n) w gL pL) :
    Calls Try.prog 47 #[.slice (some ⟨gI, 0, none⟩) (2 ^ p.length) (2 ^ n), .slice (some ⟨gB, 0, none⟩) (2 ^ n) cB, .slice (some ⟨gL, 0, none⟩) (2 ^ n) cL] w fun e w' => e = .returned (.bool (noGr (fun s => pB (image p s)) pL (List.range (2 ^ p.length)))) ∧ Below w.heap.size w w' := by
  have hgI := hO.img.lt.2
  have HC : Hid (∀ s, s < 2 ^ p.length → w.cell? ⟨gI, s, none⟩ = some (.int .i64 (image p s : Nat)) ∧ image p s < 2 ^ n ∧ s < 2 ^ n) := fun s hs => by
    have h1 := hO.img.at (i := s) (by rw [imgs_len _ p rfl]; exact hs)
    rw [imgs_at _ p rfl s hs] at h1
    exact ⟨h1, hb.image_lt s, Nat.lt_of_lt_of_le hs (Nat.pow_le_pow_right (by decide) hp)⟩
  have HF : Hid (∀ i, i < 2 ^ p.length → (∀ t, t < i → pB (image p t) = pL t) → pB (image p i) ≠ pL i → noGr (fun s => pB (image p s)) pL (List.range (2 ^ p.length)) = pB (image p i)) := fun i h1 h2 h3 => noGr_first h1 h2 h3
  have HE : Hid ((∀ t, t < 2 ^ p.length → pB (image p t) = pL t) → noGr (fun s => pB (image p s)) pL (List.range (2 ^ p.length)) = true) := fun h => noGr_all h
  have hK8 : 2 ^ p.length ≤ 2 ^ n := Nat.pow_le_pow_right (by decide) hp
  have hT := (pow_wrap n hn).2
  have HB := hid hB
  have HL := hid hL
  have hgB := hB.lt
  have hgL := hL.lt
  clear hO hb hB hL
  generalize noGr (fun s => pB (image p s)) pL (List.range (2 ^ p.length)) = R at *
  generalize 2 ^ p.length = K at *
  generalize 2 ^ n = T at *
  go_enter Try.func47, Try.ntmps47
  go_wp2_with fail
  go_loopw [11] (fun j wr => ∃ i : Nat, j = .int .i64 i ∧ i ≤ K ∧ Hid (∀ s, s < i → pB (image p s) = pL s) ∧ Hid (Below w.heap.size w wr)) (fun j _ => K - (intOf j).toNat)
  case atStart => exact ⟨0, rfl, Nat.zero_le _, fun s h1 => by omega, Below.refl _ _⟩
  case round =>
    obtain ⟨i, rfl, h2, HA, HW⟩ := hrel
    by_cases hlt : i < K
    · have hlt' : (i : Int) < (K : Int) := by omega
      obtain ⟨hc, hi1, hi2⟩ := HC.out i hlt
      have hmeas : K - (i + 1) < K - i := by omega
      have c1 := (HW.out.cell (p := ⟨gI, i, none⟩) hgI).trans hc
      have c2 := (HW.out.cell (p := ⟨gB, image p i, none⟩) hgB).trans (HB.out.cell hi1)
      have c3 := (HW.out.cell (p := ⟨gL, i, none⟩) hgL).trans (HL.out.cell hi2)
      have HWD : Hid (∀ q, Below w.heap.size w (wr.drewN q)) := fun q => HW.out.trans ⟨rfl, rfl, rfl, Nat.le_refl _, fun _ _ => rfl⟩
      have HWC : Hid (∀ q, (wr.drewN q).cell? ⟨gB, image p i, none⟩ = some (.bool (pB (image p i)))) := fun q => c2
      have hi1' : (image p i : Int) < (T : Int) := by omega
      have hi2' : (i : Int) < (T : Int) := by omega
      have HA2 : Hid (pB (image p i) = pL i → ∀ s, s < i + 1 → pB (image p s) = pL s) := fun e s hs => by
        by_cases c : s < i
        · exact HA.out s c
        · obtain rfl : s = i := by omega
          exact e
      have HN := hid (HF.out i hlt HA.out)
      clear HC HB HL hc HF HE HA
      generalize hy : image p i = y at *
      generalize hA : pB y = a at *
      generalize hB2 : pL i = b at *
      clear hy hA hB2
      by_cases hab : a = b
      · have hab' : (a != b) = false := by simp [hab]
        have HA3 := hid (HA2.out hab)
        clear HA2 HN
        subst hab
        go_wp2_with fail
        go_quiet (fail)
        go_wp2_with fail
        go_roundw
        case rel => exact ⟨i + 1, by go_num, hlt, HA3, HWD.out _⟩
        case measure => exact hmeas
      · have HN2 := hid (HN.out hab)
        have hab2 : b = !a := by cases a <;> cases b <;> simp_all
        clear hab HA2 HN
        subst hab2
        go_wp2_with fail
        go_quiet (fail)
        have c4 := HWC.out
        cases a <;> (go_wp2_with fail; go_ret; exact ⟨ret_bool (by rw [HN2.out]), HWD.out _⟩)
    · obtain rfl : i = K := by omega
      have hlt' : ¬ (i : Int) < (i : Int) := by omega
      have HT2 := hid (HE.out HA.out)
      clear HC HF HE
      go_wp2_with fail
      go_ret
      exact ⟨ret_bool (by rw [HT2.out]), HW.out⟩
end Go.Proofs.Ythlmnhcnpffjdaa
