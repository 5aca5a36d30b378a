/- minors.oldNames. -/
import Derived.Test.YtgdcfogikchjeaaQuietW
import Derived.Test.YtgdcfogikchjeaaPlainAll
import Derived.Deep.QuietTactic
import Derived.BigQuiet
import Derived.Test.YtgdcfogikchjeaaRanksWW
namespace Go.Proofs.Ytgdcfogikchjeaa
open Go.RowKit Go.Shelf
attribute [local go_sem] Oper.semAt_some

theorem odd_fact : ∀ q : Nat, q < 256 → bits BinOp.and IntKind.i64 (q : Int) 1 = if q.testBit 0 = true then 1 else 0 := by decide +kernel
theorem half_bit (t k : Nat) : (t / 2 ^ k).testBit 0 = t.testBit k := by rw [Nat.testBit_div_two_pow]; simp
theorem half_succ (t k : Nat) : t / 2 ^ k / 2 = t / 2 ^ (k + 1) := by rw [Nat.div_div_eq_div_mul, Nat.pow_succ]

theorem boxed_ownF {β : Type} (B : Nat) (t : TypeId) (f : β → Value) : Go.Own (fun (s : β) W => Boxed W B t (f s)) := by
  rintro s X Y row hv hg hrow
  refine hv.kept hg (fun e' => ?_)
  obtain ⟨o, ho, hc⟩ := hrow B e'.symm
  rw [show X.heap[B]? = _ from hv] at ho; cases ho; cases hc
theorem boxed_apart {W : World} {B B' : Nat} {t : TypeId} {v : Value} (h : Boxed W B t v) (x : Value) (hne : B ≠ B') : Boxed (W.setCell ⟨B', 0, none⟩ x) B t v := h.kept (grownBy_setCell' _ _ _) (by simpa using hne)
/-- What has been reckoned, and what is left of t, when some have come. -/
def oldTo {c : Nat} (t : Nat) (pre : List (El c)) : Nat := old (pre.map (·.1)) t
def hlfTo {c : Nat} (t : Nat) (pre : List (El c)) : Nat := t / 2 ^ pre.length
theorem oldTo_snoc {c : Nat} (t : Nat) (pre : List (El c)) (x : El c) : oldTo t (pre ++ [x]) = if t.testBit pre.length = true then oldTo t pre ||| bt x.1 else oldTo t pre := by
  unfold oldTo
  rw [List.map_append, show [x].map (·.1) = [x.1] from rfl, old_snoc, List.length_map]
  rfl
theorem hlfTo_snoc {c : Nat} (t : Nat) (pre : List (El c)) (x : El c) : hlfTo t (pre ++ [x]) = hlfTo t pre / 2 := by
  unfold hlfTo
  rw [half_succ, List.length_append]
  rfl
theorem oldTo_lt {c : Nat} (t : Nat) (pre : List (El c)) : oldTo t pre < 256 := old_lt (fun i hi => by
  rw [List.mem_map] at hi
  obtain ⟨y, _, rfl⟩ := hi
  exact el_lt y) t
set_option maxRecDepth 100000 in
set_option maxHeartbeats 2000000 in
theorem oldN_any (t c : Nat) (w : World) (ht : t < 256) (hc8 : c < 256) :
    Calls Try.prog 72 #[.int .i64 t, .int .i64 c] w fun e w' => e = .returned (.int .i64 (old (els c) t : Nat)) ∧ Below w.heap.size w w' := by
  refine (callsIn_wide (n := 6)).1 ?_
  refine callsIn_of_wp_marks Try.func72 rfl trivial ?_ rfl
  simp only [Try.ntmps72, List.size_toArray, List.length_cons, List.length_nil, Nat.reduceAdd, Nat.reduceSub, Array.replicate_succ, Array.replicate_zero, List.push_toArray, List.append_toArray, List.nil_append, List.cons_append]
  gi_wp2_with (refine ⟨trivial, ?_⟩; gi_at_call 42; refine (callsIn_wide.2 (sing_any c _)).mono ?_; rintro e w' ⟨rfl, rfl⟩)
  have b0 := ((Boxed.new w 3 (.int .i64 t)).alloc (.cells #[.int .i64 0] 3)).alloc (.cells #[.int .i64 c] 3)
  have b1 := (Boxed.new (w.alloc (.cells #[.int .i64 t] 3)) 3 (.int .i64 0)).alloc (.cells #[.int .i64 c] 3)
  have b2 := Boxed.new ((w.alloc (.cells #[.int .i64 t] 3)).alloc (.cells #[.int .i64 0] 3)) 3 (.int .i64 c)
  have hB0 : Below w.heap.size w (((w.alloc (.cells #[.int .i64 t] 3)).alloc (.cells #[.int .i64 0] 3)).alloc (.cells #[.int .i64 c] 3)) := (((Below.refl _ w).alloc (Nat.le_refl _) _).alloc (by simp) _).alloc (by simp; omega) _
  have hsz : (((w.alloc (.cells #[.int .i64 t] 3)).alloc (.cells #[.int .i64 0] 3)).alloc (.cells #[.int .i64 c] 3)).heap.size = w.heap.size + 3 := by simp
  rw [World.size_alloc] at b1
  rw [World.size_alloc, World.size_alloc] at b2
  revert b0 b1 b2 hB0 hsz
  generalize (((w.alloc (.cells #[.int .i64 t] 3)).alloc (.cells #[.int .i64 0] 3)).alloc (.cells #[.int .i64 c] 3)) = W0
  intro b0 b1 b2 hB0 hsz
  refine wpIn_rangeFunc_ownF rfl (by decide) (gf := 59) (lb := #[.pointer (some ⟨w.heap.size + 1 + 1, 0, none⟩)]) rfl trivial (enters_of Try.func59 (by kernel_rfl) rfl)
    (sing_stops 5 (by decide) c (w.heap.size + 1 + 1) hc8 _ (by omega) b2.cell) (fun _ _ => trivial) (fun _ _ _ _ _ _ _ _ => trivial) (Below.refl _ _) (fun _ => rfl)
    (fun pre W => (Boxed W w.heap.size 3 (.int .i64 (hlfTo t pre : Nat)) ∧ Boxed W (w.heap.size + 1) 3 (.int .i64 (oldTo t pre : Nat))) ∧ Below w.heap.size w W)
    (fun _ _ _ => False)
    (OwnFrom.and (OwnFrom.and ((boxed_ownF _ _ _).from _) ((boxed_ownF _ _ _).from _)) (ownFrom_below (Nat.le_refl _) (by omega)))
    (fun _ _ _ _ _ hs _ _ => hs)
    ⟨⟨by rw [show hlfTo t ([] : List (El c)) = t by unfold hlfTo; simp]; exact b0, b1⟩, hB0⟩
    (fun x => { tmps := #[.int .i64 t, .int .i64 c, .pointer (some ⟨w.heap.size, 0, none⟩), undef, .int .i64 0, .pointer (some ⟨w.heap.size + 1, 0, none⟩), .int .i64 (bt x.1 : Nat), .int .i64 c, .func (.func 59) #[] #[.pointer (some ⟨w.heap.size + 1 + 1, 0, none⟩)], .int .i64 (bt x.1 : Nat), undef, undef, undef, undef, undef, undef, undef, undef, undef], defers := [] }) ?assign ?body ?done ?stop
  case assign =>
    intro l x W K hK
    dsimp only [enc1]
    gi_wp2
    exact hK
  case body =>
    rintro l pre x W ⟨⟨h0, h1⟩, hB⟩ _
    have hx8 := bt_lt (el_lt x)
    have ho8 := oldTo_lt t pre
    have hor : bits .or .i64 (oldTo t pre : Int) (bt x.1 : Int) = ((oldTo t pre ||| bt x.1 : Nat) : Int) := i64_or_nat _ (bt x.1) (by omega) (by omega)
    have hq8 : hlfTo t pre < 256 := Nat.lt_of_le_of_lt (Nat.div_le_self _ _) ht
    have SN := hid (oldTo_snoc t pre x)
    have HH := hid (hlfTo_snoc t pre x)
    have OD := odd_fact _ hq8
    rw [show (hlfTo t pre).testBit 0 = t.testBit pre.length from half_bit _ _] at OD
    generalize oldTo t pre = o at *
    generalize hlfTo t pre = q at *
    have hcc := h0.cell
    have hfc := h0.frozen
    have hdc := h1.cell
    have hff := h1.frozen
    have HB := hid hB
    have H0 := hid h0
    have H1 := hid h1
    clear hB h0 h1
    by_cases hb : t.testBit pre.length = true
    · rw [if_pos hb] at OD
      have HT := hid hb
      clear hb
      have hcc' : (W.setCell ⟨w.heap.size + 1, 0, none⟩ (.int .i64 (o ||| bt x.1 : Nat))).cell? ⟨w.heap.size, 0, none⟩ = some (.int .i64 q) := (boxed_apart H0.out _ (by omega)).cell
      have hfc' : (W.setCell ⟨w.heap.size + 1, 0, none⟩ (.int .i64 (o ||| bt x.1 : Nat))).frozen? ⟨w.heap.size, 0, none⟩ = false := (boxed_apart H0.out _ (by omega)).frozen
      gi_wp2
      have hd2 : ((q : Int) / 2) = ((q / 2 : Nat) : Int) := by omega
      rw [hd2]
      refine ⟨(KeepsOthers.setCell _ _ _).trans (KeepsOthers.setCell _ _ _), trivial, ⟨?_, ?_⟩, (HB.out.setCell (p := ⟨w.heap.size + 1, 0, none⟩) (by simp) _).setCell (p := ⟨w.heap.size, 0, none⟩) (Nat.le_refl _) _⟩
      · rw [HH.out]
        exact (boxed_apart H0.out _ (by omega)).set _
      · rw [SN.out, if_pos HT.out]
        exact boxed_apart (H1.out.set _) _ (by omega)
    · rw [if_neg hb] at OD
      have HT := hid hb
      clear hb
      gi_wp2
      have hd2 : ((q : Int) / 2) = ((q / 2 : Nat) : Int) := by omega
      rw [hd2]
      refine ⟨KeepsOthers.setCell _ _ _, trivial, ⟨?_, ?_⟩, HB.out.setCell (p := ⟨w.heap.size, 0, none⟩) (Nat.le_refl _) _⟩
      · rw [HH.out]
        exact H0.out.set _
      · rw [SN.out, if_neg HT.out]
        exact boxed_apart H1.out _ (by omega)
  case done =>
    rintro D ys W hD hys ⟨⟨h0, h1⟩, hB⟩ hK
    have hys' : oldTo t ys = old (els c) t := by unfold oldTo; rw [hys]
    rw [hys'] at h1
    have hdc := h1.cell
    have HB := hid hB
    generalize hq : old (els c) t = q at *
    have HQ := hid hq
    clear hq hB
    gi_wp2
    refine ⟨by simp, .inl ⟨_, _, rfl, run_takeDeferred hK, ?_⟩⟩
    exact ⟨_, results_tmp rfl _ _ _, by show Ending.returned (.int .i64 (q : Int)) = _; rw [← HQ.out], HB.out.trans (belowK_b (w := w) (Nat.le_refl _) W D _ _ (by omega) hK rfl rfl)⟩
  case stop =>
    rintro D c pre W _ _ h _
    exact h.elim
end Go.Proofs.Ytgdcfogikchjeaa

namespace Go.Proofs.Ytgdcfogikchjeaa
open Go.RowKit

/-- The worlds in which all that lay in w lies as it lay. -/
structure Later (w : World) where
  now : World
  kept : Below w.heap.size w now
theorem Later.on {w : World} (x : Later w) {w' : World} (h : Below x.now.heap.size x.now w') : ∃ y : Later w, w' = y.now := ⟨⟨w', x.kept.trans (h.mono x.kept.size)⟩, rfl⟩
instance (w : World) : Nonempty (Later w) := ⟨⟨w, Below.refl _ _⟩⟩
theorem region_later {P : Program} {id : Nat} {Q : Exit → Act → World → Prop} {a : Act} {w : World} {l : List Oper} (hm : P.follows .mixedOrders = true) (hB : Region.lexB .any l.toArray = true)
    (h : wpQuiet P l.toArray (fun w' => ∃ x : Later w, w' = x.now) (fun a' => ∀ w', (∃ x : Later w, w' = x.now) → Q .normal a' w') l a) : (Code.region id l.toArray true).wp P Q a w :=
  wp_region_quiet (C := fun w' => ∃ x : Later w, w' = x.now) hm hB ⟨⟨_, (Below.refl _ _).drew⟩, rfl⟩ (by simpa using h)
end Go.Proofs.Ytgdcfogikchjeaa
