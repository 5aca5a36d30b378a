/- Slices of numbers of whatever sign and type that a call has made. -/
import Derived.Test.YtpmpfnbgjgjlgaaOwnQ
import Derived.Test.YtpmpfnbgjgjlgaaQBelW
import Derived.Deep.RegionWith
import Derived.Test.YtpmpfnbgjgjlgaaRefLeastQ
import Derived.Test.YtpmpfnbgjgjlgaaPlainAll
import Derived.Test.YtpmpfnbgjgjlgaaAxQ
namespace Go.Proofs.Ytpmpfnbgjgjlgaa
open Go.RowKit

def VZ (l : List Int) : List Value := l.map (Value.int .i64)
theorem VZ_len (l : List Int) : (VZ l).length = l.length := by simp [VZ]
theorem VZ_snoc (l : List Int) (s : Int) : VZ (l ++ [s]) = VZ l ++ [.int .i64 s] := by simp [VZ]
/-- v is a slice of the call's own, of elements of type t, that holds l. -/
def OwnZ (t : TypeId) (B : Nat) (w : World) (v : Value) (l : List Int) : Prop := w.ownsRow B t 1 v l.length (VZ l)
theorem OwnZ.nil (t : TypeId) (B : Nat) (w : World) : OwnZ t B w (.slice none 0 0) [] := World.ownsRow_nil _ _ _ _
theorem OwnZ.snoc {t : TypeId} {B : Nat} {w : World} {v : Value} {l : List Int} {s : Int} (h : w.ownsRow B t 1 v (l.length + 1) (VZ l ++ [.int .i64 s])) : OwnZ t B w v (l ++ [s]) := by
  unfold OwnZ; rw [VZ_snoc]; simpa using h
theorem OwnZ.grown {t : TypeId} {B : Nat} {w wr w1 : World} {u : Value} {l : List Int} {o : Obj} (hown : OwnZ t B wr u l) (hnx : Below B w wr) (hB : B ≤ wr.heap.size) (hg : (wr.alloc o).grownBy w1 u.ownBlock) : Below B w w1 :=
  (hnx.alloc hB o).grown hg (by simp; omega) (fun j hj => (World.ownsRow.lt hown j hj).1)
theorem OwnZ.below {t : TypeId} {B : Nat} {w w' : World} {v : Value} {l : List Int} (h : OwnZ t B w v l) (hb : Below w.heap.size w w') : OwnZ t B w' v l := by
  obtain ⟨h0, h1⟩ := h
  refine ⟨h0, h1.imp_right ?_⟩
  rintro ⟨g, cap, cur, hv, hg, hheap, hr⟩
  have hlt : g < w.heap.size := by
    rcases Nat.lt_or_ge g w.heap.size with h | h
    · exact h
    · rw [Array.getElem?_eq_none h] at hheap; cases hheap
  exact ⟨g, cap, cur, hv, hg, (hb.block g hlt).trans hheap, hr⟩
theorem OwnZ.mono {t : TypeId} {B B' : Nat} {w : World} {v : Value} {l : List Int} (h : OwnZ t B w v l) (hb : B' ≤ B) : OwnZ t B' w v l := Go.Joins.ownsRow_le h hb
theorem OwnZ.ints {t : TypeId} {B : Nat} {w : World} {v : Value} {l : List Int} (h : OwnZ t B w v l) (hl : l.length ≤ 17592186044416) : Ints w v l := by
  rcases Go.Joins.ownsRow_forms h with ⟨rfl, h0⟩ | ⟨g, cap, rfl⟩
  · have : l = [] := List.length_eq_zero_iff.1 h0
    subst this
    exact ⟨none, 0, rfl, by simp, fun h => by simp at h⟩
  · refine ⟨_, cap, rfl, hl, fun hn => ⟨g, 0, rfl, ?_, fun i hi => ?_⟩⟩
    · exact (World.ownsRow.lt h g rfl).2
    · rw [Nat.zero_add, World.ownsRow.cellAt h i (by omega)]
      simp [VZ, List.getD, hi]
end Go.Proofs.Ytpmpfnbgjgjlgaa

namespace Go.Proofs.Ytpmpfnbgjgjlgaa
open Go.RowKit

set_option maxRecDepth 20000 in
set_option maxHeartbeats 800000 in
theorem Free1_any (s bx : Nat) (v : Value) (l : List Nat) (w : World) (hs : s < 256) (hl : ∀ s ∈ l, s < 256) (hbx : w.cell? ⟨bx, 1, none⟩ = some v) (h : Ints w v (N l)) :
    Calls Try.prog 69 #[.int .i64 s, .pointer (some ⟨bx, 0, none⟩)] w fun e w' => e = .returned (.bool (freeK l s)) ∧ w' = w := by
  obtain ⟨a, cap, rfl, hlen, hc⟩ := h.nats
  clear h
  unfold freeK
  generalize hp : (fun b => subB s b) = p
  have HP := hid (fun b => congrFun hp b)
  clear hp
  go_enter Try.func69, Try.ntmps69
  go_wp2_with fail
  go_loop [4] (fun i => ∃ k : Nat, k ≤ l.length ∧ i = .int .i64 k ∧ Hid (l.any p = (l.drop k).any p)) (fun i => l.length - (intOf i).toNat)
  case atStart => exact ⟨0, Nat.zero_le _, rfl, rfl⟩
  case round =>
    obtain ⟨k, hk, rfl, R⟩ := hrel
    by_cases hlt : k < l.length
    · obtain ⟨b, off, rfl, hb, hcell⟩ := hc (by omega)
      have hck := hcell k hlt
      have D := hid (any_drop (p := p) hlt)
      have hx := getD_lt hl k
      have PX := hid (HP.out (l.getD k 0))
      clear hcell hc HP
      generalize l.getD k 0 = x at *
      rcases hq : p x with _ | _
      · have HQ := hid hq
        clear hq
        go_wp2_with fail
        refine (Within_any s x _ hs hx).mono ?_
        rw [PX.out, HQ.out]
        rintro e w' ⟨rfl, rfl⟩
        go_wp2_with fail
        go_round
        case rel => exact ⟨k + 1, by omega, by go_num, by show l.any p = _; rw [R.out, D.out, HQ.out]; rfl⟩
        case measure => simp [intOf]; omega
      · have HQ := hid hq
        clear hq
        go_wp2_with fail
        refine (Within_any s x _ hs hx).mono ?_
        rw [PX.out, HQ.out]
        rintro e w' ⟨rfl, rfl⟩
        go_wp2_with fail
        go_ret
        exact ⟨ret_bool (by rw [R.out, D.out, HQ.out]; rfl), rfl⟩
    · go_wp2_with fail
      go_ret
      exact ⟨ret_bool (by rw [R.out, List.drop_of_length_le (by omega)]; rfl), rfl⟩
set_option maxRecDepth 20000 in
set_option maxHeartbeats 800000 in
theorem Flats1_any (s bx : Nat) (v : Value) (l : List Nat) (w : World) (hs : s < 256) (hl : ∀ s ∈ l, s < 256) (hbx : w.cell? ⟨bx, 0, none⟩ = some v) (hbs : bx < w.heap.size) (h : Ints w v (N l)) :
    Calls Try.prog 54 #[.int .i64 s, .pointer (some ⟨bx, 0, none⟩)] w fun e w' => e = .returned (.bool (flatK l s)) ∧ Below w.heap.size w w' := by
  obtain ⟨a, cap, rfl, hlen, hc⟩ := h.nats
  clear h
  unfold flatK
  generalize hp : (fun x => !(pop (dif x s) == 1)) = p
  have HP := hid (fun b => congrFun hp b)
  clear hp
  go_enter Try.func54, Try.ntmps54
  go_wp2_with fail
  go_loopw [4] (fun i wr => ∃ k : Nat, k ≤ l.length ∧ i = .int .i64 k ∧ Hid (l.all p = (l.drop k).all p) ∧ Below w.heap.size w wr) (fun i _ => l.length - (intOf i).toNat)
  case atStart => exact ⟨0, Nat.zero_le _, rfl, rfl, Below.refl _ _⟩
  case round =>
    obtain ⟨k, hk, rfl, R, hnx⟩ := hrel
    have hbx' := (hnx.cell (p := ⟨bx, 0, none⟩) hbs).trans hbx
    by_cases hlt : k < l.length
    · obtain ⟨b, off, rfl, hb, hcell⟩ := hc (by omega)
      have hck : wr.cell? ⟨b, off + k, none⟩ = some (.int .i64 (l.getD k 0 : Nat)) := (hnx.cell (p := ⟨b, off + k, none⟩) hb).trans (hcell k hlt)
      have D := hid (all_drop (p := p) hlt)
      have hx := getD_lt hl k
      have PX := hid (HP.out (l.getD k 0))
      clear hcell hc HP
      generalize l.getD k 0 = x at *
      have hdif : bits .andNot .i64 (x : Int) (s : Int) = ((dif x s : Nat) : Int) := i64_andNot_nat _ _ (by omega) (by omega)
      have hd8 : dif x s < 256 := dif_lt hx
      generalize dif x s = y at *
      by_cases hq : pop y = 1
      · have hq' : ((pop y : Int) == 1) = true := by rw [hq]; rfl
        have HQ := hid hq
        clear hq
        go_wp2_with fail
        refine (Size_any y _ hd8).mono ?_
        rintro e w' ⟨rfl, hb'⟩
        have HB := hid (hnx.trans (hb'.mono hnx.size))
        clear hb'
        go_wp2_with fail
        go_ret
        exact ⟨ret_bool (by rw [R.out, D.out, ← PX.out, HQ.out]; rfl), HB.out⟩
      · have hq' : ((pop y : Int) == 1) = false := by rw [beq_eq_false_iff_ne]; omega
        have HQ := hid hq
        clear hq
        go_wp2_with fail
        refine (Size_any y _ hd8).mono ?_
        rintro e w' ⟨rfl, hb'⟩
        have HB := hid (hnx.trans (hb'.mono hnx.size))
        clear hb'
        go_wp2_with fail
        go_roundw
        case rel => exact ⟨k + 1, by omega, by go_num, by show l.all p = _; rw [R.out, D.out, ← PX.out]; simp [HQ.out], HB.out⟩
        case measure => simp [intOf]; omega
    · go_wp2_with fail
      go_ret
      exact ⟨ret_bool (by rw [R.out, List.drop_of_length_le (by omega)]; rfl), hnx⟩
theorem Circ1_any (s bx : Nat) (v : Value) (l : List Nat) (w : World) (hbx : w.cell? ⟨bx, 0, none⟩ = some v) (h : Ints w v (N l)) :
    Calls Try.prog 76 #[.int .i64 s, .pointer (some ⟨bx, 0, none⟩)] w fun e w' => e = .returned (.bool (!memB s l)) ∧ w' = w := by
  obtain ⟨a, cap, hv, _, _⟩ := h.nats
  have HH := hid (Has_any v l s w h)
  clear h
  subst hv
  generalize memB s l = q at *
  go_enter Try.func76, Try.ntmps76
  go_wp2_with fail
  refine HH.out.mono ?_
  rintro e w' ⟨rfl, rfl⟩
  go_wp2_with fail
  go_ret
  exact ⟨rfl, rfl⟩
end Go.Proofs.Ytpmpfnbgjgjlgaa
