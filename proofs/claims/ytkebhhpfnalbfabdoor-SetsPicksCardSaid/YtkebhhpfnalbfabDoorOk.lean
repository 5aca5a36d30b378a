/- The contracts of package sets over families, in one form. -/
import Derived.Test.YtkebhhpfnalbfabDoorShadow
import Derived.Test.YtkebhhpfnalbfabDoorFam
import Derived.Test.YtkebhhpfnalbfabDoorRef
namespace Go.Proofs.YtkebhhpfnalbfabDoor
open Go.RowKit

/-- The shadow; the greatest sets; the sets of one size. -/
def shd (n : Nat) (l : List Nat) : List Nat := (List.range (2 ^ n)).filter fun s => l.any fun t => downB t s
def mst (l : List Nat) : List Nat := l.filter fun s => !l.any (otherOut s)
def chs (n c : Nat) : List Nat := (List.range (2 ^ n)).filter fun s => pop s == c
theorem range_len {n : Nat} (hn : n ≤ 8) (p : Nat → Bool) : ((List.range (2 ^ n)).filter p).length ≤ 17592186044416 := by
  have h1 := range_le p (2 ^ n)
  have h2 : 2 ^ n ≤ 256 := (Nat.pow_le_pow_right (by omega) hn : 2 ^ n ≤ 2 ^ 8)
  omega
theorem filter_len {w : World} {v : Value} {l : List Nat} (h : Ints w v (N l)) (p : Nat → Bool) : (l.filter p).length ≤ 17592186044416 := by
  obtain ⟨_, _, _, hl, _⟩ := h.nats
  have := List.length_filter_le p l
  omega

/-- A call handed back a list of its own and no error; nothing that was there has turned. -/
def Gives (w : World) (l : List Nat) (e : Ending) (w' : World) : Prop := ∃ r, e = .returned (.tuple #[r, .int .i64 0]) ∧ Ints w' r (N l) ∧ Below w.heap.size w w'

theorem Blocker_ok {m : Nat} (hm : m ≤ 8) {l : List Nat} (hF : Fam m l) {v : Value} {w : World} (hw : Tabbed w) (h : Ints w v (N l)) :
    Calls Tryd.prog 21 #[.int .i64 m, v] w (Gives w (blk m l)) :=
  (Blocker_good m v l w hw hm (hF.lt256 hm) h (fam_mk hm hF)).mono fun _ _ ⟨r, h1, h2, h3⟩ => ⟨r, h1, h2.ints (range_len hm _), h3⟩
theorem Shadow_ok {m : Nat} (hm : m ≤ 8) {l : List Nat} (hF : Fam m l) {v : Value} {w : World} (hw : Tabbed w) (h : Ints w v (N l)) :
    Calls Tryd.prog 20 #[.int .i64 m, v] w (Gives w (shd m l)) :=
  (Shadow_good m v l w hw hm (hF.lt256 hm) h (fam_mk hm hF)).mono fun _ _ ⟨r, h1, h2, h3⟩ => ⟨r, h1, h2.ints (range_len hm _), h3⟩
theorem Least_ok {m : Nat} (hm : m ≤ 8) {l : List Nat} (hF : Fam m l) {v : Value} {w : World} (h : Ints w v (N l)) :
    Calls Tryd.prog 18 #[.int .i64 m, v] w (Gives w (lst l)) :=
  (Least_good m v l w (hF.lt256 hm) h (fam_mk hm hF)).mono fun _ _ ⟨r, h1, h2, h3⟩ => ⟨r, h1, h2.ints (filter_len h _), h3⟩
theorem Most_ok {m : Nat} (hm : m ≤ 8) {l : List Nat} (hF : Fam m l) {v : Value} {w : World} (h : Ints w v (N l)) :
    Calls Tryd.prog 19 #[.int .i64 m, v] w (Gives w (mst l)) :=
  (Most_good m v l w (hF.lt256 hm) h (fam_mk hm hF)).mono fun _ _ ⟨r, h1, h2, h3⟩ => ⟨r, h1, h2.ints (filter_len h _), h3⟩
theorem Choose_ok {m c : Nat} (hm : m ≤ 8) (hc : c ≤ m) (w : World) :
    Calls Tryd.prog 4 #[.int .i64 m, .int .i64 c] w (Gives w (chs m c)) :=
  (Choose_good m c w hm hc).mono fun _ _ ⟨r, h1, h2, h3⟩ => ⟨r, h1, h2.ints (range_len hm _), h3⟩
theorem Gives.go {w : World} {l : List Nat} {e : Ending} {w' : World} (h : Gives w l e w') : ∃ a cap, e = .returned (.tuple #[.slice a l.length cap, .int .i64 0]) ∧ Ints w' (.slice a l.length cap) (N l) ∧ Below w.heap.size w w' := by
  obtain ⟨r, h1, h2, h3⟩ := h
  obtain ⟨a, cap, h4, _⟩ := h2.nats
  exact ⟨a, cap, by rw [← h4]; exact h1, by rw [← h4]; exact h2, h3⟩
theorem same_true {l m : List Nat} (h : l = m) : decide (N l = N m) = true := by rw [h]; simp
end Go.Proofs.YtkebhhpfnalbfabDoor
