/- The contract of sets.Write. -/
import Derived.Test.YtgojjmfkominfaaDoorShelf
import Derived.Test.YtgojjmfkominfaaDoorOwn
import Derived.Test.YtgojjmfkominfaaDoorPlainText
namespace Go.Proofs.YtgojjmfkominfaaDoor
open Go.RowKit

/-- The text of a set. -/
def setText (s : Nat) : ByteArray := ⟨(txt (els s)).toArray⟩
theorem isB_of {B b : Nat} {bs : List Value} {w : World} (h : Lib.BuilderAt 53 5 B b (.pointer (some ⟨b, 0, none⟩)) bs w) : IsB B b bs w := .inr h

theorem tup_str {a b : ByteArray} (h : a = b) : Ending.returned (.tuple #[.string a, .int .i64 0]) = .returned (.tuple #[.string b, .int .i64 0]) := by rw [h]

theorem Write_bad (s : Int) (w : World) (h : s < 0 ∨ 255 < s) :
    Calls Tryd.prog 12 #[.int .i64 s] w fun e w' => e = .returned (.tuple #[.string ⟨#[]⟩, .int .i64 1]) ∧ w' = w := by
  go_enter Tryd.func12, Tryd.ntmps12
  go_wp2_with fail
  refine (isSet_no _ _ h).mono ?_
  rintro e w' ⟨rfl, rfl⟩
  go_wp2_with fail
  go_ret2
  exact ⟨rfl, rfl⟩

set_option maxHeartbeats 1600000 in
theorem Write_good (s : Nat) (w : World) (hw : Tabbed w) (hs : s < 256) :
    Calls Tryd.prog 12 #[.int .i64 s] w fun e w' => e = .returned (.tuple #[.string (setText s), .int .i64 0]) ∧ Below w.heap.size w w' := by
  go_enter Tryd.func12, Tryd.ntmps12
  go_wp2_with fail
  refine (isSet_yes _ _ (by omega) (by omega)).mono ?_
  rintro e w' ⟨rfl, rfl⟩
  go_wp2_with fail
  go_loopw [5] (fun i wr => ∃ (r : Nat) (acc : List UInt8), r < 256 ∧ i = .int .i64 r ∧ IsB w'.heap.size w'.heap.size (Lib.byteCells acc) wr ∧ Below w'.heap.size w' wr ∧ w'.heap.size ≤ wr.heap.size ∧ acc.length + 2 * pop r ≤ 16 ∧ Hid (txt (els s) = joinT acc (els r))) (fun i _ => (intOf i).toNat)
  case atStart => exact ⟨s, [], hs, rfl, Lib.fresh_isBuilder _ _ _, (Below.refl _ _).alloc (Nat.le_refl _) _, by simp, by have := pop_le s hs; simp; omega, by show txt (els s) = _; unfold joinT; split <;> simp_all [txt]⟩
  case round =>
    obtain ⟨r, acc, hr, rfl, hI, hnx, hsz, hlen, R⟩ := hrel
    have HI := hid hI
    clear hI
    by_cases hz : r = 0
    · subst hz
      go_wp2_with fail
      refine (bText _ _ acc _ HI.out hsz).mono ?_
      rintro e w1 ⟨rfl, hb1⟩
      have b1 := hnx.trans hb1
      clear hb1
      go_wp2_with fail
      go_ret2
      exact ⟨tup_str (by rw [setText, R.out, els_zero, joinT_nil]), b1⟩
    · have hr0 : 0 < r := by omega
      have hnz : ((r : Int) != 0) = true := by rw [bne_iff_ne]; omega
      have E := hid (els_step r hr hr0)
      have hpop : pop r = pop (wl r) + 1 := by rw [pop_els, E.out, pop_els]; rfl
      have l1 := wl_lt r hr hr0
      have t1 := tz_lt r hr hr0
      have tb := hid (hw.below hnx)
      have hl2 : acc.length + 2 * pop (wl r) ≤ 14 := by omega
      clear hpop hlen
      by_cases ha : acc = []
      · subst ha
        have R2 : Hid (txt (els s) = joinT [dig (tz r)] (els (wl r))) := by show txt (els s) = _; rw [R.out, E.out, joinT_first]
        clear R E
        go_wp2_with fail
        refine (bLen _ _ _ _ HI.out).mono ?_
        rintro e w1 ⟨rfl, rfl⟩
        go_wp2_with fail
        refine (least_any r _ tb.out hr0 hr).mono ?_
        rintro e w1 ⟨rfl, rfl⟩
        go_wp2_with fail
        refine (itoa (tz r) _ t1).mono ?_
        rintro e w1 ⟨rfl, rfl⟩
        go_wp2_with fail
        refine (bString _ _ _ (digS (tz r)) _ HI.out (by simp [Lib.byteCells, digS, ByteArray.size]) hsz).mono ?_
        rintro e w2 ⟨rfl, hI2, hb2⟩
        have b2 := hnx.trans hb2
        have s2 := Nat.le_trans hsz hb2.size
        have I2 := hid (isB_of hI2)
        clear hI2 hb2
        go_wp2_with fail
        refine (without_any r _ hr0 hr).mono ?_
        rintro e w3 ⟨rfl, rfl⟩
        go_wp2_with fail
        go_roundw
        case rel => exact ⟨wl r, [dig (tz r)], by omega, rfl, I2.out, b2, s2, by simp; omega, R2⟩
        case measure => simp [intOf]; omega
      · have R2 : Hid (txt (els s) = joinT (acc ++ [32] ++ [dig (tz r)]) (els (wl r))) := by show txt (els s) = _; rw [R.out, E.out, joinT_more _ ha]
        have hal : 0 < acc.length := List.length_pos_iff.2 ha
        have hbl := Lib.byteCells_length acc
        have hbl2 : (0 : Int) < ((Lib.byteCells acc).length : Int) := by omega
        have HBL := hid hbl
        clear R E hbl ha
        go_wp2_with fail
        refine (bLen _ _ _ _ HI.out).mono ?_
        rintro e w1 ⟨rfl, rfl⟩
        go_wp2_with fail
        refine (bByte _ _ _ 32 _ HI.out (by have := HBL.out; omega) hsz).mono ?_
        rintro e w2 ⟨rfl, hI2, hb2⟩
        have b2 := hnx.trans hb2
        have s2 := Nat.le_trans hsz hb2.size
        have tb2 := hid (hw.below b2)
        have I2 : Hid (IsB w'.heap.size w'.heap.size (Lib.byteCells (acc ++ [32])) w2) := by
          show IsB _ _ _ _
          rw [Lib.byteCells_append]; exact isB_of hI2
        clear hI2 hb2 HI hnx hsz
        go_wp2_with fail
        refine (least_any r _ tb2.out hr0 hr).mono ?_
        rintro e w1 ⟨rfl, rfl⟩
        go_wp2_with fail
        refine (itoa (tz r) _ t1).mono ?_
        rintro e w1 ⟨rfl, rfl⟩
        go_wp2_with fail
        refine (bString _ _ _ (digS (tz r)) _ I2.out (by rw [Lib.byteCells_length]; simp [digS, ByteArray.size]; omega) s2).mono ?_
        rintro e w3 ⟨rfl, hI3, hb3⟩
        have b3 := b2.trans hb3
        have s3 := Nat.le_trans s2 hb3.size
        have I3 : Hid (IsB w'.heap.size w'.heap.size (Lib.byteCells (acc ++ [32] ++ [dig (tz r)])) w3) := by
          show IsB _ _ _ _
          rw [Lib.byteCells_append]; exact isB_of hI3
        clear hI3 hb3 I2 b2 s2
        go_wp2_with fail
        refine (without_any r _ hr0 hr).mono ?_
        rintro e w4 ⟨rfl, rfl⟩
        go_wp2_with fail
        go_roundw
        case rel => exact ⟨wl r, acc ++ [32] ++ [dig (tz r)], by omega, rfl, I3.out, b3, s3, by simp; omega, R2⟩
        case measure => simp [intOf]; omega
end Go.Proofs.YtgojjmfkominfaaDoor
