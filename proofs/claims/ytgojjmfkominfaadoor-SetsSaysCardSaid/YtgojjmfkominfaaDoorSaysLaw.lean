/- The walk of the law SetsSays. -/
import Derived.Test.YtgojjmfkominfaaDoorRefText
import Derived.Deep.CutRange
namespace Go.Proofs.YtgojjmfkominfaaDoor
open Go.RowKit

theorem fam_E' (n : Int) (zs : List Int) : (if famB n zs = true then (0 : Int) else 1) = famR n zs := by
  unfold famB famR
  split <;> simp
theorem setB8' (p : Int) : setB 8 p = decide (0 ≤ p ∧ p ≤ 255) := by
  unfold setB
  rw [decide_eq_decide, show (2 : Int) ^ (8 : Int).toNat = 256 from rfl]
  omega
theorem bad_any' (ok : Bool) (e : Int) (w : World) : Calls Tryd.prog 7 #[.bool ok, .int .i64 e] w fun r w' => r = .returned (.int .i64 (if ok = true then 0 else e)) ∧ w' = w := by
  cases ok
  · exact bad_no e w
  · exact bad_yes e w

set_option maxHeartbeats 6400000 in
set_option maxRecDepth 100000 in
theorem says_law (n s : Int) (v : Value) (zs : List Int) (t : ByteArray) (ht : t.size ≤ 140737488351232) (w : World) (hw : Tabbed w) (h : Ints w v zs) :
    Calls Tryd.prog 3 #[.int .i64 n, .int .i64 s, v, .string t] w fun e w' => e = .returned (.bool true) ∧ Below w.heap.size w w' := by
  obtain ⟨a, cap, hv, -⟩ := id h
  have HI := hid h
  have HW := hid hw
  clear h hw
  subst hv
  have FE := hid (fam_E' n zs)
  obtain ⟨E, hE⟩ : ∃ E : Int, (if setB n s = true then (0 : Int) else 1) = E := ⟨_, rfl⟩
  have CK : Hid (∀ w, Calls Tryd.prog 9 #[.int .i64 n, .int .i64 s] w fun e w' => e = .returned (.int .i64 E) ∧ w' = w) := fun w => hE ▸ Check_any n s w
  have HE := hid hE
  clear hE
  have hee : (E != E) = false := by simp
  have hff : (famR n zs != famR n zs) = false := by simp
  go_enter Tryd.func3, Tryd.ntmps3
  go_wp2_with fail
  refine (IsSet_any n s _).mono ?_
  rintro e w1 ⟨rfl, rfl⟩
  go_wp2_with fail
  refine (bad_any' _ _ _).mono ?_
  rw [HE.out]
  rintro e w2 ⟨rfl, rfl⟩
  go_wp2_with fail
  refine (CK.out _).mono ?_
  rintro e w3 ⟨rfl, rfl⟩
  go_wp2_with fail
  refine (family_any n _ zs _ HI.out).mono ?_
  rintro e w4 ⟨rfl, rfl⟩
  go_wp2_with fail
  refine (IsFamily_any n _ zs _ HI.out).mono ?_
  rintro e w5 ⟨rfl, b5⟩
  go_wp2_with fail
  refine (bad_any' _ _ _).mono ?_
  rw [FE.out]
  rintro e w6 ⟨rfl, rfl⟩
  by_cases hs : 0 ≤ s ∧ s ≤ 255
  · obtain ⟨x, rfl⟩ := Int.eq_ofNat_of_zero_le hs.1
    have hx : x < 256 := by omega
    have S8 : Hid (∀ w, Calls Tryd.prog 8 #[.int .i64 8, .int .i64 x] w fun e w' => e = .returned (.bool true) ∧ w' = w) := fun w => by
      have := IsSet_any 8 x w
      rw [setB8', decide_eq_true hs] at this; exact this
    clear hs
    go_wp2_with fail
    refine (Write_good x _ (HW.out.below b5) hx).mono ?_
    rintro e w7 ⟨rfl, hb⟩
    have b7 := b5.trans (hb.mono b5.size)
    clear hb b5
    go_wp2_with fail
    refine (S8.out _).mono ?_
    rintro e w8 ⟨rfl, rfl⟩
    go_wp2_with fail
    refine (Text_any x _ hx).mono ?_
    rintro e w9 ⟨rfl, hb⟩
    have b9 := b7.trans (hb.mono b7.size)
    clear hb b7
    go_wp2_with fail
    refine (Read_any t _ ht).mono ?_
    rintro e w10 ⟨rfl, hb⟩
    have b10 := b9.trans (hb.mono b9.size)
    clear hb b9
    have c0 : ∀ w11, Below (w10.alloc (.cells #[.int .i64 (rdT t).2.1, .int .i64 (rdT t).2.2] 33)).heap.size (w10.alloc (.cells #[.int .i64 (rdT t).2.1, .int .i64 (rdT t).2.2] 33)) w11 → w11.cell? ⟨w10.heap.size, 0, none⟩ = some (.int .i64 (rdT t).2.1) ∧ w11.cell? ⟨w10.heap.size, 1, none⟩ = some (.int .i64 (rdT t).2.2) ∧ w10.heap.size < w11.heap.size ∧ Below w4.heap.size w4 w11 := fun w11 hb => by
      refine ⟨(hb.cell (p := ⟨w10.heap.size, 0, none⟩) (by simp)).trans (by rw [World.cell?_alloc_at _ _ _ _ rfl]; rfl), (hb.cell (p := ⟨w10.heap.size, 1, none⟩) (by simp)).trans (by rw [World.cell?_alloc_at _ _ _ _ rfl]; rfl), by have := hb.size; simp at this; omega, (b10.alloc b10.size _).trans (hb.mono (by have := b10.size; simp; omega))⟩
    have C0 := hid c0
    clear c0
    go_wp2_with fail
    refine (OfText_any t _ ht).mono ?_
    rintro e w11 ⟨rfl, hb⟩
    obtain ⟨q0, q1, q2, b11⟩ := C0.out _ hb
    clear hb C0 b10
    have hab : ∀ x : Int, (x == x) = true := fun x => by simp
    go_wp2_with fail
    go_ret
    exact ⟨rfl, b11.alloc b11.size _⟩
  · have S8 : Hid (∀ w, Calls Tryd.prog 8 #[.int .i64 8, .int .i64 s] w fun e w' => e = .returned (.bool false) ∧ w' = w) := fun w => by
      have := IsSet_any 8 s w
      rw [setB8', decide_eq_false hs] at this; exact this
    have hs2 : s < 0 ∨ 255 < s := by omega
    have HS := hid hs2
    clear hs hs2
    go_wp2_with fail
    refine (Write_bad s _ HS.out).mono ?_
    rintro e w7 ⟨rfl, rfl⟩
    go_wp2_with fail
    refine (S8.out _).mono ?_
    rintro e w8 ⟨rfl, rfl⟩
    go_wp2_with fail
    refine (Read_any t _ ht).mono ?_
    rintro e w10 ⟨rfl, hb⟩
    have b10 := b5.trans (hb.mono b5.size)
    clear hb b5
    have c0 : ∀ w11, Below (w10.alloc (.cells #[.int .i64 (rdT t).2.1, .int .i64 (rdT t).2.2] 33)).heap.size (w10.alloc (.cells #[.int .i64 (rdT t).2.1, .int .i64 (rdT t).2.2] 33)) w11 → w11.cell? ⟨w10.heap.size, 0, none⟩ = some (.int .i64 (rdT t).2.1) ∧ w11.cell? ⟨w10.heap.size, 1, none⟩ = some (.int .i64 (rdT t).2.2) ∧ w10.heap.size < w11.heap.size ∧ Below w4.heap.size w4 w11 := fun w11 hb => by
      refine ⟨(hb.cell (p := ⟨w10.heap.size, 0, none⟩) (by simp)).trans (by rw [World.cell?_alloc_at _ _ _ _ rfl]; rfl), (hb.cell (p := ⟨w10.heap.size, 1, none⟩) (by simp)).trans (by rw [World.cell?_alloc_at _ _ _ _ rfl]; rfl), by have := hb.size; simp at this; omega, (b10.alloc b10.size _).trans (hb.mono (by have := b10.size; simp; omega))⟩
    have C0 := hid c0
    clear c0
    go_wp2_with fail
    refine (OfText_any t _ ht).mono ?_
    rintro e w11 ⟨rfl, hb⟩
    obtain ⟨q0, q1, q2, b11⟩ := C0.out _ hb
    clear hb C0 b10
    have hab : ∀ x : Int, (x == x) = true := fun x => by simp
    go_wp2_with fail
    go_ret
    exact ⟨rfl, b11.alloc b11.size _⟩
end Go.Proofs.YtgojjmfkominfaaDoor
