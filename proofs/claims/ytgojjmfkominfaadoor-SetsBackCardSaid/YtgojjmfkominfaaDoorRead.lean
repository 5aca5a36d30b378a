/- The contract of sets.Read. -/
import Derived.Test.YtgojjmfkominfaaDoorOwn
import Derived.Test.YtgojjmfkominfaaDoorPlainText
namespace Go.Proofs.YtgojjmfkominfaaDoor
open Go.RowKit

theorem syntaxAt_any (i : Int) (w : World) :
    Calls Tryd.prog 42 #[.int .i64 i] w fun e w' => e = .returned (.agg #[.int .i64 4, .int .i64 i]) ∧ w' = w.alloc (.cells #[.int .i64 4, .int .i64 i] 33) := by
  go_enter Tryd.func42, Tryd.ntmps42
  go_wp2
  exact bodyPost_ret (v := .agg #[.int .i64 4, .int .i64 i]) (by simp [results, Tryd.results42, go_sem]) rfl ⟨rfl, rfl⟩

theorem byte_drop (t : ByteArray) (k : Nat) (h : k < t.size) : t.data.toList.drop k = t[k] :: t.data.toList.drop (k + 1) := by
  rw [List.drop_eq_getElem_cons (by simpa using h)]; rfl
theorem rd_cons (i s next : Nat) (c : UInt8) (l : List UInt8) : rd i s next (c :: l) = 
    if i % 2 = 1 then if c.toNat ≠ 32 ∨ next = 8 then (0, 4, (i : Int)) else rd (i + 1) s next l
    else if c.toNat < 48 + next ∨ 56 ≤ c.toNat then (0, 4, (i : Int)) else rd (i + 1) (s ||| 2 ^ (c.toNat - 48)) (c.toNat - 48 + 1) l := rfl

set_option maxHeartbeats 1600000 in
theorem Read_any (t : ByteArray) (w : World) (ht : t.size ≤ 140737488351232) :
    Calls Tryd.prog 14 #[.string t] w fun e w' => e = .returned (.tuple #[.int .i64 (rdT t).1, .agg #[.int .i64 (rdT t).2.1, .int .i64 (rdT t).2.2]]) ∧ Below w.heap.size w w' := by
  go_enter Tryd.func14, Tryd.ntmps14
  go_wp2_with fail
  go_loop [4, 5, 10] (fun a b i => ∃ k s nx : Nat, k ≤ t.size ∧ s < 256 ∧ nx ≤ 8 ∧ a = .int .i64 s ∧ b = .int .i64 nx ∧ i = .int .i64 k ∧ Hid (rdT t = rd k s nx (t.data.toList.drop k))) (fun _ _ i => t.size - (intOf i).toNat)
  case atStart => exact ⟨0, 0, 0, Nat.zero_le _, by omega, by omega, rfl, rfl, rfl, rfl⟩
  case round =>
    obtain ⟨k, s, nx, hk, hs, hnx, rfl, rfl, rfl, R⟩ := hrel
    by_cases hlt : k < t.size
    · have D := hid (byte_drop t k hlt)
      have C := hid (rd_cons k s nx t[k] (t.data.toList.drop (k + 1)))
      have h256 : t[k].toNat < 256 := t[k].toNat_lt
      by_cases hodd : k % 2 = 1
      · have hodd' : ((k : Int) % 2 == 1) = true := by rw [beq_iff_eq]; omega
        by_cases h32 : t[k].toNat = 32
        · have h32' : ((t[k].toNat : Int) != 32) = false := by rw [h32]; rfl
          by_cases h8 : nx = 8
          · have F : Hid (rdT t = (0, 4, (k : Int))) := by show rdT t = _; rw [R.out, D.out, C.out, if_pos hodd, if_pos (Or.inr h8)]
            have h8' : ((nx : Int) == 8) = true := by rw [h8]; rfl
            clear h32 h8 hodd
            go_wp2_with (go_at_call 42; refine (syntaxAt_any _ _).mono ?_; rintro e w' ⟨rfl, rfl⟩)
            exact bodyPost_ret (v := .tuple #[.int .i64 0, .agg #[.int .i64 4, .int .i64 k]]) (by simp [results, Tryd.results14, go_sem]) rfl ⟨by rw [F.out], by repeat (first | exact Below.refl _ _ | refine Below.setCell ?_ (by simp) _ | refine Below.alloc ?_ (by simp) _)⟩
          · have F : Hid (rdT t = rd (k + 1) s nx (t.data.toList.drop (k + 1))) := by show rdT t = _; rw [R.out, D.out, C.out, if_pos hodd, if_neg (by simp [h32, h8])]
            have h8' : ((nx : Int) == 8) = false := by rw [beq_eq_false_iff_ne]; omega
            clear h32 h8 hodd
            go_wp2
            go_round
            case rel => exact ⟨k + 1, s, nx, by omega, hs, hnx, rfl, rfl, by go_num, F⟩
            case measure => simp [intOf]; omega
        · have F : Hid (rdT t = (0, 4, (k : Int))) := by show rdT t = _; rw [R.out, D.out, C.out, if_pos hodd, if_pos (Or.inl h32)]
          have h32' : ((t[k].toNat : Int) != 32) = true := by rw [bne_iff_ne]; omega
          clear h32 hodd
          go_wp2_with (go_at_call 42; refine (syntaxAt_any _ _).mono ?_; rintro e w' ⟨rfl, rfl⟩)
          exact bodyPost_ret (v := .tuple #[.int .i64 0, .agg #[.int .i64 4, .int .i64 k]]) (by simp [results, Tryd.results14, go_sem]) rfl ⟨by rw [F.out], by repeat (first | exact Below.refl _ _ | refine Below.setCell ?_ (by simp) _ | refine Below.alloc ?_ (by simp) _)⟩
      · have hodd' : ((k : Int) % 2 == 1) = false := by rw [beq_eq_false_iff_ne]; omega
        by_cases hdig : t[k].toNat < 48 + nx
        · have F : Hid (rdT t = (0, 4, (k : Int))) := by show rdT t = _; rw [R.out, D.out, C.out, if_neg hodd, if_pos (Or.inl hdig)]
          have h1 : (t[k].toNat : Int) - 48 < (nx : Int) := by omega
          clear hodd hdig
          go_wp2_with (go_at_call 42; refine (syntaxAt_any _ _).mono ?_; rintro e w' ⟨rfl, rfl⟩)
          exact bodyPost_ret (v := .tuple #[.int .i64 0, .agg #[.int .i64 4, .int .i64 k]]) (by simp [results, Tryd.results14, go_sem]) rfl ⟨by rw [F.out], by repeat (first | exact Below.refl _ _ | refine Below.setCell ?_ (by simp) _ | refine Below.alloc ?_ (by simp) _)⟩
        · have h1 : ¬ (t[k].toNat : Int) - 48 < (nx : Int) := by omega
          have h1' : decide ((t[k].toNat : Int) - 48 < (nx : Int)) = false := by simpa using h1
          by_cases hbig : 56 ≤ t[k].toNat
          · have F : Hid (rdT t = (0, 4, (k : Int))) := by show rdT t = _; rw [R.out, D.out, C.out, if_neg hodd, if_pos (Or.inr hbig)]
            have h2 : 8 ≤ (t[k].toNat : Int) - 48 := by omega
            clear hodd hdig hbig
            go_wp2_with (go_at_call 42; refine (syntaxAt_any _ _).mono ?_; rintro e w' ⟨rfl, rfl⟩)
            exact bodyPost_ret (v := .tuple #[.int .i64 0, .agg #[.int .i64 4, .int .i64 k]]) (by simp [results, Tryd.results14, go_sem]) rfl ⟨by rw [F.out], by repeat (first | exact Below.refl _ _ | refine Below.setCell ?_ (by simp) _ | refine Below.alloc ?_ (by simp) _)⟩
          · have F : Hid (rdT t = rd (k + 1) (s ||| 2 ^ (t[k].toNat - 48)) (t[k].toNat - 48 + 1) (t.data.toList.drop (k + 1))) := by show rdT t = _; rw [R.out, D.out, C.out, if_neg hodd, if_neg (by omega)]
            obtain ⟨e, he⟩ : ∃ e : Nat, t[k].toNat = 48 + e := ⟨t[k].toNat - 48, by omega⟩
            have he8 : e < 8 := by omega
            have hne : nx ≤ e := by omega
            rw [he, show 48 + e - 48 = e by omega] at F
            have hint : (t[k].toNat : Int) - 48 = (e : Int) := by omega
            obtain ⟨T, hT, HT, hT2⟩ : ∃ T : Nat, wrap64 (2 ^ e) = (T : Int) ∧ Hid (T = 2 ^ e) ∧ T ≤ 256 := ⟨2 ^ e, (pow_wrap _ (by omega)).1, rfl, (pow_wrap _ (by omega)).2⟩
            have hor : bits .or .i64 (s : Int) (T : Int) = ((s ||| T : Nat) : Int) := i64_or_nat s T (by omega) (by omega)
            have hol := or_lt hs he8
            rw [← HT.out] at hol F
            have h2 : ¬ 8 ≤ (e : Int) := by omega
            have h3 : ¬ (e : Int) < (nx : Int) := by omega
            have h4 : decide ((e : Int) < (nx : Int)) = false := by simpa using h3
            have h5 : decide (e < nx) = false := by simp; omega
            clear hodd hdig hbig h1 h1' he
            go_wp2
            go_round
            case rel => exact ⟨k + 1, s ||| T, e + 1, by omega, hol, by omega, rfl, by go_num, by go_num, F⟩
            case measure => simp [intOf]; omega
    · have hkt : k = t.size := by omega
      subst hkt
      have D : Hid (rdT t = if 0 < t.size ∧ t.size % 2 = 0 then (0, 4, (t.size : Int)) else ((s : Int), 0, 0)) := by
        show rdT t = _
        rw [R.out, List.drop_of_length_le (by simp)]; rfl
      by_cases h0 : 0 < t.size
      · by_cases h2 : t.size % 2 = 0
        · have F : Hid (rdT t = (0, 4, (t.size : Int))) := by show rdT t = _; rw [D.out, if_pos ⟨h0, h2⟩]
          have h2' : ((t.size : Int) % 2 == 0) = true := by rw [beq_iff_eq]; omega
          have h0' : (0 : Int) < (t.size : Int) := by omega
          clear h2
          go_wp2_with (go_at_call 42; refine (syntaxAt_any _ _).mono ?_; rintro e w' ⟨rfl, rfl⟩)
          exact bodyPost_ret (v := .tuple #[.int .i64 0, .agg #[.int .i64 4, .int .i64 t.size]]) (by simp [results, Tryd.results14, go_sem]) rfl ⟨by rw [F.out], by repeat (first | exact Below.refl _ _ | refine Below.setCell ?_ (by simp) _ | refine Below.alloc ?_ (by simp) _)⟩
        · have F : Hid (rdT t = ((s : Int), 0, 0)) := by show rdT t = _; rw [D.out, if_neg (by omega)]
          have h2' : ((t.size : Int) % 2 == 0) = false := by rw [beq_eq_false_iff_ne]; omega
          have h0' : (0 : Int) < (t.size : Int) := by omega
          clear h2
          go_wp2
          exact bodyPost_ret (v := .tuple #[.int .i64 s, .agg #[.int .i64 0, .int .i64 0]]) (by simp [results, Tryd.results14, go_sem]) rfl ⟨by rw [F.out], by repeat (first | exact Below.refl _ _ | refine Below.setCell ?_ (by simp) _ | refine Below.alloc ?_ (by simp) _)⟩
      · have F : Hid (rdT t = ((s : Int), 0, 0)) := by show rdT t = _; rw [D.out, if_neg (by omega)]
        go_wp2
        exact bodyPost_ret (v := .tuple #[.int .i64 s, .agg #[.int .i64 0, .int .i64 0]]) (by simp [results, Tryd.results14, go_sem]) rfl ⟨by rw [F.out], by repeat (first | exact Below.refl _ _ | refine Below.setCell ?_ (by simp) _ | refine Below.alloc ?_ (by simp) _)⟩
end Go.Proofs.YtgojjmfkominfaaDoor
