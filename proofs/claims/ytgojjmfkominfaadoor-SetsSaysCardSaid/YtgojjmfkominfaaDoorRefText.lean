/- Contracts of sets.Check, rotaref.Text and rotaref.OfText. -/
import Derived.Test.YtgojjmfkominfaaDoorRefFam
import Derived.Test.YtgojjmfkominfaaDoorWrite
import Derived.Test.YtgojjmfkominfaaDoorRead
import Derived.Lib.Strings
import Derived.Laws.Concat
namespace Go.Proofs.YtgojjmfkominfaaDoor
open Go.RowKit

theorem Check_any (n s : Int) (w : World) :
    Calls Tryd.prog 9 #[.int .i64 n, .int .i64 s] w fun e w' => e = .returned (.int .i64 (if setB n s = true then 0 else 1)) ∧ w' = w := by
  by_cases h0 : 0 ≤ n ∧ n ≤ 8
  · obtain ⟨m, rfl⟩ := Int.eq_ofNat_of_zero_le h0.1
    have h8 : m ≤ 8 := by omega
    obtain ⟨T, hT, HT, hT2⟩ : ∃ T : Nat, wrap64 (2 ^ m) = (T : Int) ∧ Hid ((T : Int) = 2 ^ m) ∧ T ≤ 256 := ⟨2 ^ m, (pow_wrap _ h8).1, by show ((2 ^ m : Nat) : Int) = _; simp, (pow_wrap _ h8).2⟩
    have E : Hid (setB m s = decide (0 ≤ s ∧ s < T)) := by
      show setB m s = _
      unfold setB
      rw [HT.out, decide_eq_decide, Int.toNat_natCast]
      omega
    clear h0
    by_cases hs : s < 0
    · have F : Hid ((if setB m s = true then (0 : Int) else 1) = 1) := by show _ = _; rw [E.out, if_neg (by simp; omega)]
      rw [F.out]
      go_enter Tryd.func9, Tryd.ntmps9
      go_wp2_with fail
      refine (isGround_yes _ _ (by omega) (by omega)).mono ?_
      rintro e w' ⟨rfl, rfl⟩
      go_wp2_with fail
      go_ret
      exact ⟨rfl, rfl⟩
    · have hs' : decide (s < 0) = false := by simpa using hs
      by_cases hb : (T : Int) ≤ s
      · have F : Hid ((if setB m s = true then (0 : Int) else 1) = 1) := by show _ = _; rw [E.out, if_neg (by simp; omega)]
        rw [F.out]
        go_enter Tryd.func9, Tryd.ntmps9
        go_wp2_with fail
        refine (isGround_yes _ _ (by omega) (by omega)).mono ?_
        rintro e w' ⟨rfl, rfl⟩
        go_wp2_with fail
        go_ret
        exact ⟨rfl, rfl⟩
      · have F : Hid ((if setB m s = true then (0 : Int) else 1) = 0) := by show _ = _; rw [E.out, if_pos (by simp; omega)]
        have hb' : decide ((T : Int) ≤ s) = false := by simpa using hb
        rw [F.out]
        go_enter Tryd.func9, Tryd.ntmps9
        go_wp2_with fail
        refine (isGround_yes _ _ (by omega) (by omega)).mono ?_
        rintro e w' ⟨rfl, rfl⟩
        go_wp2_with fail
        go_ret
        exact ⟨rfl, rfl⟩
  · have F : Hid ((if setB n s = true then (0 : Int) else 1) = 1) := by show _ = _; rw [if_neg]; unfold setB; simp; intros; omega
    rw [F.out]
    go_enter Tryd.func9, Tryd.ntmps9
    go_wp2_with fail
    refine (isGround_no _ _ (by omega)).mono ?_
    rintro e w' ⟨rfl, rfl⟩
    go_wp2_with fail
    go_ret
    exact ⟨rfl, rfl⟩

theorem isEmpty_size (t : ByteArray) : t.toList.isEmpty = decide (t.size = 0) := by
  have h : t.size = t.data.toList.length := by simp
  rw [Go.Lib.toList_data, h]
  cases t.data.toList <;> simp

set_option maxHeartbeats 1600000 in
set_option maxRecDepth 100000 in
theorem OfText_any (t : ByteArray) (w : World) (ht : t.size ≤ 140737488351232) :
    Calls Tryd.prog 15 #[.string t] w fun e w' => e = .returned (.tuple #[.int .i64 (rdT t).1, .agg #[.int .i64 (rdT t).2.1, .int .i64 (rdT t).2.2]]) ∧ Below w.heap.size w w' := by
  go_enter Tryd.func15, Tryd.ntmps15
  go_wp2_with fail
  go_loop [4, 5, 6, 7] (fun a b c i => ∃ k s nx st : Nat, k ≤ t.size ∧ s < 256 ∧ nx ≤ 8 ∧ a = .int .i64 s ∧ b = .int .i64 ((nx : Int) - 1) ∧ c = .int .i64 st ∧ i = .int .i64 k ∧ Hid (st = k % 2 ∧ rdT t = rd k s nx (t.data.toList.drop k))) (fun _ _ _ i => t.size - (intOf i).toNat)
  case atStart => exact ⟨0, 0, 0, 0, Nat.zero_le _, by omega, by omega, rfl, rfl, rfl, rfl, rfl, rfl⟩
  case round =>
    obtain ⟨k, s, nx, st, hk, hs, hnx, rfl, rfl, rfl, rfl, R⟩ := hrel
    by_cases hlt : k < t.size
    · have D := hid (byte_drop t k hlt)
      have C := hid (rd_cons k s nx t[k] (t.data.toList.drop (k + 1)))
      have h256 : t[k].toNat < 256 := t[k].toNat_lt
      by_cases hodd : k % 2 = 1
      · have hst : st = 1 := by rw [R.out.1]; exact hodd
        subst hst
        by_cases h32 : t[k].toNat = 32
        · have h32' : ((t[k].toNat : Int) == 32) = true := by rw [h32]; rfl
          by_cases h8 : nx = 8
          · have F : Hid (rdT t = (0, 4, (k : Int))) := by show rdT t = _; rw [R.out.2, D.out, C.out, if_pos hodd, if_pos (Or.inr h8)]
            have h8' : ¬ (nx : Int) - 1 < 7 := by omega
            clear h32 h8 hodd
            go_wp2
            exact bodyPost_ret (v := .tuple #[.int .i64 0, .agg #[.int .i64 4, .int .i64 k]]) (by simp [results, Tryd.results15, go_sem]) rfl ⟨by rw [F.out], by repeat (first | exact Below.refl _ _ | refine Below.setCell ?_ (by simp) _ | refine Below.alloc ?_ (by simp) _)⟩
          · have F : Hid (0 = (k + 1) % 2 ∧ rdT t = rd (k + 1) s nx (t.data.toList.drop (k + 1))) := ⟨by omega, by rw [R.out.2, D.out, C.out, if_pos hodd, if_neg (by simp [h32, h8])]⟩
            have h8' : (nx : Int) - 1 < 7 := by omega
            clear h32 h8 hodd
            go_wp2
            go_round
            case rel => exact ⟨k + 1, s, nx, 0, by omega, hs, hnx, rfl, rfl, rfl, by go_num, F⟩
            case measure => simp [intOf]; omega
        · have F : Hid (rdT t = (0, 4, (k : Int))) := by show rdT t = _; rw [R.out.2, D.out, C.out, if_pos hodd, if_pos (Or.inl h32)]
          have h32' : ((t[k].toNat : Int) == 32) = false := by rw [beq_eq_false_iff_ne]; omega
          clear h32 hodd
          go_wp2
          exact bodyPost_ret (v := .tuple #[.int .i64 0, .agg #[.int .i64 4, .int .i64 k]]) (by simp [results, Tryd.results15, go_sem]) rfl ⟨by rw [F.out], by repeat (first | exact Below.refl _ _ | refine Below.setCell ?_ (by simp) _ | refine Below.alloc ?_ (by simp) _)⟩
      · have hst : st = 0 := by rw [R.out.1]; omega
        subst hst
        by_cases hdig : t[k].toNat < 48 + nx ∨ 56 ≤ t[k].toNat
        · have F : Hid (rdT t = (0, 4, (k : Int))) := by show rdT t = _; rw [R.out.2, D.out, C.out, if_neg hodd, if_pos hdig]
          clear hodd
          by_cases h48 : (48 : Int) ≤ (t[k].toNat : Int)
          · by_cases h56 : (t[k].toNat : Int) < 56
            · have h1 : ¬ (nx : Int) - 1 < (t[k].toNat : Int) - 48 := by omega
              clear hdig
              go_wp2
              exact bodyPost_ret (v := .tuple #[.int .i64 0, .agg #[.int .i64 4, .int .i64 k]]) (by simp [results, Tryd.results15, go_sem]) rfl ⟨by rw [F.out], by repeat (first | exact Below.refl _ _ | refine Below.setCell ?_ (by simp) _ | refine Below.alloc ?_ (by simp) _)⟩
            · have h56' : decide ((t[k].toNat : Int) < 56) = false := by simpa using h56
              clear hdig
              go_wp2
              exact bodyPost_ret (v := .tuple #[.int .i64 0, .agg #[.int .i64 4, .int .i64 k]]) (by simp [results, Tryd.results15, go_sem]) rfl ⟨by rw [F.out], by repeat (first | exact Below.refl _ _ | refine Below.setCell ?_ (by simp) _ | refine Below.alloc ?_ (by simp) _)⟩
          · have h48' : decide ((48 : Int) ≤ (t[k].toNat : Int)) = false := by simpa using h48
            clear hdig
            go_wp2
            exact bodyPost_ret (v := .tuple #[.int .i64 0, .agg #[.int .i64 4, .int .i64 k]]) (by simp [results, Tryd.results15, go_sem]) rfl ⟨by rw [F.out], by repeat (first | exact Below.refl _ _ | refine Below.setCell ?_ (by simp) _ | refine Below.alloc ?_ (by simp) _)⟩
        · have F : Hid (1 = (k + 1) % 2 ∧ rdT t = rd (k + 1) (s ||| 2 ^ (t[k].toNat - 48)) (t[k].toNat - 48 + 1) (t.data.toList.drop (k + 1))) := ⟨by omega, by rw [R.out.2, D.out, C.out, if_neg hodd, if_neg hdig]⟩
          obtain ⟨e, he⟩ : ∃ e : Nat, t[k].toNat = 48 + e := ⟨t[k].toNat - 48, by omega⟩
          have he8 : e < 8 := by omega
          have hne : nx ≤ e := by omega
          rw [he, show 48 + e - 48 = e by omega] at F
          have hint : (t[k].toNat : Int) - 48 = (e : Int) := by omega
          obtain ⟨T, hT, HT, hT2⟩ : ∃ T : Nat, wrap64 (2 ^ e) = (T : Int) ∧ Hid (T = 2 ^ e) ∧ T ≤ 256 := ⟨2 ^ e, (pow_wrap _ (by omega)).1, rfl, (pow_wrap _ (by omega)).2⟩
          have hor : bits .or .i64 (s : Int) (T : Int) = ((s ||| T : Nat) : Int) := i64_or_nat s T (by omega) (by omega)
          have hol := or_lt hs he8
          rw [← HT.out] at hol F
          have h48 : (48 : Int) ≤ (t[k].toNat : Int) := by omega
          have h56 : (t[k].toNat : Int) < 56 := by omega
          have h3 : (nx : Int) - 1 < (e : Int) := by omega
          clear hodd hdig he
          go_wp2
          go_round
          case rel => exact ⟨k + 1, s ||| T, e + 1, 1, by omega, hol, by omega, rfl, by go_num, rfl, by go_num, F⟩
          case measure => simp [intOf]; omega
    · have hkt : k = t.size := by omega
      subst hkt
      have D : Hid (rdT t = if 0 < t.size ∧ t.size % 2 = 0 then (0, 4, (t.size : Int)) else ((s : Int), 0, 0)) := by
        show rdT t = _
        rw [R.out.2, List.drop_of_length_le (by simp)]; rfl
      by_cases h2 : t.size % 2 = 0
      · have hst : st = 0 := by rw [R.out.1]; exact h2
        subst hst
        by_cases h0 : 0 < t.size
        · have F : Hid (rdT t = (0, 4, (t.size : Int))) := by show rdT t = _; rw [D.out, if_pos ⟨h0, h2⟩]
          have hem : t.toList.isEmpty = false := by rw [isEmpty_size, decide_eq_false_iff_not]; omega
          clear h2
          go_wp2
          exact bodyPost_ret (v := .tuple #[.int .i64 0, .agg #[.int .i64 4, .int .i64 t.size]]) (by simp [results, Tryd.results15, go_sem]) rfl ⟨by rw [F.out], by repeat (first | exact Below.refl _ _ | refine Below.setCell ?_ (by simp) _ | refine Below.alloc ?_ (by simp) _)⟩
        · have F : Hid (rdT t = ((s : Int), 0, 0)) := by show rdT t = _; rw [D.out, if_neg (by omega)]
          have hem : t.toList.isEmpty = true := by rw [isEmpty_size, decide_eq_true_iff]; omega
          clear h2
          go_wp2
          exact bodyPost_ret (v := .tuple #[.int .i64 s, .agg #[.int .i64 0, .int .i64 0]]) (by simp [results, Tryd.results15, go_sem]) rfl ⟨by rw [F.out], by repeat (first | exact Below.refl _ _ | refine Below.setCell ?_ (by simp) _ | refine Below.alloc ?_ (by simp) _)⟩
      · have hst : st = 1 := by rw [R.out.1]; omega
        subst hst
        have F : Hid (rdT t = ((s : Int), 0, 0)) := by show rdT t = _; rw [D.out, if_neg (by omega)]
        clear h2
        go_wp2
        exact bodyPost_ret (v := .tuple #[.int .i64 s, .agg #[.int .i64 0, .int .i64 0]]) (by simp [results, Tryd.results15, go_sem]) rfl ⟨by rw [F.out], by repeat (first | exact Below.refl _ _ | refine Below.setCell ?_ (by simp) _ | refine Below.alloc ?_ (by simp) _)⟩

/-- A text as the program has it. -/
def bs (l : List UInt8) : ByteArray := ⟨l.toArray⟩
theorem bs_size (l : List UInt8) : (bs l).size = l.length := by simp [bs, ByteArray.size]
theorem bs_app (l : List UInt8) (t : ByteArray) : bs l ++ t = bs (l ++ t.data.toList) := by
  apply ByteArray.ext
  simp [bs]
theorem add_str (l : List UInt8) (t : ByteArray) (m : List UInt8) (hm : t.data.toList = m) (h : l.length + t.size ≤ 1000) (w : World) : (Op.stringOp .add (bs l) t).run Tryd.prog w = .ok (.string (bs (l ++ m))) w := by
  have := run_string_add_sum (P := Tryd.prog) (w := w) (bs l) t (by rw [bs_size]; omega)
  rw [bs_app, hm] at this
  exact this

set_option maxHeartbeats 1600000 in
theorem Text_any (s : Nat) (w : World) (hs : s < 256) :
    Calls Tryd.prog 13 #[.int .i64 s, .string ⟨#[32]⟩] w fun e w' => e = .returned (.string (setText s)) ∧ Below w.heap.size w w' := by
  go_enter Tryd.func13, Tryd.ntmps13
  go_wp2_with fail
  refine (Elements_any s _ hs).mono ?_
  rintro e w1 ⟨r, rfl, ho, hb⟩
  have h9 : (els s).length ≤ 8 := pop_le s hs
  have I1 := ho.ints (by omega)
  obtain ⟨a, cap, hv, hlen, hc⟩ := I1.nats
  rw [hv]
  clear ho I1 hv
  have HE : Hid (∀ x ∈ els s, x < 8) := fun x hx => by simpa using (List.mem_filter.1 hx).1
  generalize hx : els s = l at *
  have HX := hid hx
  clear hx
  have hstart : (ByteArray.mk #[]) = bs [] := rfl
  go_wp2_with fail
  rw [hstart]
  go_loop [6, 7] (fun a i => ∃ (k : Nat) (acc : List UInt8), k ≤ l.length ∧ a = .string (bs acc) ∧ i = .int .i64 k ∧ acc.length ≤ 2 * k ∧ Hid (acc = [] ↔ k = 0) ∧ Hid (txt l = joinT acc (l.drop k))) (fun _ i => l.length - (intOf i).toNat)
  case atStart => exact ⟨0, [], Nat.zero_le _, rfl, rfl, by simp, by show _ ↔ _; simp, by show txt l = _; unfold joinT; split <;> simp_all [txt]⟩
  case round =>
    obtain ⟨k, acc, hk, rfl, rfl, hal, hk0, R⟩ := hrel
    by_cases hlt : k < l.length
    · obtain ⟨b, off, rfl, hbl, hcell⟩ := hc (by omega)
      have hck := hcell k hlt
      have hmem : l.getD k 0 ∈ l := by simp [List.getD, hlt]
      have hx8 := HE.out _ hmem
      have D : Hid (l.drop k = l.getD k 0 :: l.drop (k + 1)) := by
        show l.drop k = _
        rw [List.drop_eq_getElem_cons hlt]; simp [List.getD, hlt]
      clear hcell hc hmem
      generalize l.getD k 0 = x at *
      by_cases hz : k = 0
      · have hacc := hk0.out.2 hz
        subst hz hacc
        have R2 : Hid (txt l = joinT ([] ++ [dig x]) (l.drop 1)) := by show txt l = _; rw [R.out, D.out, joinT_first]; rfl
        have A1 := add_str [] (digS x) [dig x] rfl (by simp [digS, ByteArray.size])
        have hck0 : w1.cell? ⟨b, off, none⟩ = some (.int .i64 x) := hck
        clear R D hk0
        go_wp2_with fail
        refine (itoa x _ hx8).mono ?_
        rintro e w2 ⟨rfl, rfl⟩
        go_wp2_with fail
        go_round
        case rel => exact ⟨1, [] ++ [dig x], by omega, rfl, rfl, by simp, by show _ ↔ _; simp, R2⟩
        case measure => simp [intOf]; omega
      · have hacc : acc ≠ [] := fun h => hz (hk0.out.1 h)
        have R2 : Hid (txt l = joinT (acc ++ [32, dig x]) (l.drop (k + 1))) := by show txt l = _; rw [R.out, D.out, joinT_more _ hacc, List.append_assoc]; rfl
        have A1 := add_str acc ⟨#[32]⟩ [32] rfl (by simp [ByteArray.size]; omega)
        have A2 := add_str (acc ++ [32]) (digS x) [dig x] rfl (by simp [digS, ByteArray.size]; omega)
        have hkp : (0 : Int) < (k : Int) := by omega
        clear R D hk0 hacc
        go_wp2_with fail
        refine (itoa x _ hx8).mono ?_
        rintro e w2 ⟨rfl, rfl⟩
        go_wp2_with fail
        go_round
        case rel => exact ⟨k + 1, acc ++ [32, dig x], by omega, rfl, by go_num, by simp; omega, by show _ ↔ _; simp, R2⟩
        case measure => simp [intOf]; omega
    · have F : Hid (txt l = acc) := by show txt l = acc; rw [R.out, List.drop_of_length_le (by omega), joinT_nil]
      go_wp2_with fail
      go_ret
      exact ⟨by rw [setText, HX.out, F.out]; rfl, hb⟩
end Go.Proofs.YtgojjmfkominfaaDoor
