/- field.inverse, field.add. -/
import Derived.Test.YtcncaaeofcmefaaPlainAll
import Derived.Test.YtcncaaeofcmefaaTZQ
import Derived.Test.YtcncaaeofcmefaaOrdBW
import Derived.Test.YtcncaaeofcmefaaKLmQ
namespace Go.Proofs.Ytcncaaeofcmefaa
open Go.RowKit

theorem TblZ.save {g : Nat} {w w' : World} {T : Nat} {f : Nat → Int} {X : Nat → Prop} (h : TblZ g w T f) (hs : Save X w w') (hg : ¬ X g) : TblZ g w' T f :=
  ⟨fun i hi => (World.cell?_of_block (hs.block g h.size hg)).trans (h.cell i hi), fun i => (World.frozen?_of_block (hs.block g h.size hg)).trans (h.frozen i), Nat.lt_of_lt_of_le h.size hs.size⟩
set_option maxRecDepth 20000 in
theorem inverse_ok (p v : Int) (w : World) (hp : isP p) (h0 : 0 < v) (h1 : v < p) : Calls Try.prog 24 #[.int .i64 p, .int .i64 v] w fun e w' => e = .returned (.int .i64 (invN p v : Nat)) ∧ w' = w := by
  obtain ⟨a1, a2, a3, a4⟩ := invN_spec hp h0 h1
  have hp2 := isP_pos hp
  obtain ⟨n, hn⟩ : ∃ n, invN p v = n := ⟨_, rfl⟩
  rw [hn] at a1 a2 a3 a4 ⊢
  have A3 := hid a3
  have A4 := hid a4
  clear hn a3 a4 hp
  have hp0 : (p == 0) = false := by rw [beq_eq_false_iff_ne]; omega
  go_enter Try.func24, Try.ntmps24
  go_wp2_with fail
  go_loop [5] (fun i => ∃ k : Nat, 1 ≤ k ∧ k ≤ n ∧ i = .int .i64 k) (fun i => n - (intOf i).toNat)
  case atStart => exact ⟨1, by omega, by omega, rfl⟩
  case round =>
    obtain ⟨k, hk1, hk2, rfl⟩ := hrel
    obtain ⟨y, hy, HY⟩ : ∃ y, v * (k : Int) = y ∧ Hid (v * (k : Int) = y) := ⟨_, rfl, rfl⟩
    have b1 : 0 ≤ y ∧ y ≤ 49 := by
      rw [← HY.out]
      refine ⟨Int.mul_nonneg (by omega) (by omega), ?_⟩
      have := Int.mul_le_mul (show v ≤ 7 by omega) (show (k : Int) ≤ 7 by omega) (by omega) (by omega)
      omega
    obtain ⟨q, hq, HQ⟩ : ∃ q, Int.tmod y p = q ∧ Hid ((v * (k : Int)) % p = q) := ⟨_, rfl, by
      show _ = Int.tmod y p
      rw [Int.tmod_eq_emod_of_nonneg b1.1, HY.out]⟩
    have b4 : 0 ≤ q ∧ q < p := by rw [← hq, Int.tmod_eq_emod_of_nonneg b1.1]; exact ⟨Int.emod_nonneg _ (by omega), Int.emod_lt_of_pos _ (by omega)⟩
    have hw1 : IntKind.i64.wrap y = y := IntWalk.i64_in _ (by omega)
    have hw4 : IntKind.i64.wrap q = q := IntWalk.i64_in _ (by omega)
    by_cases hlt : k < n
    · have hne : (q != 1) = true := by
        have := A4.out k hlt hk1
        rw [HQ.out] at this
        simpa using this
      have hne2 : ¬ q = 1 := by simpa using hne
      clear HY HQ
      go_wp2_with fail
      go_round
      case rel => exact ⟨k + 1, by omega, by omega, by go_num⟩
      case measure => simp [intOf]; omega
    · obtain rfl : k = n := by omega
      have he : q = 1 := HQ.out.symm.trans A3.out
      subst he
      clear HY HQ
      go_wp2_with fail
      go_ret
      exact ⟨rfl, rfl⟩
/-- v reads as c numbers in a block of which X holds. -/
def RdZ (w : World) (v : Value) (c : Nat) (o : Nat → Int) (X : Nat → Prop) : Prop := ∃ a cap, v = .slice a c cap ∧ (0 < c → ∃ b off, a = some ⟨b, off, none⟩ ∧ X b ∧ b < w.heap.size ∧ ∀ i, i < c → w.cell? ⟨b, off + i, none⟩ = some (.int .i64 (o i)))
set_option maxRecDepth 20000 in
set_option maxHeartbeats 1000000 in
theorem add_ok (p t : Int) (rb cp c : Nat) (f o : Nat → Int) (u : Value) (w : World) (hp : isP p) (ht : 0 ≤ t ∧ t ≤ p) (hc : c ≤ 256) (hf : TblZ rb w c f) (hr : ∀ i, i < c → 0 ≤ f i ∧ f i < p) (ho : RdZ w u c o fun b => b ≠ rb) (hor : ∀ i, i < c → 0 ≤ o i ∧ o i < p) :
    Calls Try.prog 25 #[.int .i64 p, .slice (some ⟨rb, 0, none⟩) c cp, u, .int .i64 t] w fun e w' => e = .returned (.tuple #[]) ∧ TblZ rb w' c (fun i => (f i + t * o i) % p) ∧ Save (fun b => b = rb) w w' := by
  obtain ⟨a, cap, rfl, hx⟩ := ho
  have hp2 := isP_pos hp
  have HF := hid hf
  have HR := hid hr
  have HX := hid hx
  have HO := hid hor
  clear hf hr hx hor hp
  have hp0 : (p == 0) = false := by rw [beq_eq_false_iff_ne]; omega
  go_enter Try.func25, Try.ntmps25
  go_wp2_with fail
  go_loopw [8, 9, 12] (fun _ _ i wr => ∃ k : Nat, k ≤ c ∧ i = .int .i64 k ∧ Hid (TblZ rb wr c (fun i => if i < k then (f i + t * o i) % p else f i)) ∧ Hid (Save (fun b => b = rb) w wr)) (fun _ _ i _ => c - (intOf i).toNat)
  case atStart => exact ⟨0, Nat.zero_le _, rfl, HF.out.congr fun i _ => by rw [if_neg (by omega)], Save.refl _ _⟩
  case round =>
    obtain ⟨k, hk, rfl, HT, HS⟩ := hrel
    by_cases hlt : k < c
    · obtain ⟨b, off, rfl, hb, hbs, hcell⟩ := HX.out (by omega)
      have c0 : wr.cell? ⟨b, off + k, none⟩ = some (.int .i64 (o k)) := (World.cell?_of_block (HS.out.block b hbs hb)).trans (hcell k hlt)
      have c1 := HT.out.cell k hlt
      rw [if_neg (by omega)] at c1
      have c2 := HT.out.frozen k
      have r1 := HR.out k hlt
      have r2 := HO.out k hlt
      have hki : (k : Int) < (c : Int) := by omega
      obtain ⟨m1, hm1, HM1⟩ : ∃ m1, t * o k = m1 ∧ Hid (t * o k = m1) := ⟨_, rfl, rfl⟩
      have b1 : 0 ≤ m1 ∧ m1 ≤ 49 := by
        rw [← HM1.out]
        refine ⟨Int.mul_nonneg (by omega) (by omega), ?_⟩
        have := Int.mul_le_mul (show t ≤ 7 by omega) (show o k ≤ 7 by omega) (by omega) (by omega)
        omega
      obtain ⟨m3, hm3, HM3⟩ : ∃ m3, f k + m1 = m3 ∧ Hid (f k + m1 = m3) := ⟨_, rfl, rfl⟩
      have b3 : 0 ≤ m3 ∧ m3 ≤ 98 := by omega
      obtain ⟨q, hq, HQ⟩ : ∃ q, Int.tmod m3 p = q ∧ Hid ((f k + t * o k) % p = q) := ⟨_, rfl, by
        show _ = Int.tmod m3 p
        rw [Int.tmod_eq_emod_of_nonneg b3.1, HM1.out, HM3.out]⟩
      have b4 : 0 ≤ q ∧ q < p := by rw [← hq, Int.tmod_eq_emod_of_nonneg b3.1]; exact ⟨Int.emod_nonneg _ (by omega), Int.emod_lt_of_pos _ (by omega)⟩
      have hw1 : IntKind.i64.wrap m1 = m1 := IntWalk.i64_in _ (by omega)
      have hw3 : IntKind.i64.wrap m3 = m3 := IntWalk.i64_in _ (by omega)
      have hw4 : IntKind.i64.wrap q = q := IntWalk.i64_in _ (by omega)
      have G1 : Hid (TblZ rb (wr.setCell ⟨rb, k, none⟩ (.int .i64 q)) c (fun i => if i < k + 1 then (f i + t * o i) % p else f i)) := HT.out.set k q hlt fun i hi => by
        by_cases e : k = i
        · subst e; rw [if_pos rfl, if_pos (by omega), HQ.out]
        · rw [if_neg e]
          by_cases e2 : i < k
          · rw [if_pos e2, if_pos (by omega)]
          · rw [if_neg e2, if_neg (by omega)]
      have G2 : Hid (Save (fun b => b = rb) w (wr.setCell ⟨rb, k, none⟩ (.int .i64 q))) := HS.out.setCell (p := ⟨rb, k, none⟩) (.inl rfl) _
      clear HT HS HM1 HM3 HQ HX hcell
      generalize f k = fk at *
      generalize o k = ok at *
      go_wp2_with fail
      exact ⟨⟨k + 1, by omega, by go_num, G1.out, G2.out⟩, by simp [intOf]; omega⟩
    · obtain rfl : k = c := by omega
      have G1 : Hid (TblZ rb wr k (fun i => (f i + t * o i) % p)) := HT.out.congr fun i hi => by rw [if_pos hi]
      clear HT
      go_wp2_with fail
      exact bodyPost_end (results_none rfl _ _ _) rfl ⟨rfl, G1.out, HS.out⟩
end Go.Proofs.Ytcncaaeofcmefaa
