/- What MinorsParts' calls give, in terms of classes. -/
import Derived.Test.YthbldeloocmakabGreatSumSQ
import Derived.Test.YthbldeloocmakabGreatCompW
import Derived.Test.YthbldeloocmakabGreatSmpQ
import Derived.Test.YthbldeloocmakabGreatPlainAll
import Derived.Test.YthbldeloocmakabGreatWithoutQ
import Derived.Deep.RegionHeld3
namespace Go.Proofs.YthbldeloocmakabGreat
open Go.RowKit

theorem min_none {n : Nat} {l : List Nat} (hn : n ≤ 8) (hf : Fam n l) (hb : Bas l) : dif (2 ^ n - 1) 0 = 2 ^ n - 1 ∧ minL n l 0 0 = l := by
  have e1 : dif (2 ^ n - 1) 0 = 2 ^ n - 1 := Nat.eq_of_testBit_eq fun j => by rw [dif_bit]; simp
  have e2 := pop_full n hn
  have hF := min_fam n l 0 0
  have hB := min_bas hn hb 0 0
  have hR : ∀ t, t < 2 ^ n → rk (minL n l 0 0) t = rk l t := fun t ht => by
    rw [min_rk hn hb 0 0 (by rw [e1, e2]; exact ht), e1, min_zero hb, els_full n hn, old_range ht]
  rw [e1, e2] at hF
  exact ⟨e1, bas_ext hn hF hB hf hb hR⟩
theorem comps_eq {m : Nat} {l L : List Nat} (hm : m ≤ 8) (hb : Bas l) (h : Comps m l L) : L = eqL m (cls (cirL m l) m) := by
  obtain ⟨P, h1, h2, h3⟩ := h
  exact prts_sorted hm (cls_eqv hm hb) cls_T h1 h2 h3
theorem clsS_eq {m : Nat} {r : Nat → Nat} {L : List Nat} (hm : m ≤ 8) (hr : Rk r) (h : ClsS m r L) : L = eqL m (pcl r m) := by
  obtain ⟨P, h1, h2, h3⟩ := h
  exact prts_sorted (T := par r) hm (pcl_eqv hr) (fun i j hi hj => by rw [pcl_bit]; simp [hj]; rfl) h1 h2 h3
theorem pt_len (n : Nat) (f : Nat → Nat) : (eqL n f).length ≤ 2 ^ n := Nat.le_trans (List.length_filter_le _ _) (by simp)
theorem pt_lt {n : Nat} {f : Nat → Nat} {s : Nat} (h : s ∈ eqL n f) : s < 2 ^ n := List.mem_range.1 (List.mem_filter.1 h).1
theorem pt_rk {m : Nat} {l : List Nat} (hm : m ≤ 8) (hb : Bas l) {s : Nat} (hs : s < 2 ^ m) : rk l s ≤ 8 := Nat.le_trans ((hb.rkOn m).le s hs) (pop_le _ (lt256 hm hs))
theorem pt_step {m : Nat} {l L : List Nat} (hm : m ≤ 8) (hb : Bas l) (hL : L = eqL m (cls (cirL m l) m)) {p : Nat} (hp : p < L.length) : L.getD p 0 < 2 ^ m ∧ orT L p < 2 ^ m ∧ orT L p &&& L.getD p 0 = 0 ∧ orT L (p + 1) = orT L p ||| L.getD p 0 ∧ sumT (rk l) L (p + 1) = sumT (rk l) L p + rk l (L.getD p 0) ∧ sumT (rk l) L p ≤ 8 ∧ rk l (L.getD p 0) ≤ 8 := by
  have hmem : L.getD p 0 ∈ L := by simp only [List.getD, List.getElem?_eq_getElem hp, Option.getD_some]; exact List.getElem_mem _
  have h1 : L.getD p 0 < 2 ^ m := pt_lt (by rw [← hL]; exact hmem)
  have h2 : orT L p < 2 ^ m := orT_lt (fun s hs => pt_lt (by rw [← hL]; exact hs)) p
  refine ⟨h1, h2, ?_, orT_succ hp, sumT_succ hp, ?_, pt_rk hm hb h1⟩
  · subst hL; exact (cls_eqv hm hb).free hp
  · have h3 : sumT (rk l) L p = rk l (orT L p) := by subst hL; exact comp_sum hm hb p (by omega)
    rw [h3]; exact pt_rk hm hb h2
theorem pt_end {m : Nat} {l L : List Nat} (hm : m ≤ 8) (hb : Bas l) (hL : L = eqL m (cls (cirL m l) m)) : orT L L.length = 2 ^ m - 1 ∧ sumT (rk l) L L.length = rk l (2 ^ m - 1) := by
  have h1 : orT L L.length = 2 ^ m - 1 := by subst hL; exact (cls_eqv hm hb).all
  exact ⟨h1, by rw [← h1]; subst hL; exact comp_sum hm hb _ (Nat.le_refl _)⟩
def SimpleM (n : Nat) (l : List Nat) : Prop := ∀ L, ClsS n (rk l) L → goneL (rk l) L = 0 ∧ L.length = n
theorem Simple_parts (m : Nat) (v : Value) (l : List Nat) (w : World) (hm : m ≤ 8) (hf : Fam m l) (hb : Bas l) (h : Ints w v (N l)) :
    Calls Tryz.prog 22 #[.agg #[.int .i64 m, v]] w fun e w' => ∃ n acc, n ≤ 8 ∧ Fam n acc ∧ Bas acc ∧ SimpleM n acc ∧ GivesO w (n : Nat) acc e w' := by
  refine (Simple_ok m v l w hm hf hb h).mono ?_
  rintro e w' ⟨L, hL, hG⟩
  have hE := clsS_eq hm hb.rk hL
  have hB := min_bas hm hb (goneL (rk l) L) 0
  refine ⟨_, _, kept_le hm _, min_fam m l _ 0, hB, ?_, hG⟩
  intro L' hL'
  have hE' := clsS_eq (kept_le hm _) hB.rk hL'
  have hs := simple_left hm hb
  have key := simple_none (kept_le hm (goneP (rk l) (eqL m (pcl (rk l) m)))) (min_bas hm hb _ 0).rk hs.1 hs.2
  subst hE
  subst hE'
  exact key
theorem Simple_again (m : Nat) (v : Value) (l : List Nat) (w : World) (hm : m ≤ 8) (hf : Fam m l) (hb : Bas l) (hS : SimpleM m l) (h : Ints w v (N l)) :
    Calls Tryz.prog 22 #[.agg #[.int .i64 m, v]] w (GivesO w (m : Nat) l) := by
  refine (Simple_ok m v l w hm hf hb h).mono ?_
  rintro e w' ⟨L, hL, hG⟩
  rw [(hS L hL).1, (min_none hm hf hb).1, (min_none hm hf hb).2, pop_full m hm] at hG
  exact hG
end Go.Proofs.YthbldeloocmakabGreat

namespace Go.Proofs.YthbldeloocmakabGreat
open Go.RowKit

theorem mInd_any (v : Value) (T : Nat) (r : Nat → Nat) (s : Nat) (w : World) (hT : T ≤ 256) (hs : s < T) (h : RkAt w v T r) :
    Calls Tryz.prog 48 #[v, .int .i64 s] w fun e w' => e = .returned (.bool (r s == pop s)) ∧ Below w.heap.size w w' := by
  obtain ⟨b, off, cap, rfl, h1, h2⟩ := h
  have hc := h2 s hs
  have HS := hid (fun w' => size_any s w' (by omega))
  clear h2
  go_enter Tryz.func48, Tryz.ntmps48
  go_wp2_with fail
  go_quiet ((go_at_call 74; refine (HS.out _).mono ?_; rintro e w' ⟨rfl, rfl⟩; exact ⟨rfl, _, rfl⟩))
  go_wp2_with fail
  go_ret
  exact ⟨ret_bool (by rw [Bool.eq_iff_iff, beq_iff_eq, beq_iff_eq]; omega), drewN_below _ _ _⟩
end Go.Proofs.YthbldeloocmakabGreat
