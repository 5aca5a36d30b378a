/- flats.withoutLeast, hasOneWithin, Broken. -/
import Derived.Test.YtpmpfnbgjgjlgaaFlCQ
import Derived.Test.YtpmpfnbgjgjlgaaMkToW
namespace Go.Proofs.Ytpmpfnbgjgjlgaa
open Go.RowKit

theorem bc_lt {c : Nat} (h : c < 256) : rm c (tz c) < 256 := by rw [rm_eq]; exact dif_lt h
theorem bt_dif (x : Nat) : x ^^^ (x &&& bt (tz x)) = rm x (tz x) := rfl
/-- the broken ones -/
def brkL (l : List Nat) : List Nat := l.map fun c => rm c (tz c)
theorem brk_take {l : List Nat} {k : Nat} (h : k < l.length) : brkL (l.take (k + 1)) = brkL (l.take k) ++ [rm (l.getD k 0) (tz (l.getD k 0))] := by
  unfold brkL
  rw [take_snoc h, List.map_append]
  rfl
theorem brk_len (l : List Nat) : (brkL l).length = l.length := by simp [brkL]
set_option maxRecDepth 20000 in
set_option maxHeartbeats 2000000 in
theorem withoutLeastF_any (v : Value) (l : List Nat) (w : World) (hl : ∀ s ∈ l, s < 256 ∧ 0 < s) (hlen : l.length ≤ 256) (h : Ints w v (N l)) :
    Calls Try.prog 58 #[v] w fun e w' => ∃ u, e = .returned u ∧ Own w.heap.size w' u (brkL l) ∧ Below w.heap.size w w' := by
  obtain ⟨i0, hi, hz0, hz1, hz2⟩ := info_parts Try.infoInt
  obtain ⟨a, cap, rfl, -, hc⟩ := h.nats
  have HL : Hid (∀ k, k < l.length → l.getD k 0 < 256 ∧ 0 < l.getD k 0) := fun k hk => hl _ (by simp [List.getD, hk])
  have HT := hid (fun k (hk : k < l.length) => brk_take hk)
  have HLE := hid (fun k => brk_len (l.take k))
  have HE : Hid (brkL (l.take l.length) = brkL l) := by show _ = _; rw [List.take_length]
  have mk := fun w => run_make_to 0 l.length (Nat.zero_le _) hlen w
  rw [show ((0 : Nat) : Int) = 0 from rfl] at mk
  have HO0 : Hid (Own w.heap.size (w.alloc (.cells (madeCells #[.int .i64 0] l.length) 3)) (.slice (some ⟨w.heap.size, 0, none⟩) 0 l.length) (brkL (l.take 0))) := own_made (World.alloc_heap_new w _) (Nat.le_refl _) hlen [] (.inl rfl)
  have HB0 := hid (below_alloc w (.cells (madeCells #[.int .i64 0] l.length) 3))
  generalize brkL l = fin at *
  clear hl h
  go_enter Try.func58, Try.ntmps58
  go_wp2_with fail
  go_loopw [3, 5, 11] (fun u _ i wr => ∃ k : Nat, k ≤ l.length ∧ i = .int .i64 k ∧ Hid (Own w.heap.size wr u (brkL (l.take k))) ∧ Hid (Below w.heap.size w wr)) (fun _ _ i _ => l.length - (intOf i).toNat)
  case atStart => exact ⟨0, Nat.zero_le _, rfl, HO0.out, HB0.out⟩
  case round =>
    obtain ⟨k, hk, rfl, HO, HW⟩ := hrel
    by_cases hlt : k < l.length
    · obtain ⟨b, off, rfl, hb, hcell⟩ := hc (by omega)
      have x1 := (HW.out.cell (p := ⟨b, off + k, none⟩) hb).trans (hcell k hlt)
      have l1 := HL.out k hlt
      have TK := hid (HT.out k hlt)
      have hlk : (brkL (l.take k)).length ≤ k := by rw [HLE.out k]; exact List.length_take_le _ _
      have hs2 := HW.out.size
      clear hcell hc
      generalize brkL (l.take k) = acc at *
      generalize l.getD k 0 = x at *
      have LO := hid (fun w => low_any x w l1.1 l1.2)
      have AN : bits .andNot .i64 (x : Int) (bt (tz x) : Nat) = ((rm x (tz x) : Nat) : Int) := by
        rw [i64_andNot_nat _ _ (by omega) (by have := pow_lt256 (tz_lt x l1.1 l1.2); unfold bt; omega)]
        rfl
      have l2 := bc_lt l1.1
      generalize rm x (tz x) = y at *
      generalize bt (tz x) = z at *
      go_wp2_with fail
      refine (LO.out _).mono ?_
      rintro e w1 ⟨rfl, h1⟩
      obtain rfl := h1.symm
      go_wp2_with (at_builtin; refine wpList_append_own _ rfl _ _ 22 rfl w.heap.size 3 i0 (.int .i64 0) 1 8 Try.underlying22 hi hz0 hz1 hz2 rfl (by decide) _ _ _ rfl (HO.out.alloc _) ⟨wr.heap.size, 0, none⟩ 1 1 [.int .i64 (y : Nat)] rfl rfl ?c1 ?c2 ?c3 ?c4 ?c5 ?_)
      case c1 => exact cell_one_new _ _ _
      case c2 => intro u hu; simp at hu; subst hu; rfl
      case c3 => unfold maxLen; omega
      case c4 => omega
      case c5 => simp; omega
      intro v' w5 hown' hgrow _
      have R3 := hid (Own.snoc hown')
      have R4 := hid (Own.grown HO.out HW.out (by omega) hgrow)
      clear hown' hgrow
      go_wp2_with fail
      go_roundw
      case rel => exact ⟨k + 1, by omega, by go_num, by rw [TK.out]; exact R3.out, R4.out⟩
      case measure => simp [intOf]; omega
    · obtain rfl : k = l.length := by omega
      have HF := hid HO.out
      rw [HE.out] at HF
      go_wp2_with fail
      go_ret
      exact ⟨_, rfl, HF.out, HW.out⟩
theorem enters_one1 : Enters 80 := fun args w => enters_of Try.func80 (by kernel_rfl) rfl args w
theorem hasOne_any (v : Value) (l : List Nat) (s : Nat) (w : World) (hs : s < 256) (hl : ∀ x ∈ l, x < 256) (h : Ints w v (N l)) :
    Calls Try.prog 61 #[v, .int .i64 s] w fun e w' => e = .returned (.bool (l.any fun c => subB c s)) ∧ Below w.heap.size w w' := by
  have hB0 : Below w.heap.size w (w.alloc (.cells #[.int .i64 (s : Nat)] 3)) := (Below.refl _ _).alloc (Nat.le_refl _) _
  have hx := (Boxed.new w 3 (.int .i64 (s : Nat))).cell
  have hsz : (w.alloc (.cells #[.int .i64 (s : Nat)] 3)).heap.size = w.heap.size + 1 := World.size_alloc ..
  have CF := hid (ContainsFunc_any 80 #[.pointer (some ⟨w.heap.size, 0, none⟩)] v l (fun c => subB c s) _ enters_one1 (h.below hB0) (fun x hx' w1 hb1 hs1 => by
    have d1 := (hb1.cell (p := ⟨w.heap.size, 0, none⟩) (by show w.heap.size < _; omega)).trans hx
    have WI := hid (fun w => within_any x s w (hl x hx') hs)
    show Calls Try.prog 80 #[.int .i64 (x : Nat), .pointer (some ⟨w.heap.size, 0, none⟩)] w1 _
    go_enter Try.func80, Try.ntmps80
    go_wp2_with fail
    refine (WI.out _).mono ?_
    rintro e w2 ⟨rfl, h2⟩
    obtain rfl := h2.symm
    go_wp2_with fail
    go_ret
    exact ⟨rfl, Below.refl _ _⟩))
  have HB0 := hid hB0
  obtain ⟨a, cap, rfl, _, _⟩ := h
  clear hB0 hx hsz
  generalize (l.any fun c => subB c s) = ans at *
  go_enter Try.func61, Try.ntmps61
  go_wp2_with fail
  refine CF.out.mono ?_
  rintro e w2 ⟨rfl, hb2⟩
  have HB := hid (HB0.out.trans (hb2.mono HB0.out.size))
  clear hb2
  go_wp2_with fail
  go_ret
  exact ⟨rfl, HB.out⟩
end Go.Proofs.Ytpmpfnbgjgjlgaa
