/- axioms.canExchange. -/
import Derived.Test.YtgkkemlemnlchaaExchQ
import Derived.Test.YtgkkemlemnlchaaMarkedQ
namespace Go.Proofs.Ytgkkemlemnlchaa
open Go.RowKit

theorem zeroMarks (w : World) : (zeroValue 68).run Try.prog w = .ok (.agg Z256) w := by kernel_rfl
theorem Marked.new (w : World) (Z : Array Value) (hZ : Z = Array.replicate 256 (.bool false)) : Marked w.heap.size (w.alloc (.cells Z 68)) (fun _ => false) := by
  subst hZ
  refine ⟨fun i hi => ?_, fun i => World.frozen?_alloc_at _ _ _ _ rfl, by simp⟩
  rw [World.cell?_alloc_at _ _ _ _ rfl]
  simp [hi]

/-- Can any two exchange? -/
def exchB (l : List Nat) : Bool := l.all fun a => l.all fun b => giveB (fun s => memB s l) a b
theorem mem_take_succ {l : List Nat} {k : Nat} (h : k < l.length) (i : Nat) : memB i (l.take (k + 1)) = (memB i (l.take k) || l.getD k 0 == i) := by
  unfold memB
  rw [take_snoc h]
  rw [Bool.eq_iff_iff]
  simp only [decide_eq_true_eq, List.mem_append, List.mem_singleton, Bool.or_eq_true, beq_iff_eq]
  exact ⟨fun h => h.imp id Eq.symm, fun h => h.imp id Eq.symm⟩

set_option maxRecDepth 100000 in
set_option maxHeartbeats 4000000 in
theorem canExchange_any (v : Value) (l : List Nat) (w : World) (hl : ∀ s ∈ l, s < 256) (h : Ints w v (N l)) :
    Calls Try.prog 30 #[v] w fun e w' => e = .returned (.bool (exchB l)) ∧ Below w.heap.size w w' := by
  obtain ⟨gv, HG, EX⟩ : ∃ gv : Nat → Nat → Bool, Hid (∀ a b, giveB (fun s => memB s l) a b = gv a b) ∧ Hid (exchB l = l.all fun a => l.all (gv a)) := ⟨giveB (fun s => memB s l), fun _ _ => rfl, rfl⟩
  rw [EX.out]
  clear EX
  obtain ⟨a, cap, rfl, hlen, hc⟩ := h.nats
  clear h
  obtain ⟨Z, hZ, HZ⟩ : ∃ Z, (∀ w, (zeroValue 68).run Try.prog w = .ok (.agg Z) w) ∧ Hid (Z = Array.replicate 256 (.bool false)) := ⟨Z256, zeroMarks, rfl⟩
  have hZs : Z.size = 256 := by rw [HZ.out]; simp
  have hZn : ¬ Z = #[] := fun h => by rw [h] at hZs; simp at hZs
  go_enter Try.func30, Try.ntmps30
  go_wp2_with fail
  have hmk : Marked w.heap.size (w.alloc (.cells Z 68)) (fun i => memB i (l.take 0)) := by
    have h1 := Marked.new w Z HZ.out
    have e : (fun _ => false) = fun i => memB i (l.take 0) := by funext i; simp [memB]
    rw [e] at h1
    exact h1
  have hB0 : Below w.heap.size w (w.alloc (.cells Z 68)) := (Below.refl _ _).alloc (Nat.le_refl _) _
  revert hmk hB0
  generalize w.alloc (.cells Z 68) = W1
  intro hmk hB0
  clear hZ HZ hZs hZn
  go_loopw [12] (fun i wr => ∃ k : Nat, k ≤ l.length ∧ i = .int .i64 k ∧ Marked w.heap.size wr (fun i => memB i (l.take k)) ∧ Below w.heap.size w wr) (fun i _ => l.length - (intOf i).toNat)
  case atStart => exact ⟨0, Nat.zero_le _, rfl, hmk, hB0⟩
  case round =>
    obtain ⟨k, hk, rfl, hm, hnx⟩ := hrel
    clear hmk hB0
    by_cases hlt : k < l.length
    · obtain ⟨b, off, rfl, hb, hcell⟩ := hc (by omega)
      have hck : wr.cell? ⟨b, off + k, none⟩ = some (.int .i64 (l.getD k 0 : Nat)) := (hnx.cell (p := ⟨b, off + k, none⟩) hb).trans (hcell k hlt)
      have hx := getD_lt hl k
      have M := hid (fun i => mem_take_succ hlt i)
      clear hcell hc
      generalize l.getD k 0 = x at *
      have hcx := hm.cell x hx
      have hfx := hm.frozen x
      have HM := hid (hm.set x hx M.out)
      go_wp2_with fail
      go_roundw
      case rel => exact ⟨k + 1, by omega, by go_num, HM.out, hnx.setCell (p := ⟨w.heap.size, x, none⟩) (Nat.le_refl _) _⟩
      case measure => simp [intOf]; omega
    · have hk' : k = l.length := by omega
      subst hk'
      rw [List.take_length] at hm
      have HM : Hid (Marks wr w.heap.size (fun s => memB s l)) := hm.cell
      have hsm := hm.size
      have GV := hid (fun (x y : Nat) (hx : x < 256) (hy : y < 256) (w' : World) (hb : Below wr.heap.size wr w') => canGiveAll_any w.heap.size (fun s => memB s l) x y hx hy w' (HM.out.below hb hsm))
      have HNX := hid hnx
      clear hm
      have hc2 : 0 < l.length → ∃ b off, a = some ⟨b, off, none⟩ ∧ b < wr.heap.size ∧ ∀ i, i < l.length → wr.cell? ⟨b, off + i, none⟩ = some (.int .i64 (l.getD i 0 : Nat)) := fun h => by
        obtain ⟨b, off, h1, h2, h3⟩ := hc h
        exact ⟨b, off, h1, Nat.lt_of_lt_of_le h2 hnx.size, fun i hi => (hnx.cell (p := ⟨b, off + i, none⟩) h2).trans (h3 i hi)⟩
      clear hc hnx
      go_wp2_with fail
      rename World => W2
      go_loopw [21] (fun i w2 => ∃ k : Nat, k ≤ l.length ∧ i = .int .i64 k ∧ Hid ((l.all fun a => l.all (gv a)) = (l.drop k).all fun a => l.all (gv a)) ∧ Below W2.heap.size W2 w2) (fun i _ => l.length - (intOf i).toNat)
      case atStart => exact ⟨0, Nat.zero_le _, rfl, rfl, Below.refl _ _⟩
      case round =>
        obtain ⟨k, hk, rfl, R, hn1⟩ := hrel
        by_cases hlt1 : k < l.length
        · obtain ⟨b, off, rfl, hb, hcell⟩ := hc2 (by omega)
          have hck : wr.cell? ⟨b, off + k, none⟩ = some (.int .i64 (l.getD k 0 : Nat)) := (hn1.cell (p := ⟨b, off + k, none⟩) hb).trans (hcell k hlt1)
          have hx := getD_lt hl k
          have D := hid (all_drop (p := fun a => l.all (gv a)) hlt1)
          clear hc2
          generalize l.getD k 0 = x at hck hx D
          go_wp2_with fail
          go_loopw [27] (fun i w2 => ∃ j : Nat, j ≤ l.length ∧ i = .int .i64 j ∧ Hid (l.all (gv x) = (l.drop j).all (gv x)) ∧ Below W2.heap.size W2 w2) (fun i _ => l.length - (intOf i).toNat)
          case atStart => exact ⟨0, Nat.zero_le _, rfl, rfl, hn1⟩
          case round =>
            obtain ⟨j, hj, rfl, R2, hn2⟩ := hrel
            by_cases hlt2 : j < l.length
            · have hcj : wr.cell? ⟨b, off + j, none⟩ = some (.int .i64 (l.getD j 0 : Nat)) := (hn2.cell (p := ⟨b, off + j, none⟩) hb).trans (hcell j hlt2)
              have hy := getD_lt hl j
              have D2 := hid (all_drop (p := gv x) hlt2)
              clear hcell
              generalize l.getD j 0 = y at hcj hy D2
              have C := hid (GV.out x y hx hy wr hn2)
              have G := hid (HG.out x y)
              clear GV
              rcases hq : gv x y with _ | _
              · have HQ := hid hq
                clear hq
                go_wp2_with fail
                refine C.out.mono ?_
                rw [G.out, HQ.out]
                rintro e w3 ⟨rfl, hb3⟩
                have HB := hid (hn2.trans (hb3.mono hn2.size))
                clear hb3
                go_wp2_with fail
                go_ret
                refine ⟨ret_bool ?_, HNX.out.trans (HB.out.mono HNX.out.size)⟩
                rw [R.out, D.out, R2.out, D2.out, HQ.out]
                rfl
              · have HQ := hid hq
                clear hq
                go_wp2_with fail
                refine C.out.mono ?_
                rw [G.out, HQ.out]
                rintro e w3 ⟨rfl, hb3⟩
                have HB := hid (hn2.trans (hb3.mono hn2.size))
                clear hb3
                go_wp2_with fail
                go_roundw
                case rel => exact ⟨j + 1, by omega, by go_num, by show l.all (gv x) = _; rw [R2.out, D2.out, HQ.out, Bool.true_and], HB.out⟩
                case measure => simp [intOf]; omega
            · have ALL : Hid (l.all (gv x) = true) := by
                show _ = _
                rw [R2.out, List.drop_of_length_le (by omega)]; rfl
              go_wp2_with fail
              go_roundw
              case rel => exact ⟨k + 1, by omega, by go_num, by show (l.all fun a => l.all (gv a)) = _; rw [R.out, D.out, ALL.out, Bool.true_and], hn2⟩
              case measure => simp [intOf]; omega
        · go_wp2_with fail
          go_ret
          refine ⟨ret_bool ?_, HNX.out.trans (hn1.mono HNX.out.size)⟩
          rw [R.out, List.drop_of_length_le (by omega)]; rfl
end Go.Proofs.Ytgkkemlemnlchaa
