/- slices.Backward over rows of numbers and over numbers: what is handed on, from the end. -/
import Derived.Test.YtkmpnaohdijpnaaGreatDoorTtCW
import Derived.Test.YtkmpnaohdijpnaaGreatDoorGiveW
import Derived.Test.YtkmpnaohdijpnaaGreatDoorCplQ
namespace Go.Proofs.YtkmpnaohdijpnaaGreatDoor
open Go.RowKit Go.Shelf
attribute [local go_sem] Oper.semAt_some

/-- A place ahead of n. -/
abbrev Pn (n : Nat) : Type := { i : Nat // i < n }
def encM (g M : Nat) {n : Nat} (x : Pn n) : Array Value := #[.int .i64 (x.1 : Nat), .slice (some ⟨g + 1 + x.1, 0, none⟩) M M]
def encZ (f : Nat → Int) {n : Nat} (x : Pn n) : Array Value := #[.int .i64 (x.1 : Nat), .int .i64 (f x.1)]
def BoxM (B g n cap M : Nat) (W : World) : Prop := W.cell? ⟨B, 0, none⟩ = some (.slice (some ⟨g, 0, none⟩) n cap) ∧ ∀ i, i < n → W.cell? ⟨g, i, none⟩ = some (.slice (some ⟨g + 1 + i, 0, none⟩) M M)
def BoxZ (B g n cap : Nat) (f : Nat → Int) (W : World) : Prop := W.cell? ⟨B, 0, none⟩ = some (.slice (some ⟨g, 0, none⟩) n cap) ∧ ∀ i, i < n → W.cell? ⟨g, i, none⟩ = some (.int .i64 (f i))
set_option maxRecDepth 100000 in
set_option maxHeartbeats 2000000 in
theorem backM_stops (n : Nat) (hn : 1 ≤ n) (B g N cap M : Nat) (w : World) (hN : N ≤ 256) (hw : ∀ W, Below w.heap.size w W → BoxM B g N cap M W) :
    SeqStopsK Fence.wide n Tryz.prog 68 #[.pointer (some ⟨B, 0, none⟩)] (encM g M (n := N)) (fun A A' => BoxM B g N cap M A → BoxM B g N cap M A') (fun xs => xs.map (·.1) = downTo N) (fun pre => pre.map (·.1) <+: downTo N) (N + 1) w := fun L J Jx W hW _ _ hY h0 => by
  have hK := hw W hW
  have HK := hid hK
  obtain ⟨hcl, -⟩ := hK
  refine callsIn_of_wp Tryz.func68 rfl trivial ?_ rfl
  simp only [Tryz.ntmps68, List.size_toArray, List.length_cons, List.length_nil, Nat.reduceAdd, Nat.reduceSub, Array.replicate_succ, Array.replicate_zero, List.push_toArray, List.append_toArray, List.nil_append, List.cons_append]
  gi_wp2
  gi_loopw [3] (fun p wr => ∃ (pre : List (Pn N)) (k : Nat), p = .int .i64 ((k : Int) - 1) ∧ k ≤ N ∧ Hid (pre.map (·.1) ++ downTo k = downTo N) ∧ J pre wr ∧ Hid (BoxM B g N cap M wr)) (fun p _ => (intOf p + 1).toNat)
  case atStart => exact ⟨[], N, by go_num, Nat.le_refl _, rfl, h0, HK⟩
  case round =>
    obtain ⟨pre, k, rfl, hk, hx, hJs, HB⟩ := hrel
    by_cases hk0 : 0 < k
    · obtain ⟨j, rfl⟩ : ∃ j, k = j + 1 := ⟨k - 1, by omega⟩
      have hj : j < N := by omega
      have HS := hid (down_succ j)
      have hlen : pre.length < N + 1 := by
        have h2 := congrArg List.length hx.out
        unfold downTo at h2
        simp at h2
        omega
      obtain ⟨fn, tmps, assign, body, hy, hR⟩ := hY pre ⟨j, hj⟩ wr hJs hlen
      dsimp only [encM] at hy
      have hcb := HB.out.1
      have hcj := HB.out.2 j hj
      have hji : (j : Int) < (N : Int) := by omega
      have hsub : (((j + 1 : Nat) : Int) - 1) = (j : Int) := by omega
      rw [hsub]
      gi_wp2
      refine hR.mono ?_
      rintro e W3 (⟨rfl, hJ3, hk3⟩ | ⟨rfl, hJx3⟩)
      · have HB3 := hid (hk3 HB.out)
        clear hk3
        gi_wp2
        go_roundw
        case rel => exact ⟨pre ++ [⟨j, hj⟩], j, by go_num, by omega, by have := hx.out; rw [HS.out] at this; show _ = _; rw [List.map_append, List.append_assoc]; exact this, hJ3, HB3⟩
        case measure => simp [intOf]
      · gi_wp2
        refine bodyPost_ret (results_none rfl _ _ _) rfl ?_
        exact ⟨⟨_, rfl⟩, .inr ⟨pre ++ [⟨j, hj⟩], ⟨downTo j, by have := hx.out; rw [HS.out] at this; rw [List.map_append, List.append_assoc]; exact this⟩, hJx3⟩⟩
    · have e0 : k = 0 := by omega
      subst e0
      gi_wp2
      go_end0
      exact ⟨⟨_, rfl⟩, .inl ⟨pre, by have := hx.out; rw [show downTo 0 = [] from rfl, List.append_nil] at this; exact this, hJs⟩⟩
theorem backM_any (v : Value) (w : World) (hv : ∃ a l c, v = .slice a l c) :
    Calls Tryz.prog 46 #[v] w fun e w' => e = .returned (.func (.func 68) #[] #[.pointer (some ⟨w.heap.size, 0, none⟩)]) ∧ w' = w.alloc (.cells #[v] 50) := by
  obtain ⟨a, l, c, rfl⟩ := hv
  go_enter Tryz.func46, Tryz.ntmps46
  go_wp2
  go_ret
  exact ⟨rfl, rfl⟩
set_option maxRecDepth 100000 in
set_option maxHeartbeats 2000000 in
theorem backZ_stops (n : Nat) (hn : 1 ≤ n) (B g N cap : Nat) (f : Nat → Int) (w : World) (hN : N ≤ 256) (hw : ∀ W, Below w.heap.size w W → BoxZ B g N cap f W) :
    SeqStopsK Fence.wide n Tryz.prog 69 #[.pointer (some ⟨B, 0, none⟩)] (encZ f (n := N)) (fun A A' => BoxZ B g N cap f A → BoxZ B g N cap f A') (fun xs => xs.map (·.1) = downTo N) (fun pre => pre.map (·.1) <+: downTo N) (N + 1) w := fun L J Jx W hW _ _ hY h0 => by
  have hK := hw W hW
  have HK := hid hK
  obtain ⟨hcl, -⟩ := hK
  refine callsIn_of_wp Tryz.func69 rfl trivial ?_ rfl
  simp only [Tryz.ntmps69, List.size_toArray, List.length_cons, List.length_nil, Nat.reduceAdd, Nat.reduceSub, Array.replicate_succ, Array.replicate_zero, List.push_toArray, List.append_toArray, List.nil_append, List.cons_append]
  gi_wp2
  gi_loopw [3] (fun p wr => ∃ (pre : List (Pn N)) (k : Nat), p = .int .i64 ((k : Int) - 1) ∧ k ≤ N ∧ Hid (pre.map (·.1) ++ downTo k = downTo N) ∧ J pre wr ∧ Hid (BoxZ B g N cap f wr)) (fun p _ => (intOf p + 1).toNat)
  case atStart => exact ⟨[], N, by go_num, Nat.le_refl _, rfl, h0, HK⟩
  case round =>
    obtain ⟨pre, k, rfl, hk, hx, hJs, HB⟩ := hrel
    by_cases hk0 : 0 < k
    · obtain ⟨j, rfl⟩ : ∃ j, k = j + 1 := ⟨k - 1, by omega⟩
      have hj : j < N := by omega
      have HS := hid (down_succ j)
      have hlen : pre.length < N + 1 := by
        have h2 := congrArg List.length hx.out
        unfold downTo at h2
        simp at h2
        omega
      obtain ⟨fn, tmps, assign, body, hy, hR⟩ := hY pre ⟨j, hj⟩ wr hJs hlen
      dsimp only [encZ] at hy
      have hcb := HB.out.1
      have hcj := HB.out.2 j hj
      have hji : (j : Int) < (N : Int) := by omega
      have hsub : (((j + 1 : Nat) : Int) - 1) = (j : Int) := by omega
      rw [hsub]
      generalize f j = y at hcj hy
      gi_wp2
      refine hR.mono ?_
      rintro e W3 (⟨rfl, hJ3, hk3⟩ | ⟨rfl, hJx3⟩)
      · have HB3 := hid (hk3 HB.out)
        clear hk3
        gi_wp2
        go_roundw
        case rel => exact ⟨pre ++ [⟨j, hj⟩], j, by go_num, by omega, by have := hx.out; rw [HS.out] at this; show _ = _; rw [List.map_append, List.append_assoc]; exact this, hJ3, HB3⟩
        case measure => simp [intOf]
      · gi_wp2
        refine bodyPost_ret (results_none rfl _ _ _) rfl ?_
        exact ⟨⟨_, rfl⟩, .inr ⟨pre ++ [⟨j, hj⟩], ⟨downTo j, by have := hx.out; rw [HS.out] at this; rw [List.map_append, List.append_assoc]; exact this⟩, hJx3⟩⟩
    · have e0 : k = 0 := by omega
      subst e0
      gi_wp2
      go_end0
      exact ⟨⟨_, rfl⟩, .inl ⟨pre, by have := hx.out; rw [show downTo 0 = [] from rfl, List.append_nil] at this; exact this, hJs⟩⟩
theorem backZ_any (v : Value) (w : World) (hv : ∃ a l c, v = .slice a l c) :
    Calls Tryz.prog 47 #[v] w fun e w' => e = .returned (.func (.func 69) #[] #[.pointer (some ⟨w.heap.size, 0, none⟩)]) ∧ w' = w.alloc (.cells #[v] 25) := by
  obtain ⟨a, l, c, rfl⟩ := hv
  go_enter Tryz.func47, Tryz.ntmps47
  go_wp2
  go_ret
  exact ⟨rfl, rfl⟩
end Go.Proofs.YtkmpnaohdijpnaaGreatDoor
