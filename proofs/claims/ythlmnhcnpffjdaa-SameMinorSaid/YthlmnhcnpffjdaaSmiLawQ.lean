/- The law rotalaw.SameMinor. -/
import Derived.Test.YthlmnhcnpffjdaaRMnQ
import Derived.Test.YthlmnhcnpffjdaaMnWQ
import Derived.Test.YthlmnhcnpffjdaaRefAxEQ
namespace Go.Proofs.Ythlmnhcnpffjdaa
open Go.RowKit

theorem oneS_bad (w : World) (e : Int) (he : (e != 0) = true) : Calls Try.prog 12 #[.int .i64 0, .int .i64 e, .int .i64 0, .int .i64 e] w fun r w' => r = .returned (.bool true) ∧ w' = w := by
  have h2 : (e == e) = true := by simp
  go_enter Try.func12, Try.ntmps12
  go_wp2_with fail
  go_ret
  exact ⟨rfl, rfl⟩
theorem oneS_good (w : World) (t : Int) : Calls Try.prog 12 #[.int .i64 t, .int .i64 0, .int .i64 t, .int .i64 0] w fun r w' => r = .returned (.bool true) ∧ w' = w := by
  have h2 : (t == t) = true := by simp
  go_enter Try.func12, Try.ntmps12
  go_wp2_with fail
  go_ret
  exact ⟨ret_bool (by simp), rfl⟩
theorem oneS_any (q e : Int) (w : World) (h : e ≠ 0 → q = 0) : Calls Try.prog 12 #[.int .i64 q, .int .i64 e, .int .i64 q, .int .i64 e] w fun r w' => r = .returned (.bool true) ∧ w' = w := by
  by_cases he : e = 0
  · subst he
    exact oneS_good w q
  · rw [h he]
    exact oneS_bad w e (by simp [he])
theorem badS_any (b : Bool) (w : World) : Calls Try.prog 11 #[.bool b, .int .i64 5] w fun r w' => r = .returned (.int .i64 (if b = true then 0 else 5)) ∧ w' = w := by
  cases b
  · go_enter Try.func11, Try.ntmps11
    go_wp2_with fail
    go_ret
    exact ⟨rfl, rfl⟩
  · go_enter Try.func11, Try.ntmps11
    go_wp2_with fail
    go_ret
    exact ⟨rfl, rfl⟩
set_option maxRecDepth 100000 in
set_option maxHeartbeats 2000000 in
theorem sminor_law (n : Int) (v : Value) (zs : List Int) (k : Int) (u : Value) (ys : List Int) (w : World) (h : Ints w v zs) (h' : Ints w u ys) :
    Calls Try.prog 3 #[.agg #[.int .i64 n, v], .agg #[.int .i64 k, u]] w fun e w' => e = .returned (.bool true) ∧ Below w.heap.size w w' := by
  have B0 := Two2.new w n v k u
  have MA := hid (fun w' (hb : Below w.heap.size w w') => Matroid_ref n v zs w' (h.below hb))
  have MB := hid (fun w' (hb : Below w.heap.size w w') => Matroid_ref k u ys w' (h'.below hb))
  obtain ⟨x, y, q, HQ, MM, MR⟩ : ∃ x y q : Int, (q ≠ 0 → x = 0 ∧ y = 0) ∧ Hid (∀ w', Below w.heap.size w w' → Calls Try.prog 8 #[.agg #[.int .i64 n, v], .agg #[.int .i64 k, u]] w' fun e w'' => e = .returned (.tuple #[.int .i64 x, .int .i64 y, .int .i64 q]) ∧ Below w'.heap.size w' w'') ∧
      ((chk2 n zs k ys ≠ 0 ∧ q = chk2 n zs k ys ∧ x = 0 ∧ y = 0) ∨ (chk2 n zs k ys = 0 ∧ ∃ b : Bool, q = (if b = true then 0 else 5) ∧ Hid (∀ w', Below w.heap.size w w' → Calls Try.prog 10 #[.agg #[.int .i64 n, v], .agg #[.int .i64 k, u]] w' fun e w'' => e = .returned (.tuple #[.int .i64 x, .int .i64 y, .bool b]) ∧ Below w'.heap.size w' w''))) := by
    by_cases hc : chk2 n zs k ys = 0
    · have h1 : chkR n zs = 0 := by
        unfold chk2 at hc
        split at hc
        · assumption
        · exact hc
      have h2 : chkR k ys = 0 := by
        unfold chk2 at hc
        rwa [if_pos h1] at hc
      obtain ⟨m, l, rfl, hm, rfl, hf, hb⟩ := chk_of h1
      obtain ⟨j, l', rfl, hj, rfl, hf', hb'⟩ := chk_of h2
      refine ⟨_, _, minE (minO m l j l'), ?_, fun w' hb0 => Minor_ok m j v u l l' w' hm hf hb (h.below hb0) hj hf' hb' (h'.below hb0), .inr ⟨hc, (minO m l j l').isSome, rfl, fun w' hb0 => MinorR_ok m j v u l l' w' hm hf hb (h.below hb0) hj hf' hb' (h'.below hb0)⟩⟩
      intro hq
      cases hs : minO m l j l' with
      | none => exact ⟨rfl, rfl⟩
      | some p => rw [hs] at hq; exact absurd rfl hq
    · exact ⟨0, 0, chk2 n zs k ys, fun _ => ⟨rfl, rfl⟩, fun w' hb0 => Minor_bad n k v u zs ys w' (h.below hb0) (h'.below hb0) hc, .inl ⟨hc, rfl, rfl, rfl⟩⟩
  have O1 := hid (fun w' => oneS_any x q w' (fun e => (HQ e).1))
  have O2 := hid (fun w' => oneS_any y q w' (fun e => (HQ e).2))
  have HC : Hid (chk2 n zs k ys = if chkR n zs = 0 then chkR k ys else chkR n zs) := rfl
  have HMR := hid MR
  obtain ⟨a0, c0, rfl, -, -⟩ := h
  obtain ⟨a1, c1, rfl, -, -⟩ := h'
  have hw2 : (w.alloc (.cells #[.int .i64 n, .slice a0 zs.length c0] 24)).alloc (.cells #[.int .i64 k, .slice a1 ys.length c1] 24) = box2 w n (.slice a0 zs.length c0) k (.slice a1 ys.length c1) := rfl
  generalize box2 w n (.slice a0 zs.length c0) k (.slice a1 ys.length c1) = W2 at *
  generalize chk2 n zs k ys = cc at *
  generalize chkR n zs = cA at *
  generalize chkR k ys = cB at *
  have S0 := hid B0
  have M1 := hid (MM.out W2 S0.out.1)
  obtain ⟨z0, z1, z2, z3⟩ := S0.out.cells
  clear MR B0 HQ MM
  by_cases hA : cA = 0
  · have HC2 : Hid (cc = cB) := by show _ = _; rw [HC.out, if_pos hA]
    by_cases hB : cB = 0
    · subst hA
      subst hB
      rcases HMR.out with ⟨e1, _⟩ | ⟨-, b, hqb, RM⟩
      · exact absurd HC2.out e1
      · have BD := hid (fun w' => badS_any b w')
        rw [← hqb] at BD
        clear HC HC2 HMR hqb
        go_enter Try.func3, Try.ntmps3
        go_wp2_with fail
        refine M1.out.mono ?_
        rintro e w3 ⟨rfl, hb3⟩
        have S3 := hid (S0.out.next hb3)
        have A3 := hid (MA.out w3 S3.out.1)
        clear hb3 S0 M1 z0 z1 z2 z3 hw2 MA
        obtain ⟨z0, z1, z2, z3⟩ := S3.out.cells
        go_wp2_with fail
        refine A3.out.mono ?_
        rintro e w4 ⟨rfl, hb4⟩
        have S4 := hid (S3.out.next hb4)
        have A4 := hid (MB.out w4 S4.out.1)
        clear hb4 S3 A3 z0 z1 z2 z3 MB
        obtain ⟨z0, z1, z2, z3⟩ := S4.out.cells
        go_wp2_with fail
        refine A4.out.mono ?_
        rintro e w5 ⟨rfl, hb5⟩
        have S5 := hid (S4.out.next hb5)
        have A5 := hid (RM.out w5 S5.out.1)
        clear hb5 S4 A4 z0 z1 z2 z3 RM
        obtain ⟨z0, z1, z2, z3⟩ := S5.out.cells
        go_wp2_with fail
        refine A5.out.mono ?_
        rintro e w6 ⟨rfl, hb6⟩
        have S6 := hid (S5.out.next hb6)
        clear hb6 S5 A5 z0 z1 z2 z3
        go_wp2_with fail
        refine (BD.out _).mono ?_
        rintro e w7 ⟨rfl, hw7⟩
        obtain rfl := hw7.symm
        go_wp2_with fail
        refine (O1.out _).mono ?_
        rintro e w7 ⟨rfl, hw7⟩
        obtain rfl := hw7.symm
        go_wp2_with fail
        refine (O2.out _).mono ?_
        rintro e w7 ⟨rfl, hw7⟩
        obtain rfl := hw7.symm
        go_wp2_with fail
        go_ret
        exact ⟨rfl, S6.out.1⟩
    · rcases HMR.out with ⟨e1, e2, e3, e4⟩ | ⟨e1, _⟩
      · have hqB : q = cB := by rw [e2, HC2.out]
        subst hA e3 e4 hqB
        have hB' : (q == 0) = false := by simp [hB]
        clear HC HC2 HMR e1 e2 hB
        go_enter Try.func3, Try.ntmps3
        go_wp2_with fail
        refine M1.out.mono ?_
        rintro e w3 ⟨rfl, hb3⟩
        have S3 := hid (S0.out.next hb3)
        have A3 := hid (MA.out w3 S3.out.1)
        clear hb3 S0 M1 z0 z1 z2 z3 hw2 MA
        obtain ⟨z0, z1, z2, z3⟩ := S3.out.cells
        go_wp2_with fail
        refine A3.out.mono ?_
        rintro e w4 ⟨rfl, hb4⟩
        have S4 := hid (S3.out.next hb4)
        have A4 := hid (MB.out w4 S4.out.1)
        clear hb4 S3 A3 z0 z1 z2 z3 MB
        obtain ⟨z0, z1, z2, z3⟩ := S4.out.cells
        go_wp2_with fail
        refine A4.out.mono ?_
        rintro e w5 ⟨rfl, hb5⟩
        have S5 := hid (S4.out.next hb5)
        clear hb5 S4 A4 z0 z1 z2 z3
        go_wp2_with fail
        refine (O1.out _).mono ?_
        rintro e w7 ⟨rfl, hw7⟩
        obtain rfl := hw7.symm
        go_wp2_with fail
        refine (O2.out _).mono ?_
        rintro e w7 ⟨rfl, hw7⟩
        obtain rfl := hw7.symm
        go_wp2_with fail
        go_ret
        exact ⟨rfl, S5.out.1⟩
      · exact absurd (HC2.out.symm.trans e1) hB
  · have HC2 : Hid (cc = cA) := by show _ = _; rw [HC.out, if_neg hA]
    rcases HMR.out with ⟨e1, e2, e3, e4⟩ | ⟨e1, _⟩
    · have hqB : q = cA := by rw [e2, HC2.out]
      subst e3 e4 hqB
      have hA' : (q == 0) = false := by simp [hA]
      clear HC HC2 HMR e1 e2 hA
      go_enter Try.func3, Try.ntmps3
      go_wp2_with fail
      refine M1.out.mono ?_
      rintro e w3 ⟨rfl, hb3⟩
      have S3 := hid (S0.out.next hb3)
      have A3 := hid (MA.out w3 S3.out.1)
      clear hb3 S0 M1 z0 z1 z2 z3 hw2 MA
      obtain ⟨z0, z1, z2, z3⟩ := S3.out.cells
      go_wp2_with fail
      refine A3.out.mono ?_
      rintro e w4 ⟨rfl, hb4⟩
      have S4 := hid (S3.out.next hb4)
      clear hb4 S3 A3 z0 z1 z2 z3 MB
      go_wp2_with fail
      refine (O1.out _).mono ?_
      rintro e w7 ⟨rfl, hw7⟩
      obtain rfl := hw7.symm
      go_wp2_with fail
      refine (O2.out _).mono ?_
      rintro e w7 ⟨rfl, hw7⟩
      obtain rfl := hw7.symm
      go_wp2_with fail
      go_ret
      exact ⟨rfl, S4.out.1⟩
    · exact absurd (HC2.out.symm.trans e1) hA
end Go.Proofs.Ythlmnhcnpffjdaa
