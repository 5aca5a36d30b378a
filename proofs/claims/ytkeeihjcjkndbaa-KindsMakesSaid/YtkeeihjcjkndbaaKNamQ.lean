/- kinds.fanoLines, vamosCircuits, allBut. -/
import Derived.Test.YtkeeihjcjkndbaaKTransQ
import Derived.Test.YtkeeihjcjkndbaaThoseQ
import Derived.Deep.RegionLaw
namespace Go.Proofs.Ytkeeihjcjkndbaa
open Go.RowKit

/-- append, as one step of a region that draws. -/
theorem step_append_own {P : Program} {w : World} {ops : Array Oper} {o : Oper} {a : Act} {K : Act → World → Prop} {Q : Exit → Act → World → Prop} {E : Prop}
    (hg : o.guard = none) (s x : Operand) (t : TypeId) (hop : o.op = Op.call { callee := Callee.builtin Builtin.append, args := #[s, x], argTypes := #[t, t] })
    (base : Nat) (e : TypeId) (i : TypeInfo) (z : Value) (size bytes : Nat) (h1 : P.underlying t = some (.slice e)) (h2 : P.info? e = some i) (h3 : i.zero = some z) (h4 : i.size = size) (h5 : i.bytes = bytes) (h6 : z.cells.size = size) (h7 : 0 < size)
    (v : Value) (k : Nat) (xs : List Value) (hs : a.eval s = v) (hown : w.ownsRow base e size v k xs) (ad : Addr) (m c : Nat) (news : List Value) (hx : a.eval x = .slice (some ad) m c) (hn : news.length = m * size)
    (hc : ∀ j u, news[j]? = some u → w.cell? (ad.add j) = some u) (h1c : ∀ u ∈ news, u.oneCell' = true) (b1 : k + m ≤ maxLen) (b2 : (k + m) * bytes ≤ 140737488355328) (b3 : base ≤ w.heap.size)
    (hK : ∀ v' w', w'.ownsRow base e size v' (k + m) (xs ++ news) → w.grownBy w' v.ownBlock → K (a.put o.dst v') w') :
    if Region.wanted o (yielded ops a.tmps) = true then Oper.wp P o a w K Q else E := by
  have hw : Region.wanted o (yielded ops a.tmps) = true := by simp [Region.wanted, hg]
  rw [if_pos hw]
  obtain ⟨v', w', hrun, r1, r2, r3⟩ := run_append_own (P := P) w base t o.type e i z size bytes h1 h2 h3 h4 h5 h6 h7 v k xs hown ad m c news hn hc h1c b1 b2 b3
  unfold Oper.wp
  simp [execOp, hop, resolve, invoke, builtin, hs, hx, hrun, Result.andThen]
  exact hK v' w' r1 r2

/-- The first k lines of Fano's plane. -/
def fanoL (k : Nat) : List Nat := (List.range k).map fun i => 2 ^ i ||| 2 ^ ((i + 1) % 7) ||| 2 ^ ((i + 3) % 7)
theorem fanoL_succ (k : Nat) : fanoL (k + 1) = fanoL k ++ [2 ^ k ||| 2 ^ ((k + 1) % 7) ||| 2 ^ ((k + 3) % 7)] := by
  unfold fanoL
  rw [List.range_succ, List.map_append]
  rfl
theorem fanoL_len (k : Nat) : (fanoL k).length = k := by unfold fanoL; simp
theorem Own.drewR {B : Nat} {w : World} {v : Value} {l : List Nat} (h : Own B w v l) : Own B w.drew v l := h.below ((Below.refl _ _).drew)

set_option maxRecDepth 20000 in
set_option maxHeartbeats 4000000 in
theorem fano_any (m : Nat) (w : World) (hm : m ≤ 7) :
    Calls Try.prog 34 #[.int .i64 m] w fun e w' => ∃ r, e = .returned r ∧ Own w.heap.size w' r (fanoL m) ∧ Below w.heap.size w w' := by
  obtain ⟨i0, hi, hz0, hz1, hz2⟩ := info_parts Try.infoInt
  go_enter Try.func34, Try.ntmps34
  go_wp2_with fail
  go_loopw [3, 6] (fun u i wr => ∃ k : Nat, k ≤ m ∧ i = .int .i64 k ∧ Own w.heap.size wr u (fanoL k) ∧ Hid (Below w.heap.size w wr)) (fun _ i _ => m - (intOf i).toNat)
  case atStart => exact ⟨0, Nat.zero_le _, rfl, Own.nil _ _, Below.refl _ _⟩
  case round =>
    obtain ⟨k, hk, rfl, hown, HW⟩ := hrel
    by_cases hlt : k < m
    · have hki : (k : Int) < (m : Int) := by omega
      have FS := hid (fanoL_succ k)
      have FL := hid (fanoL_len k)
      have HO := hid hown
      have hs := HW.out.size
      clear hown
      have hk7 : k = 0 ∨ k = 1 ∨ k = 2 ∨ k = 3 ∨ k = 4 ∨ k = 5 ∨ k = 6 := by omega
      rcases hk7 with rfl | rfl | rfl | rfl | rfl | rfl | rfl
      · have q1 : IntKind.i64.wrap 1 = 1 := by decide
        have q2 : Int.tmod 1 7 = 1 := by decide
        have q3 : IntKind.i64.wrap 3 = 3 := by decide
        have q4 : Int.tmod 3 7 = 3 := by decide
        have FS' : Hid (fanoL 1 = fanoL 0 ++ [11]) := FS.out
        clear FS
        generalize fanoL 0 = acc at *
        go_wp2_with fail
        go_region_law (refine step_append_own rfl (.tmp 9) (.tmp 22) 22 rfl w.heap.size 3 i0 (.int .i64 0) 1 8 Try.underlying22 hi hz0 hz1 hz2 rfl (by decide) _ _ _ rfl ((HO.out.drewR).alloc _) ⟨wr.drew.heap.size, 0, none⟩ 1 1 [.int .i64 (11 : Nat)] rfl rfl (cell_one_new _ _ _) (by intro u hu; simp at hu; subst hu; rfl) (by rw [FL.out]; decide) (by rw [FL.out]; decide) (by simp; omega) ?_; intro v' w4 hown' hgrow)
        have R3 := hid (Own.snoc (s := 11) hown')
        have R4 := hid (Own.grown HO.out.drewR HW.out.drew hs hgrow)
        clear hown' hgrow
        go_wp2_with fail
        go_roundw
        case rel => exact ⟨1, by omega, by go_num, by rw [FS'.out]; exact R3.out, R4⟩
        case measure => simp [intOf]; omega
      · have q1 : IntKind.i64.wrap 2 = 2 := by decide
        have q2 : Int.tmod 2 7 = 2 := by decide
        have q3 : IntKind.i64.wrap 4 = 4 := by decide
        have q4 : Int.tmod 4 7 = 4 := by decide
        have FS' : Hid (fanoL 2 = fanoL 1 ++ [22]) := FS.out
        clear FS
        generalize fanoL 1 = acc at *
        go_wp2_with fail
        go_region_law (refine step_append_own rfl (.tmp 9) (.tmp 22) 22 rfl w.heap.size 3 i0 (.int .i64 0) 1 8 Try.underlying22 hi hz0 hz1 hz2 rfl (by decide) _ _ _ rfl ((HO.out.drewR).alloc _) ⟨wr.drew.heap.size, 0, none⟩ 1 1 [.int .i64 (22 : Nat)] rfl rfl (cell_one_new _ _ _) (by intro u hu; simp at hu; subst hu; rfl) (by rw [FL.out]; decide) (by rw [FL.out]; decide) (by simp; omega) ?_; intro v' w4 hown' hgrow)
        have R3 := hid (Own.snoc (s := 22) hown')
        have R4 := hid (Own.grown HO.out.drewR HW.out.drew hs hgrow)
        clear hown' hgrow
        go_wp2_with fail
        go_roundw
        case rel => exact ⟨2, by omega, by go_num, by rw [FS'.out]; exact R3.out, R4⟩
        case measure => simp [intOf]; omega
      · have q1 : IntKind.i64.wrap 3 = 3 := by decide
        have q2 : Int.tmod 3 7 = 3 := by decide
        have q3 : IntKind.i64.wrap 5 = 5 := by decide
        have q4 : Int.tmod 5 7 = 5 := by decide
        have FS' : Hid (fanoL 3 = fanoL 2 ++ [44]) := FS.out
        clear FS
        generalize fanoL 2 = acc at *
        go_wp2_with fail
        go_region_law (refine step_append_own rfl (.tmp 9) (.tmp 22) 22 rfl w.heap.size 3 i0 (.int .i64 0) 1 8 Try.underlying22 hi hz0 hz1 hz2 rfl (by decide) _ _ _ rfl ((HO.out.drewR).alloc _) ⟨wr.drew.heap.size, 0, none⟩ 1 1 [.int .i64 (44 : Nat)] rfl rfl (cell_one_new _ _ _) (by intro u hu; simp at hu; subst hu; rfl) (by rw [FL.out]; decide) (by rw [FL.out]; decide) (by simp; omega) ?_; intro v' w4 hown' hgrow)
        have R3 := hid (Own.snoc (s := 44) hown')
        have R4 := hid (Own.grown HO.out.drewR HW.out.drew hs hgrow)
        clear hown' hgrow
        go_wp2_with fail
        go_roundw
        case rel => exact ⟨3, by omega, by go_num, by rw [FS'.out]; exact R3.out, R4⟩
        case measure => simp [intOf]; omega
      · have q1 : IntKind.i64.wrap 4 = 4 := by decide
        have q2 : Int.tmod 4 7 = 4 := by decide
        have q3 : IntKind.i64.wrap 6 = 6 := by decide
        have q4 : Int.tmod 6 7 = 6 := by decide
        have FS' : Hid (fanoL 4 = fanoL 3 ++ [88]) := FS.out
        clear FS
        generalize fanoL 3 = acc at *
        go_wp2_with fail
        go_region_law (refine step_append_own rfl (.tmp 9) (.tmp 22) 22 rfl w.heap.size 3 i0 (.int .i64 0) 1 8 Try.underlying22 hi hz0 hz1 hz2 rfl (by decide) _ _ _ rfl ((HO.out.drewR).alloc _) ⟨wr.drew.heap.size, 0, none⟩ 1 1 [.int .i64 (88 : Nat)] rfl rfl (cell_one_new _ _ _) (by intro u hu; simp at hu; subst hu; rfl) (by rw [FL.out]; decide) (by rw [FL.out]; decide) (by simp; omega) ?_; intro v' w4 hown' hgrow)
        have R3 := hid (Own.snoc (s := 88) hown')
        have R4 := hid (Own.grown HO.out.drewR HW.out.drew hs hgrow)
        clear hown' hgrow
        go_wp2_with fail
        go_roundw
        case rel => exact ⟨4, by omega, by go_num, by rw [FS'.out]; exact R3.out, R4⟩
        case measure => simp [intOf]; omega
      · have q1 : IntKind.i64.wrap 5 = 5 := by decide
        have q2 : Int.tmod 5 7 = 5 := by decide
        have q3 : IntKind.i64.wrap 7 = 7 := by decide
        have q4 : Int.tmod 7 7 = 0 := by decide
        have FS' : Hid (fanoL 5 = fanoL 4 ++ [49]) := FS.out
        clear FS
        generalize fanoL 4 = acc at *
        go_wp2_with fail
        go_region_law (refine step_append_own rfl (.tmp 9) (.tmp 22) 22 rfl w.heap.size 3 i0 (.int .i64 0) 1 8 Try.underlying22 hi hz0 hz1 hz2 rfl (by decide) _ _ _ rfl ((HO.out.drewR).alloc _) ⟨wr.drew.heap.size, 0, none⟩ 1 1 [.int .i64 (49 : Nat)] rfl rfl (cell_one_new _ _ _) (by intro u hu; simp at hu; subst hu; rfl) (by rw [FL.out]; decide) (by rw [FL.out]; decide) (by simp; omega) ?_; intro v' w4 hown' hgrow)
        have R3 := hid (Own.snoc (s := 49) hown')
        have R4 := hid (Own.grown HO.out.drewR HW.out.drew hs hgrow)
        clear hown' hgrow
        go_wp2_with fail
        go_roundw
        case rel => exact ⟨5, by omega, by go_num, by rw [FS'.out]; exact R3.out, R4⟩
        case measure => simp [intOf]; omega
      · have q1 : IntKind.i64.wrap 6 = 6 := by decide
        have q2 : Int.tmod 6 7 = 6 := by decide
        have q3 : IntKind.i64.wrap 8 = 8 := by decide
        have q4 : Int.tmod 8 7 = 1 := by decide
        have FS' : Hid (fanoL 6 = fanoL 5 ++ [98]) := FS.out
        clear FS
        generalize fanoL 5 = acc at *
        go_wp2_with fail
        go_region_law (refine step_append_own rfl (.tmp 9) (.tmp 22) 22 rfl w.heap.size 3 i0 (.int .i64 0) 1 8 Try.underlying22 hi hz0 hz1 hz2 rfl (by decide) _ _ _ rfl ((HO.out.drewR).alloc _) ⟨wr.drew.heap.size, 0, none⟩ 1 1 [.int .i64 (98 : Nat)] rfl rfl (cell_one_new _ _ _) (by intro u hu; simp at hu; subst hu; rfl) (by rw [FL.out]; decide) (by rw [FL.out]; decide) (by simp; omega) ?_; intro v' w4 hown' hgrow)
        have R3 := hid (Own.snoc (s := 98) hown')
        have R4 := hid (Own.grown HO.out.drewR HW.out.drew hs hgrow)
        clear hown' hgrow
        go_wp2_with fail
        go_roundw
        case rel => exact ⟨6, by omega, by go_num, by rw [FS'.out]; exact R3.out, R4⟩
        case measure => simp [intOf]; omega
      · have q1 : IntKind.i64.wrap 7 = 7 := by decide
        have q2 : Int.tmod 7 7 = 0 := by decide
        have q3 : IntKind.i64.wrap 9 = 9 := by decide
        have q4 : Int.tmod 9 7 = 2 := by decide
        have FS' : Hid (fanoL 7 = fanoL 6 ++ [69]) := FS.out
        clear FS
        generalize fanoL 6 = acc at *
        go_wp2_with fail
        go_region_law (refine step_append_own rfl (.tmp 9) (.tmp 22) 22 rfl w.heap.size 3 i0 (.int .i64 0) 1 8 Try.underlying22 hi hz0 hz1 hz2 rfl (by decide) _ _ _ rfl ((HO.out.drewR).alloc _) ⟨wr.drew.heap.size, 0, none⟩ 1 1 [.int .i64 (69 : Nat)] rfl rfl (cell_one_new _ _ _) (by intro u hu; simp at hu; subst hu; rfl) (by rw [FL.out]; decide) (by rw [FL.out]; decide) (by simp; omega) ?_; intro v' w4 hown' hgrow)
        have R3 := hid (Own.snoc (s := 69) hown')
        have R4 := hid (Own.grown HO.out.drewR HW.out.drew hs hgrow)
        clear hown' hgrow
        go_wp2_with fail
        go_roundw
        case rel => exact ⟨7, by omega, by go_num, by rw [FS'.out]; exact R3.out, R4⟩
        case measure => simp [intOf]; omega
    · have hki : ¬ (k : Int) < (m : Int) := by omega
      obtain rfl : k = m := by omega
      have HO := hid hown
      clear hown
      go_wp2_with fail
      go_ret
      exact ⟨_, rfl, HO.out, HW.out⟩
theorem vamos_any (w : World) : Calls Try.prog 37 #[] w fun e w' => ∃ r, e = .returned r ∧ Ints w' r (N [15, 51, 60, 195, 204]) ∧ Below w.heap.size w w' := by
  have HB := hid (below_alloc w (.cells #[.int .i64 15, .int .i64 51, .int .i64 60, .int .i64 195, .int .i64 204] 3))
  have HI := hid (litsAt w [15, 51, 60, 195, 204])
  go_enter Try.func37, Try.ntmps37
  go_wp2_with fail
  go_ret
  exact ⟨_, rfl, HI.out, HB.out⟩
/-- All sets of k elements but some. -/
def butL (n k : Nat) (c : List Nat) : List Nat := (List.range (2 ^ n)).filter fun s => pop s == k && !memB s c
theorem memN {s : Nat} {c : List Nat} : decide ((s : Int) ∈ N c) = memB s c := by
  unfold memB N
  rw [decide_eq_decide, List.mem_map]
  constructor
  · rintro ⟨a, ha, e⟩
    have : a = s := by omega
    exact this ▸ ha
  · intro h
    exact ⟨s, h, rfl⟩
set_option maxHeartbeats 1600000 in
theorem butQ_ok (s b b2 k : Nat) (v : Value) (c : List Nat) (w : World) (hs : s < 256) (hb : w.cell? ⟨b, 0, none⟩ = some (.int .i64 k)) (hb2 : w.cell? ⟨b2, 0, none⟩ = some v) (h : Ints w v (N c)) :
    Calls Try.prog 50 #[.int .i64 s, .pointer (some ⟨b, 0, none⟩), .pointer (some ⟨b2, 0, none⟩)] w fun e w' => e = .returned (.bool (pop s == k && !memB s c)) ∧ Below w.heap.size w w' := by
  have HS := hid (fun w' => size_any s w' hs)
  have hR' : ∀ x : Later w, x.now.cell? ⟨b, 0, none⟩ = some (.int .i64 k) := fun x => (x.kept.cell (p := ⟨b, 0, none⟩) (World.block_lt_of_cell? w _ hb)).trans hb
  have hI' : ∀ x : Later w, x.now.cell? ⟨b2, 0, none⟩ = some v := fun x => (x.kept.cell (p := ⟨b2, 0, none⟩) (World.block_lt_of_cell? w _ hb2)).trans hb2
  have HG := hid (fun x : Later w => Contains_any v c s x.now (h.below x.kept))
  obtain ⟨a, cap, rfl, _, _⟩ := h.nats
  clear h
  generalize pop s = y at *
  generalize memB s c = q at *
  by_cases hy : y = k
  · subst hy
    have hy' : ((y : Int) == (y : Int)) = true := by simp
    have hy2 : (y == y) = true := by simp
    rw [hy2]
    go_enter Try.func50, Try.ntmps50
    go_wp2_with fail
    refine region_later (by kernel_rfl) (by kernel_rfl) ?_
    repeat (go_big_quiet_step ((first
      | (go_at_call 46; refine (HS.out _).mono ?_; rintro e w' ⟨rfl, rfl⟩; exact ⟨rfl, Later.on _ (Below.refl _ _)⟩)
      | (go_at_call 51; refine (HG.out _).mono ?_; rintro e w' ⟨rfl, rfl⟩; exact ⟨rfl, Later.on _ (Below.refl _ _)⟩))))
    refine wpQuiet_nil ?_
    intro w6 hw'
    obtain ⟨⟨y6, hb6⟩, hw''⟩ := hw'
    dsimp only at hw''
    subst hw''
    have HB := hid hb6
    clear hb6
    go_wp2_with fail
    go_ret
    exact ⟨rfl, HB.out⟩
  · have hy' : ((y : Int) == (k : Int)) = false := by rw [beq_eq_false_iff_ne]; omega
    have hy2 : (y == k) = false := by rw [beq_eq_false_iff_ne]; exact hy
    rw [hy2]
    go_enter Try.func50, Try.ntmps50
    go_wp2_with fail
    refine region_later (by kernel_rfl) (by kernel_rfl) ?_
    repeat (go_big_quiet_step ((go_at_call 46; refine (HS.out _).mono ?_; rintro e w' ⟨rfl, rfl⟩; exact ⟨rfl, Later.on _ (Below.refl _ _)⟩)))
    refine wpQuiet_nil ?_
    intro w6 hw'
    obtain ⟨⟨y6, hb6⟩, hw''⟩ := hw'
    dsimp only at hw''
    subst hw''
    have HB := hid hb6
    clear hb6
    go_wp2_with fail
    go_ret
    exact ⟨rfl, HB.out⟩
theorem slotB {w : World} {k : Int} {c : Value} : (((w.alloc (.cells #[.int .i64 k] 3)).alloc (.cells #[c] 22)).alloc (.cells #[.int .i64 0, .slice none 0 0] 26)).heap[w.heap.size]? = some (.cells #[.int .i64 k] 3 (0, 0)) ∧ (((w.alloc (.cells #[.int .i64 k] 3)).alloc (.cells #[c] 22)).alloc (.cells #[.int .i64 0, .slice none 0 0] 26)).heap[w.heap.size + 1]? = some (.cells #[c] 22 (0, 0)) ∧
    (((w.alloc (.cells #[.int .i64 k] 3)).alloc (.cells #[c] 22)).alloc (.cells #[.int .i64 0, .slice none 0 0] 26)).heap[w.heap.size + 1 + 1]? = some (.cells #[.int .i64 0, .slice none 0 0] 26 (0, 0)) := by
  refine ⟨?_, ?_, ?_⟩
  · rw [Below.heap_alloc _ _ _ (by simp; omega), Below.heap_alloc _ _ _ (by simp)]
    exact World.alloc_heap_new w _
  · rw [Below.heap_alloc _ _ _ (by simp)]
    have := World.alloc_heap_new (w.alloc (.cells #[.int .i64 k] 3)) (.cells #[c] 22)
    rwa [World.size_alloc] at this
  · have := World.alloc_heap_new ((w.alloc (.cells #[.int .i64 k] 3)).alloc (.cells #[c] 22)) (.cells #[.int .i64 0, .slice none 0 0] 26)
    rwa [World.size_alloc, World.size_alloc] at this
set_option maxRecDepth 20000 in
set_option maxHeartbeats 1600000 in
theorem allBut_any (m k : Nat) (v : Value) (c : List Nat) (w : World) (hm : m ≤ 8) (h : Ints w v (N c)) :
    Calls Try.prog 33 #[.int .i64 m, .int .i64 k, v] w fun e w' => ∃ r, e = .returned (.agg #[.int .i64 m, r]) ∧ Own w.heap.size w' r (butL m k c) ∧ Below w.heap.size w w' := by
  have HI := hid h
  obtain ⟨a, cap, rfl, _, _⟩ := h.nats
  clear h
  have hmf : ∀ (fn : Fn) (first cap : Array Value) (w : World), (Instr.makeFunc fn first cap).run Try.prog w = .ok (.func fn first cap) w := fun _ _ _ _ => rfl
  have HB0 : Hid (Below w.heap.size w (((w.alloc (.cells #[.int .i64 k] 3)).alloc (.cells #[.slice a c.length cap] 22)).alloc (.cells #[.int .i64 0, .slice none 0 0] 26))) := (((Below.refl _ _).alloc (Nat.le_refl _) _).alloc (by simp) _).alloc (by simp; omega) _
  have HX := hid (slotB (w := w) (k := k) (c := .slice a c.length cap))
  have HSZ : Hid ((((w.alloc (.cells #[.int .i64 k] 3)).alloc (.cells #[.slice a c.length cap] 22)).alloc (.cells #[.int .i64 0, .slice none 0 0] 26)).heap.size = w.heap.size + 3) := by show _ = _; simp
  have SV := hid (Sieve_any m 50 #[.pointer (some ⟨w.heap.size, 0, none⟩), .pointer (some ⟨w.heap.size + 1, 0, none⟩)] (fun s => pop s == k && !memB s c) (((w.alloc (.cells #[.int .i64 k] 3)).alloc (.cells #[.slice a c.length cap] 22)).alloc (.cells #[.int .i64 0, .slice none 0 0] 26)) hm (fun args w => enters_of Try.func50 (by kernel_rfl) rfl args w)
    (fun x hx w3 hb3 hs3 => butQ_ok x w.heap.size (w.heap.size + 1) k (.slice a c.length cap) c w3 (lt256 hm hx) ((hb3.cell (p := ⟨w.heap.size, 0, none⟩) (by have := HSZ.out; show w.heap.size < _; omega)).trans (Boxed.cell HX.out.1)) ((hb3.cell (p := ⟨w.heap.size + 1, 0, none⟩) (by have := HSZ.out; show w.heap.size + 1 < _; omega)).trans (Boxed.cell HX.out.2.1)) ((HI.out.below HB0.out).below hb3)))
  change Hid (Calls _ _ _ _ fun e w' => ∃ r, e = .returned r ∧ Own _ w' r (butL m k c) ∧ _) at SV
  generalize butL m k c = acc at *
  go_enter Try.func33, Try.ntmps33
  go_wp2_with fail
  refine SV.out.mono ?_
  clear SV
  revert HB0 HX HSZ
  generalize (((w.alloc (.cells #[.int .i64 k] 3)).alloc (.cells #[.slice a c.length cap] 22)).alloc (.cells #[.int .i64 0, .slice none 0 0] 26)) = W0
  intro HB0 HX HSZ
  rintro e w4 ⟨r4, rfl, hr4, hb4⟩
  have hsz := HSZ.out
  obtain ⟨ra, rc, hr⟩ := ownsRow_form' hr4
  subst hr
  have hxx := (hb4.block (w.heap.size + 1 + 1) (by omega)).trans HX.out.2.2
  obtain ⟨y2, y3, g2, g3⟩ := two_cells hxx
  have HC := hid (set_two (x := .int .i64 m) (y := .slice ra acc.length rc) hxx)
  have HB4 := hid (HB0.out.trans (hb4.mono HB0.out.size))
  have HD := hid (below_two (b := w.heap.size + 1 + 1) (x := .int .i64 m) (y := .slice ra acc.length rc) HB4.out (by omega))
  have HII := hid ((hr4.set2 (b := w.heap.size + 1 + 1) (x := .int .i64 m) (y := .slice ra acc.length rc) (by omega)).mono (by omega : w.heap.size ≤ _))
  clear hb4 hr4 hxx
  go_wp2_with fail
  obtain ⟨c0, c1⟩ := HC.out
  refine bodyPost_ret (v := .agg #[.int .i64 m, .slice ra _ rc]) ?_ rfl ⟨_, rfl, HII.out, HD.out⟩
  simp [results, Try.f33, go_sem, c0, c1]
end Go.Proofs.Ytkeeihjcjkndbaa
