/- sets.Shadow. -/
import Derived.Test.YtkebhhpfnalbfabDoorMarks
import Derived.Test.YtkebhhpfnalbfabDoorMarked
import Derived.Test.YtkebhhpfnalbfabDoorSieve
import Derived.Test.YtkebhhpfnalbfabDoorFam
namespace Go.Proofs.YtkebhhpfnalbfabDoor
open Go.RowKit Go.Shelf
attribute [local go_sem] Oper.semAt_some

theorem zeroComes (w : World) : (zeroValue 42).run Tryd.prog w = .ok (.agg Z256) w := by kernel_rfl
theorem Marked.newC (w : World) (t : TypeId) (Z : Array Value) (hZ : Z = Array.replicate 256 (.bool false)) : Marked w.heap.size (w.alloc (.cells Z t)) (fun _ => false) := by
  subst hZ
  refine ⟨fun i hi => ?_, fun i => World.frozen?_alloc_at _ _ _ _ rfl, by simp⟩
  rw [World.cell?_alloc_at _ _ _ _ rfl]
  simp [hi]

theorem ShadowQ_ok (s C : Nat) (m : Nat → Bool) (w : World) (hs : s < 256) (h : Marked C w m) :
    Calls Tryd.prog 43 #[.int .i64 s, .pointer (some ⟨C, 0, none⟩)] w fun e w' => e = .returned (.bool (m s)) ∧ w' = w := by
  have hc := h.cell s hs
  clear h
  go_enter Tryd.func43, Tryd.ntmps43
  go_wp2
  go_ret
  exact ⟨rfl, rfl⟩
set_option maxRecDepth 100000 in
set_option maxHeartbeats 4000000 in
theorem Shadow_fam (n : Nat) (v : Value) (l : List Nat) (w : World) (hn : n ≤ 8) (hf : Fam n l) (h : Ints w v (N l)) :
    Calls Tryd.prog 20 #[.int .i64 n, v] w fun e w' => ∃ r, e = .returned (.tuple #[r, .int .i64 0]) ∧ Own w.heap.size w' r ((List.range (2 ^ n)).filter fun s => l.any fun t => downB t s) ∧ Below w.heap.size w w' := by
  have HI := hid h
  have FA := hid (family_any n v (N l) w h)
  rw [fam_mk hn hf] at FA
  obtain ⟨a, cap, rfl, hlen, hc⟩ := h.nats
  clear h
  obtain ⟨Z, hZ, HZ⟩ : ∃ Z, (∀ w, (zeroValue 42).run Tryd.prog w = .ok (.agg Z) w) ∧ Hid (Z = Array.replicate 256 (.bool false)) := ⟨Z256, zeroComes, rfl⟩
  have hZs : Z.size = 256 := by rw [HZ.out]; simp
  have hZn : ¬ Z = #[] := fun h => by rw [h] at hZs; simp at hZs
  refine (callsIn_wide (n := 6)).1 ?_
  refine callsIn_of_wp_marks Tryd.func20 rfl trivial ?_ rfl
  simp only [Tryd.ntmps20, List.size_toArray, List.length_cons, List.length_nil, Nat.reduceAdd, Nat.reduceSub, Array.replicate_succ, Array.replicate_zero, List.push_toArray, List.append_toArray, List.nil_append, List.cons_append]
  gi_wp2_with (refine ⟨trivial, ?_⟩; gi_at_call 39; refine (callsIn_wide.2 FA.out).mono ?_; rintro e w1 ⟨rfl, h1⟩; obtain rfl := h1.symm)
  have hmk : Marked w.heap.size (w.alloc (.cells Z 42)) (fun _ => false) := Marked.newC w _ Z HZ.out
  have hB0 : Below w.heap.size w (w.alloc (.cells Z 42)) := (Below.refl _ _).alloc (Nat.le_refl _) _
  have hs0 : (w.alloc (.cells Z 42)).heap.size = w.heap.size + 1 := by simp
  revert hmk hB0 hs0
  generalize w.alloc (.cells Z 42) = W1
  intro hmk hB0 hs0
  clear hZ HZ hZs hZn
  have HL := hid (hf.lt256 hn)
  refine wpIn_loop (fun a' wr => ∃ (k : Nat) (Ds : List Nat) (mk : Nat → Bool) (u9 u20 u21 u22 u23 u24 u30 : Value), k ≤ l.length ∧ Marked w.heap.size wr mk ∧ Hid (∀ s, mk s = (l.take k).any fun t => downB t s) ∧ Shuts (w.heap.size + 1) wr Ds ∧ Below w.heap.size w wr ∧
    a' = { tmps := #[.int .i64 n, .slice a l.length cap, undef, undef, .slice none 0 0, .int .i64 0, .int .i64 0, .pointer (some ⟨w.heap.size, 0, none⟩), undef, u9, undef, .int .i64 n, .slice a l.length cap, .int .i64 0, .int .i64 0, .bool false, undef, .slice a l.length cap, .int .i64 l.length, .int .i64 k, u20, u21, u22, u23, u24, undef, undef, undef, undef, undef, u30, undef, undef, undef], defers := Ds.map markOf })
    (fun a' _ => l.length - (intOf (a'.tmps.getD 19 undef)).toNat) ?start ?round
  case start => exact ⟨0, [], fun _ => false, undef, undef, undef, undef, undef, undef, undef, Nat.zero_le _, hmk, fun s => by simp, Shuts.nil _ _, hB0, rfl⟩
  case round =>
    rintro a' wr ⟨k, Ds, mk, u9, u20, u21, u22, u23, u24, u30, hk, hm, HMK, HS, hnx, rfl⟩
    by_cases hlt : k < l.length
    · obtain ⟨b, off, rfl, hb, hcell⟩ := hc (by omega)
      have hck : wr.cell? ⟨b, off + k, none⟩ = some (.int .i64 (l.getD k 0 : Nat)) := (hnx.cell (p := ⟨b, off + k, none⟩) hb).trans (hcell k hlt)
      have hx := getD_lt HL.out k
      have TS := hid (take_snoc hlt)
      clear hcell hc
      generalize l.getD k 0 = x at *
      gi_wp2_with (refine ⟨trivial, ?_⟩; gi_at_call 42; refine (callsIn_wide.2 (sing_any x _)).mono ?_; rintro e w' ⟨rfl, rfl⟩)
      have cx := cellA (.cells #[.int .i64 x] 3) (cellN wr (.int .i64 x) 3).1
      have cs := (cellN (wr.alloc (.cells #[.int .i64 x] 3)) (.int .i64 x) 3).1
      rw [World.size_alloc] at cs
      have hB1 : Below wr.heap.size wr ((wr.alloc (.cells #[.int .i64 x] 3)).alloc (.cells #[.int .i64 x] 3)) := ((Below.refl _ _).alloc (Nat.le_refl _) _).alloc (by simp) _
      have hsz : ((wr.alloc (.cells #[.int .i64 x] 3)).alloc (.cells #[.int .i64 x] 3)).heap.size = wr.heap.size + 1 + 1 := by simp
      revert cx cs hB1 hsz
      generalize (wr.alloc (.cells #[.int .i64 x] 3)).alloc (.cells #[.int .i64 x] 3) = W0
      intro cx cs hB1 hsz
      have hm0 : Marked w.heap.size W0 mk := ⟨fun i hi => (hB1.cell (p := ⟨w.heap.size, i, none⟩) hm.size).trans (hm.cell i hi), fun i => (froz_below hB1 hm.size).trans (hm.frozen i), by have := hm.size; omega⟩
      have hd0 : ∀ E ∈ Ds, W0.heap[E]? = some (.deferred (some [])) := fun E hE => (hB1.block E (Array.getElem?_eq_some_iff.1 (HS.2 E hE).2).1).trans (HS.2 E hE).2
      have hdl : ∀ E ∈ Ds, E < wr.heap.size := fun E hE => (Array.getElem?_eq_some_iff.1 (HS.2 E hE).2).1
      have hBw := hnx.trans (hB1.mono hnx.size)
      refine wpIn_rangeFunc_ownF rfl (by decide) (gf := 51) (lb := #[.pointer (some ⟨wr.heap.size + 1, 0, none⟩)]) rfl trivial (enters_of Tryd.func51 (by kernel_rfl) rfl)
        (sing_stops 5 (by decide) x (wr.heap.size + 1) hx _ (by omega) cs) (fun _ _ => trivial) (fun _ _ _ _ _ _ _ _ => trivial) (Below.refl _ _) (fun _ => rfl)
        (fun pre W => (Marked w.heap.size W (fun s => mk s || (pre.map (·.1)).any fun i => dif x (bt i) == s) ∧ W.cell? ⟨wr.heap.size, 0, none⟩ = some (.int .i64 x)) ∧ (∀ E ∈ Ds, W.heap[E]? = some (.deferred (some []))) ∧ Below w.heap.size w W)
        (fun _ _ _ => False)
        (OwnFrom.and (Own.from (fun s A B row hs hg hr => ⟨⟨fun i hi => cell_kept (hs.1.cell i hi) hg hr, fun i => by
            by_cases hi : i < 256
            · exact (frozen_kept (hs.1.cell i hi) hg hr).trans (hs.1.frozen i)
            · have hblk : B.heap[w.heap.size]? = A.heap[w.heap.size]? := hg.block _ hs.1.size (fun e => by
                obtain ⟨o, ho, hno⟩ := hr _ e.symm
                have h0 := hs.1.cell 0 (by omega)
                unfold World.cell? at h0
                rw [ho] at h0
                cases o <;> simp_all [Obj.isCells])
              have := hs.1.frozen i
              unfold World.frozen? at this ⊢
              rw [hblk]
              exact this, Nat.lt_of_lt_of_le hs.1.size hg.size⟩, cell_kept hs.2 hg hr⟩) _)
          (OwnFrom.and (fun s A B row hs hg hr E hE => (hg.block E (Array.getElem?_eq_some_iff.1 (hs E hE)).1 (fun e => by have := (hr E e.symm).1; have := hdl E hE; omega)).trans (hs E hE)) (ownFrom_below (Nat.le_refl _) (by have := hnx.size; omega))))
        (fun _ _ _ _ _ hs _ _ => hs)
        ⟨⟨by simpa using hm0, cx⟩, hd0, hBw⟩
        (fun y => { tmps := #[.int .i64 n, .slice (some ⟨b, off, none⟩) l.length cap, undef, undef, .slice none 0 0, .int .i64 0, .int .i64 0, .pointer (some ⟨w.heap.size, 0, none⟩), undef, .pointer (some ⟨wr.heap.size, 0, none⟩), .int .i64 (bt y.1 : Nat), .int .i64 n, .slice (some ⟨b, off, none⟩) l.length cap, .int .i64 0, .int .i64 0, .bool false, undef, .slice (some ⟨b, off, none⟩) l.length cap, .int .i64 l.length, .int .i64 k, .bool true, .pointer (some ⟨b, off + k, none⟩), .int .i64 x, .int .i64 x, .func (.func 51) #[] #[.pointer (some ⟨wr.heap.size + 1, 0, none⟩)], .int .i64 (bt y.1 : Nat), undef, undef, undef, undef, u30, undef, undef, undef], defers := [] }) ?assign ?body ?done ?stop
      case assign =>
        intro l0 y W K hK
        dsimp only [enc1]
        gi_wp2
        exact hK
      case body =>
        rintro l0 pre y W ⟨⟨hmW, hcW⟩, hdW, hBW⟩ _
        have hx8 := bt_lt (el_lt y)
        have hxy : bits .andNot .i64 (x : Int) (bt y.1 : Int) = ((dif x (bt y.1) : Nat) : Int) := i64_andNot_nat x (bt y.1) (by omega) (by omega)
        have hd8 : dif x (bt y.1) < 256 := dif_lt hx
        have hcz := hmW.cell _ hd8
        have hfz := hmW.frozen (dif x (bt y.1))
        have HM2 : Hid (Marked w.heap.size (W.setCell ⟨w.heap.size, dif x (bt y.1), none⟩ (.bool true)) (fun s => mk s || ((pre ++ [y]).map (·.1)).any fun i => dif x (bt i) == s)) := hmW.set _ hd8 (fun i => by simp [Bool.or_assoc])
        have hne : w.heap.size ≠ wr.heap.size := by have := hm.size; omega
        have HC2 : Hid ((W.setCell ⟨w.heap.size, dif x (bt y.1), none⟩ (.bool true)).cell? ⟨wr.heap.size, 0, none⟩ = some (.int .i64 x)) := (World.cell?_setCell_other W _ _ _ (fun e => hne (by first | exact congrArg Addr.block e | exact (congrArg Addr.block e).symm))).trans hcW
        have HD2 : Hid (∀ E ∈ Ds, (W.setCell ⟨w.heap.size, dif x (bt y.1), none⟩ (.bool true)).heap[E]? = some (.deferred (some []))) := fun E hE => (KeepsOthers.setCell W ⟨w.heap.size, dif x (bt y.1), none⟩ (.bool true)).same E _ (hdW E hE) rfl
        have HBW := hid hBW
        generalize dif x (bt y.1) = z at *
        clear hmW hdW hBW
        gi_wp2
        exact ⟨KeepsOthers.setCell _ _ _, trivial, ⟨HM2.out, HC2.out⟩, HD2.out, HBW.out.setCell (p := ⟨w.heap.size, z, none⟩) (Nat.le_refl _) _⟩
      case done =>
        rintro D ys W hD hys ⟨⟨hmW, hcW⟩, hdW, hBW⟩ hK
        have SH : Hid (Shuts (w.heap.size + 1) W (D :: Ds)) := HS.cons (by have := hnx.size; have := hm.size; omega) hK (by omega) hdW
        rw [hys] at hmW
        have HM3 := hid hmW
        have HBW := hid hBW
        clear hmW hdW hBW hcW
        gi_wp2
        refine ⟨⟨k + 1, D :: Ds, _, _, _, _, _, _, _, _, by omega, HM3.out, fun s => ?_, SH.out, HBW.out, rfl⟩, by simp [intOf]; omega⟩
        rw [TS.out, List.any_append, List.any_cons, List.any_nil, Bool.or_false, HMK.out s]
        rfl
      case stop =>
        rintro D c pre W _ _ h _
        exact h.elim
    · have hk' : k = l.length := by omega
      subst hk'
      have E1 : mk = fun s => l.any fun t => downB t s := by
        funext s
        rw [HMK.out s, List.take_length]
      subst E1
      have SV := hid (Sieve_any n 43 #[.pointer (some ⟨w.heap.size, 0, none⟩)] (fun s => l.any fun t => downB t s) wr hn (fun args w => enters_of Tryd.func43 (by kernel_rfl) rfl args w)
        (fun x hx w1 hb1 _ => (ShadowQ_ok x w.heap.size _ w1 (lt256 hn hx) ⟨fun i hi => (hb1.cell (p := ⟨w.heap.size, i, none⟩) hm.size).trans (hm.cell i hi), fun i => (froz_below hb1 hm.size).trans (hm.frozen i), Nat.lt_of_lt_of_le hm.size hb1.size⟩).mono (fun e w' he => ⟨he.1, by rw [he.2]; exact Below.refl _ _⟩)))
      have hsz := hm.size
      clear HMK hm hc
      obtain ⟨acc, HACC⟩ : ∃ acc, Hid ((List.range (2 ^ n)).filter (fun s => l.any fun t => downB t s) = acc) := ⟨_, rfl⟩
      rw [HACC.out] at SV
      gi_wp2_with (refine ⟨trivial, ?_⟩; gi_at_call 23; refine (callsIn_wide.2 SV.out).mono ?_)
      rintro e w5 ⟨r, rfl, ho, hb5⟩
      have HO := hid (ho.mono hnx.size : Own w.heap.size w5 r acc)
      have HB := hid (hnx.trans (hb5.mono hnx.size))
      have HS5 : Hid (Shuts (w.heap.size + 1) w5 Ds) := ⟨HS.1, fun E hE => ⟨(HS.2 E hE).1, (hb5.block E (Array.getElem?_eq_some_iff.1 (HS.2 E hE).2).1).trans (HS.2 E hE).2⟩⟩
      clear ho hb5
      gi_wp2
      rw [HACC.out]
      refine leaves_marks (B := w.heap.size + 1) (fun W => Own w.heap.size W r acc ∧ Below w.heap.size w W) ?_ ?_ Ds w5 ⟨HO.out, HB.out⟩ HS5.out
      · rintro W D ⟨h1, h2⟩ hD hK
        exact ⟨ownsRow_putObj h1 _ hK rfl, h2.trans (belowK_b (w := w) (Nat.le_refl _) W D _ _ (by omega) hK rfl rfl)⟩
      · rintro W ⟨h1, h2⟩
        exact ⟨_, results_tmp2 rfl _ _ _, _, rfl, h1, h2⟩
end Go.Proofs.YtkebhhpfnalbfabDoor
