/- rotaref.Above, rotaref.Chains. -/
import Derived.Test.YtpmpfnbgjgjlgaaPlainAll
import Derived.Test.YtpmpfnbgjgjlgaaRefAxDQ
import Derived.Test.YtpmpfnbgjgjlgaaRefAxCQ
import Derived.Test.YtpmpfnbgjgjlgaaThoseQ
import Derived.Test.YtpmpfnbgjgjlgaaGrBQ
import Derived.Deep.RegionLaw
import Derived.Deep.RegionHeld3
namespace Go.Proofs.Ytpmpfnbgjgjlgaa
open Go.RowKit

/-- append, as one step of a region that draws. -/
theorem step_app_ownX {P : Program} {w : World} {ops : Array Oper} {o : Oper} {a : Act} {K : Act → World → Prop} {Q : Exit → Act → World → Prop} {E : Prop}
    (hg : o.guard = none) (s x : Operand) (t : TypeId) (hop : o.op = Op.call { callee := Callee.builtin Builtin.append, args := #[s, x], argTypes := #[t, t] })
    (base : Nat) (e : TypeId) (i : TypeInfo) (z : Value) (size bytes : Nat) (h1 : P.underlying t = some (.slice e)) (h2 : P.info? e = some i) (h3 : i.zero = some z) (h4 : i.size = size) (h5 : i.bytes = bytes) (h6 : z.cells.size = size) (h7 : 0 < size)
    (v : Value) (k : Nat) (xs : List Value) (hs : a.eval s = v) (hown : w.ownsRow base e size v k xs) (ad : Addr) (m c : Nat) (news : List Value) (hx : a.eval x = .slice (some ad) m c) (hn : news.length = m * size)
    (hc : ∀ j u, news[j]? = some u → w.cell? (ad.add j) = some u) (h1c : ∀ u ∈ news, u.oneCell' = true) (b1 : k + m ≤ maxLen) (b2 : (k + m) * bytes ≤ 140737488355328) (b3 : base ≤ w.heap.size)
    (hK : ∀ v' w', w'.ownsRow base e size v' (k + m) (xs ++ news) → w.grownBy w' v.ownBlock → K (a.put o.dst v') w') :
    if Region.wanted o (yielded ops a.tmps) = true then Oper.wp P o a w K Q else E := by
  have hw : Region.wanted o (yielded ops a.tmps) = true := by simp [Region.wanted, hg]
  rw [if_pos hw]
  obtain ⟨v', w', hrun, r1, r2, r3⟩ := run_append_own (P := P) w base t o.type e i z size bytes h1 h2 h3 h4 h5 h6 h7 v k xs hown ad m c news hn hc h1c b1 b2 b3
  unfold Oper.wp
  simp [execOp, hop, resolve, invoke, builtin, hs, hx, hrun, Result.andThen]
  exact hK v' w' r1 r2
theorem ready_loadX {md : Region.Mode} {ops : Array Oper} {Q : Exit → Act → World → Prop} {S : World → Prop} {fuel : Nat} {listed : Array Bool} {a : Act} {w : World} {i : Nat} {o : Oper} {rs : List Nat} (k : Nat) (ad : Addr) (x : Value)
    (ho : ops[i]? = some o) (hg : o.guard = none) (hop : o.op = .load 22 (.tmp k)) (hp : a.eval (.tmp k) = .pointer (some ad)) (hc : w.cell? ad = some x) (hS : S w)
    (h : wpAnyH Try.prog md ops Q S fuel (listed.setIfInBounds i true) (a.put o.dst x) w) (hs : AllReadyH Try.prog md ops Q S fuel listed a w rs) : AllReadyH Try.prog md ops Q S fuel listed a w (i :: rs) := by
  refine AllReadyH.cons ho (fun K hK => ?_) hs
  have hw : Region.wanted o (yielded ops a.tmps) = true := by simp [Region.wanted, hg]
  rw [if_pos hw]
  have hK2 := hK.out (a.put o.dst x) w hS (fun _ => h)
  unfold Oper.wp
  have hp' : a.tmps[k]?.getD undef = .pointer (some ad) := by simpa [go_sem] using hp
  simp [execOp, hop, hp', hc, go_sem]
  exact hK2
theorem set_boxX {W : World} {b : Nat} {p y : Value} {t : TypeId} (h : W.heap[b]? = some (.cells #[p] t (0, 0))) : (W.setCell ⟨b, 0, none⟩ y).heap[b]? = some (.cells #[y] t (0, 0)) := by
  obtain ⟨hlt, hk⟩ := Array.getElem?_eq_some_iff.1 h
  simp only [World.setCell, Array.getElem?_modify, ↓reduceIte, h, Option.map_some]
  rfl
theorem box_oneX {W : World} {b : Nat} {p : Value} {t : TypeId} (h : W.heap[b]? = some (.cells #[p] t (0, 0))) : W.cell? ⟨b, 0, none⟩ = some p ∧ W.frozen? ⟨b, 0, none⟩ = false := by
  constructor <;> simp [World.cell?, World.frozen?, h]
theorem Own.setX {B : Nat} {w : World} {v : Value} {l : List Nat} (h : Own B w v l) {p : Addr} (hp : p.block < B) (x : Value) : Own B (w.setCell p x) v l := by
  obtain ⟨h0, h1⟩ := h
  refine ⟨h0, h1.imp_right ?_⟩
  rintro ⟨g, cap, cur, hv, hg, hheap, hr⟩
  exact ⟨g, cap, cur, hv, hg, (Below.heap_setCell _ _ _ g (by omega)).trans hheap, hr⟩
theorem enters_abv1 : Enters 56 := fun args w => enters_of Try.func56 (by kernel_rfl) rfl args w
theorem HasB_any (v : Value) (l : List Nat) (x : Nat) (w : World) (h : Ints w v (N l)) :
    Calls Try.prog 23 #[v, .int .i64 (x : Nat)] w fun e w' => e = .returned (.bool (memB x l)) ∧ w' = w := by
  have HC := hid (ContainsZ_any v (N l) x w h)
  rw [memZ_N] at HC
  obtain ⟨a, cap, rfl, _, _⟩ := h
  go_enter Try.func23, Try.ntmps23
  go_wp2_with fail
  refine HC.out.mono ?_
  rintro e w' ⟨rfl, h'⟩
  obtain rfl := h'.symm
  go_wp2_with fail
  go_ret
  exact ⟨rfl, rfl⟩
theorem abv1_ans {w : World} {b : Nat} {v : Value} {cs : List Nat} {T : Nat} (h1 : b < w.heap.size) (hc : w.cell? ⟨b, 0, none⟩ = some v) (hv : Ints w v (N cs)) :
    AnswersTo w.heap.size w 56 #[.pointer (some ⟨b, 0, none⟩)] T (fun s => memB s cs) := by
  intro x hx w1 hb hs
  have d1 := (hb.cell (p := ⟨b, 0, none⟩) h1).trans hc
  have HO := hid (HasB_any v cs x w1 (hv.below hb))
  obtain ⟨a, cap, rfl, _, _⟩ := hv
  obtain ⟨ans, HA⟩ : ∃ ans, Hid (memB x cs = ans) := ⟨_, rfl⟩
  rw [HA.out] at HO
  show Calls Try.prog 56 #[.int .i64 (x : Nat), .pointer (some ⟨b, 0, none⟩)] w1 _
  go_enter Try.func56, Try.ntmps56
  go_wp2_with fail
  refine HO.out.mono ?_
  rintro e w2 ⟨rfl, h2⟩
  obtain rfl := h2.symm
  go_wp2_with fail
  go_ret
  exact ⟨ret_bool (by show ans = memB x cs; rw [HA.out]), Below.refl _ _⟩
theorem pow_nat (i : Nat) (hi : i < 8) : ∃ P : Nat, P = 2 ^ i ∧ wrap64 (2 ^ i) = (P : Int) ∧ IntKind.i64.wrap (2 ^ i) = (P : Int) ∧ P < 256 := by
  have e := (pow_wrap i (by omega)).1
  exact ⟨2 ^ i, rfl, e, by rw [IntWalk.i64_left]; exact e, pow_lt256 hi⟩
set_option maxRecDepth 20000 in
set_option maxHeartbeats 4000000 in
theorem Above_ref (m f : Nat) (v : Value) (l : List Nat) (w : World) (hm : m ≤ 8) (hf : Fam m l) (hb : Bas l) (h : Ints w v (N l)) (hx : f ∈ fltL m (rk l)) :
    Calls Try.prog 24 #[.agg #[.int .i64 m, v], .int .i64 f] w fun e w' => ∃ u, e = .returned u ∧ Own w.heap.size w' u (nxtF (fltL m (rk l)) (rk l) f) ∧ Below w.heap.size w w' := by
  obtain ⟨i0, hi, hz0, hz1, hz2⟩ := info_parts Try.infoInt
  obtain ⟨hfT, hff⟩ := flt_mem.1 hx
  rw [← abv_is hm hb.rk hfT hff]
  have HI := hid h
  obtain ⟨a, cap, hv, -, -⟩ := h.nats
  subst hv
  have hf8 := lt256 hm hfT
  have CLO : Hid (∀ i w', i < m → Below w.heap.size w w' → _) := fun i w' hi' hb' => Closure_ref m (f ||| 2 ^ i) (.slice a l.length cap) l w' hm hb (hf.lt256 hm) (HI.out.below hb') (ad_lt hfT hi')
  have HHIT := hid (fun k h => abv_hit (r := rk l) (n := m) (f := f) (k := k) h)
  have HMIS := hid (fun k h => abv_miss (r := rk l) (n := m) (f := f) (k := k) h)
  have HLEN := hid (fun k => abv_len (rk l) m f k)
  have INN := hid (fun i w (hi' : i < 8) => In_any f i w hf8 hi')
  have THO : Hid (∀ (W : World) (b : Nat) (u : Value), b < W.heap.size → W.cell? ⟨b, 0, none⟩ = some u → Ints W u (N (abvL (rk l) m f m)) → Calls Try.prog 51 #[.int .i64 m, .func (.func 56) #[] #[.pointer (some ⟨b, 0, none⟩)]] W fun e w' => ∃ r, e = .returned r ∧ Own W.heap.size w' r ((List.range (2 ^ m)).filter fun s => memB s (abvL (rk l) m f m)) ∧ Below W.heap.size W w') := fun W b u h1 h2 h3 => Those_any m 56 #[.pointer (some ⟨b, 0, none⟩)] _ W hm enters_abv1 (abv1_ans h1 h2 h3)
  have HA0 : Hid (abvL (rk l) m f 0 = []) := rfl
  have hB0 : Below w.heap.size w ((w.alloc (.cells #[.int .i64 m, .slice a l.length cap] 24)).alloc (.cells #[.slice none 0 0] 22)) := ((Below.refl _ _).alloc (Nat.le_refl _) _).alloc (by simp) _
  have e0 : ((w.alloc (.cells #[.int .i64 m, .slice a l.length cap] 24)).alloc (.cells #[.slice none 0 0] 22)).heap[w.heap.size]? = some (.cells #[.int .i64 m, .slice a l.length cap] 24 (0, 0)) := by
    rw [Below.heap_alloc _ _ _ (by simp)]
    exact World.alloc_heap_new w _
  have e1 : ((w.alloc (.cells #[.int .i64 m, .slice a l.length cap] 24)).alloc (.cells #[.slice none 0 0] 22)).heap[w.heap.size + 1]? = some (.cells #[.slice none 0 0] 22 (0, 0)) := by
    have := World.alloc_heap_new (w.alloc (.cells #[.int .i64 m, .slice a l.length cap] 24)) (.cells #[.slice none 0 0] 22)
    rwa [World.size_alloc] at this
  have hsz : ((w.alloc (.cells #[.int .i64 m, .slice a l.length cap] 24)).alloc (.cells #[.slice none 0 0] 22)).heap.size = w.heap.size + 2 := by simp
  obtain ⟨W0, hW0⟩ : ∃ W0, (w.alloc (.cells #[.int .i64 m, .slice a l.length cap] 24)).alloc (.cells #[.slice none 0 0] 22) = W0 := ⟨_, rfl⟩
  rw [hW0] at hB0 e0 e1 hsz
  have HB0 := hid hB0
  have HE0 := hid e0
  have HE1 := hid e1
  have hs0 : w.heap.size + 2 ≤ W0.heap.size := by omega
  have hm8 : (m : Int) ≤ 8 := by omega
  clear hB0 e0 e1 hsz hff hx hf hb h
  generalize abvL (rk l) m f = ab at *
  generalize ((List.range (2 ^ m)).filter fun s => memB s (ab m)) = ans at *
  generalize rk l = r at *
  go_enter Try.func24, Try.ntmps24
  go_wp2_with fail
  clear hW0
  go_loopw [6] (fun i wr => ∃ k : Nat, k ≤ m ∧ i = .int .i64 k ∧ Hid (∃ u, wr.heap[w.heap.size + 1]? = some (.cells #[u] 22 (0, 0)) ∧ Own (w.heap.size + 2) wr u (ab k)) ∧ Hid (Below (w.heap.size + 1) W0 wr) ∧ Hid (w.heap.size + 2 ≤ wr.heap.size)) (fun i _ => m - (intOf i).toNat)
  case atStart => exact ⟨0, Nat.zero_le _, rfl, ⟨_, HE1.out, by rw [HA0.out]; exact Own.nil _ _⟩, Below.refl _ _, hs0⟩
  case round =>
    obtain ⟨k, hk, rfl, HU, HW, HSZ⟩ := hrel
    obtain ⟨u, hub, huo⟩ := HU.out
    have hsr := HSZ.out
    have hbw := HB0.out.trans (HW.out.mono (Nat.le_succ _))
    have e0 := (HW.out.block w.heap.size (by omega)).trans HE0.out
    obtain ⟨y0, y1, -, -⟩ := two_cells e0
    by_cases hlt : k < m
    · have hki : (k : Int) < (m : Int) := by omega
      have IN := hid (fun w => INN.out k w (by omega))
      obtain ⟨tb, HTB⟩ : ∃ tb, Hid (f.testBit k = tb) := ⟨_, rfl⟩
      rw [HTB.out] at IN
      cases tb
      · have HH := hid (HHIT.out k HTB.out)
        obtain ⟨ua, uc, hue⟩ := ownsRow_form' huo
        subst hue
        have hl8 := HLEN.out k
        have HUO := hid huo
        have HUB := hid hub
        obtain ⟨ub0, ub1⟩ := box_oneX hub
        have k8 : k < 8 := by omega
        have hkn : k + 1 ≤ m := hlt
        have C1 : Hid (∀ w', Below wr.heap.size wr w' → _) := fun w' hb' => CLO.out k w' hlt (hbw.trans (hb'.mono hbw.size))
        obtain ⟨P, hP, HPW⟩ : ∃ P : Nat, P = 2 ^ k ∧ Hid (wrap64 (2 ^ k) = (P : Int) ∧ IntKind.i64.wrap (2 ^ k) = (P : Int) ∧ P < 256) := by
          obtain ⟨P, h1, h2, h3, h4⟩ := pow_nat k k8
          exact ⟨P, h1, h2, h3, h4⟩
        have OR : bits .or .i64 (f : Int) (P : Int) = ((f ||| P : Nat) : Int) := i64_or_nat _ _ (by omega) (by have := HPW.out.2.2; omega)
        have cl8 : cl r m (f ||| 2 ^ k) < 256 := lt256 hm (cl_lt hm (ad_lt hfT hlt))
        rw [← hP] at C1 HH cl8
        have hkz : ¬ (k : Int) < 0 := by omega
        have BXD : Hid (∀ w', Below wr.heap.size wr w' → w'.heap[w.heap.size + 1]? = some (.cells #[.slice ua (ab k).length uc] 22 (0, 0))) := fun w' hb' => (hb'.block _ (by omega)).trans HUB.out
        have MBD : Hid (∀ w', Below wr.heap.size wr w' → w'.heap[w.heap.size]? = some (.cells #[.int .i64 m, .slice a l.length cap] 24 (0, 0))) := fun w' hb' => (hb'.block _ (by omega)).trans e0
        have LM : Hid ((ab k).length + 1 ≤ maxLen ∧ ((ab k).length + 1) * 8 ≤ 140737488355328) := by
          show _ ∧ _
          unfold maxLen
          omega
        have DB : Hid (∀ w4, Below wr.drew.heap.size wr.drew w4 → Below wr.heap.size wr w4) := fun w4 hb4 => (Below.refl _ _).drew.trans hb4
        have X4 : Hid (∀ w4, Below wr.drew.heap.size wr.drew w4 → Own (w.heap.size + 2) w4 (.slice ua (ab k).length uc) (ab k)) := fun w4 hb4 => HUO.out.below (DB.out w4 hb4)
        have X5 : Hid (∀ (w4 : World), Below wr.drew.heap.size wr.drew w4 → ∀ o : Obj, w.heap.size + 2 ≤ (w4.alloc o).heap.size) := fun w4 hb4 o => by
          have := (DB.out w4 hb4).size
          rw [World.size_alloc]
          omega
        have X6 : Hid (∀ (w4 : World), Below wr.drew.heap.size wr.drew w4 → ∀ (o : Obj) (w5 : World), (w4.alloc o).grownBy w5 (Value.slice ua (ab k).length uc).ownBlock → (w5.cell? ⟨w.heap.size + 1, 0, none⟩ = some (.slice ua (ab k).length uc) ∧ w5.frozen? ⟨w.heap.size + 1, 0, none⟩ = false) ∧ w5.heap[w.heap.size + 1]? = some (.cells #[.slice ua (ab k).length uc] 22 (0, 0)) ∧ Below (w.heap.size + 1) W0 w5 ∧ w.heap.size + 2 ≤ w5.heap.size) := fun w4 hb4 o w5 hg => by
          have hb := DB.out w4 hb4
          have hsz := hb.size
          have e1 : (w4.alloc o).heap[w.heap.size + 1]? = some (.cells #[.slice ua (ab k).length uc] 22 (0, 0)) := by
            rw [Below.heap_alloc _ _ _ (by omega)]
            exact (hb.block _ (by omega)).trans HUB.out
          have e2 := (hg.block (w.heap.size + 1) (by rw [World.size_alloc]; omega) (fun e => by
            have := (World.ownsRow.lt (HUO.out.below hb) (w.heap.size + 1) e.symm).1
            omega)).trans e1
          refine ⟨box_oneX e2, e2, ?_, ?_⟩
          · exact ((HW.out.trans (hb.mono (by omega))).alloc (by omega) o).grown hg (by rw [World.size_alloc]; omega) (fun j hj => by
              have := (World.ownsRow.lt (HUO.out.below hb) j hj).1
              omega)
          · have := hg.size
            rw [World.size_alloc] at this
            omega
        have X7 : Hid (∀ (w4 : World), Below wr.drew.heap.size wr.drew w4 → ∀ o : Obj, (w4.alloc o).cell? ⟨w.heap.size + 1, 0, none⟩ = some (.slice ua (ab k).length uc)) := fun w4 hb4 o => by
          have hb := DB.out w4 hb4
          have hsz := hb.size
          refine (box_oneX (t := 22) ?_).1
          rw [Below.heap_alloc _ _ _ (by omega)]
          exact (hb.block _ (by omega)).trans HUB.out
        have X8 : Hid (∀ (w4 : World), Below wr.drew.heap.size wr.drew w4 → w4.cell? ⟨w.heap.size + 1, 0, none⟩ = some (.slice ua (ab k).length uc)) := fun w4 hb4 => (box_oneX (((DB.out w4 hb4).block _ (by omega)).trans HUB.out)).1
        clear hub huo HU hbw CLO HHIT HMIS INN THO HTB hP
        generalize hac : ab k = acc at *
        clear hac
        generalize cl r m (f ||| P) = c at *
        generalize f ||| P = fp at *
        go_wp2_with fail
        refine (IN.out _).mono ?_
        rintro e w3 ⟨rfl, h3⟩
        obtain rfl := h3.symm
        obtain ⟨hpw, hpw2, hP8⟩ := HPW.out
        have cS : wr.drew.cell? ⟨w.heap.size, 0, none⟩ = some (.int .i64 m) ∧ wr.drew.cell? ⟨w.heap.size, 1, none⟩ = some (.slice a l.length cap) := ⟨y0, y1⟩
        have KS : Hid (∀ w' : World, w'.heap[w.heap.size]? = wr.heap[w.heap.size]? → w'.cell? ⟨w.heap.size, 0, none⟩ = some (.int .i64 m) ∧ w'.cell? ⟨w.heap.size, 1, none⟩ = some (.slice a l.length cap)) := fun w' e => by
          obtain ⟨q0, q1, -, -⟩ := two_cells (e.trans e0)
          exact ⟨q0, q1⟩
        have ubd : wr.drew.cell? ⟨w.heap.size + 1, 0, none⟩ = some (.slice ua acc.length uc) := ub0
        go_wp2_with fail
        refine wp_region_held_drew (S := fun w' => w'.cell? ⟨w.heap.size, 0, none⟩ = some (.int .i64 m) ∧ w'.cell? ⟨w.heap.size, 1, none⟩ = some (.slice a l.length cap)) (by kernel_rfl) cS (fun _ => ?_)
        refine wpAnyH_take (i := 2) (v := .int .i64 f) rfl (by kernel_rfl) (by kernel_rfl) (by kernel_rfl) (fun _ _ _ h => h) (Or.inl ⟨by rfl, fun w hw => by go_simp⟩) cS ?_
        refine wpAnyH_take (i := 3) (v := .int .i64 k) rfl (by kernel_rfl) (by kernel_rfl) (by kernel_rfl) (fun _ _ _ h => h) (Or.inl ⟨by rfl, fun w hw => by go_simp⟩) cS ?_
        refine wpAnyH_take (i := 1) (v := .agg #[.int .i64 m, .slice a l.length cap]) rfl (by kernel_rfl) (by kernel_rfl) (by kernel_rfl) (fun _ _ _ h => h) (Or.inl ⟨by rfl, fun w hw => by obtain ⟨h1, h2⟩ := hw; go_simp⟩) cS ?_
        refine wpAnyH_take (i := 4) (v := .int .i64 P) rfl (by kernel_rfl) (by kernel_rfl) (by kernel_rfl) (fun _ _ _ h => h) (Or.inl ⟨by rfl, fun w hw => by go_simp⟩) cS ?_
        refine wpAnyH_take (i := 5) (v := .int .i64 fp) rfl (by kernel_rfl) (by kernel_rfl) (by kernel_rfl) (fun _ _ _ h => h) (Or.inl ⟨by rfl, fun w hw => by go_simp⟩) cS ?_
        refine wpAnyH_ready (rs := [0, 6]) (by kernel_rfl) (by simp) ?_
        refine ready_loadX 5 ⟨w.heap.size + 1, 0, none⟩ (.slice ua acc.length uc) rfl rfl rfl rfl ubd cS ?_ ?_
        · refine wpAnyH_ready (rs := [6]) (by kernel_rfl) (by simp) ?_
          refine AllReadyH.cons rfl ?_ AllReadyH.nil
          intro K hK
          go_simp
          refine (C1.out _ (Below.refl _ _).drew).mono ?_
          rintro e w4 ⟨rfl, hb4⟩
          have O4 := hid (X4.out w4 hb4)
          have S4 := hid (X5.out w4 hb4)
          have F5 := hid (X6.out w4 hb4)
          have q0 := X8.out w4 hb4
          have q1 := X7.out w4 hb4
          have B4 := hid (DB.out w4 hb4)
          refine hK.out _ _ (KS.out _ (B4.out.block _ (by omega))) (fun _ => ?_)
          clear hK K hb4
          refine wpAnyH_ready (rs := [7]) (by kernel_rfl) (by simp) ?_
          refine AllReadyH.cons rfl ?_ AllReadyH.nil
          intro K hK
          go_simp
          refine hK.out _ _ (KS.out _ ((Below.heap_alloc _ _ _ (by have := B4.out.size; omega)).trans (B4.out.block _ (by omega)))) (fun _ => ?_)
          clear hK K
          refine wpAnyH_ready (rs := [8]) (by kernel_rfl) (by simp) ?_
          refine AllReadyH.cons rfl ?_ AllReadyH.nil
          intro K hK
          refine step_app_ownX rfl (.tmp 17) (.tmp 24) 22 rfl (w.heap.size + 2) 3 i0 (.int .i64 0) 1 8 Try.underlying22 hi hz0 hz1 hz2 rfl (by decide) _ _ _ rfl (O4.out.alloc _) ⟨w4.heap.size, 0, none⟩ 1 1 [.int .i64 (c : Nat)] rfl rfl (cell_one_new _ _ _) (by intro u hu; simp at hu; subst hu; rfl) LM.out.1 LM.out.2 (S4.out _) ?_
          intro v5 w5 hown' hgrow
          have R5 := hid (Own.snoc hown')
          obtain ⟨⟨g0, g1⟩, n5, b5, s5⟩ := F5.out _ w5 hgrow
          have K5 : w5.heap[w.heap.size]? = wr.heap[w.heap.size]? := (b5.block _ (by omega)).trans (HW.out.block _ (by omega)).symm
          obtain ⟨va, vc, hvv⟩ := ownsRow_form' R5.out
          rw [show (acc ++ [c]).length = acc.length + 1 by simp] at hvv
          subst hvv
          refine hK.out _ _ (KS.out _ K5) (fun _ => ?_)
          clear hK K hown' hgrow
          refine wpAnyH_ready (rs := [9]) (by kernel_rfl) (by simp) ?_
          refine AllReadyH.cons rfl ?_ AllReadyH.nil
          intro K hK
          have N6 := hid (set_boxX (y := .slice va (acc.length + 1) vc) n5)
          have O6 := hid (R5.out.setX (p := ⟨w.heap.size + 1, 0, none⟩) (by show w.heap.size + 1 < _; omega) (.slice va (acc.length + 1) vc))
          have B6 := hid (b5.setCell (p := ⟨w.heap.size + 1, 0, none⟩) (Nat.le_refl _) (.slice va (acc.length + 1) vc))
          have S6 : Hid (w.heap.size + 2 ≤ (w5.setCell ⟨w.heap.size + 1, 0, none⟩ (.slice va (acc.length + 1) vc)).heap.size) := by show _ ≤ _; simpa [World.setCell] using s5
          have K6 : (w5.setCell ⟨w.heap.size + 1, 0, none⟩ (.slice va (acc.length + 1) vc)).heap[w.heap.size]? = wr.heap[w.heap.size]? := (Below.heap_setCell _ _ _ _ (by show w.heap.size ≠ w.heap.size + 1; omega)).trans K5
          go_simp
          refine hK.out _ _ (KS.out _ K6) (fun _ => ?_)
          clear hK K
          refine wpAnyH_done (by kernel_rfl) ?_ _
          go_wp2_with fail
          exact ⟨⟨k + 1, hkn, by go_num, by rw [HH.out]; exact ⟨_, N6.out, O6.out⟩, B6.out, S6.out⟩, by simp [intOf]; omega⟩
        · refine AllReadyH.cons rfl ?_ AllReadyH.nil
          intro K hK
          go_simp
          refine (C1.out _ (Below.refl _ _).drew).mono ?_
          rintro e w4 ⟨rfl, hb4⟩
          have O4 := hid (X4.out w4 hb4)
          have S4 := hid (X5.out w4 hb4)
          have F5 := hid (X6.out w4 hb4)
          have q0 := X8.out w4 hb4
          have q1 := X7.out w4 hb4
          have B4 := hid (DB.out w4 hb4)
          refine hK.out _ _ (KS.out _ (B4.out.block _ (by omega))) (fun _ => ?_)
          clear hK K hb4
          refine wpAnyH_ready (rs := [0, 7]) (by kernel_rfl) (by simp) ?_
          refine ready_loadX 5 ⟨w.heap.size + 1, 0, none⟩ (.slice ua acc.length uc) rfl rfl rfl rfl q0 (KS.out _ (B4.out.block _ (by omega))) ?_ ?_
          · refine wpAnyH_ready (rs := [7]) (by kernel_rfl) (by simp) ?_
            refine AllReadyH.cons rfl ?_ AllReadyH.nil
            intro K hK
            go_simp
            refine hK.out _ _ (KS.out _ ((Below.heap_alloc _ _ _ (by have := B4.out.size; omega)).trans (B4.out.block _ (by omega)))) (fun _ => ?_)
            clear hK K
            refine wpAnyH_ready (rs := [8]) (by kernel_rfl) (by simp) ?_
            refine AllReadyH.cons rfl ?_ AllReadyH.nil
            intro K hK
            refine step_app_ownX rfl (.tmp 17) (.tmp 24) 22 rfl (w.heap.size + 2) 3 i0 (.int .i64 0) 1 8 Try.underlying22 hi hz0 hz1 hz2 rfl (by decide) _ _ _ rfl (O4.out.alloc _) ⟨w4.heap.size, 0, none⟩ 1 1 [.int .i64 (c : Nat)] rfl rfl (cell_one_new _ _ _) (by intro u hu; simp at hu; subst hu; rfl) LM.out.1 LM.out.2 (S4.out _) ?_
            intro v5 w5 hown' hgrow
            have R5 := hid (Own.snoc hown')
            obtain ⟨⟨g0, g1⟩, n5, b5, s5⟩ := F5.out _ w5 hgrow
            have K5 : w5.heap[w.heap.size]? = wr.heap[w.heap.size]? := (b5.block _ (by omega)).trans (HW.out.block _ (by omega)).symm
            obtain ⟨va, vc, hvv⟩ := ownsRow_form' R5.out
            rw [show (acc ++ [c]).length = acc.length + 1 by simp] at hvv
            subst hvv
            refine hK.out _ _ (KS.out _ K5) (fun _ => ?_)
            clear hK K hown' hgrow
            refine wpAnyH_ready (rs := [9]) (by kernel_rfl) (by simp) ?_
            refine AllReadyH.cons rfl ?_ AllReadyH.nil
            intro K hK
            have N6 := hid (set_boxX (y := .slice va (acc.length + 1) vc) n5)
            have O6 := hid (R5.out.setX (p := ⟨w.heap.size + 1, 0, none⟩) (by show w.heap.size + 1 < _; omega) (.slice va (acc.length + 1) vc))
            have B6 := hid (b5.setCell (p := ⟨w.heap.size + 1, 0, none⟩) (Nat.le_refl _) (.slice va (acc.length + 1) vc))
            have S6 : Hid (w.heap.size + 2 ≤ (w5.setCell ⟨w.heap.size + 1, 0, none⟩ (.slice va (acc.length + 1) vc)).heap.size) := by show _ ≤ _; simpa [World.setCell] using s5
            have K6 : (w5.setCell ⟨w.heap.size + 1, 0, none⟩ (.slice va (acc.length + 1) vc)).heap[w.heap.size]? = wr.heap[w.heap.size]? := (Below.heap_setCell _ _ _ _ (by show w.heap.size ≠ w.heap.size + 1; omega)).trans K5
            go_simp
            refine hK.out _ _ (KS.out _ K6) (fun _ => ?_)
            clear hK K
            refine wpAnyH_done (by kernel_rfl) ?_ _
            go_wp2_with fail
            exact ⟨⟨k + 1, hkn, by go_num, by rw [HH.out]; exact ⟨_, N6.out, O6.out⟩, B6.out, S6.out⟩, by simp [intOf]; omega⟩
          · refine AllReadyH.cons rfl ?_ AllReadyH.nil
            intro K hK
            go_simp
            refine hK.out _ _ (KS.out _ ((Below.heap_alloc _ _ _ (by have := B4.out.size; omega)).trans (B4.out.block _ (by omega)))) (fun _ => ?_)
            clear hK K
            refine wpAnyH_ready (rs := [0]) (by kernel_rfl) (by simp) ?_
            refine ready_loadX 5 ⟨w.heap.size + 1, 0, none⟩ (.slice ua acc.length uc) rfl rfl rfl rfl (q1 _) (KS.out _ ((Below.heap_alloc _ _ _ (by have := B4.out.size; omega)).trans (B4.out.block _ (by omega)))) ?_ AllReadyH.nil
            refine wpAnyH_ready (rs := [8]) (by kernel_rfl) (by simp) ?_
            refine AllReadyH.cons rfl ?_ AllReadyH.nil
            intro K hK
            refine step_app_ownX rfl (.tmp 17) (.tmp 24) 22 rfl (w.heap.size + 2) 3 i0 (.int .i64 0) 1 8 Try.underlying22 hi hz0 hz1 hz2 rfl (by decide) _ _ _ rfl (O4.out.alloc _) ⟨w4.heap.size, 0, none⟩ 1 1 [.int .i64 (c : Nat)] rfl rfl (cell_one_new _ _ _) (by intro u hu; simp at hu; subst hu; rfl) LM.out.1 LM.out.2 (S4.out _) ?_
            intro v5 w5 hown' hgrow
            have R5 := hid (Own.snoc hown')
            obtain ⟨⟨g0, g1⟩, n5, b5, s5⟩ := F5.out _ w5 hgrow
            have K5 : w5.heap[w.heap.size]? = wr.heap[w.heap.size]? := (b5.block _ (by omega)).trans (HW.out.block _ (by omega)).symm
            obtain ⟨va, vc, hvv⟩ := ownsRow_form' R5.out
            rw [show (acc ++ [c]).length = acc.length + 1 by simp] at hvv
            subst hvv
            refine hK.out _ _ (KS.out _ K5) (fun _ => ?_)
            clear hK K hown' hgrow
            refine wpAnyH_ready (rs := [9]) (by kernel_rfl) (by simp) ?_
            refine AllReadyH.cons rfl ?_ AllReadyH.nil
            intro K hK
            have N6 := hid (set_boxX (y := .slice va (acc.length + 1) vc) n5)
            have O6 := hid (R5.out.setX (p := ⟨w.heap.size + 1, 0, none⟩) (by show w.heap.size + 1 < _; omega) (.slice va (acc.length + 1) vc))
            have B6 := hid (b5.setCell (p := ⟨w.heap.size + 1, 0, none⟩) (Nat.le_refl _) (.slice va (acc.length + 1) vc))
            have S6 : Hid (w.heap.size + 2 ≤ (w5.setCell ⟨w.heap.size + 1, 0, none⟩ (.slice va (acc.length + 1) vc)).heap.size) := by show _ ≤ _; simpa [World.setCell] using s5
            have K6 : (w5.setCell ⟨w.heap.size + 1, 0, none⟩ (.slice va (acc.length + 1) vc)).heap[w.heap.size]? = wr.heap[w.heap.size]? := (Below.heap_setCell _ _ _ _ (by show w.heap.size ≠ w.heap.size + 1; omega)).trans K5
            go_simp
            refine hK.out _ _ (KS.out _ K6) (fun _ => ?_)
            clear hK K
            refine wpAnyH_done (by kernel_rfl) ?_ _
            go_wp2_with fail
            exact ⟨⟨k + 1, hkn, by go_num, by rw [HH.out]; exact ⟨_, N6.out, O6.out⟩, B6.out, S6.out⟩, by simp [intOf]; omega⟩
      · have HM := hid (HMIS.out k HTB.out)
        go_wp2_with fail
        refine (IN.out _).mono ?_
        rintro e w3 ⟨rfl, h3⟩
        obtain rfl := h3.symm
        go_wp2_with fail
        go_roundw
        case rel => exact ⟨k + 1, by omega, by go_num, by rw [HM.out]; exact HU.out, HW.out, HSZ.out⟩
        case measure => simp [intOf]; omega
    · have hkm : k = m := by omega
      have hki : ¬ (k : Int) < (m : Int) := by omega
      rw [hkm] at huo
      obtain ⟨ub0, ub1⟩ := box_oneX hub
      have TH := hid (THO.out wr (w.heap.size + 1) u (by omega) ub0 (huo.ints (by have := HLEN.out m; omega)))
      have HBW := hid hbw
      clear hub huo HU hbw CLO HHIT HMIS INN THO hkm
      go_wp2_with fail
      refine TH.out.mono ?_
      rintro e w3 ⟨q, rfl, ho3, hb3⟩
      have HB3 := hid (HBW.out.trans (hb3.mono HBW.out.size))
      have HO3 := hid (ho3.mono HBW.out.size)
      clear ho3 hb3
      go_wp2_with fail
      go_ret
      exact ⟨_, rfl, HO3.out, HB3.out⟩
set_option maxRecDepth 20000 in
set_option maxHeartbeats 4000000 in
theorem Chains_ref (m : Nat) (v : Value) (l : List Nat) (hm : m ≤ 8) (hf : Fam m l) (hb : Bas l) : ∀ (d f : Nat) (w : World), rk l (2 ^ m - 1) - rk l f = d → f ∈ fltL m (rk l) → Ints w v (N l) →
    Calls Try.prog 21 #[.agg #[.int .i64 m, v], .int .i64 f] w fun e w' => e = .returned (.int .i64 (dnN m (rk l) f : Nat)) ∧ Below w.heap.size w w'
  | 0, f, w, hd, hx, h => by
    obtain ⟨hfT, hff⟩ := flt_mem.1 hx
    have hfr := rk_below (n := m) hb.rk hfT
    have hfe : f = 2 ^ m - 1 := flatF_top hm hb.rk hfT hff (by omega)
    have HD : Hid (dnN m (rk l) f = 1) := by show _ = _; unfold dnN; rw [hd]; rfl
    rw [HD.out]
    have HI := hid h
    obtain ⟨a, cap, hv, -, -⟩ := h.nats
    subst hv
    have HB0 := hid (below_box w #[.int .i64 m, .slice a l.length cap])
    have AL := hid (fun w => All_nat m w hm)
    rw [← hfe] at AL
    clear hfe hfr hd hff hfT hx h
    go_enter Try.func21, Try.ntmps21
    go_wp2_with fail
    refine (AL.out _).mono ?_
    rintro e w2 ⟨rfl, h2⟩
    obtain rfl := h2.symm
    have hff : ((f : Int) == (f : Int)) = true := by simp
    go_wp2_with fail
    go_ret
    exact ⟨rfl, HB0.out⟩
  | d + 1, f, w, hd, hx, h => by
    obtain ⟨hfT, hff⟩ := flt_mem.1 hx
    have hlt0 : rk l f < rk l (2 ^ m - 1) := by omega
    have hne : ((f : Int) == ((2 ^ m - 1 : Nat) : Int)) = false := by
      rw [beq_eq_false_iff_ne]
      intro e
      have : f = 2 ^ m - 1 := by omega
      rw [← this] at hlt0
      omega
    have HI := hid h
    have ABV := hid (fun w' (hb' : Below w.heap.size w w') => Above_ref m f v l w' hm hf hb (h.below hb') hx)
    have IH : Hid (∀ g w', g ∈ nxtF (fltL m (rk l)) (rk l) f → Below w.heap.size w w' → _) := fun g w' hg hb' => Chains_ref m v l hm hf hb d g w' (by
      have := (nxt_parts (nxtF_mem.1 hg).2).2.2
      omega) (List.mem_filter.1 hg).1 (h.below hb')
    have ST := hid (fun j (hj : j < (nxtF (fltL m (rk l)) (rk l) f).length) => dnP_step (n := m) (r := rk l) hj)
    have EN := hid (dnP_end (n := m) (r := rk l) hlt0)
    have BD := hid (fun j => dnP_bound hm hb.rk hfT hlt0 j)
    have B1 := hid (fun g (hg : g ∈ nxtF (fltL m (rk l)) (rk l) f) => dn_bound hm hb.rk (nxtF_mem.1 hg).1)
    have DZ : Hid (dnP m (rk l) f 0 = 0) := rfl
    have hCl : (nxtF (fltL m (rk l)) (rk l) f).length ≤ 256 := Nat.le_trans (List.length_filter_le _ _) (flt_len hm)
    obtain ⟨a, cap, hv, -, -⟩ := h.nats
    subst hv
    have HB0 := hid (below_box w #[.int .i64 m, .slice a l.length cap])
    have HX : Hid (∀ w2, Below (w.alloc (.cells #[.int .i64 m, .slice a l.length cap] 24)).heap.size (w.alloc (.cells #[.int .i64 m, .slice a l.length cap] 24)) w2 → _) := fun w2 hb => box_cells hb
    have AL := hid (fun w => All_nat m w hm)
    have AB0 := hid (ABV.out _ HB0.out)
    rw [← EN.out]
    clear hfT hff hlt0 hd hx h hf hb EN ABV
    generalize 2 ^ m - 1 = A at *
    generalize dnP m (rk l) f = dp at *
    generalize nxtF (fltL m (rk l)) (rk l) f = C at *
    generalize dnN m (rk l) = dn at *
    go_enter Try.func21, Try.ntmps21
    go_wp2_with fail
    refine (AL.out _).mono ?_
    rintro e w2 ⟨rfl, h2⟩
    obtain rfl := h2.symm
    go_wp2_with fail
    refine AB0.out.mono ?_
    rintro e w3 ⟨cv, rfl, ho3, hb3⟩
    have X3 := hid (HX.out w3 hb3)
    have HB3 := hid (HB0.out.trans (hb3.mono HB0.out.size))
    have hs3 : w.heap.size < w3.heap.size := by have := hb3.size; simp at this; omega
    have HC3 := hid (ho3.ints (by omega))
    obtain ⟨ca, cc, hcv⟩ := ownsRow_form' ho3
    subst hcv
    clear hb3 ho3 AB0 HX
    go_wp2_with fail
    go_loopw [5, 7] (fun s i wr => ∃ j : Nat, j ≤ C.length ∧ i = .int .i64 j ∧ s = .int .i64 (dp j : Nat) ∧ Hid (Below w3.heap.size w3 wr)) (fun _ i _ => C.length - (intOf i).toNat)
    case atStart => exact ⟨0, Nat.zero_le _, rfl, by rw [DZ.out]; rfl, Below.refl _ _⟩
    case round =>
      obtain ⟨j, hj, rfl, rfl, HW⟩ := hrel
      by_cases hlt : j < C.length
      · obtain ⟨a', c', hv', -, hcc⟩ := HC3.out.nats
        obtain ⟨b, off, rfl, hbb, hcell⟩ := hcc (by omega)
        obtain ⟨rfl, rfl⟩ : ca = some ⟨b, off, none⟩ ∧ cc = c' := by simpa using hv'
        have z1 := (HW.out.cell (p := ⟨b, off + j, none⟩) hbb).trans (hcell j hlt)
        obtain ⟨y0, y1⟩ := X3.out
        have q0 := (HW.out.cell (p := ⟨w.heap.size, 0, none⟩) hs3).trans y0
        have q1 := (HW.out.cell (p := ⟨w.heap.size, 1, none⟩) hs3).trans y1
        have hgm : C.getD j 0 ∈ C := by simp [List.getD, hlt]
        have hbw := HB3.out.trans (HW.out.mono HB3.out.size)
        have IH1 := hid (fun w' (hb' : Below wr.heap.size wr w') => IH.out (C.getD j 0) w' hgm (hbw.trans (hb'.mono hbw.size)))
        have S1 := hid (ST.out j hlt)
        have b1 := BD.out j
        have b2 := B1.out _ hgm
        have KEEP : Hid (∀ w', Below wr.drew.heap.size wr.drew w' → (w'.cell? ⟨w.heap.size, 0, none⟩ = some (.int .i64 m) ∧ w'.cell? ⟨w.heap.size, 1, none⟩ = some (.slice a l.length cap)) ∧ w'.cell? ⟨b, off + j, none⟩ = some (.int .i64 (C.getD j 0 : Nat))) := fun w' hb' => ⟨⟨(hb'.cell (p := ⟨w.heap.size, 0, none⟩) (Nat.lt_of_lt_of_le hs3 HW.out.size)).trans q0, (hb'.cell (p := ⟨w.heap.size, 1, none⟩) (Nat.lt_of_lt_of_le hs3 HW.out.size)).trans q1⟩, (hb'.cell (p := ⟨b, off + j, none⟩) (Nat.lt_of_lt_of_le hbb HW.out.size)).trans z1⟩
        have hwp : IntKind.i64.wrap ((dp j : Int) + (dn (C.getD j 0) : Int)) = (dp j : Int) + (dn (C.getD j 0) : Int) := IntWalk.i64_in _ (by omega)
        have hwq : wrap64 ((dp j : Int) + (dn (C.getD j 0) : Int)) = (dp j : Int) + (dn (C.getD j 0) : Int) := IntWalk.wrap64_in _ (by omega)
        clear hcell hcc hv' hbw IH
        generalize C.getD j 0 = g at *
        generalize dn g = dg at *
        generalize dp j = dj at *
        have hji : (j : Int) < (C.length : Int) := by omega
        go_wp2_with fail
        go_region_held3 (fun w' => (w'.cell? ⟨w.heap.size, 0, none⟩ = some (.int .i64 m) ∧ w'.cell? ⟨w.heap.size, 1, none⟩ = some (.slice a l.length cap)) ∧ w'.cell? ⟨b, off + j, none⟩ = some (.int .i64 (g : Nat))) (go_keep) (first
          | (go_at_call 21; refine (IH1.out _ (Below.refl _ _).drew).mono ?_; rintro e w5 ⟨rfl, hb5⟩; have K5 := hid ((Below.refl wr.heap.size wr).drew.trans hb5); obtain ⟨⟨k0, k1⟩, k2⟩ := KEEP.out w5 hb5; clear hb5))
        have HW5 := hid (HW.out.trans (K5.out.mono HW.out.size))
        clear K5 KEEP
        go_wp2_with fail
        go_roundw
        case rel => exact ⟨j + 1, by omega, by go_num, by rw [S1.out]; go_num, HW5.out⟩
        case measure => simp [intOf]; omega
      · obtain rfl : j = C.length := by omega
        have HF := hid (HB3.out.trans (HW.out.mono HB3.out.size))
        go_wp2_with fail
        go_ret
        exact ⟨rfl, HF.out⟩
end Go.Proofs.Ytpmpfnbgjgjlgaa
