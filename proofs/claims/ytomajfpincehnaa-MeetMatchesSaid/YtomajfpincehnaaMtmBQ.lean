/- rotakeep.MeetMatches's own function: the matroid of one side's ends. -/
import Derived.Test.YtomajfpincehnaaMtmAQ
namespace Go.Proofs.Ytomajfpincehnaa
open Go.RowKit

theorem cl_len (f : Nat → Nat) (e : Nat) : ∀ N, (clL f e N).length ≤ N
  | 0 => Nat.le_refl _
  | N + 1 => by
    have := cl_len f e N
    rw [clL]
    split
    · rw [List.length_append, List.length_singleton]; omega
    · omega
theorem own_cap {B : Nat} {w : World} {v : Value} {l : List Nat} (h : Own B w v l) : ∀ a L c, v = .slice a L c → L ≤ c := by
  rintro a L c rfl
  obtain ⟨_, h1⟩ := h
  rcases h1 with ⟨e, _⟩ | ⟨g, cap, cur, e, _, _, h2, _⟩
  · cases e; exact Nat.le_refl _
  · cases e; exact h2
set_option maxRecDepth 20000 in
set_option maxHeartbeats 8000000 in
theorem side_ok (gn : Nat) (f : Nat → Nat) (bG bN n : Nat) (ea : Option Addr) (ec : Nat) (F : List (Int × Int)) (w : World) (hn : n ≤ 8) (he : F.length ≤ 8) (hf : ∀ i, i < F.length → f i < n) (hE : EdgesI w (.slice ea F.length ec) F) (x0 : w.cell? ⟨bG, 0, none⟩ = some (.int .i64 n)) (x1 : w.cell? ⟨bG, 1, none⟩ = some (.slice ea F.length ec)) (x2 : w.cell? ⟨bN, 0, none⟩ = some (.int .i64 F.length)) (hbG : bG < w.heap.size) (hbN : bN < w.heap.size) (eg : Enters gn)
    (hG : ∀ i, i < F.length → ∀ W, Calls Try.prog gn #[.agg #[.int .i64 (F.getD i (0, 0)).1, .int .i64 (F.getD i (0, 0)).2]] W fun e w' => e = .returned (.int .i64 (f i : Nat)) ∧ Below W.heap.size W w') :
    Calls Try.prog 6 #[.func (.func gn) #[] #[], .pointer (some ⟨bG, 0, none⟩), .pointer (some ⟨bN, 0, none⟩)] w fun e w' => ∃ L, Sides f F.length n L ∧ GivesO w F.length (basR F.length (lamF L (List.replicate L.length 1) L.length)) e w' := by
  obtain ⟨_, _, e0, _, hc⟩ := hE
  obtain ⟨rfl, rfl⟩ : ea = _ ∧ ec = _ := by simpa using e0
  clear e0
  have HC := hid hc
  have HGG := hid hG
  have HX0 := hid x0
  have HX1 := hid x1
  have HX2 := hid x2
  have HF := hid hf
  have C0 : Hid (∀ v, clsT f v 0 = 0) := fun _ => rfl
  have CS : Hid (∀ v k, clsT f v (k + 1) = if f k = v then clsT f v k ||| 2 ^ k else clsT f v k) := fun _ _ => rfl
  have CLT : Hid (∀ v k, k ≤ 8 → clsT f v k < 256) := fun v k hk => lt256 hk (cls_lt f v k)
  have CL0 : Hid (clL f F.length 0 = []) := rfl
  have CLS : Hid (∀ v, clL f F.length (v + 1) = if 0 < clsT f v F.length then clL f F.length v ++ [clsT f v F.length] else clL f F.length v) := fun _ => rfl
  have CLN : Hid (∀ v, (clL f F.length v).length ≤ v) := cl_len f F.length
  have SD := hid (fun L hp hs => sides_of (f := f) (e := F.length) (N := n) (L := L) he hf hp hs)
  have hX : (w.alloc (.cells #[.int .i64 0, .slice none 0 0] 30)).heap[w.heap.size]? = some (.cells #[.int .i64 0, .slice none 0 0] 30 (0, 0)) := World.alloc_heap_new w _
  have HB0 : Hid (Below w.heap.size w (w.alloc (.cells #[.int .i64 0, .slice none 0 0] 30))) := (Below.refl _ _).alloc (Nat.le_refl _) _
  have HSZ : Hid ((w.alloc (.cells #[.int .i64 0, .slice none 0 0] 30)).heap.size = w.heap.size + 1) := World.size_alloc _ _
  have HX := hid hX
  have eg' := eg
  unfold Enters at eg'
  clear hc hG hf x0 x1 x2 eg hX
  go_enter Try.func6, Try.ntmps6
  have y0 := (HB0.out.cell (p := ⟨bG, 0, none⟩) hbG).trans HX0.out
  go_wp2_with fail
  revert HB0 HX HSZ y0
  generalize (w.alloc (.cells #[.int .i64 0, .slice none 0 0] 30)) = W0
  intro HB0 HSZ HX y0
  go_loopw [6, 7, 8, 9, 10, 11, 14] (fun u m _ _ _ _ ii wr => ∃ v : Nat, v ≤ n ∧ ii = .int .i64 v ∧ Hid (Two W0.heap.size wr u m (clL f F.length v) (List.replicate (clL f F.length v).length 1)) ∧ Hid (Below W0.heap.size W0 wr)) (fun _ _ _ _ _ _ ii _ => n - (intOf ii).toNat)
  case atStart => exact ⟨0, Nat.zero_le _, rfl, by show Two _ _ _ _ _ _; rw [CL0.out]; exact Two.nil _ _, Below.refl _ _⟩
  case round =>
    obtain ⟨v, hv, rfl, HT, HW⟩ := hrel
    by_cases hlt : v < n
    · have hvi : (v : Int) < (n : Int) := by omega
      have hmeas : n - (v + 1) < n - v := by omega
      have HBr := hid (HB0.out.trans (HW.out.mono HB0.out.size))
      have z1 := (HBr.out.cell (p := ⟨bG, 1, none⟩) hbG).trans HX1.out
      have CLSv := hid (CLS.out v)
      have CLNv := CLN.out v
      clear CLS CLN
      go_wp2_with fail
      go_loopw [9, 10, 11, 20] (fun s _ _ ii wx => ∃ i : Nat, i ≤ F.length ∧ ii = .int .i64 i ∧ s = .int .i64 (clsT f v i : Nat) ∧ Hid (Below wr.heap.size wr wx)) (fun _ _ _ ii _ => F.length - (intOf ii).toNat)
      case atStart => exact ⟨0, Nat.zero_le _, rfl, by rw [C0.out]; rfl, Below.refl _ _⟩
      case round =>
        obtain ⟨i, hi, rfl, rfl, HY⟩ := hrel
        by_cases hil : i < F.length
        · have hii : (i : Int) < (F.length : Int) := by omega
          have hmi : F.length - (i + 1) < F.length - i := by omega
          obtain ⟨b, off, rfl, hb, hcell⟩ := HC.out (by omega)
          have HBx := hid (HBr.out.trans (HY.out.mono HBr.out.size))
          have cA := (HBx.out.cell (p := ⟨b, off + i * 2, none⟩) hb).trans (hcell i hil).1
          have cB := (HBx.out.cell (p := ⟨b, off + i * 2 + 1, none⟩) hb).trans (hcell i hil).2
          have GI := hid (fun W => HGG.out i hil W)
          have CSi := hid (CS.out v i)
          have q1 := CLT.out v i (by omega)
          have hp : 2 ^ i ≤ 128 := Nat.pow_le_pow_right (by decide) (by omega : i ≤ 7)
          have hw1 := (pow_wrap i (by omega)).1
          have hor : bits .or .i64 (clsT f v i : Nat) ((2 : Int) ^ i) = ((clsT f v i ||| 2 ^ i : Nat) : Int) := by
            rw [show (2 : Int) ^ i = ((2 ^ i : Nat) : Int) by simp]
            exact i64_or_nat _ _ (Nat.lt_of_lt_of_le q1 (by decide)) (Nat.lt_of_le_of_lt hp (by decide))
          clear hcell
          generalize (F.getD i (0, 0)).1 = ea1 at *
          generalize (F.getD i (0, 0)).2 = eb1 at *
          have hfi := HF.out i hil
          generalize f i = fi at *
          generalize clsT f v i = cs0 at *
          have HYa := hid (HY.out.alloc HY.out.size (.cells #[.int .i64 ea1, .int .i64 eb1] 34))
          go_wp2_with fail
          refine (GI.out _).mono ?_
          rintro e w2 ⟨rfl, hb2⟩
          have HY2 := hid (HYa.out.trans (hb2.mono HYa.out.size))
          clear hb2
          by_cases hfv : fi = v
          · have hfb : ((fi : Int) == (v : Int)) = true := by rw [beq_iff_eq, hfv]
            rw [if_pos hfv] at CSi
            clear hfv
            go_wp2_with fail
            go_roundw
            case rel => exact ⟨i + 1, hil, by go_num, by rw [CSi.out], HY2⟩
            case measure => simpa [intOf] using hmi
          · have hfb : ((fi : Int) == (v : Int)) = false := by rw [beq_eq_false_iff_ne]; omega
            rw [if_neg hfv] at CSi
            clear hfv
            go_wp2_with fail
            go_roundw
            case rel => exact ⟨i + 1, hil, by go_num, by rw [CSi.out], HY2⟩
            case measure => simpa [intOf] using hmi
        · obtain rfl : i = F.length := by omega
          have q1 := CLT.out v F.length he
          have HT2 := hid (HT.out.below HY.out)
          have HW2 := hid (HW.out.trans (HY.out.mono HW.out.size))
          have hs0 := HW2.out.size
          have hlen : (clL f F.length v).length ≤ 256 := by omega
          generalize clL f F.length v = Lv at *
          by_cases hpos : 0 < clsT f v F.length
          · rw [if_pos hpos] at CLSv
            have hpi : (0 : Int) < ((clsT f v F.length : Nat) : Int) := by omega
            generalize clsT f v F.length = x at *
            have T1 := hid (HT2.out.below ((Below.refl _ _).alloc (Nat.le_refl _) (.cells #[.int .i64 (x : Nat)] 3)))
            have hc1 : (wr.alloc (.cells #[.int .i64 (x : Nat)] 3)).cell? ⟨wr.heap.size, 0, none⟩ = some (.int .i64 (x : Nat)) := (Boxed.new wr 3 _).cell
            have W1 := hid (HW2.out.alloc hs0 (.cells #[.int .i64 (x : Nat)] 3))
            go_wp2_with (at_builtin; refine wpList_snocAt rfl (.tmp 37) (.tmp 39) rfl rfl rfl T1.out.fst hc1 hlen (by rw [World.size_alloc]; omega) ?_)
            intro v' w' h1 h2 h3
            have T2 := hid (T1.out.one h1 h2 (by rw [World.size_alloc]; exact h3))
            have W2 := hid (W1.out.grown h2 (by rw [World.size_alloc]; omega) (fun j hj => (World.ownsRow.lt T1.out.fst j hj).1))
            have hs2 := W2.out.size
            clear h1 h2 h3 hc1
            have T3 := hid (T2.out.below ((Below.refl _ _).alloc (Nat.le_refl _) (.cells #[.int .i64 1] 3)))
            have hc1 : (w'.alloc (.cells #[.int .i64 1] 3)).cell? ⟨w'.heap.size, 0, none⟩ = some (.int .i64 ((1 : Nat) : Int)) := (Boxed.new w' 3 _).cell
            have W3 := hid (W2.out.alloc hs2 (.cells #[.int .i64 1] 3))
            go_wp2_with (at_builtin; refine wpList_snocAt (b := 1) rfl (.tmp 41) (.tmp 42) rfl rfl rfl T3.out.snd hc1 (by rw [List.length_replicate]; exact hlen) (by rw [World.size_alloc]; omega) ?_)
            intro v'' w'' h1 h2 h3
            have T4 := hid (T3.out.swap.one h1 h2 (by rw [World.size_alloc]; exact h3)).swap
            have W4 := hid (W3.out.grown h2 (by rw [World.size_alloc]; omega) (fun j hj => (World.ownsRow.lt T3.out.snd j hj).1))
            clear h1 h2 h3 hc1
            have T5 : Hid (Two W0.heap.size w'' v' v'' (Lv ++ [x]) (List.replicate (Lv ++ [x]).length 1)) := by
              show Two _ _ _ _ _ _
              rw [List.length_append, List.length_singleton, List.replicate_succ']
              exact T4
            go_wp2_with fail
            go_roundw
            case rel => exact ⟨v + 1, hlt, by go_num, by rw [CLSv.out]; exact T5.out, W4.out⟩
            case measure => simpa [intOf] using hmeas
          · rw [if_neg hpos] at CLSv
            have hpi : ¬ (0 : Int) < ((clsT f v F.length : Nat) : Int) := by omega
            generalize clsT f v F.length = x at *
            go_wp2_with fail
            go_roundw
            case rel => exact ⟨v + 1, hlt, by go_num, by rw [CLSv.out]; exact HT2.out, HW2⟩
            case measure => simpa [intOf] using hmeas
    · obtain rfl : v = n := by omega
      have hlen : (clL f F.length v).length ≤ 17592186044416 := by have := CLN.out v; omega
      have hln8 := CLN.out v
      have HBr := hid (HB0.out.trans (HW.out.mono HB0.out.size))
      obtain ⟨ua, uc, hu⟩ := ownsRow_form' HT.out.fst
      subst hu
      have SO := hid (Sort_own HT.out.fst hlen)
      go_wp2_with fail
      with_reducible refine SO.out.mono ?_
      rintro e w5 ⟨rfl, L, hperm, hsort, ho5, hb5, hg5⟩
      have S5 := hid (SD.out L hperm hsort)
      have hlL : L.length ≤ 8 := by rw [hperm.length_eq]; omega
      have W5 := hid (hb5 W0 HW.out HW.out.size)
      have hs5 := W5.out.size
      have M5 := hid (HT.out.snd.keep hg5 fun g hv hu => HT.out.apart g hu hv)
      have IL := hid (ho5.ints (by omega))
      have IM := hid (M5.out.ints (by rw [List.length_replicate]; omega))
      have hcap5 := own_cap ho5
      have HB5 := hid (HB0.out.trans (W5.out.mono HB0.out.size))
      have z2 := (HB5.out.cell (p := ⟨bN, 0, none⟩) hbN).trans HX2.out
      have LM := hid (Lam_any F.length _ _ (N L) (N (List.replicate (clL f F.length v).length 1)) w5 IL.out IM.out hcap5)
      have hzs : (N L).map Int.toNat = L := N_back L
      have hms : N (List.replicate (clL f F.length v).length 1) = List.replicate L.length (1 : Int) := by rw [hperm.length_eq]; simp [N]
      have hlam : lamE F.length (N L) (List.replicate L.length 1) = 0 := by
        unfold lamE
        rw [fam_mk he S5.out.fam, if_pos rfl, if_pos (by simp [N]), hzs, show (N L).length = L.length by simp [N]]
        exact S5.out.lam
      rw [hms, hlam, Int.toNat_natCast, hzs] at LM
      have hbas : bigL F.length (keepH L (List.replicate L.length 1)) = basR F.length (lamF L (List.replicate L.length 1) L.length) := lam_basR he (fun i j hij hj => pw_at S5.out.fam.up hij hj) S5.out.lam
      rw [hbas] at LM
      clear ho5 hb5 hg5 hperm hsort hzs hms hlam hbas hcap5
      go_wp2_with fail
      with_reducible refine LM.out.mono ?_
      intro e w6 h6
      obtain ⟨r6, rfl, ho6, hb6⟩ := h6.1 rfl
      obtain ⟨ra, rc, hr⟩ := ownsRow_form' ho6
      subst hr
      have hsz := HSZ.out
      have hxx := (hb6.block w.heap.size (by omega)).trans ((W5.out.block w.heap.size (by omega)).trans HX.out)
      obtain ⟨y2, y3, g2, g3⟩ := two_cells hxx
      have BS := hid S5.out
      generalize hBB : basR F.length (lamF L (List.replicate L.length 1) L.length) = BB at *
      have HBB := hid hBB
      clear hBB
      have HC6 := hid (set_two (x := .int .i64 F.length) (y := .slice ra BB.length rc) hxx)
      have HB6 := hid (HB5.out.trans (hb6.mono HB5.out.size))
      have HD := hid (below_two (b := w.heap.size) (x := .int .i64 F.length) (y := .slice ra BB.length rc) HB6.out (by omega))
      have HII := hid ((ho6.set2 (b := w.heap.size) (x := .int .i64 F.length) (y := .slice ra BB.length rc) (by omega)).mono (by omega : w.heap.size ≤ _))
      clear hb6 ho6 hxx h6
      go_wp2_with fail
      obtain ⟨c0, c1⟩ := HC6.out
      refine bodyPost_ret (v := .tuple #[.agg #[.int .i64 F.length, .slice ra _ rc], .int .i64 0]) ?_ rfl ⟨L, BS.out, _, rfl, by rw [HBB.out]; exact HII.out, HD.out⟩
      simp [results, Try.f6, go_sem, c0, c1]
end Go.Proofs.Ytomajfpincehnaa
