/- The walk of the law KindsMakes. -/
import Derived.Test.YtkeeihjcjkndbaaGoodQ
import Derived.Test.YtkeeihjcjkndbaaRefLamQ
import Derived.Test.YtkeeihjcjkndbaaRNamedQ
namespace Go.Proofs.Ytkeeihjcjkndbaa
open Go.RowKit

theorem nam_06 (s : List UInt8) : namE s = 0 ∨ namE s = 6 := by unfold namE; split <;> simp
theorem nam_len (s : List UInt8) : (namL s).length ≤ 17592186044416 := by
  unfold namL
  split
  · exact len_of (by decide : 7 ≤ 8) (Fam.range 7 _)
  · split
    · exact len_of (by decide : 7 ≤ 8) (Fam.range 7 _)
    · split
      · exact len_of (by decide : 6 ≤ 8) (big_fam 6 _)
      · exact len_of (by decide : 8 ≤ 8) (Fam.range 8 _)
/-- What the document's Named hands back, in one form. -/
theorem names_res (s : List UInt8) (w : World) : Calls Try.prog 7 #[.string ⟨s.toArray⟩] w fun e w' => ∃ nn a L c, e = .returned (.tuple #[.agg #[.int .i64 nn, .slice a L c], .bool (namE s == 0)]) ∧ GoodM w.heap.size w' (namE s) (namN s : Nat) (namL s) nn (.slice a L c) ∧ Below w.heap.size w w' :=
  (RNamed_any s w).mono fun e w' h => by
    by_cases hq : namE s = 0
    · obtain ⟨r, h1, h2, h3⟩ := h.1 hq
      obtain ⟨a, c, rfl⟩ := ownsRow_form' h2
      exact ⟨_, a, _, c, by rw [h1, hq]; rfl, .inl ⟨hq, rfl, nam_len s, h2⟩, h3⟩
    · obtain ⟨h1, h2⟩ := h.2 hq
      exact ⟨0, none, 0, 0, by rw [h1, show (namE s == 0) = false from beq_eq_false_iff_ne.2 hq], .inr ⟨hq, rfl, rfl⟩, h2⟩
theorem bad_nam (s : List UInt8) (w : World) : Calls Try.prog 12 #[.bool (namE s == 0), .int .i64 6] w fun r w' => r = .returned (.int .i64 (namE s)) ∧ w' = w := by
  rcases nam_06 s with h | h
  · rw [h]; exact bad_yes 6 w
  · rw [h]; exact bad_no 6 w
theorem lis_of {n : Int} {zs : List Int} (h : lisR n zs = 0) : ∃ (m : Nat) (l : List Nat), n = m ∧ m ≤ 8 ∧ zs = N l ∧ ∀ s ∈ l, s < 2 ^ m := by
  unfold lisR at h
  split at h
  · rename_i h1
    obtain ⟨hall, h0, h8⟩ := h1
    obtain ⟨m, rfl⟩ := Int.eq_ofNat_of_zero_le h0
    obtain ⟨l, hl, hlt⟩ := lis_nats hall
    exact ⟨m, l, rfl, by omega, hl, hlt⟩
  · cases h
theorem lam_n {n : Int} {zs ms : List Int} (h : lamE n zs ms = 0) : ∃ m : Nat, n = m ∧ m ≤ 8 := by
  unfold lamE at h
  split at h
  · rename_i h1
    obtain ⟨m, l, rfl, hm, _, _⟩ := fam_of h1
    exact ⟨m, rfl, hm⟩
  · cases h
set_option maxRecDepth 20000 in
set_option maxHeartbeats 4000000 in
theorem makes_law (n : Int) (v : Value) (zs : List Int) (u : Value) (ms : List Int) (s : List UInt8) (w : World) (h : Ints w v zs) (hu : Ints w u ms) (hcp : ∀ a L c, v = .slice a L c → L ≤ c) :
    Calls Try.prog 3 #[.int .i64 n, v, u, .string ⟨s.toArray⟩] w fun e w' => e = .returned (.bool true) ∧ Below w.heap.size w w' := by
  have LI := hid (Lists_any n v zs w h)
  have KT := hid (fun w' (hb : Below w.heap.size w w') => (Trans_any n v zs w' (h.below hb)).mono fun e w'' hm => hm.res fun hq => by
    obtain ⟨m, l, rfl, hm8, _, _⟩ := lis_of hq
    exact len_of hm8 (big_fam _ _))
  have KL := hid (fun w' (hb : Below w.heap.size w w') => (Lam_any n v u zs ms w' (h.below hb) (hu.below hb) hcp).mono fun e w'' hm => hm.res fun hq => by
    obtain ⟨m, rfl, hm8⟩ := lam_n hq
    exact len_of hm8 (big_fam _ _))
  have RL := hid (fun w' (hb : Below w.heap.size w w') => (RLam_any n v u zs ms w' (h.below hb) (hu.below hb)).mono fun e w'' hm => hm.res fun hq => by
    obtain ⟨m, rfl, hm8⟩ := lam_n hq
    exact len_of hm8 (big_fam _ _))
  have KN := hid (fun w' => (Named_any s w').mono fun e w'' hm => hm.res fun _ => nam_len s)
  have RN := hid (fun w' => names_res s w')
  have BD := hid (fun w' => bad_nam s w')
  have HI := hid h
  have HBx := hid (below_boxR w #[.int .i64 0, .slice none 0 0])
  have HX1 := hid (World.alloc_heap_new w (.cells #[.int .i64 0, .slice none 0 0] 26))
  have hz1 := World.size_alloc w (.cells #[.int .i64 0, .slice none 0 0] 26)
  by_cases hq : lisR n zs = 0
  · obtain ⟨m, l, rfl, hm8, rfl, hlt⟩ := lis_of hq
    have e1 : (N l).map Int.toNat = l := by simp [N, Function.comp_def]
    have RT := hid (RTrans_ok m v l _ hm8 (fun s hs => lt256 hm8 (hlt s hs)) (HI.out.below HBx.out))
    have HLN := hid (len_of hm8 (big_fam m fun s => hallTo l s s))
    rw [hq] at LI KT
    rw [Int.toNat_natCast, e1] at KT
    generalize bigL m (fun s => hallTo l s s) = lt at *
    obtain ⟨a, cap, rfl, _, _⟩ := h
    obtain ⟨a9, cap9, rfl, _, _⟩ := hu
    clear hcp hlt e1 hq
    go_enter Try.func3, Try.ntmps3
    go_wp2_with fail
    refine LI.out.mono ?_
    rintro e w' ⟨rfl, hw'⟩
    subst hw'
    go_wp2_with fail
    refine RT.out.mono ?_
    rintro e w2 ⟨r2, rfl, ho2, hb2⟩
    obtain ⟨a2, c2, hr2⟩ := ownsRow_form' ho2
    subst hr2
    have hs2 := hb2.size
    have hxx := (hb2.block _ (by omega)).trans HX1.out
    obtain ⟨y2, y3, g2, g3⟩ := two_cells hxx
    have B2 := hid (below_two (b := w'.heap.size) (x := .int .i64 m) (y := .slice a2 lt.length c2) (HBx.out.trans (hb2.mono HBx.out.size)) (Nat.le_refl _))
    have P2 := hid (set_two (x := .int .i64 m) (y := .slice a2 lt.length c2) hxx)
    have M2 : Hid (GoodM (w'.heap.size + 1) ((w2.setCell ⟨w'.heap.size, 0, none⟩ (.int .i64 m)).setCell ⟨w'.heap.size, 1, none⟩ (.slice a2 lt.length c2)) 0 m lt m (.slice a2 lt.length c2)) := .inl ⟨rfl, rfl, HLN.out, (ho2.mono (by omega)).set2 (b := w'.heap.size) (by omega)⟩
    have hsz2 : ((w2.setCell ⟨w'.heap.size, 0, none⟩ (.int .i64 m)).setCell ⟨w'.heap.size, 1, none⟩ (.slice a2 lt.length c2)).heap.size = w2.heap.size := by simp
    clear ho2 hb2 hxx
    go_wp2_with fail
    refine (RL.out _ B2.out).mono ?_
    rintro e w3 ⟨m3, a3, L3, c3, rfl, hg3, hb3'⟩
    have hk3 := below_boxR w3 #[.int .i64 m3, .slice a3 L3 c3]
    have hb3 := hb3'.trans (hk3.mono hb3'.size)
    have hz3 := World.size_alloc w3 (.cells #[.int .i64 m3, .slice a3 L3 c3] 26)
    have hy3 := hb3'.size
    have B3 := hid (B2.out.trans (hb3.mono B2.out.size))
    replace P2 := hid (cells_back P2.out hb3 (by omega))
    replace M2 := hid (M2.out.below hb3)
    have P3 := hid (box_cells (w := w3) (n := m3) (u := .slice a3 L3 c3) (Below.refl _ _))
    have M3 := hid (hg3.below hk3)
    clear hb3 hb3' hk3 hg3
    go_wp2_with fail
    refine (RN.out _).mono ?_
    rintro e w4 ⟨m4, a4, L4, c4, rfl, hg4, hb4'⟩
    have hk4 := below_boxR w4 #[.int .i64 m4, .slice a4 L4 c4]
    have hb4 := hb4'.trans (hk4.mono hb4'.size)
    have hz4 := World.size_alloc w4 (.cells #[.int .i64 m4, .slice a4 L4 c4] 26)
    have hy4 := hb4'.size
    have B4 := hid (B3.out.trans (hb4.mono B3.out.size))
    replace P2 := hid (cells_back P2.out hb4 (by omega))
    replace M2 := hid (M2.out.below hb4)
    replace P3 := hid (cells_back P3.out hb4 (by omega))
    replace M3 := hid (M3.out.below hb4)
    have P4 := hid (box_cells (w := w4) (n := m4) (u := .slice a4 L4 c4) (Below.refl _ _))
    have M4 := hid (hg4.below hk4)
    clear hb4 hb4' hk4 hg4
    go_wp2_with fail
    refine (KT.out _ B4.out).mono ?_
    rintro e w5 ⟨m5, a5, L5, c5, rfl, hg5, hb5'⟩
    have hk5 := below_boxR w5 #[.int .i64 m5, .slice a5 L5 c5]
    have hb5 := hb5'.trans (hk5.mono hb5'.size)
    have hz5 := World.size_alloc w5 (.cells #[.int .i64 m5, .slice a5 L5 c5] 26)
    have hy5 := hb5'.size
    have B5 := hid (B4.out.trans (hb5.mono B4.out.size))
    replace P2 := hid (cells_back P2.out hb5 (by omega))
    replace M2 := hid (M2.out.below hb5)
    replace P3 := hid (cells_back P3.out hb5 (by omega))
    replace M3 := hid (M3.out.below hb5)
    replace P4 := hid (cells_back P4.out hb5 (by omega))
    replace M4 := hid (M4.out.below hb5)
    have P5 := hid (box_cells (w := w5) (n := m5) (u := .slice a5 L5 c5) (Below.refl _ _))
    have M5 := hid (hg5.below hk5)
    clear hb5 hb5' hk5 hg5
    go_wp2_with fail
    refine (KL.out _ B5.out).mono ?_
    rintro e w6 ⟨m6, a6, L6, c6, rfl, hg6, hb6'⟩
    have hk6 := below_boxR w6 #[.int .i64 m6, .slice a6 L6 c6]
    have hb6 := hb6'.trans (hk6.mono hb6'.size)
    have hz6 := World.size_alloc w6 (.cells #[.int .i64 m6, .slice a6 L6 c6] 26)
    have hy6 := hb6'.size
    have B6 := hid (B5.out.trans (hb6.mono B5.out.size))
    replace P2 := hid (cells_back P2.out hb6 (by omega))
    replace M2 := hid (M2.out.below hb6)
    replace P3 := hid (cells_back P3.out hb6 (by omega))
    replace M3 := hid (M3.out.below hb6)
    replace P4 := hid (cells_back P4.out hb6 (by omega))
    replace M4 := hid (M4.out.below hb6)
    replace P5 := hid (cells_back P5.out hb6 (by omega))
    replace M5 := hid (M5.out.below hb6)
    have P6 := hid (box_cells (w := w6) (n := m6) (u := .slice a6 L6 c6) (Below.refl _ _))
    have M6 := hid (hg6.below hk6)
    clear hb6 hb6' hk6 hg6
    go_wp2_with fail
    refine (KN.out _).mono ?_
    rintro e w7 ⟨m7, a7, L7, c7, rfl, hg7, hb7'⟩
    have hk7 := below_boxR w7 #[.int .i64 m7, .slice a7 L7 c7]
    have hb7 := hb7'.trans (hk7.mono hb7'.size)
    have hz7 := World.size_alloc w7 (.cells #[.int .i64 m7, .slice a7 L7 c7] 26)
    have hy7 := hb7'.size
    have B7 := hid (B6.out.trans (hb7.mono B6.out.size))
    replace P2 := hid (cells_back P2.out hb7 (by omega))
    replace M2 := hid (M2.out.below hb7)
    replace P3 := hid (cells_back P3.out hb7 (by omega))
    replace M3 := hid (M3.out.below hb7)
    replace P4 := hid (cells_back P4.out hb7 (by omega))
    replace M4 := hid (M4.out.below hb7)
    replace P5 := hid (cells_back P5.out hb7 (by omega))
    replace M5 := hid (M5.out.below hb7)
    replace P6 := hid (cells_back P6.out hb7 (by omega))
    replace M6 := hid (M6.out.below hb7)
    have P7 := hid (box_cells (w := w7) (n := m7) (u := .slice a7 L7 c7) (Below.refl _ _))
    have M7 := hid (hg7.below hk7)
    clear hb7 hb7' hk7 hg7
    have HW7 := hid (Below.refl (w7.alloc (.cells #[.int .i64 m7, .slice a7 L7 c7] 26)).heap.size (w7.alloc (.cells #[.int .i64 m7, .slice a7 L7 c7] 26)))
    go_wp2_with fail
    generalize (w7.alloc (.cells #[.int .i64 m7, .slice a7 L7 c7] 26)) = W7 at *
    have f20 := fun x : Later W7 => (cells_back P2.out x.kept (by omega)).1
    have f21 := fun x : Later W7 => (cells_back P2.out x.kept (by omega)).2
    have f30 := fun x : Later W7 => (cells_back P3.out x.kept (by omega)).1
    have f31 := fun x : Later W7 => (cells_back P3.out x.kept (by omega)).2
    have f40 := fun x : Later W7 => (cells_back P4.out x.kept (by omega)).1
    have f41 := fun x : Later W7 => (cells_back P4.out x.kept (by omega)).2
    have f50 := fun x : Later W7 => (cells_back P5.out x.kept (by omega)).1
    have f51 := fun x : Later W7 => (cells_back P5.out x.kept (by omega)).2
    have f60 := fun x : Later W7 => (cells_back P6.out x.kept (by omega)).1
    have f61 := fun x : Later W7 => (cells_back P6.out x.kept (by omega)).2
    have f70 := fun x : Later W7 => (cells_back P7.out x.kept (by omega)).1
    have f71 := fun x : Later W7 => (cells_back P7.out x.kept (by omega)).2
    have T1 := hid (fun x : Later W7 => told_any (M5.out.below x.kept) (M2.out.below x.kept))
    have T2 := hid (fun x : Later W7 => told_any (M6.out.below x.kept) (M3.out.below x.kept))
    have T3 := hid (fun x : Later W7 => told_any (M7.out.below x.kept) (M4.out.below x.kept))
    refine region_later (by kernel_rfl) (by kernel_rfl) ?_
    repeat (go_big_quiet_step ((first | (go_at_call 12; refine (BD.out _).mono ?_; rintro e w' ⟨rfl, rfl⟩; exact ⟨rfl, Later.on _ (Below.refl _ _)⟩) | (go_at_call 11; with_reducible refine (T1.out _).mono ?_; rintro e w' ⟨rfl, hb9⟩; exact ⟨rfl, Later.on _ hb9⟩) | (go_at_call 11; with_reducible refine (T2.out _).mono ?_; rintro e w' ⟨rfl, hb9⟩; exact ⟨rfl, Later.on _ hb9⟩) | (go_at_call 11; with_reducible refine (T3.out _).mono ?_; rintro e w' ⟨rfl, hb9⟩; exact ⟨rfl, Later.on _ hb9⟩))))
    refine wpQuiet_nil ?_
    intro w8 hw'
    obtain ⟨⟨y8, hb8⟩, hw''⟩ := hw'
    dsimp only at hw''
    subst hw''
    have B8 := hid (B7.out.trans (hb8.mono B7.out.size))
    clear hb8
    go_wp2_with fail
    go_ret
    exact ⟨rfl, B8.out⟩
  · have hqb : (lisR n zs == 0) = false := beq_eq_false_iff_ne.2 hq
    have B2 : Hid (Below w.heap.size w (w.alloc (.cells #[.int .i64 0, .slice none 0 0] 26))) := HBx.out
    have P2 := hid (box_cells (w := w) (n := 0) (u := .slice none 0 0) (Below.refl _ _))
    have M2 : Hid (GoodM w.heap.size (w.alloc (.cells #[.int .i64 0, .slice none 0 0] 26)) (lisR n zs) n (bigL n.toNat fun s => hallTo (zs.map Int.toNat) s s) 0 (.slice none 0 0)) := .inr ⟨hq, rfl, rfl⟩
    obtain ⟨a, cap, rfl, _, _⟩ := h
    obtain ⟨a9, cap9, rfl, _, _⟩ := hu
    clear hcp
    go_enter Try.func3, Try.ntmps3
    go_wp2_with fail
    refine LI.out.mono ?_
    rintro e w' ⟨rfl, hw'⟩
    subst hw'
    go_wp2_with fail
    refine (RL.out _ B2.out).mono ?_
    rintro e w3 ⟨m3, a3, L3, c3, rfl, hg3, hb3'⟩
    have hk3 := below_boxR w3 #[.int .i64 m3, .slice a3 L3 c3]
    have hb3 := hb3'.trans (hk3.mono hb3'.size)
    have hz3 := World.size_alloc w3 (.cells #[.int .i64 m3, .slice a3 L3 c3] 26)
    have hy3 := hb3'.size
    have B3 := hid (B2.out.trans (hb3.mono B2.out.size))
    replace P2 := hid (cells_back P2.out hb3 (by omega))
    replace M2 := hid (M2.out.below hb3)
    have P3 := hid (box_cells (w := w3) (n := m3) (u := .slice a3 L3 c3) (Below.refl _ _))
    have M3 := hid (hg3.below hk3)
    clear hb3 hb3' hk3 hg3
    go_wp2_with fail
    refine (RN.out _).mono ?_
    rintro e w4 ⟨m4, a4, L4, c4, rfl, hg4, hb4'⟩
    have hk4 := below_boxR w4 #[.int .i64 m4, .slice a4 L4 c4]
    have hb4 := hb4'.trans (hk4.mono hb4'.size)
    have hz4 := World.size_alloc w4 (.cells #[.int .i64 m4, .slice a4 L4 c4] 26)
    have hy4 := hb4'.size
    have B4 := hid (B3.out.trans (hb4.mono B3.out.size))
    replace P2 := hid (cells_back P2.out hb4 (by omega))
    replace M2 := hid (M2.out.below hb4)
    replace P3 := hid (cells_back P3.out hb4 (by omega))
    replace M3 := hid (M3.out.below hb4)
    have P4 := hid (box_cells (w := w4) (n := m4) (u := .slice a4 L4 c4) (Below.refl _ _))
    have M4 := hid (hg4.below hk4)
    clear hb4 hb4' hk4 hg4
    go_wp2_with fail
    refine (KT.out _ B4.out).mono ?_
    rintro e w5 ⟨m5, a5, L5, c5, rfl, hg5, hb5'⟩
    have hk5 := below_boxR w5 #[.int .i64 m5, .slice a5 L5 c5]
    have hb5 := hb5'.trans (hk5.mono hb5'.size)
    have hz5 := World.size_alloc w5 (.cells #[.int .i64 m5, .slice a5 L5 c5] 26)
    have hy5 := hb5'.size
    have B5 := hid (B4.out.trans (hb5.mono B4.out.size))
    replace P2 := hid (cells_back P2.out hb5 (by omega))
    replace M2 := hid (M2.out.below hb5)
    replace P3 := hid (cells_back P3.out hb5 (by omega))
    replace M3 := hid (M3.out.below hb5)
    replace P4 := hid (cells_back P4.out hb5 (by omega))
    replace M4 := hid (M4.out.below hb5)
    have P5 := hid (box_cells (w := w5) (n := m5) (u := .slice a5 L5 c5) (Below.refl _ _))
    have M5 := hid (hg5.below hk5)
    clear hb5 hb5' hk5 hg5
    go_wp2_with fail
    refine (KL.out _ B5.out).mono ?_
    rintro e w6 ⟨m6, a6, L6, c6, rfl, hg6, hb6'⟩
    have hk6 := below_boxR w6 #[.int .i64 m6, .slice a6 L6 c6]
    have hb6 := hb6'.trans (hk6.mono hb6'.size)
    have hz6 := World.size_alloc w6 (.cells #[.int .i64 m6, .slice a6 L6 c6] 26)
    have hy6 := hb6'.size
    have B6 := hid (B5.out.trans (hb6.mono B5.out.size))
    replace P2 := hid (cells_back P2.out hb6 (by omega))
    replace M2 := hid (M2.out.below hb6)
    replace P3 := hid (cells_back P3.out hb6 (by omega))
    replace M3 := hid (M3.out.below hb6)
    replace P4 := hid (cells_back P4.out hb6 (by omega))
    replace M4 := hid (M4.out.below hb6)
    replace P5 := hid (cells_back P5.out hb6 (by omega))
    replace M5 := hid (M5.out.below hb6)
    have P6 := hid (box_cells (w := w6) (n := m6) (u := .slice a6 L6 c6) (Below.refl _ _))
    have M6 := hid (hg6.below hk6)
    clear hb6 hb6' hk6 hg6
    go_wp2_with fail
    refine (KN.out _).mono ?_
    rintro e w7 ⟨m7, a7, L7, c7, rfl, hg7, hb7'⟩
    have hk7 := below_boxR w7 #[.int .i64 m7, .slice a7 L7 c7]
    have hb7 := hb7'.trans (hk7.mono hb7'.size)
    have hz7 := World.size_alloc w7 (.cells #[.int .i64 m7, .slice a7 L7 c7] 26)
    have hy7 := hb7'.size
    have B7 := hid (B6.out.trans (hb7.mono B6.out.size))
    replace P2 := hid (cells_back P2.out hb7 (by omega))
    replace M2 := hid (M2.out.below hb7)
    replace P3 := hid (cells_back P3.out hb7 (by omega))
    replace M3 := hid (M3.out.below hb7)
    replace P4 := hid (cells_back P4.out hb7 (by omega))
    replace M4 := hid (M4.out.below hb7)
    replace P5 := hid (cells_back P5.out hb7 (by omega))
    replace M5 := hid (M5.out.below hb7)
    replace P6 := hid (cells_back P6.out hb7 (by omega))
    replace M6 := hid (M6.out.below hb7)
    have P7 := hid (box_cells (w := w7) (n := m7) (u := .slice a7 L7 c7) (Below.refl _ _))
    have M7 := hid (hg7.below hk7)
    clear hb7 hb7' hk7 hg7
    have HW7 := hid (Below.refl (w7.alloc (.cells #[.int .i64 m7, .slice a7 L7 c7] 26)).heap.size (w7.alloc (.cells #[.int .i64 m7, .slice a7 L7 c7] 26)))
    go_wp2_with fail
    generalize (w7.alloc (.cells #[.int .i64 m7, .slice a7 L7 c7] 26)) = W7 at *
    have f20 := fun x : Later W7 => (cells_back P2.out x.kept (by omega)).1
    have f21 := fun x : Later W7 => (cells_back P2.out x.kept (by omega)).2
    have f30 := fun x : Later W7 => (cells_back P3.out x.kept (by omega)).1
    have f31 := fun x : Later W7 => (cells_back P3.out x.kept (by omega)).2
    have f40 := fun x : Later W7 => (cells_back P4.out x.kept (by omega)).1
    have f41 := fun x : Later W7 => (cells_back P4.out x.kept (by omega)).2
    have f50 := fun x : Later W7 => (cells_back P5.out x.kept (by omega)).1
    have f51 := fun x : Later W7 => (cells_back P5.out x.kept (by omega)).2
    have f60 := fun x : Later W7 => (cells_back P6.out x.kept (by omega)).1
    have f61 := fun x : Later W7 => (cells_back P6.out x.kept (by omega)).2
    have f70 := fun x : Later W7 => (cells_back P7.out x.kept (by omega)).1
    have f71 := fun x : Later W7 => (cells_back P7.out x.kept (by omega)).2
    have T1 := hid (fun x : Later W7 => told_any (M5.out.below x.kept) (M2.out.below x.kept))
    have T2 := hid (fun x : Later W7 => told_any (M6.out.below x.kept) (M3.out.below x.kept))
    have T3 := hid (fun x : Later W7 => told_any (M7.out.below x.kept) (M4.out.below x.kept))
    refine region_later (by kernel_rfl) (by kernel_rfl) ?_
    repeat (go_big_quiet_step ((first | (go_at_call 12; refine (BD.out _).mono ?_; rintro e w' ⟨rfl, rfl⟩; exact ⟨rfl, Later.on _ (Below.refl _ _)⟩) | (go_at_call 11; with_reducible refine (T1.out _).mono ?_; rintro e w' ⟨rfl, hb9⟩; exact ⟨rfl, Later.on _ hb9⟩) | (go_at_call 11; with_reducible refine (T2.out _).mono ?_; rintro e w' ⟨rfl, hb9⟩; exact ⟨rfl, Later.on _ hb9⟩) | (go_at_call 11; with_reducible refine (T3.out _).mono ?_; rintro e w' ⟨rfl, hb9⟩; exact ⟨rfl, Later.on _ hb9⟩))))
    refine wpQuiet_nil ?_
    intro w8 hw'
    obtain ⟨⟨y8, hb8⟩, hw''⟩ := hw'
    dsimp only at hw''
    subst hw''
    have B8 := hid (B7.out.trans (hb8.mono B7.out.size))
    clear hb8
    go_wp2_with fail
    go_ret
    exact ⟨rfl, B8.out⟩
end Go.Proofs.Ytkeeihjcjkndbaa
