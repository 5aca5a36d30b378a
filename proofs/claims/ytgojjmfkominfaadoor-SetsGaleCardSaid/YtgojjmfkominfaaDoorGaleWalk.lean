/- The walk of the law SetsGale: it returns true whatever it is handed, the table of math/bits being laid; the world is as it was. -/
import Derived.Test.YtgojjmfkominfaaDoorBelow
namespace Go.Proofs.YtgojjmfkominfaaDoor
open Go.RowKit

theorem gale_walk (a b c : Int) (w : World) (x y z v : Bool) (e f g h : Int)
    (h35 : Calls Tryd.prog 21 #[.int .i64 3, .int .i64 5] w fun e w' => e = .returned (.tuple #[.bool true, .int .i64 0]) ∧ w' = w)
    (hab : Calls Tryd.prog 21 #[.int .i64 a, .int .i64 b] w fun r w' => r = .returned (.tuple #[.bool x, .int .i64 e]) ∧ w' = w)
    (hba : Calls Tryd.prog 21 #[.int .i64 b, .int .i64 a] w fun r w' => r = .returned (.tuple #[.bool y, .int .i64 f]) ∧ w' = w)
    (hbc : Calls Tryd.prog 21 #[.int .i64 b, .int .i64 c] w fun r w' => r = .returned (.tuple #[.bool z, .int .i64 g]) ∧ w' = w)
    (hac : Calls Tryd.prog 21 #[.int .i64 a, .int .i64 c] w fun r w' => r = .returned (.tuple #[.bool v, .int .i64 h]) ∧ w' = w)
    (k1 : (e != 0) = true → x = false) (k2 : (e != 0) = false → (f != 0) = false) (k3 : (e != 0) = false → x = true → y = true → (a != b) = false)
    (k4 : (e != 0) = false → (g != 0) = false → (h == 0) = true ∧ (x = true → z = true → v = true)) :
    Calls Tryd.prog 6 #[.int .i64 a, .int .i64 b, .int .i64 c] w fun r w' => r = .returned (.bool true) ∧ w' = w := by
  have H35 := hid h35
  have Hab := hid hab
  have Hba := hid hba
  have Hbc := hid hbc
  have Hac := hid hac
  clear h35 hab hba hbc hac
  rcases he : (e != 0) with _ | _
  · have k2' := k2 he
    have k3' := k3 he
    have k4' := k4 he
    clear k1 k2 k3 k4
    rcases hg : (g != 0) with _ | _
    · obtain ⟨k5, k6⟩ := k4' hg
      clear k4'
      rcases x with _ | _
      · clear k3' k6
        go_enter Tryd.func6, Tryd.ntmps6
        go_wp2_with fail
        refine (Hid.out H35).mono ?_
        rintro r w' ⟨rfl, rfl⟩
        go_wp2_with fail
        refine (Hid.out Hab).mono ?_
        rintro r w' ⟨rfl, rfl⟩
        go_wp2_with fail
        refine (Hid.out Hba).mono ?_
        rintro r w' ⟨rfl, rfl⟩
        go_wp2_with fail
        refine (Hid.out Hbc).mono ?_
        rintro r w' ⟨rfl, rfl⟩
        go_wp2_with fail
        refine (Hid.out Hac).mono ?_
        rintro r w' ⟨rfl, rfl⟩
        go_wp2_with fail
        go_ret
        exact ⟨rfl, rfl⟩
      · rcases y with _ | _
        · clear k3'
          rcases z with _ | _
          · clear k6
            go_enter Tryd.func6, Tryd.ntmps6
            go_wp2_with fail
            refine (Hid.out H35).mono ?_
            rintro r w' ⟨rfl, rfl⟩
            go_wp2_with fail
            refine (Hid.out Hab).mono ?_
            rintro r w' ⟨rfl, rfl⟩
            go_wp2_with fail
            refine (Hid.out Hba).mono ?_
            rintro r w' ⟨rfl, rfl⟩
            go_wp2_with fail
            refine (Hid.out Hbc).mono ?_
            rintro r w' ⟨rfl, rfl⟩
            go_wp2_with fail
            refine (Hid.out Hac).mono ?_
            rintro r w' ⟨rfl, rfl⟩
            go_wp2_with fail
            go_ret
            exact ⟨rfl, rfl⟩
          · obtain rfl := k6 rfl rfl
            clear k6
            go_enter Tryd.func6, Tryd.ntmps6
            go_wp2_with fail
            refine (Hid.out H35).mono ?_
            rintro r w' ⟨rfl, rfl⟩
            go_wp2_with fail
            refine (Hid.out Hab).mono ?_
            rintro r w' ⟨rfl, rfl⟩
            go_wp2_with fail
            refine (Hid.out Hba).mono ?_
            rintro r w' ⟨rfl, rfl⟩
            go_wp2_with fail
            refine (Hid.out Hbc).mono ?_
            rintro r w' ⟨rfl, rfl⟩
            go_wp2_with fail
            refine (Hid.out Hac).mono ?_
            rintro r w' ⟨rfl, rfl⟩
            go_wp2_with fail
            go_ret
            exact ⟨rfl, rfl⟩
        · have k7 := k3' rfl rfl
          clear k3'
          rcases z with _ | _
          · clear k6
            go_enter Tryd.func6, Tryd.ntmps6
            go_wp2_with fail
            refine (Hid.out H35).mono ?_
            rintro r w' ⟨rfl, rfl⟩
            go_wp2_with fail
            refine (Hid.out Hab).mono ?_
            rintro r w' ⟨rfl, rfl⟩
            go_wp2_with fail
            refine (Hid.out Hba).mono ?_
            rintro r w' ⟨rfl, rfl⟩
            go_wp2_with fail
            refine (Hid.out Hbc).mono ?_
            rintro r w' ⟨rfl, rfl⟩
            go_wp2_with fail
            refine (Hid.out Hac).mono ?_
            rintro r w' ⟨rfl, rfl⟩
            go_wp2_with fail
            go_ret
            exact ⟨rfl, rfl⟩
          · obtain rfl := k6 rfl rfl
            clear k6
            go_enter Tryd.func6, Tryd.ntmps6
            go_wp2_with fail
            refine (Hid.out H35).mono ?_
            rintro r w' ⟨rfl, rfl⟩
            go_wp2_with fail
            refine (Hid.out Hab).mono ?_
            rintro r w' ⟨rfl, rfl⟩
            go_wp2_with fail
            refine (Hid.out Hba).mono ?_
            rintro r w' ⟨rfl, rfl⟩
            go_wp2_with fail
            refine (Hid.out Hbc).mono ?_
            rintro r w' ⟨rfl, rfl⟩
            go_wp2_with fail
            refine (Hid.out Hac).mono ?_
            rintro r w' ⟨rfl, rfl⟩
            go_wp2_with fail
            go_ret
            exact ⟨rfl, rfl⟩
    · clear k4'
      rcases hxy : (x && y) with _ | _
      · have hx2 : x = false ∨ y = false := by cases x <;> cases y <;> simp_all
        clear k3' hxy
        rcases hx2 with rfl | rfl
        · go_enter Tryd.func6, Tryd.ntmps6
          go_wp2_with fail
          refine (Hid.out H35).mono ?_
          rintro r w' ⟨rfl, rfl⟩
          go_wp2_with fail
          refine (Hid.out Hab).mono ?_
          rintro r w' ⟨rfl, rfl⟩
          go_wp2_with fail
          refine (Hid.out Hba).mono ?_
          rintro r w' ⟨rfl, rfl⟩
          go_wp2_with fail
          refine (Hid.out Hbc).mono ?_
          rintro r w' ⟨rfl, rfl⟩
          go_wp2_with fail
          refine (Hid.out Hac).mono ?_
          rintro r w' ⟨rfl, rfl⟩
          go_wp2_with fail
          go_ret
          exact ⟨rfl, rfl⟩
        · rcases x with _ | _
          all_goals
            go_enter Tryd.func6, Tryd.ntmps6
            go_wp2_with fail
            refine (Hid.out H35).mono ?_
            rintro r w' ⟨rfl, rfl⟩
            go_wp2_with fail
            refine (Hid.out Hab).mono ?_
            rintro r w' ⟨rfl, rfl⟩
            go_wp2_with fail
            refine (Hid.out Hba).mono ?_
            rintro r w' ⟨rfl, rfl⟩
            go_wp2_with fail
            refine (Hid.out Hbc).mono ?_
            rintro r w' ⟨rfl, rfl⟩
            go_wp2_with fail
            refine (Hid.out Hac).mono ?_
            rintro r w' ⟨rfl, rfl⟩
            go_wp2_with fail
            go_ret
            exact ⟨rfl, rfl⟩
      · obtain ⟨rfl, rfl⟩ : x = true ∧ y = true := by cases x <;> cases y <;> simp_all
        have k7 := k3' rfl rfl
        clear k3' hxy
        go_enter Tryd.func6, Tryd.ntmps6
        go_wp2_with fail
        refine (Hid.out H35).mono ?_
        rintro r w' ⟨rfl, rfl⟩
        go_wp2_with fail
        refine (Hid.out Hab).mono ?_
        rintro r w' ⟨rfl, rfl⟩
        go_wp2_with fail
        refine (Hid.out Hba).mono ?_
        rintro r w' ⟨rfl, rfl⟩
        go_wp2_with fail
        refine (Hid.out Hbc).mono ?_
        rintro r w' ⟨rfl, rfl⟩
        go_wp2_with fail
        refine (Hid.out Hac).mono ?_
        rintro r w' ⟨rfl, rfl⟩
        go_wp2_with fail
        go_ret
        exact ⟨rfl, rfl⟩
  · obtain rfl := k1 he
    clear k1 k2 k3 k4
    go_enter Tryd.func6, Tryd.ntmps6
    go_wp2_with fail
    refine (Hid.out H35).mono ?_
    rintro r w' ⟨rfl, rfl⟩
    go_wp2_with fail
    refine (Hid.out Hab).mono ?_
    rintro r w' ⟨rfl, rfl⟩
    go_wp2_with fail
    refine (Hid.out Hba).mono ?_
    rintro r w' ⟨rfl, rfl⟩
    go_wp2_with fail
    refine (Hid.out Hbc).mono ?_
    rintro r w' ⟨rfl, rfl⟩
    go_wp2_with fail
    refine (Hid.out Hac).mono ?_
    rintro r w' ⟨rfl, rfl⟩
    go_wp2_with fail
    go_ret
    exact ⟨rfl, rfl⟩

theorem bne_zero {e : Int} : (e != 0) = false ↔ e = 0 := by simp
theorem gale_any (a b c : Int) (w : World) (hw : Tabbed w) :
    Calls Tryd.prog 6 #[.int .i64 a, .int .i64 b, .int .i64 c] w fun r w' => r = .returned (.bool true) ∧ w' = w := by
  refine gale_walk a b c w _ _ _ _ _ _ _ _ ?_ (below_any a b w hw) (below_any b a w hw) (below_any b c w hw) (below_any a c w hw) ?_ ?_ ?_ ?_
  · have := below_any 3 5 w hw
    rw [show belowR 3 5 = (true, 0) by decide +kernel] at this
    exact this
  · intro h; exact belowR_bad a b (by simpa using h)
  · intro h; rw [bne_zero] at *; exact belowR_sym h
  · intro h1 h2 h3
    rw [bne_zero] at h1
    rw [belowR_anti h1 h2 h3]; simp
  · intro h1 h2
    rw [bne_zero] at h1 h2
    have := belowR_tr h1 h2
    exact ⟨by simp [this.1], this.2⟩
end Go.Proofs.YtgojjmfkominfaaDoor
