/- rotaref.Weighs. -/
import Derived.Test.YthbcnolpjcppoabDoorRefQ
import Derived.Test.YthbcnolpjcppoabDoorPlainAll
namespace Go.Proofs.YthbcnolpjcppoabDoor
open Go.RowKit

set_option maxRecDepth 20000 in
set_option maxHeartbeats 2000000 in
theorem Weighs_any (v : Value) (ws : List Int) (s : Nat) (w : World) (h : Ints w v ws) (hn : ws.length ≤ 8) (hs : s < 2 ^ ws.length) (hw : ∀ i, -1000 ≤ ws.getD i 0 ∧ ws.getD i 0 ≤ 1000) :
    Calls Tryd.prog 8 #[v, .int .i64 s] w fun e w' => e = .returned (.int .i64 (weiTo (fun i => ws.getD i 0) s ws.length)) ∧ Below w.heap.size w w' := by
  have HI := hid h
  obtain ⟨a, cap, rfl, hl, hc⟩ := h
  have EL := hid (Elements_any s w (lt256 hn hs))
  obtain ⟨F, hF, HF⟩ : ∃ F : Nat → Int, (fun i => ws.getD i 0) = F ∧ Hid (∀ k, ws.getD k 0 = F k) := ⟨_, rfl, fun k => rfl⟩
  have hwF : ∀ i, -1000 ≤ F i ∧ F i ≤ 1000 := fun i => by rw [← HF.out]; exact hw i
  have HS := hid (lsum_els F hn hs)
  have HEB : Hid (∀ x ∈ els s, x < ws.length) := fun x hx => bit_n hs ((mem_els (lt256 hn hs)).1 hx)
  have hel : (els s).length ≤ 8 := by rw [← pop_els]; exact pop_le s (lt256 hn hs)
  rw [hF, ← HS.out]
  clear hw hF hs
  generalize els s = E at *
  go_enter Tryd.func8, Tryd.ntmps8
  go_wp2_with fail
  refine EL.out.mono ?_
  rintro e w1 ⟨r1, rfl, ho1, hb1⟩
  obtain ⟨ea, ecap, rfl, _, hce⟩ := (ho1.ints (by omega)).nats
  have HB1 := hid hb1
  clear ho1 hb1 EL
  go_wp2_with fail
  go_loop [5, 7] (fun q i => ∃ k : Nat, k ≤ E.length ∧ i = .int .i64 k ∧ q = .int .i64 (lsum F (E.take k))) (fun _ i => E.length - (intOf i).toNat)
  case atStart => exact ⟨0, Nat.zero_le _, rfl, rfl⟩
  case round =>
    obtain ⟨k, hk, rfl, rfl⟩ := hrel
    by_cases hlt : k < E.length
    · have hki : (k : Int) < (E.length : Int) := by omega
      obtain ⟨eb, eoff, rfl, heb, hecell⟩ := hce (by omega)
      have hek := hecell k hlt
      have hmem : E.getD k 0 ∈ E := by simp only [List.getD, List.getElem?_eq_getElem hlt, Option.getD_some]; exact List.getElem_mem _
      have hxl := HEB.out _ hmem
      have HTK : Hid (E.take (k + 1) = E.take k ++ [E.getD k 0]) := by
        show _ = _
        rw [List.take_succ_eq_append_getElem hlt]
        simp [List.getD, hlt]
      obtain ⟨b, off, rfl, hb, hcell⟩ := hc (by omega)
      have hck := (HB1.out.cell (p := ⟨b, off + E.getD k 0, none⟩) hb).trans (hcell _ hxl)
      rw [HF.out] at hck
      have hq := lsum_le hwF k (E.take k) (by simp; omega)
      have hx := hwF (E.getD k 0)
      have SN : Hid (lsum F (E.take (k + 1)) = lsum F (E.take k) + F (E.getD k 0)) := by show _ = _; rw [HTK.out, lsum_snoc]
      have hk8 : (k : Int) ≤ 8 := by omega
      have hxi : ((E.getD k 0 : Nat) : Int) < (ws.length : Int) := by omega
      clear hcell hecell hce hc
      generalize lsum F (E.take k) = q at *
      generalize E.getD k 0 = x at *
      generalize F x = fx at *
      go_wp2_with fail
      go_round
      case rel => exact ⟨k + 1, by omega, by go_num, by rw [SN.out]⟩
      case measure => simp [intOf]; omega
    · obtain rfl : k = E.length := by omega
      rw [List.take_length]
      go_wp2_with fail
      go_ret
      exact ⟨rfl, HB1.out⟩
end Go.Proofs.YthbcnolpjcppoabDoor
