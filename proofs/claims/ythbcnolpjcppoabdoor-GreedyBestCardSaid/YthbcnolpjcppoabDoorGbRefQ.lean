/- rotaref.Weighs, rotaref.Image. -/
import Derived.Test.YthbcnolpjcppoabDoorGrFirstQ
import Derived.Test.YthbcnolpjcppoabDoorRefQ
import Derived.Test.YthbcnolpjcppoabDoorWgRQ
import Derived.Test.YthbcnolpjcppoabDoorPlainAll
namespace Go.Proofs.YthbcnolpjcppoabDoor
open Go.RowKit

set_option maxRecDepth 20000 in
set_option maxHeartbeats 2000000 in
theorem Image_any (v : Value) (p : List Nat) (s : Nat) (w : World) (h : Ints w v (N p)) (hn : p.length ≤ 8) (hs : s < 2 ^ p.length) (hp : ∀ i, p.getD i 0 < 8) :
    Calls Tryd.prog 13 #[v, .int .i64 s] w fun e w' => e = .returned (.int .i64 (image p s : Nat)) ∧ Below w.heap.size w w' := by
  have HI := hid h
  obtain ⟨a, cap, rfl, hl, hc⟩ := h.nats
  have EL := hid (Elements_any s w (lt256 hn hs))
  have HS := hid (orL_els hn rfl hs)
  have HEB : Hid (∀ x ∈ els s, x < p.length) := fun x hx => bit_n hs ((mem_els (lt256 hn hs)).1 hx)
  have hel : (els s).length ≤ 8 := by rw [← pop_els]; exact pop_le s (lt256 hn hs)
  rw [← HS.out]
  clear hs
  generalize els s = E at *
  go_enter Tryd.func13, Tryd.ntmps13
  go_wp2_with fail
  refine EL.out.mono ?_
  rintro e w1 ⟨r1, rfl, ho1, hb1⟩
  obtain ⟨ea, ecap, rfl, _, hce⟩ := (ho1.ints (by omega)).nats
  have HB1 := hid hb1
  clear ho1 hb1 EL
  go_wp2_with fail
  go_loop [6, 7] (fun q i => ∃ k : Nat, k ≤ E.length ∧ i = .int .i64 k ∧ q = .int .i64 (orL p (E.take k) : Nat)) (fun _ i => E.length - (intOf i).toNat)
  case atStart => exact ⟨0, Nat.zero_le _, rfl, rfl⟩
  case round =>
    obtain ⟨k, hk, rfl, rfl⟩ := hrel
    by_cases hlt : k < E.length
    · have hki : (k : Int) < (E.length : Int) := by omega
      obtain ⟨eb, eoff, rfl, heb, hecell⟩ := hce (by omega)
      have hek := hecell k hlt
      have hmem : E.getD k 0 ∈ E := by simp only [List.getD, List.getElem?_eq_getElem hlt, Option.getD_some]; exact List.getElem_mem _
      have hxl := HEB.out _ hmem
      have HTK : Hid (E.take (k + 1) = E.take k ++ [E.getD k 0]) := by
        show _ = _
        rw [List.take_succ_eq_append_getElem hlt]
        simp [List.getD, hlt]
      obtain ⟨b, off, rfl, hb, hcell⟩ := hc (by omega)
      have hck := (HB1.out.cell (p := ⟨b, off + E.getD k 0, none⟩) hb).trans (hcell _ hxl)
      have hq8 := orL_lt hp (E.take k)
      have hx8 := hp (E.getD k 0)
      have SN : Hid (orL p (E.take (k + 1)) = orL p (E.take k) ||| 2 ^ p.getD (E.getD k 0) 0) := by show _ = _; rw [HTK.out, orL_snoc]
      have hxi : ((E.getD k 0 : Nat) : Int) < (p.length : Int) := by omega
      clear hcell hecell hce hc
      generalize orL p (E.take k) = q at *
      generalize E.getD k 0 = x at *
      generalize p.getD x 0 = px at *
      have hpw : wrap64 (2 ^ px) = ((2 ^ px : Nat) : Int) := (pow_wrap px (by omega)).1
      have hpp := pow_lt256 hx8
      have hor : bits .or .i64 (q : Int) ((2 ^ px : Nat) : Int) = ((q ||| 2 ^ px : Nat) : Int) := i64_or_nat _ _ (by omega) (by omega)
      have hpn : ¬ (px : Int) < 0 := by omega
      generalize 2 ^ px = pp at *
      go_wp2_with fail
      go_round
      case rel => exact ⟨k + 1, by omega, by go_num, by rw [SN.out]⟩
      case measure => simp [intOf]; omega
    · obtain rfl : k = E.length := by omega
      rw [List.take_length]
      go_wp2_with fail
      go_ret
      exact ⟨rfl, HB1.out⟩
end Go.Proofs.YthbcnolpjcppoabDoor
